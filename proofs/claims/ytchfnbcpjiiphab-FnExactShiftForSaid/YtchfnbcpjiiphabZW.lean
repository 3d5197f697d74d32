/-
  Words on slices that a call itself makes: where they lie, and what keeps them.
  Words on a slice of numbers that came in.
  Words on lists of numbers in the call's own memory.
  Wishes of cars, told plainly: are numbers wishes; how many are below a number; do enough wish far to the front; how many wishes there are of which all park.
  Where cars stand, told plainly: the first free place from a wish on.
  Drift and shifts of wishes, told plainly.
  Of how many wishes all park, by trying: told plainly, and reckoned for up to four cars.
-/
import Derived.WalkKit
import Derived.Deep.AppendLies
import Derived.Laws.CopyOwn
import Derived.Lib.OthersKept
import Derived.Deep.QuietTactic
namespace Go.Proofs.Ytchfnbcpjiiphab
open Go.RowKit

/-- a row of the call's own that lies in blocks from B on and below H -/
def Own (w : World) (B H : Nat) (t : TypeId) (v : Value) (xs : List Value) : Prop :=
  w.ownsRow B t 1 v xs.length xs ∧ ∀ g, v.ownBlock = some g → g < H

section
variable {w w' : World} {B H H' : Nat} {t t' : TypeId} {v v' : Value} {xs ys : List Value}

theorem Own.more (h : Own w B H t v xs) (hH : H ≤ H') : Own w B H' t v xs := ⟨h.1, fun g hg => Nat.lt_of_lt_of_le (h.2 g hg) hH⟩
theorem Own.of_own (h : w.ownsRow B t 1 v xs.length xs) : Own w B w.heap.size t v xs := ⟨h, fun g hg => (h.lt g hg).2⟩
theorem own_of_blocks {n : Nat} (h : w.ownsRow B t 1 v n xs) (hb : ∀ g, v.ownBlock = some g → w'.heap[g]? = w.heap[g]?) : w'.ownsRow B t 1 v n xs := by
  refine ⟨h.1, ?_⟩
  rcases h.2 with hn | ⟨g, cap, cur, rfl, h1, h2, rest⟩
  · exact .inl hn
  · exact .inr ⟨g, cap, cur, rfl, h1, by rw [hb g rfl]; exact h2, rest⟩
theorem Own.below (h : Own w B H t v xs) (hb : Below H w w') : Own w' B H t v xs :=
  ⟨own_of_blocks h.1 fun g hg => hb.block g (h.2 g hg), h.2⟩
theorem Own.grown {row : Option Nat} (h : Own w B H t v xs) (hg : w.grownBy w' row) (hne : v.ownBlock = none ∨ v.ownBlock ≠ row) : Own w' B H t v xs :=
  ⟨h.1.kept hg hne, h.2⟩
theorem Own.alloc (h : Own w B H t v xs) (o : Obj) : Own (w.alloc o) B H t v xs := ⟨h.1.alloc o, h.2⟩
/-- rows of different element types never share a block -/
theorem Own.ne {B' : Nat} (h : Own w B H t v xs) (h' : Own w B' H' t' v' ys) (ht : t ≠ t') : v.ownBlock = none ∨ v.ownBlock ≠ v'.ownBlock := by
  rcases h.1.2 with ⟨rfl, _⟩ | ⟨g, cap, cur, rfl, _, h2, _⟩
  · exact .inl rfl
  · right
    rcases h'.1.2 with ⟨rfl, _⟩ | ⟨g', cap', cur', rfl, _, h2', _⟩
    · simp [Value.ownBlock]
    · intro e
      simp only [Value.ownBlock, Option.some.injEq] at e
      subst e
      rw [h2] at h2'
      simp only [Option.some.injEq, Obj.cells.injEq] at h2'
      exact ht h2'.2.1
theorem Own.slice (h : Own w B H t v xs) : ∃ ao cap, v = .slice ao xs.length cap ∧ (ao = none → xs.length = 0 ∧ cap = 0) ∧ xs.length ≤ cap ∧ cap ≤ maxLen ∧ ∀ a, ao = some a → ∃ g, a = ⟨g, 0, none⟩ ∧ B ≤ g ∧ g < H := by
  rcases h.1.2 with ⟨rfl, h0⟩ | ⟨g, cap, cur, rfl, h1, h2, h3, h4, _⟩
  · exact ⟨none, 0, by rw [h0], fun _ => ⟨h0, rfl⟩, by omega, by simp [maxLen], fun a ha => by cases ha⟩
  · exact ⟨some ⟨g, 0, none⟩, cap, rfl, (fun e => by cases e), h3, h4, fun a ha => ⟨g, by cases ha; rfl, h1, h.2 g rfl⟩⟩
/-- a cell of it, wherever it lies -/
theorem Own.cell (h : Own w B H t v xs) (j : Nat) (hj : j < xs.length) : ∃ g cap, v = .slice (some ⟨g, 0, none⟩) xs.length cap ∧ B ≤ g ∧ g < H ∧ w.cell? ⟨g, j, none⟩ = xs[j]? ∧ w.frozen? ⟨g, j, none⟩ = false := by
  rcases h.1.2 with ⟨rfl, h0⟩ | ⟨g, cap, cur, rfl, h1, h2, h3, h4, _⟩
  · omega
  · exact ⟨g, cap, rfl, h1, h.2 g rfl, h.1.cellAt j (by omega), h.1.frozenAt j⟩
/-- its last element dropped -/
theorem Own.pop {g cap n m : Nat} (h : Own w B H t (.slice (some ⟨g, 0, none⟩) m cap) xs) (hl : xs.length = n + 1) : Own w B H t (.slice (some ⟨g, 0, none⟩) n cap) xs.dropLast := by
  obtain ⟨⟨_, h7⟩, h8⟩ := h
  rcases h7 with ⟨h0, _⟩ | ⟨g', cap', cur, hv, h1, h2, h3, h4, h5, h6⟩
  · cases h0
  · have hg : g = g' ∧ cap = cap' := by simp only [Value.slice.injEq, Option.some.injEq, Addr.mk.injEq, and_true] at hv; exact ⟨hv.1, hv.2.2⟩
    obtain ⟨rfl, rfl⟩ := hg
    have hd : xs.dropLast.length = n := by rw [List.length_dropLast, hl]; rfl
    refine ⟨⟨by rw [hd]; omega, .inr ⟨g, cap, cur, by rw [hd], h1, h2, by rw [hd]; omega, h4, h5, ?_⟩⟩, fun q hq => h8 q hq⟩
    have e : xs.dropLast = xs.take n := by rw [List.dropLast_eq_take, hl]; rfl
    rw [hd, e, ← h6, List.take_take, hl]
    congr 1
    omega
/-- a row that is full is known whole -/
theorem own_full {g n : Nat} (h : w.ownsRow B t 1 (.slice (some ⟨g, 0, none⟩) n n) n xs) : w.heap[g]? = some (.cells xs.toArray t (0, 0)) := by
  rcases h.2 with ⟨h0, _⟩ | ⟨g', cap', cur, hv, h1, h2, h3, h4, h5, h6⟩
  · cases h0
  · cases hv
    rw [h2, ← h6, List.take_of_length_le (by simp [h5])]
theorem own_of_full {g n : Nat} (hB : B ≤ g) (hn : n ≤ maxLen) (hl : xs.length = n) (h : w.heap[g]? = some (.cells xs.toArray t (0, 0))) : w.ownsRow B t 1 (.slice (some ⟨g, 0, none⟩) n n) n xs :=
  ⟨by simp [hl], .inr ⟨g, n, xs.toArray, rfl, hB, h, Nat.le_refl _, hn, by simp [hl], by simp [hl.symm]⟩⟩
end
end Go.Proofs.Ytchfnbcpjiiphab

namespace Go.Proofs.Ytchfnbcpjiiphab
open Go.RowKit

/-- what is told of a slice of numbers that came in: nil, or a row of cap cells that hold zs -/
def IsRow (k : IntKind) (w : World) (a : Option Addr) (len cap : Nat) (zs : List Int) : Prop :=
  (a = none ∧ len = 0 ∧ cap = 0 ∧ zs = []) ∨
  ∃ x, a = some x ∧ len ≤ cap ∧ cap ≤ maxLen ∧ zs.length = cap ∧ (∀ i, i < zs.length → w.cell? (x.add i) = some (.int k (zs.getD i 0))) ∧ ∀ n ∈ zs, (Lit.int k n).wf = true

theorem IsRow.below {k : IntKind} {w w' : World} {a : Option Addr} {len cap : Nat} {zs : List Int} (h : IsRow k w a len cap zs) (hb : Below w.heap.size w w') : IsRow k w' a len cap zs := by
  rcases h with h | ⟨x, h1, h2, h3, h4, h5, h6⟩
  · exact .inl h
  · refine .inr ⟨x, h1, h2, h3, h4, fun i hi => ?_, h6⟩
    have hc := h5 i hi
    exact (hb.cell (World.block_lt_of_cell? w _ hc)).trans hc
theorem IsRow.at_ {k : IntKind} {w : World} {a : Option Addr} {len cap : Nat} {zs : List Int} (h : IsRow k w a len cap zs) (i : Nat) (hi : i < len) :
    ∃ b off, a = some ⟨b, off, none⟩ ∧ w.cell? ⟨b, off + i, none⟩ = some (.int k (zs.getD i 0)) := by
  rcases h with ⟨_, h0, _⟩ | ⟨x, h1, h2, h3, h4, h5, h6⟩
  · omega
  · obtain ⟨b, off, spot⟩ := x
    have hc0 := h5 0 (by omega)
    have hspot : spot = none := by simpa [Addr.add] using World.cell?_spot hc0
    subst hspot
    exact ⟨b, off, h1, by have := h5 i (by omega); rwa [Addr.add_lit] at this⟩
theorem IsRow.len {k : IntKind} {w : World} {a : Option Addr} {len cap : Nat} {zs : List Int} (h : IsRow k w a len cap zs) : len ≤ zs.length ∧ len ≤ cap := by
  rcases h with ⟨_, h0, h1, h2⟩ | ⟨x, h1, h2, h3, h4, h5, h6⟩
  · subst h2; simp; omega
  · omega

end Go.Proofs.Ytchfnbcpjiiphab

namespace Go.Proofs.Ytchfnbcpjiiphab
open Go.RowKit

def iv (l : List Int) : List Value := l.map (Value.int .i64)
theorem iv_length (l : List Int) : (iv l).length = l.length := by simp [iv]
theorem iv_at (l : List Int) (k : Nat) (h : k < l.length) : (iv l)[k]? = some (.int .i64 l[k]) := by simp [iv, h]
theorem iv_set (l : List Int) (k : Nat) (n : Int) : (iv l).set k (.int .i64 n) = iv (l.set k n) := by simp [iv, List.map_set]
theorem iv_snoc (l : List Int) (n : Int) : iv l ++ [.int .i64 n] = iv (l ++ [n]) := by simp [iv]

/-- nothing but draws -/
def Same (w w' : World) : Prop := w'.heap = w.heap ∧ Below w.heap.size w w'
theorem Same.refl (w : World) : Same w w := ⟨rfl, Below.refl _ _⟩
theorem Same.drewN {w w' : World} (h : Same w w') (n : Nat) : Same w (w'.drewN n) := ⟨h.1, h.2.trans ⟨rfl, rfl, rfl, Nat.le_refl _, fun _ _ => rfl⟩⟩
theorem Same.below {w w' : World} (h : Same w w') (B : Nat) : Below B w w' := ⟨h.2.os, h.2.tape, h.2.output, h.2.size, fun k _ => by rw [h.1]⟩
theorem Own.same {w w' : World} {B H : Nat} {t : TypeId} {v : Value} {xs : List Value} (h : Own w B H t v xs) (e : w'.heap = w.heap) : Own w' B H t v xs :=
  ⟨own_of_blocks h.1 fun g _ => by rw [e], h.2⟩
/-- the cell at a place, of a slice whose shape is known -/
theorem Own.at_ {w : World} {B H : Nat} {t : TypeId} {ao : Option Addr} {n c : Nat} {xs : List Value} (h : Own w B H t (.slice ao n c) xs) (k : Nat) (hk : k < xs.length) :
    ∃ g, ao = some ⟨g, 0, none⟩ ∧ B ≤ g ∧ g < H ∧ w.cell? ⟨g, k, none⟩ = xs[k]? ∧ w.frozen? ⟨g, k, none⟩ = false := by
  obtain ⟨g, cap, hv, h1, h2, h3, h4⟩ := h.cell k hk
  simp only [Value.slice.injEq] at hv
  exact ⟨g, hv.1, h1, h2, h3, h4⟩

end Go.Proofs.Ytchfnbcpjiiphab

namespace Go.Proofs.Ytchfnbcpjiiphab

def wishAt (n : Nat) (x : Int) : Bool := decide (0 ≤ x ∧ x ≤ (n : Int))
def wishUp (l : List Int) (k : Nat) : Bool := (l.take k).all (wishAt l.length)
/-- are these numbers wishes -/
def wishB (l : List Int) : Bool := l.all (wishAt l.length) && decide (l.length ≤ 8)
theorem wishUp_step {l : List Int} {k : Nat} (h : k < l.length) : wishUp l (k + 1) = (wishUp l k && wishAt l.length l[k]) := by
  rw [wishUp, wishUp, List.take_succ_eq_append_getElem h, List.all_append]; simp
theorem wishB_full {l : List Int} (h : wishUp l l.length = true) : wishB l = decide (l.length ≤ 8) := by
  rw [wishUp, List.take_length] at h
  rw [wishB, h, Bool.true_and]
theorem wishB_no {l : List Int} {k : Nat} (hk : k < l.length) (h : wishAt l.length l[k] = false) : wishB l = false := by
  have : l.all (wishAt l.length) = false := List.all_eq_false.2 ⟨l[k], List.getElem_mem hk, by rw [h]; exact Bool.false_ne_true⟩
  rw [wishB, this, Bool.false_and]
theorem wishB_len {l : List Int} (h : wishB l = true) : l.length ≤ 8 := by
  rw [wishB, Bool.and_eq_true, decide_eq_true_eq] at h; exact h.2
theorem wishB_at {l : List Int} (h : wishB l = true) {k : Nat} (hk : k < l.length) : 0 ≤ l[k] ∧ l[k] ≤ (l.length : Int) := by
  rw [wishB, Bool.and_eq_true] at h
  have := List.all_eq_true.1 h.1 _ (List.getElem_mem hk)
  exact of_decide_eq_true this
theorem wishB_reverse (l : List Int) : wishB l.reverse = wishB l := by
  rw [wishB, wishB, List.length_reverse, List.all_reverse]
/-- how many are below a number -/
def belowN (l : List Int) (k : Int) : Nat := (l.filter fun x => decide (x < k)).length
theorem belowN_step {l : List Int} {j : Nat} (h : j < l.length) (k : Int) : belowN (l.take (j + 1)) k = belowN (l.take j) k + if l[j] < k then 1 else 0 := by
  rw [belowN, belowN, List.take_succ_eq_append_getElem h, List.filter_append, List.length_append]
  by_cases hx : l[j] < k <;> simp [hx]
theorem belowN_le (l : List Int) (k : Int) (j : Nat) : belowN (l.take j) k ≤ j := by
  rw [belowN]
  exact Nat.le_trans (List.length_filter_le _ _) (by rw [List.length_take]; omega)
def fewUp (l : List Int) (k : Nat) : Bool := (List.range k).all fun j => decide (j + 1 ≤ belowN l ((j + 1 : Nat) : Int))
/-- do enough of these numbers wish far to the front -/
def fewB (l : List Int) : Bool := wishB l && fewUp l l.length
theorem fewUp_step (l : List Int) (k : Nat) : fewUp l (k + 1) = (fewUp l k && decide (k + 1 ≤ belowN l ((k + 1 : Nat) : Int))) := by
  rw [fewUp, fewUp, List.range_succ, List.all_append]; simp
theorem fewB_no {l : List Int} (h : wishB l = false) : fewB l = false := by rw [fewB, h, Bool.false_and]
theorem fewB_yes {l : List Int} (h : wishB l = true) (h2 : fewUp l l.length = true) : fewB l = true := by rw [fewB, h, h2]; rfl
theorem fewB_bad {l : List Int} {k : Nat} (hk : k < l.length) (h : belowN l ((k + 1 : Nat) : Int) < k + 1) : fewB l = false := by
  have : fewUp l l.length = false := List.all_eq_false.2 ⟨k, List.mem_range.2 hk, by rw [decide_eq_true_eq]; omega⟩
  rw [fewB, this, Bool.and_false]
/-- of how many wishes all park -/
def parkN (n : Int) : Int := if 0 ≤ n ∧ n ≤ 8 then (((n.toNat + 1) ^ (n.toNat - 1) : Nat) : Int) else -1
theorem pow9_le (x : Nat) (hx : x ≤ 9) (k : Nat) (hk : k ≤ 8) : x ^ k ≤ 43046721 := by
  have h1 : x ^ k ≤ 9 ^ k := Nat.pow_le_pow_left hx k
  have h2 : 9 ^ k ≤ 9 ^ 8 := Nat.pow_le_pow_right (by omega) hk
  have h3 : (9 : Nat) ^ 8 = 43046721 := by decide
  omega
end Go.Proofs.Ytchfnbcpjiiphab

namespace Go.Proofs.Ytchfnbcpjiiphab

/-- the first free place from x on, of n; n if there is none -/
def freeN (n : Nat) (T : List Bool) (x : Nat) : Nat := if x < n then (if T.getD x false = true then freeN n T (x + 1) else x) else n
termination_by n - x
theorem freeN_far {n : Nat} {T : List Bool} {x : Nat} (h : n ≤ x) : freeN n T x = n := by
  rw [freeN, if_neg (by omega)]
theorem freeN_taken {n : Nat} {T : List Bool} {x : Nat} (h : x < n) (ht : T.getD x false = true) : freeN n T x = freeN n T (x + 1) := by
  rw [freeN, if_pos h, if_pos ht]
theorem freeN_free {n : Nat} {T : List Bool} {x : Nat} (h : x < n) (ht : T.getD x false = false) : freeN n T x = x := by
  rw [freeN, if_pos h, if_neg (by rw [ht]; simp)]
/-- where a car stands that wishes x, -1 for nowhere; what is taken then -/
def stepT (n : Nat) (T : List Bool) (x : Nat) : Int := if freeN n T x < n then (freeN n T x : Int) else -1
def stepS (n : Nat) (T : List Bool) (x : Nat) : List Bool := if freeN n T x < n then T.set (freeN n T x) true else T
theorem stepT_at {n : Nat} {T : List Bool} {x j : Nat} (h : freeN n T x = j) (hj : j < n) : stepT n T x = (j : Int) := by rw [stepT, h, if_pos hj]
theorem stepS_at {n : Nat} {T : List Bool} {x j : Nat} (h : freeN n T x = j) (hj : j < n) : stepS n T x = T.set j true := by rw [stepS, h, if_pos hj]
theorem stepT_no {n : Nat} {T : List Bool} {x : Nat} (h : freeN n T x = n) : stepT n T x = -1 := by rw [stepT, h, if_neg (by omega)]
theorem stepS_no {n : Nat} {T : List Bool} {x : Nat} (h : freeN n T x = n) : stepS n T x = T := by rw [stepS, h, if_neg (by omega)]
theorem stepS_length (n : Nat) (T : List Bool) (x : Nat) : (stepS n T x).length = T.length := by
  unfold stepS; split <;> simp
/-- one car behind the other -/
def goP (n : Nat) : List Bool → List Int → List Int
  | _, [] => []
  | T, x :: l => stepT n T x.toNat :: goP n (stepS n T x.toNat) l
def runS (n : Nat) : List Bool → List Int → List Bool
  | T, [] => T
  | T, x :: l => runS n (stepS n T x.toNat) l
theorem goP_length (n : Nat) (l : List Int) : ∀ T, (goP n T l).length = l.length := by
  induction l with
  | nil => exact fun _ => rfl
  | cons x l ih => exact fun T => by rw [goP, List.length_cons, ih, List.length_cons]
theorem runS_length (n : Nat) (l : List Int) : ∀ T, (runS n T l).length = T.length := by
  induction l with
  | nil => exact fun _ => rfl
  | cons x l ih => exact fun T => by rw [runS, ih, stepS_length]
theorem runS_snoc (n : Nat) (l : List Int) (x : Int) : ∀ T, runS n T (l ++ [x]) = stepS n (runS n T l) x.toNat := by
  induction l with
  | nil => exact fun _ => rfl
  | cons y l ih => exact fun T => by rw [List.cons_append, runS, ih, runS]
theorem goP_snoc (n : Nat) (l : List Int) (x : Int) : ∀ T, goP n T (l ++ [x]) = goP n T l ++ [stepT n (runS n T l) x.toNat] := by
  induction l with
  | nil => exact fun _ => rfl
  | cons y l ih => exact fun T => by rw [List.cons_append, goP, ih, goP, runS, List.cons_append]
/-- none is taken -/
def emptyT (n : Nat) : List Bool := List.replicate n false
/-- the places of the cars -/
def placesB (l : List Int) : List Int := goP l.length (emptyT l.length) l
/-- what is taken behind the first k cars -/
def takenB (l : List Int) (k : Nat) : List Bool := runS l.length (emptyT l.length) (l.take k)
def placesUp (l : List Int) (k : Nat) : List Int := goP l.length (emptyT l.length) (l.take k)
theorem takenB_zero (l : List Int) : takenB l 0 = emptyT l.length := rfl
theorem placesUp_zero (l : List Int) : placesUp l 0 = [] := rfl
theorem placesUp_full (l : List Int) : placesUp l l.length = placesB l := by rw [placesUp, List.take_length]; rfl
theorem takenB_length (l : List Int) (k : Nat) : (takenB l k).length = l.length := by rw [takenB, runS_length, emptyT, List.length_replicate]
theorem placesUp_length (l : List Int) (k : Nat) (h : k ≤ l.length) : (placesUp l k).length = k := by rw [placesUp, goP_length, List.length_take]; omega
theorem placesB_length (l : List Int) : (placesB l).length = l.length := by rw [← placesUp_full, placesUp_length l _ (Nat.le_refl _)]
theorem takenB_step {l : List Int} {k : Nat} (h : k < l.length) : takenB l (k + 1) = stepS l.length (takenB l k) l[k].toNat := by
  rw [takenB, List.take_succ_eq_append_getElem h, runS_snoc]; rfl
theorem placesUp_step {l : List Int} {k : Nat} (h : k < l.length) : placesUp l (k + 1) = placesUp l k ++ [stepT l.length (takenB l k) l[k].toNat] := by
  rw [placesUp, List.take_succ_eq_append_getElem h, goP_snoc]; rfl
theorem stepT_small {n : Nat} (T : List Bool) (x : Nat) : -1 ≤ stepT n T x ∧ stepT n T x < (n : Int) ∨ n = 0 ∧ stepT n T x = -1 := by
  unfold stepT
  split
  · exact .inl ⟨by omega, by omega⟩
  · by_cases h : n = 0
    · exact .inr ⟨h, rfl⟩
    · exact .inl ⟨by omega, by omega⟩
/-- do all cars park -/
def parkB (l : List Int) : Bool := wishB l && !((placesB l).contains (-1))
/-- one place more, never asked for, makes no difference -/
def SameT (n : Nat) (T U : List Bool) : Prop := ∀ i, i < n → T.getD i false = U.getD i false
theorem freeN_same {n : Nat} {T U : List Bool} (h : SameT n T U) (k : Nat) : ∀ x, n - x = k → freeN n T x = freeN n U x := by
  induction k with
  | zero => exact fun x hx => by rw [freeN_far (by omega), freeN_far (by omega)]
  | succ k ih =>
    intro x hx
    have hxn : x < n := by omega
    have e := h x hxn
    cases ht : T.getD x false with
    | true => rw [freeN_taken hxn ht, freeN_taken hxn (by rw [← e]; exact ht)]; exact ih (x + 1) (by omega)
    | false => rw [freeN_free hxn ht, freeN_free hxn (by rw [← e]; exact ht)]
theorem stepT_same {n : Nat} {T U : List Bool} (h : SameT n T U) (x : Nat) : stepT n T x = stepT n U x := by unfold stepT; rw [freeN_same h _ x rfl]
theorem getD_setB (T : List Bool) (i j : Nat) (hi : i < T.length) : (T.set i true).getD j false = if i = j then true else T.getD j false := by
  rw [List.getD_eq_getElem?_getD, List.getElem?_set, List.getD_eq_getElem?_getD]
  by_cases e : i = j
  · subst e; rw [if_pos rfl, if_pos hi, if_pos rfl]; rfl
  · rw [if_neg e, if_neg e]
theorem stepS_same {n : Nat} {T U : List Bool} (h : SameT n T U) (hT : n ≤ T.length) (hU : n ≤ U.length) (x : Nat) : SameT n (stepS n T x) (stepS n U x) := by
  unfold stepS
  rw [freeN_same h _ x rfl]
  split
  · intro i hi
    rw [getD_setB _ _ _ (by omega), getD_setB _ _ _ (by omega)]
    split
    · rfl
    · exact h i hi
  · exact h
theorem runS_same {n : Nat} (l : List Int) : ∀ {T U : List Bool}, SameT n T U → n ≤ T.length → n ≤ U.length → SameT n (runS n T l) (runS n U l) ∧ goP n T l = goP n U l := by
  induction l with
  | nil => exact fun h _ _ => ⟨h, rfl⟩
  | cons x l ih =>
    intro T U h hT hU
    obtain ⟨h1, h2⟩ := ih (stepS_same h hT hU x.toNat) (by rw [stepS_length]; exact hT) (by rw [stepS_length]; exact hU)
    exact ⟨h1, by rw [goP, goP, stepT_same h, h2]⟩
theorem same_empty (n m : Nat) : SameT n (emptyT n) (emptyT m) := fun i hi => by
  unfold emptyT
  rw [List.getD_eq_getElem?_getD, List.getD_eq_getElem?_getD, List.getElem?_replicate, List.getElem?_replicate, if_pos hi]
  split <;> rfl
/-- the model's row has one place more -/
def takenM (l : List Int) (k : Nat) : List Bool := runS l.length (emptyT (l.length + 1)) (l.take k)
theorem takenM_zero (l : List Int) : takenM l 0 = emptyT (l.length + 1) := rfl
theorem takenM_length (l : List Int) (k : Nat) : (takenM l k).length = l.length + 1 := by rw [takenM, runS_length, emptyT, List.length_replicate]
theorem takenM_step {l : List Int} {k : Nat} (h : k < l.length) : takenM l (k + 1) = stepS l.length (takenM l k) l[k].toNat := by
  rw [takenM, List.take_succ_eq_append_getElem h, runS_snoc]; rfl
theorem placesM_step {l : List Int} {k : Nat} (h : k < l.length) : placesUp l (k + 1) = placesUp l k ++ [stepT l.length (takenM l k) l[k].toNat] := by
  rw [placesUp_step h, takenB, takenM, stepT_same (runS_same (n := l.length) (l.take k) (same_empty l.length (l.length + 1)) (by simp [emptyT]) (by simp [emptyT])).1]
end Go.Proofs.Ytchfnbcpjiiphab

namespace Go.Proofs.Ytchfnbcpjiiphab

/-- how much farther the first k cars stand than their wishes -/
def driftUp (l : List Int) : Nat → Int
  | 0 => 0
  | k + 1 => driftUp l k + ((placesB l).getD k 0 - l.getD k 0)
def driftB (l : List Int) : Int := if parkB l = true then driftUp l l.length else -1
theorem goP_small (n : Nat) (l : List Int) : ∀ T, ∀ y ∈ goP n T l, -1 ≤ y ∧ y ≤ (n : Int) := by
  induction l with
  | nil => exact fun _ y hy => by cases hy
  | cons x l ih =>
    intro T y hy
    rcases List.mem_cons.1 hy with rfl | hy
    · have := stepT_small (n := n) T x.toNat
      omega
    · exact ih _ y hy
theorem places_at (l : List Int) {k : Nat} (h : k < l.length) : -1 ≤ (placesB l).getD k 0 ∧ (placesB l).getD k 0 ≤ (l.length : Int) := by
  have hk : k < (placesB l).length := by rw [placesB_length]; exact h
  rw [List.getD_eq_getElem?_getD, List.getElem?_eq_getElem hk]
  exact goP_small _ l _ _ (List.getElem_mem hk)
theorem drift_small {l : List Int} (hw : wishB l = true) : ∀ k, k ≤ l.length → -(9 * (k : Int)) ≤ driftUp l k ∧ driftUp l k ≤ 9 * (k : Int) := by
  intro k
  induction k with
  | zero => exact fun _ => ⟨by simp [driftUp], by simp [driftUp]⟩
  | succ k ih =>
    intro h
    have hk : k < l.length := by omega
    have h1 := ih (by omega)
    have h2 := places_at l hk
    have h3 := wishB_at hw hk
    have h4 := wishB_len hw
    have h5 : l.getD k 0 = l[k] := by rw [List.getD_eq_getElem?_getD, List.getElem?_eq_getElem hk]; rfl
    rw [driftUp, h5]
    push_cast
    omega
/-- each wish more by c, as the rest by one more than there are cars -/
def shiftL (l : List Int) (c : Nat) : List Int := l.map fun x => (x + (c : Int)) % ((l.length : Int) + 1)
theorem shiftL_length (l : List Int) (c : Nat) : (shiftL l c).length = l.length := by simp [shiftL]
theorem shiftL_at (l : List Int) (c : Nat) {k : Nat} (h : k < l.length) : (shiftL l c).take (k + 1) = (shiftL l c).take k ++ [(l[k] + (c : Int)) % ((l.length : Int) + 1)] := by
  have hk : k < (shiftL l c).length := by rw [shiftL_length]; exact h
  rw [List.take_succ_eq_append_getElem hk]
  simp [shiftL]
theorem wishB_shift {l : List Int} (hw : wishB l = true) (c : Nat) : wishB (shiftL l c) = true := by
  rw [wishB, Bool.and_eq_true] at hw ⊢
  refine ⟨List.all_eq_true.2 fun x hx => ?_, by rw [shiftL_length]; exact hw.2⟩
  obtain ⟨y, hy, rfl⟩ := List.mem_map.1 hx
  have h1 := of_decide_eq_true (List.all_eq_true.1 hw.1 y hy)
  rw [wishAt, shiftL_length]
  refine decide_eq_true ⟨Int.emod_nonneg _ (by omega), ?_⟩
  have := Int.emod_lt_of_pos (y + (c : Int)) (show (0 : Int) < (l.length : Int) + 1 by omega)
  omega
theorem shift_nat (x c n : Nat) : (((x : Int) + (c : Int)) % ((n : Int) + 1)) = (((x + c) % (n + 1) : Nat) : Int) := by
  push_cast; rfl
theorem shift_tmod (x c n : Nat) : (((x : Int) + (c : Int)).tmod ((n : Int) + 1)) = (((x + c) % (n + 1) : Nat) : Int) := by
  rw [Int.tmod_eq_emod_of_nonneg (by omega)]
  push_cast; rfl
def shiftB (l : List Int) : Int := if wishB l = true then (match (List.range (l.length + 1)).find? (fun c => parkB (shiftL l c)) with | some c => (c : Int) | none => -1) else -1
theorem shiftB_at {l : List Int} (hw : wishB l = true) {k : Nat} (hk : k ≤ l.length) (hno : ∀ j, j < k → parkB (shiftL l j) = false) (h : parkB (shiftL l k) = true) : shiftB l = (k : Int) := by
  have : (List.range (l.length + 1)).find? (fun c => parkB (shiftL l c)) = some k := by
    rw [List.find?_range_eq_some]
    exact ⟨h, List.mem_range.2 (by omega), fun j hj => by simp [hno j hj]⟩
  rw [shiftB, if_pos hw, this]
theorem shiftB_no {l : List Int} (hw : wishB l = true) (hno : ∀ j, j ≤ l.length → parkB (shiftL l j) = false) : shiftB l = -1 := by
  have : (List.range (l.length + 1)).find? (fun c => parkB (shiftL l c)) = none := by
    rw [List.find?_eq_none]
    intro j hj
    rw [hno j (by have := List.mem_range.1 hj; omega)]
    simp
  rw [shiftB, if_pos hw, this]
theorem shiftB_bad {l : List Int} (hw : wishB l = false) : shiftB l = -1 := by rw [shiftB, hw]; rfl
end Go.Proofs.Ytchfnbcpjiiphab

namespace Go.Proofs.Ytchfnbcpjiiphab

def sumR (f : Nat → Nat) : Nat → Nat
  | 0 => 0
  | k + 1 => sumR f k + f k
theorem sumR_congr {f g : Nat → Nat} : ∀ k, (∀ x, x < k → f x = g x) → sumR f k = sumR g k
  | 0, _ => rfl
  | k + 1, h => by rw [sumR, sumR, sumR_congr k fun x hx => h x (by omega), h k (by omega)]
theorem sumR_le {f : Nat → Nat} {b : Nat} : ∀ k, (∀ x, x < k → f x ≤ b) → sumR f k ≤ k * b
  | 0, _ => by simp [sumR]
  | k + 1, h => by
    have h1 := sumR_le k fun x hx => h x (by omega)
    have h2 := h k (by omega)
    rw [sumR, Nat.succ_mul]
    omega
/-- of those that begin with l, d cars to come -/
def tryN (n : Nat) : Nat → List Int → Nat
  | 0, l => if parkB l = true then 1 else 0
  | d + 1, l => sumR (fun x => tryN n d (l ++ [(x : Int)])) (n + 1)
theorem tryN_le (n : Nat) : ∀ d l, tryN n d l ≤ (n + 1) ^ d
  | 0, l => by rw [tryN]; split <;> simp
  | d + 1, l => by
    rw [tryN, Nat.pow_succ, Nat.mul_comm]
    exact sumR_le _ fun x _ => tryN_le n d _
/-- the wishes of number w -/
def digL (n w k : Nat) : List Int := (List.range k).map fun i => ((w / (n + 1) ^ i % (n + 1) : Nat) : Int)
theorem digL_step (n w k : Nat) : digL n w (k + 1) = digL n w k ++ [((w / (n + 1) ^ k % (n + 1) : Nat) : Int)] := by
  rw [digL, List.range_succ, List.map_append]; rfl
theorem digL_length (n w k : Nat) : (digL n w k).length = k := by simp [digL]
theorem digL_wish (n w : Nat) (hn : n ≤ 8) : wishB (digL n w n) = true := by
  rw [wishB, Bool.and_eq_true]
  refine ⟨List.all_eq_true.2 fun x hx => ?_, by rw [digL_length]; exact decide_eq_true hn⟩
  obtain ⟨i, _, rfl⟩ := List.mem_map.1 hx
  rw [wishAt, digL_length]
  refine decide_eq_true ⟨by omega, ?_⟩
  have := Nat.mod_lt (w / (n + 1) ^ i) (show 0 < n + 1 by omega)
  omega
def oneIf (n w : Nat) : Nat := if parkB (digL n w n) = true then 1 else 0
def cntW (n m : Nat) : Nat := sumR (oneIf n) m
theorem cntW_le (n m : Nat) : cntW n m ≤ m := by
  have := sumR_le (f := oneIf n) (b := 1) m fun x _ => by unfold oneIf; split <;> omega
  rw [cntW]
  omega
/-! ### reckoned -/
def freeF (n : Nat) (T : List Bool) : Nat → Nat → Nat
  | 0, _ => n
  | f + 1, x => if x < n then (if T.getD x false = true then freeF n T f (x + 1) else x) else n
theorem freeF_eq (n : Nat) (T : List Bool) : ∀ f x, n ≤ x + f → freeF n T f x = freeN n T x
  | 0, x, h => by rw [freeF, freeN_far (by omega)]
  | f + 1, x, h => by
    rw [freeF, freeN]
    split
    · split
      · exact freeF_eq n T f (x + 1) (by omega)
      · rfl
    · rfl
def parksF (n : Nat) : List Bool → List Int → Bool
  | _, [] => true
  | T, x :: l => decide (freeF n T n x.toNat < n) && parksF n (T.set (freeF n T n x.toNat) true) l
theorem parksF_eq (n : Nat) : ∀ (l : List Int) (T : List Bool), parksF n T l = !((goP n T l).contains (-1))
  | [], T => by simp [parksF, goP]
  | x :: l, T => by
    rw [parksF, goP, List.contains_cons, parksF_eq n l]
    rw [freeF_eq n T n x.toNat (by omega), stepT, stepS]
    by_cases h : freeN n T x.toNat < n
    · rw [if_pos h, if_pos h, decide_eq_true h]
      have : ((-1 : Int) == ((freeN n T x.toNat : Nat) : Int)) = false := by
        rw [beq_eq_false_iff_ne]; omega
      rw [this, Bool.true_and, Bool.false_or]
    · rw [if_neg h, if_neg h, decide_eq_false h]
      simp
def parkF (l : List Int) : Bool := wishB l && parksF l.length (emptyT l.length) l
theorem parkF_eq (l : List Int) : parkB l = parkF l := by rw [parkB, parkF, parksF_eq]; rfl
def tryF (n : Nat) : Nat → List Int → Nat
  | 0, l => if parkF l = true then 1 else 0
  | d + 1, l => sumR (fun x => tryF n d (l ++ [(x : Int)])) (n + 1)
theorem tryF_eq (n : Nat) : ∀ d l, tryN n d l = tryF n d l
  | 0, l => by rw [tryN, tryF, parkF_eq]
  | d + 1, l => by rw [tryN, tryF]; exact sumR_congr _ fun x _ => tryF_eq n d _
def cntF (n m : Nat) : Nat := sumR (fun w => if parkF (digL n w n) = true then 1 else 0) m
theorem cntF_eq (n m : Nat) : cntW n m = cntF n m := by
  rw [cntW, cntF]; exact sumR_congr _ fun w _ => by rw [oneIf, parkF_eq]
theorem tries_all : (List.range 5).all (fun n => decide (tryF n n [] = (n + 1) ^ (n - 1)) && decide (cntF n ((n + 1) ^ n) = (n + 1) ^ (n - 1))) = true := by decide +kernel
theorem try_few {n : Nat} (h : n ≤ 4) : tryN n n [] = (n + 1) ^ (n - 1) ∧ cntW n ((n + 1) ^ n) = (n + 1) ^ (n - 1) := by
  have := List.all_eq_true.1 tries_all n (List.mem_range.2 (by omega))
  rw [Bool.and_eq_true, decide_eq_true_eq, decide_eq_true_eq] at this
  rw [tryF_eq, cntF_eq]
  exact this
/-- what trying answers -/
def triedN (n : Int) : Int := if 0 ≤ n ∧ n ≤ 4 then (((n.toNat + 1) ^ (n.toNat - 1) : Nat) : Int) else -1
theorem pow5_le {n : Nat} (h : n ≤ 4) : (n + 1) ^ n ≤ 625 := by
  have h1 : (n + 1) ^ n ≤ 5 ^ n := Nat.pow_le_pow_left (by omega) n
  have h2 : 5 ^ n ≤ 5 ^ 4 := Nat.pow_le_pow_right (by omega) h
  have h3 : (5 : Nat) ^ 4 = 625 := by decide
  omega
end Go.Proofs.Ytchfnbcpjiiphab
