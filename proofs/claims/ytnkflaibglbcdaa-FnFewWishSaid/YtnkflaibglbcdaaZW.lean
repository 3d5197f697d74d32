/-
  Words on slices that a call itself makes: where they lie, and what keeps them.
  Words on a slice of numbers that came in.
  Words on lists of numbers in the call's own memory.
  Plain facts on how many words there are of each number of pairs.
  Wishes of cars, told plainly: are numbers wishes; how many are below a number; do enough wish far to the front; how many wishes there are of which all park.
  Numbers put in order, each as often as it stands there.
  Enough wish far to the front just if the wishes in order are at most their places.
-/
import Derived.WalkKit
import Derived.Deep.AppendLies
import Derived.Laws.CopyOwn
import Derived.Lib.OthersKept
import Derived.Deep.QuietTactic
namespace Go.Proofs.Ytnkflaibglbcdaa
open Go.RowKit

/-- a row of the call's own that lies in blocks from B on and below H -/
def Own (w : World) (B H : Nat) (t : TypeId) (v : Value) (xs : List Value) : Prop :=
  w.ownsRow B t 1 v xs.length xs ∧ ∀ g, v.ownBlock = some g → g < H

section
variable {w w' : World} {B H H' : Nat} {t t' : TypeId} {v v' : Value} {xs ys : List Value}

theorem Own.more (h : Own w B H t v xs) (hH : H ≤ H') : Own w B H' t v xs := ⟨h.1, fun g hg => Nat.lt_of_lt_of_le (h.2 g hg) hH⟩
theorem Own.of_own (h : w.ownsRow B t 1 v xs.length xs) : Own w B w.heap.size t v xs := ⟨h, fun g hg => (h.lt g hg).2⟩
theorem own_of_blocks {n : Nat} (h : w.ownsRow B t 1 v n xs) (hb : ∀ g, v.ownBlock = some g → w'.heap[g]? = w.heap[g]?) : w'.ownsRow B t 1 v n xs := by
  refine ⟨h.1, ?_⟩
  rcases h.2 with hn | ⟨g, cap, cur, rfl, h1, h2, rest⟩
  · exact .inl hn
  · exact .inr ⟨g, cap, cur, rfl, h1, by rw [hb g rfl]; exact h2, rest⟩
theorem Own.below (h : Own w B H t v xs) (hb : Below H w w') : Own w' B H t v xs :=
  ⟨own_of_blocks h.1 fun g hg => hb.block g (h.2 g hg), h.2⟩
theorem Own.grown {row : Option Nat} (h : Own w B H t v xs) (hg : w.grownBy w' row) (hne : v.ownBlock = none ∨ v.ownBlock ≠ row) : Own w' B H t v xs :=
  ⟨h.1.kept hg hne, h.2⟩
theorem Own.alloc (h : Own w B H t v xs) (o : Obj) : Own (w.alloc o) B H t v xs := ⟨h.1.alloc o, h.2⟩
/-- rows of different element types never share a block -/
theorem Own.ne {B' : Nat} (h : Own w B H t v xs) (h' : Own w B' H' t' v' ys) (ht : t ≠ t') : v.ownBlock = none ∨ v.ownBlock ≠ v'.ownBlock := by
  rcases h.1.2 with ⟨rfl, _⟩ | ⟨g, cap, cur, rfl, _, h2, _⟩
  · exact .inl rfl
  · right
    rcases h'.1.2 with ⟨rfl, _⟩ | ⟨g', cap', cur', rfl, _, h2', _⟩
    · simp [Value.ownBlock]
    · intro e
      simp only [Value.ownBlock, Option.some.injEq] at e
      subst e
      rw [h2] at h2'
      simp only [Option.some.injEq, Obj.cells.injEq] at h2'
      exact ht h2'.2.1
theorem Own.slice (h : Own w B H t v xs) : ∃ ao cap, v = .slice ao xs.length cap ∧ (ao = none → xs.length = 0 ∧ cap = 0) ∧ xs.length ≤ cap ∧ cap ≤ maxLen ∧ ∀ a, ao = some a → ∃ g, a = ⟨g, 0, none⟩ ∧ B ≤ g ∧ g < H := by
  rcases h.1.2 with ⟨rfl, h0⟩ | ⟨g, cap, cur, rfl, h1, h2, h3, h4, _⟩
  · exact ⟨none, 0, by rw [h0], fun _ => ⟨h0, rfl⟩, by omega, by simp [maxLen], fun a ha => by cases ha⟩
  · exact ⟨some ⟨g, 0, none⟩, cap, rfl, (fun e => by cases e), h3, h4, fun a ha => ⟨g, by cases ha; rfl, h1, h.2 g rfl⟩⟩
/-- a cell of it, wherever it lies -/
theorem Own.cell (h : Own w B H t v xs) (j : Nat) (hj : j < xs.length) : ∃ g cap, v = .slice (some ⟨g, 0, none⟩) xs.length cap ∧ B ≤ g ∧ g < H ∧ w.cell? ⟨g, j, none⟩ = xs[j]? ∧ w.frozen? ⟨g, j, none⟩ = false := by
  rcases h.1.2 with ⟨rfl, h0⟩ | ⟨g, cap, cur, rfl, h1, h2, h3, h4, _⟩
  · omega
  · exact ⟨g, cap, rfl, h1, h.2 g rfl, h.1.cellAt j (by omega), h.1.frozenAt j⟩
/-- its last element dropped -/
theorem Own.pop {g cap n m : Nat} (h : Own w B H t (.slice (some ⟨g, 0, none⟩) m cap) xs) (hl : xs.length = n + 1) : Own w B H t (.slice (some ⟨g, 0, none⟩) n cap) xs.dropLast := by
  obtain ⟨⟨_, h7⟩, h8⟩ := h
  rcases h7 with ⟨h0, _⟩ | ⟨g', cap', cur, hv, h1, h2, h3, h4, h5, h6⟩
  · cases h0
  · have hg : g = g' ∧ cap = cap' := by simp only [Value.slice.injEq, Option.some.injEq, Addr.mk.injEq, and_true] at hv; exact ⟨hv.1, hv.2.2⟩
    obtain ⟨rfl, rfl⟩ := hg
    have hd : xs.dropLast.length = n := by rw [List.length_dropLast, hl]; rfl
    refine ⟨⟨by rw [hd]; omega, .inr ⟨g, cap, cur, by rw [hd], h1, h2, by rw [hd]; omega, h4, h5, ?_⟩⟩, fun q hq => h8 q hq⟩
    have e : xs.dropLast = xs.take n := by rw [List.dropLast_eq_take, hl]; rfl
    rw [hd, e, ← h6, List.take_take, hl]
    congr 1
    omega
/-- a row that is full is known whole -/
theorem own_full {g n : Nat} (h : w.ownsRow B t 1 (.slice (some ⟨g, 0, none⟩) n n) n xs) : w.heap[g]? = some (.cells xs.toArray t (0, 0)) := by
  rcases h.2 with ⟨h0, _⟩ | ⟨g', cap', cur, hv, h1, h2, h3, h4, h5, h6⟩
  · cases h0
  · cases hv
    rw [h2, ← h6, List.take_of_length_le (by simp [h5])]
theorem own_of_full {g n : Nat} (hB : B ≤ g) (hn : n ≤ maxLen) (hl : xs.length = n) (h : w.heap[g]? = some (.cells xs.toArray t (0, 0))) : w.ownsRow B t 1 (.slice (some ⟨g, 0, none⟩) n n) n xs :=
  ⟨by simp [hl], .inr ⟨g, n, xs.toArray, rfl, hB, h, Nat.le_refl _, hn, by simp [hl], by simp [hl.symm]⟩⟩
end
end Go.Proofs.Ytnkflaibglbcdaa

namespace Go.Proofs.Ytnkflaibglbcdaa
open Go.RowKit

/-- what is told of a slice of numbers that came in: nil, or a row of cap cells that hold zs -/
def IsRow (k : IntKind) (w : World) (a : Option Addr) (len cap : Nat) (zs : List Int) : Prop :=
  (a = none ∧ len = 0 ∧ cap = 0 ∧ zs = []) ∨
  ∃ x, a = some x ∧ len ≤ cap ∧ cap ≤ maxLen ∧ zs.length = cap ∧ (∀ i, i < zs.length → w.cell? (x.add i) = some (.int k (zs.getD i 0))) ∧ ∀ n ∈ zs, (Lit.int k n).wf = true

theorem IsRow.below {k : IntKind} {w w' : World} {a : Option Addr} {len cap : Nat} {zs : List Int} (h : IsRow k w a len cap zs) (hb : Below w.heap.size w w') : IsRow k w' a len cap zs := by
  rcases h with h | ⟨x, h1, h2, h3, h4, h5, h6⟩
  · exact .inl h
  · refine .inr ⟨x, h1, h2, h3, h4, fun i hi => ?_, h6⟩
    have hc := h5 i hi
    exact (hb.cell (World.block_lt_of_cell? w _ hc)).trans hc
theorem IsRow.at_ {k : IntKind} {w : World} {a : Option Addr} {len cap : Nat} {zs : List Int} (h : IsRow k w a len cap zs) (i : Nat) (hi : i < len) :
    ∃ b off, a = some ⟨b, off, none⟩ ∧ w.cell? ⟨b, off + i, none⟩ = some (.int k (zs.getD i 0)) := by
  rcases h with ⟨_, h0, _⟩ | ⟨x, h1, h2, h3, h4, h5, h6⟩
  · omega
  · obtain ⟨b, off, spot⟩ := x
    have hc0 := h5 0 (by omega)
    have hspot : spot = none := by simpa [Addr.add] using World.cell?_spot hc0
    subst hspot
    exact ⟨b, off, h1, by have := h5 i (by omega); rwa [Addr.add_lit] at this⟩
theorem IsRow.len {k : IntKind} {w : World} {a : Option Addr} {len cap : Nat} {zs : List Int} (h : IsRow k w a len cap zs) : len ≤ zs.length ∧ len ≤ cap := by
  rcases h with ⟨_, h0, h1, h2⟩ | ⟨x, h1, h2, h3, h4, h5, h6⟩
  · subst h2; simp; omega
  · omega

end Go.Proofs.Ytnkflaibglbcdaa

namespace Go.Proofs.Ytnkflaibglbcdaa
open Go.RowKit

def iv (l : List Int) : List Value := l.map (Value.int .i64)
theorem iv_length (l : List Int) : (iv l).length = l.length := by simp [iv]
theorem iv_at (l : List Int) (k : Nat) (h : k < l.length) : (iv l)[k]? = some (.int .i64 l[k]) := by simp [iv, h]
theorem iv_set (l : List Int) (k : Nat) (n : Int) : (iv l).set k (.int .i64 n) = iv (l.set k n) := by simp [iv, List.map_set]
theorem iv_snoc (l : List Int) (n : Int) : iv l ++ [.int .i64 n] = iv (l ++ [n]) := by simp [iv]

/-- nothing but draws -/
def Same (w w' : World) : Prop := w'.heap = w.heap ∧ Below w.heap.size w w'
theorem Same.refl (w : World) : Same w w := ⟨rfl, Below.refl _ _⟩
theorem Same.drewN {w w' : World} (h : Same w w') (n : Nat) : Same w (w'.drewN n) := ⟨h.1, h.2.trans ⟨rfl, rfl, rfl, Nat.le_refl _, fun _ _ => rfl⟩⟩
theorem Same.below {w w' : World} (h : Same w w') (B : Nat) : Below B w w' := ⟨h.2.os, h.2.tape, h.2.output, h.2.size, fun k _ => by rw [h.1]⟩
theorem Own.same {w w' : World} {B H : Nat} {t : TypeId} {v : Value} {xs : List Value} (h : Own w B H t v xs) (e : w'.heap = w.heap) : Own w' B H t v xs :=
  ⟨own_of_blocks h.1 fun g _ => by rw [e], h.2⟩
/-- the cell at a place, of a slice whose shape is known -/
theorem Own.at_ {w : World} {B H : Nat} {t : TypeId} {ao : Option Addr} {n c : Nat} {xs : List Value} (h : Own w B H t (.slice ao n c) xs) (k : Nat) (hk : k < xs.length) :
    ∃ g, ao = some ⟨g, 0, none⟩ ∧ B ≤ g ∧ g < H ∧ w.cell? ⟨g, k, none⟩ = xs[k]? ∧ w.frozen? ⟨g, k, none⟩ = false := by
  obtain ⟨g, cap, hv, h1, h2, h3, h4⟩ := h.cell k hk
  simp only [Value.slice.injEq] at hv
  exact ⟨g, hv.1, h1, h2, h3, h4⟩

end Go.Proofs.Ytnkflaibglbcdaa

namespace Go.Proofs.Ytnkflaibglbcdaa

/-- how many words there are of k pairs, up to nine -/
def cat (k : Nat) : Int := [1, 1, 2, 5, 14, 42, 132, 429, 1430, 4862].getD k 0
/-- the sum of the first i products -/
def ps (k : Nat) : Nat → Int
  | 0 => 0
  | i + 1 => ps k i + cat i * cat (k - 1 - i)

theorem ps_full (k : Nat) (h1 : 1 ≤ k) (h9 : k ≤ 9) : ps k k = cat k := (by decide : ∀ k, k ≤ 9 → 1 ≤ k → ps k k = cat k) k h9 h1
theorem ps_bd : ∀ k, k ≤ 9 → ∀ i, i ≤ k → 0 ≤ ps k i ∧ ps k i ≤ 4862 := by decide
theorem cat_bd : ∀ k, k ≤ 9 → 0 ≤ cat k ∧ cat k ≤ 4862 := by decide
theorem prod_bd : ∀ k, k ≤ 9 → ∀ i, i < k → 0 ≤ cat i * cat (k - 1 - i) ∧ cat i * cat (k - 1 - i) ≤ 4862 := by decide

def catV (m : Nat) : List Value := (List.range m).map fun k => .int .i64 (cat k)
theorem catV_length (m : Nat) : (catV m).length = m := by simp [catV]
theorem catV_at (m j : Nat) (h : j < m) : (catV m)[j]? = some (.int .i64 (cat j)) := by simp [catV, h]
theorem catV_snoc (m : Nat) : catV m ++ [.int .i64 (cat m)] = catV (m + 1) := by simp [catV, List.range_succ]

/-- the row of the program's function: p numbers done, i products added of the next -/
def arrV (n p i : Nat) : List Value := (List.range (n + 1)).map fun j => .int .i64 (if j < p then cat j else if j = p then ps p i else 0)
theorem arrV_length (n p i : Nat) : (arrV n p i).length = n + 1 := by simp [arrV]
theorem arrV_at (n p i j : Nat) (h : j < n + 1) : (arrV n p i)[j]? = some (.int .i64 (if j < p then cat j else if j = p then ps p i else 0)) := by simp [arrV, h]
theorem arrV_lo (n p i j : Nat) (h : j < n + 1) (hj : j < p) : (arrV n p i)[j]? = some (.int .i64 (cat j)) := by rw [arrV_at n p i j h, if_pos hj]
theorem arrV_mid (n p i : Nat) (h : p < n + 1) : (arrV n p i)[p]? = some (.int .i64 (ps p i)) := by rw [arrV_at n p i p h, if_neg (by omega), if_pos rfl]
theorem arrV_set (n p i : Nat) : (arrV n p i).set p (.int .i64 (ps p i + cat i * cat (p - 1 - i))) = arrV n p (i + 1) := by
  apply List.ext_getElem?
  intro j
  rw [List.getElem?_set]
  by_cases hj : j < n + 1
  · by_cases he : p = j
    · subst he
      rw [if_pos rfl, if_pos (by rw [arrV_length]; exact hj), arrV_mid n p (i + 1) hj]; rfl
    · rw [if_neg he, arrV_at n p i j hj, arrV_at n p (i + 1) j hj]
      by_cases h1 : j < p
      · rw [if_pos h1, if_pos h1]
      · rw [if_neg h1, if_neg h1, if_neg (fun e => he e.symm), if_neg (fun e => he e.symm)]
  · have e1 : (arrV n p i)[j]? = none := List.getElem?_eq_none (by rw [arrV_length]; omega)
    have e2 : (arrV n p (i + 1))[j]? = none := List.getElem?_eq_none (by rw [arrV_length]; omega)
    rw [e1, e2]
    split
    · rename_i h; subst h; rw [if_neg (by rw [arrV_length]; exact hj)]
    · rfl
theorem arrV_next (n p : Nat) (h1 : 1 ≤ p) (h9 : p ≤ 9) : arrV n p p = arrV n (p + 1) 0 := by
  unfold arrV
  apply List.map_congr_left
  intro j _
  by_cases a : j < p
  · rw [if_pos a, if_pos (by omega)]
  · by_cases b : j = p
    · subst b; rw [if_neg a, if_pos rfl, if_pos (by omega), ps_full j h1 h9]
    · rw [if_neg a, if_neg b, if_neg (by omega)]; split <;> simp [ps]
theorem arrV_start (n : Nat) : (List.replicate (n + 1) (Value.int .i64 0)).set 0 (.int .i64 1) = arrV n 1 0 := by
  apply List.ext_getElem?
  intro j
  rw [List.getElem?_set]
  by_cases hj : j < n + 1
  · rw [arrV_at n 1 0 j hj]
    by_cases h0 : 0 = j
    · subst h0; simp [cat]
    · rw [if_neg h0, List.getElem?_replicate, if_pos hj, if_neg (by omega)]; split <;> simp [ps]
  · rw [List.getElem?_eq_none (by rw [arrV_length]; omega : (arrV n 1 0).length ≤ j)]
    split
    · rename_i h; subst h; omega
    · rw [List.getElem?_replicate, if_neg hj]

/-- the answer -/
def catOut (n : Int) : Int := if 0 ≤ n ∧ n ≤ 9 then cat n.toNat else -1
theorem catOut_in (n : Nat) (h : n ≤ 9) : catOut n = cat n := by rw [catOut, if_pos ⟨by omega, by omega⟩]; rfl
theorem catOut_out (n : Int) (h : n < 0 ∨ 9 < n) : catOut n = -1 := by rw [catOut, if_neg (by omega)]
end Go.Proofs.Ytnkflaibglbcdaa

namespace Go.Proofs.Ytnkflaibglbcdaa

def wishAt (n : Nat) (x : Int) : Bool := decide (0 ≤ x ∧ x ≤ (n : Int))
def wishUp (l : List Int) (k : Nat) : Bool := (l.take k).all (wishAt l.length)
/-- are these numbers wishes -/
def wishB (l : List Int) : Bool := l.all (wishAt l.length) && decide (l.length ≤ 8)
theorem wishUp_step {l : List Int} {k : Nat} (h : k < l.length) : wishUp l (k + 1) = (wishUp l k && wishAt l.length l[k]) := by
  rw [wishUp, wishUp, List.take_succ_eq_append_getElem h, List.all_append]; simp
theorem wishB_full {l : List Int} (h : wishUp l l.length = true) : wishB l = decide (l.length ≤ 8) := by
  rw [wishUp, List.take_length] at h
  rw [wishB, h, Bool.true_and]
theorem wishB_no {l : List Int} {k : Nat} (hk : k < l.length) (h : wishAt l.length l[k] = false) : wishB l = false := by
  have : l.all (wishAt l.length) = false := List.all_eq_false.2 ⟨l[k], List.getElem_mem hk, by rw [h]; exact Bool.false_ne_true⟩
  rw [wishB, this, Bool.false_and]
theorem wishB_len {l : List Int} (h : wishB l = true) : l.length ≤ 8 := by
  rw [wishB, Bool.and_eq_true, decide_eq_true_eq] at h; exact h.2
theorem wishB_at {l : List Int} (h : wishB l = true) {k : Nat} (hk : k < l.length) : 0 ≤ l[k] ∧ l[k] ≤ (l.length : Int) := by
  rw [wishB, Bool.and_eq_true] at h
  have := List.all_eq_true.1 h.1 _ (List.getElem_mem hk)
  exact of_decide_eq_true this
theorem wishB_reverse (l : List Int) : wishB l.reverse = wishB l := by
  rw [wishB, wishB, List.length_reverse, List.all_reverse]
/-- how many are below a number -/
def belowN (l : List Int) (k : Int) : Nat := (l.filter fun x => decide (x < k)).length
theorem belowN_step {l : List Int} {j : Nat} (h : j < l.length) (k : Int) : belowN (l.take (j + 1)) k = belowN (l.take j) k + if l[j] < k then 1 else 0 := by
  rw [belowN, belowN, List.take_succ_eq_append_getElem h, List.filter_append, List.length_append]
  by_cases hx : l[j] < k <;> simp [hx]
theorem belowN_le (l : List Int) (k : Int) (j : Nat) : belowN (l.take j) k ≤ j := by
  rw [belowN]
  exact Nat.le_trans (List.length_filter_le _ _) (by rw [List.length_take]; omega)
def fewUp (l : List Int) (k : Nat) : Bool := (List.range k).all fun j => decide (j + 1 ≤ belowN l ((j + 1 : Nat) : Int))
/-- do enough of these numbers wish far to the front -/
def fewB (l : List Int) : Bool := wishB l && fewUp l l.length
theorem fewUp_step (l : List Int) (k : Nat) : fewUp l (k + 1) = (fewUp l k && decide (k + 1 ≤ belowN l ((k + 1 : Nat) : Int))) := by
  rw [fewUp, fewUp, List.range_succ, List.all_append]; simp
theorem fewB_no {l : List Int} (h : wishB l = false) : fewB l = false := by rw [fewB, h, Bool.false_and]
theorem fewB_yes {l : List Int} (h : wishB l = true) (h2 : fewUp l l.length = true) : fewB l = true := by rw [fewB, h, h2]; rfl
theorem fewB_bad {l : List Int} {k : Nat} (hk : k < l.length) (h : belowN l ((k + 1 : Nat) : Int) < k + 1) : fewB l = false := by
  have : fewUp l l.length = false := List.all_eq_false.2 ⟨k, List.mem_range.2 hk, by rw [decide_eq_true_eq]; omega⟩
  rw [fewB, this, Bool.and_false]
/-- of how many wishes all park -/
def parkN (n : Int) : Int := if 0 ≤ n ∧ n ≤ 8 then (((n.toNat + 1) ^ (n.toNat - 1) : Nat) : Int) else -1
theorem pow9_le (x : Nat) (hx : x ≤ 9) (k : Nat) (hk : k ≤ 8) : x ^ k ≤ 43046721 := by
  have h1 : x ^ k ≤ 9 ^ k := Nat.pow_le_pow_left hx k
  have h2 : 9 ^ k ≤ 9 ^ 8 := Nat.pow_le_pow_right (by omega) hk
  have h3 : (9 : Nat) ^ 8 = 43046721 := by decide
  omega
end Go.Proofs.Ytnkflaibglbcdaa

namespace Go.Proofs.Ytnkflaibglbcdaa

/-- a number put into a list in order, behind those that are at most it -/
def insA (out : List Int) (x : Int) : List Int := out.takeWhile (fun y => decide (y ≤ x)) ++ [x] ++ out.dropWhile (fun y => decide (y ≤ x))
def ascA (L : List Int) : List Int := L.foldl insA []
theorem take_whileA {out : List Int} {x : Int} : ∀ {k : Nat}, k ≤ out.length → (∀ (j : Nat) (hj : j < out.length), j < k → out[j] ≤ x) → (∀ (hk : k < out.length), x < out[k]) →
    out.takeWhile (fun y => decide (y ≤ x)) = out.take k ∧ out.dropWhile (fun y => decide (y ≤ x)) = out.drop k := by
  induction out with
  | nil => intro k hk _ _; simp
  | cons z r ih =>
    intro k hk h1 h2
    cases k with
    | zero =>
      have hz : ¬ z ≤ x := by have := h2 (by simp); simp at this; omega
      rw [List.takeWhile_cons, List.dropWhile_cons, decide_eq_false hz]
      simp
    | succ k =>
      have hz : z ≤ x := h1 0 (by simp) (by omega)
      obtain ⟨i1, i2⟩ := ih (k := k) (by simpa using hk) (fun j hj hjk => by
        have := h1 (j + 1) (by simp; omega) (by omega)
        simpa using this) (fun hk' => by
        have := h2 (by simp; omega)
        simpa using this)
      rw [List.takeWhile_cons, List.dropWhile_cons, decide_eq_true hz]
      simp [i1, i2]
theorem insA_at {out : List Int} {x : Int} {k : Nat} (hk : k ≤ out.length) (h1 : ∀ (j : Nat) (hj : j < out.length), j < k → out[j] ≤ x) (h2 : ∀ (hk : k < out.length), x < out[k]) :
    insA out x = out.take k ++ [x] ++ out.drop k := by
  obtain ⟨e1, e2⟩ := take_whileA hk h1 h2
  rw [insA, e1, e2]
theorem asc_snoc (L : List Int) (k : Nat) (h : k < L.length) : ascA (L.take (k + 1)) = insA (ascA (L.take k)) L[k] := by
  rw [ascA, List.take_succ_eq_append_getElem h, List.foldl_append]; rfl
/-- in order -/
def AscS : List Int → Prop
  | [] => True
  | x :: r => (∀ y ∈ r, x ≤ y) ∧ AscS r
theorem insA_perm (out : List Int) (x : Int) : (insA out x).Perm (out ++ [x]) := by
  rw [insA]
  have h := List.takeWhile_append_dropWhile (p := fun y => decide (y ≤ x)) (l := out)
  have e : out ++ [x] = out.takeWhile (fun y => decide (y ≤ x)) ++ out.dropWhile (fun y => decide (y ≤ x)) ++ [x] := by rw [h]
  rw [e, List.append_assoc, List.append_assoc]
  exact List.Perm.append_left _ List.perm_append_comm
theorem ascA_perm (L : List Int) : (ascA L).Perm L := by
  have key : ∀ (L out : List Int), (L.foldl insA out).Perm (out ++ L) := by
    intro L
    induction L with
    | nil => intro out; simp
    | cons x r ih =>
      intro out
      rw [List.foldl_cons]
      exact (ih _).trans (((insA_perm out x).append_right r).trans (by rw [List.append_assoc]; exact List.Perm.refl _))
  simpa [ascA] using key L []
theorem insA_sorted : ∀ (out : List Int) (x : Int), AscS out → AscS (insA out x)
  | [], x, _ => by simp [insA, AscS]
  | z :: r, x, h => by
    by_cases hz : z ≤ x
    · have e : insA (z :: r) x = z :: insA r x := by simp [insA, hz]
      rw [e]
      refine ⟨fun y hy => ?_, insA_sorted r x h.2⟩
      have := (insA_perm r x).mem_iff.1 hy
      rcases List.mem_append.1 this with h1 | h1
      · exact h.1 y h1
      · simp at h1; omega
    · have e : insA (z :: r) x = x :: z :: r := by simp [insA, hz]
      rw [e]
      refine ⟨fun y hy => ?_, h⟩
      rcases List.mem_cons.1 hy with rfl | h1
      · omega
      · have := h.1 y h1; omega
theorem ascA_sorted (L : List Int) : AscS (ascA L) := by
  have key : ∀ (L out : List Int), AscS out → AscS (L.foldl insA out) := by
    intro L
    induction L with
    | nil => intro out h; exact h
    | cons x r ih => intro out h; exact ih _ (insA_sorted out x h)
  exact key L [] trivial
theorem ascS_get : ∀ (l : List Int), AscS l → ∀ (i j : Nat) (hj : j < l.length) (hij : i ≤ j), l[i]'(by omega) ≤ l[j]
  | x :: r, h, 0, 0, _, _ => Int.le_refl _
  | x :: r, h, 0, j + 1, hj, _ => h.1 _ (by simp)
  | x :: r, h, i + 1, j + 1, hj, hij => by
    simp only [List.getElem_cons_succ]
    exact ascS_get r h.2 i j (by simpa using hj) (by omega)
/-- in a list in order more than i are less than a bound just if number i is -/
theorem asc_count : ∀ (l : List Int), AscS l → ∀ (i : Nat) (hi : i < l.length) (b : Int), i + 1 ≤ (l.filter fun x => decide (x < b)).length ↔ l[i] < b
  | x :: r, h, 0, _, b => by
    by_cases hx : x < b
    · simp [hx]
    · have : ∀ y ∈ r, ¬ y < b := fun y hy => by have := h.1 y hy; omega
      have e : (r.filter fun x => decide (x < b)) = [] := List.filter_eq_nil_iff.2 fun y hy => by simpa using this y hy
      simp [hx, e]
  | x :: r, h, i + 1, hi, b => by
    have hi' : i < r.length := by simpa using hi
    have ih := asc_count r h.2 i hi' b
    simp only [List.getElem_cons_succ]
    by_cases hx : x < b
    · rw [List.filter_cons_of_pos (by simpa using hx), List.length_cons]
      omega
    · have hn : ¬ r[i] < b := by have := h.1 r[i] (List.getElem_mem hi'); omega
      rw [List.filter_cons_of_neg (by simpa using hx)]
      have : (r.filter fun x => decide (x < b)).length = 0 := by
        rw [List.length_eq_zero_iff]
        exact List.filter_eq_nil_iff.2 fun y hy => by have := h.1 y hy; simp; omega
      omega
theorem filter_perm_len {l m : List Int} (h : l.Perm m) (p : Int → Bool) : (l.filter p).length = (m.filter p).length := (h.filter p).length_eq
end Go.Proofs.Ytnkflaibglbcdaa

namespace Go.Proofs.Ytnkflaibglbcdaa

def ascUp (l : List Int) (k : Nat) : Bool := (List.range k).all fun j => decide ((ascA l).getD j 0 ≤ (j : Int))
theorem ascA_length (l : List Int) : (ascA l).length = l.length := (ascA_perm l).length_eq
theorem ascUp_step (l : List Int) {k : Nat} (hk : k < (ascA l).length) : ascUp l (k + 1) = (ascUp l k && decide ((ascA l)[k] ≤ (k : Int))) := by
  rw [ascUp, ascUp, List.range_succ, List.all_append]
  simp [List.getD_eq_getElem?_getD, List.getElem?_eq_getElem hk]
theorem belowN_asc (l : List Int) {j : Nat} (hj : j < l.length) : (j + 1 ≤ belowN l ((j + 1 : Nat) : Int)) ↔ (ascA l).getD j 0 ≤ (j : Int) := by
  have hj' : j < (ascA l).length := by rw [ascA_length]; exact hj
  rw [belowN, ← filter_perm_len (ascA_perm l), asc_count (ascA l) (ascA_sorted l) j hj', List.getD_eq_getElem?_getD, List.getElem?_eq_getElem hj']
  simp only [Option.getD_some]
  omega
theorem few_asc {l : List Int} (h : wishB l = true) : fewB l = ascUp l l.length := by
  rw [fewB, h, Bool.true_and, fewUp, ascUp]
  apply Bool.eq_iff_iff.2
  rw [List.all_eq_true, List.all_eq_true]
  constructor
  · intro h1 j hj
    have := h1 j hj
    rw [decide_eq_true_eq] at this ⊢
    exact (belowN_asc l (List.mem_range.1 hj)).1 this
  · intro h1 j hj
    have := h1 j hj
    rw [decide_eq_true_eq] at this ⊢
    exact (belowN_asc l (List.mem_range.1 hj)).2 this
theorem asc_facts (l : List Int) : ∃ (m : List Int) (up : Nat → Bool), ascA l = m ∧ m.length = l.length ∧ up 0 = true ∧ (∀ (k : Nat) (hk : k < m.length), up (k + 1) = (up k && decide (m[k] ≤ (k : Int)))) ∧ (wishB l = true → fewB l = up m.length) :=
  ⟨ascA l, ascUp l, rfl, ascA_length l, rfl, fun k hk => ascUp_step l hk, fun h => by rw [ascA_length]; exact few_asc h⟩
end Go.Proofs.Ytnkflaibglbcdaa
