/-
  Words on slices that a call itself makes: where they lie, and what keeps them.
  Words on a slice of numbers that came in.
  Words on lists of numbers in the call's own memory.
  Plain facts on how many words there are of each number of pairs.
  Wishes of cars, told plainly: are numbers wishes; how many are below a number; do enough wish far to the front; how many wishes there are of which all park.
  Where cars stand, told plainly: the first free place from a wish on.
  Drift and shifts of wishes, told plainly.
  Of how many wishes all park, by trying: told plainly, and reckoned for up to four cars.
  What the laws ask of parking: all park just if enough wish far to the front; where cars stand; how far they drift; one shift parks at most.
  Numbers put in order, each as often as it stands there.
-/
import Derived.WalkKit
import Derived.Deep.AppendLies
import Derived.Laws.CopyOwn
import Derived.Lib.OthersKept
import Derived.Deep.QuietTactic
namespace Go.Proofs.Ytchfnbcpjiiphaa
open Go.RowKit

/-- a row of the call's own that lies in blocks from B on and below H -/
def Own (w : World) (B H : Nat) (t : TypeId) (v : Value) (xs : List Value) : Prop :=
  w.ownsRow B t 1 v xs.length xs ∧ ∀ g, v.ownBlock = some g → g < H

section
variable {w w' : World} {B H H' : Nat} {t t' : TypeId} {v v' : Value} {xs ys : List Value}

theorem Own.more (h : Own w B H t v xs) (hH : H ≤ H') : Own w B H' t v xs := ⟨h.1, fun g hg => Nat.lt_of_lt_of_le (h.2 g hg) hH⟩
theorem Own.of_own (h : w.ownsRow B t 1 v xs.length xs) : Own w B w.heap.size t v xs := ⟨h, fun g hg => (h.lt g hg).2⟩
theorem own_of_blocks {n : Nat} (h : w.ownsRow B t 1 v n xs) (hb : ∀ g, v.ownBlock = some g → w'.heap[g]? = w.heap[g]?) : w'.ownsRow B t 1 v n xs := by
  refine ⟨h.1, ?_⟩
  rcases h.2 with hn | ⟨g, cap, cur, rfl, h1, h2, rest⟩
  · exact .inl hn
  · exact .inr ⟨g, cap, cur, rfl, h1, by rw [hb g rfl]; exact h2, rest⟩
theorem Own.below (h : Own w B H t v xs) (hb : Below H w w') : Own w' B H t v xs :=
  ⟨own_of_blocks h.1 fun g hg => hb.block g (h.2 g hg), h.2⟩
theorem Own.grown {row : Option Nat} (h : Own w B H t v xs) (hg : w.grownBy w' row) (hne : v.ownBlock = none ∨ v.ownBlock ≠ row) : Own w' B H t v xs :=
  ⟨h.1.kept hg hne, h.2⟩
theorem Own.alloc (h : Own w B H t v xs) (o : Obj) : Own (w.alloc o) B H t v xs := ⟨h.1.alloc o, h.2⟩
/-- rows of different element types never share a block -/
theorem Own.ne {B' : Nat} (h : Own w B H t v xs) (h' : Own w B' H' t' v' ys) (ht : t ≠ t') : v.ownBlock = none ∨ v.ownBlock ≠ v'.ownBlock := by
  rcases h.1.2 with ⟨rfl, _⟩ | ⟨g, cap, cur, rfl, _, h2, _⟩
  · exact .inl rfl
  · right
    rcases h'.1.2 with ⟨rfl, _⟩ | ⟨g', cap', cur', rfl, _, h2', _⟩
    · simp [Value.ownBlock]
    · intro e
      simp only [Value.ownBlock, Option.some.injEq] at e
      subst e
      rw [h2] at h2'
      simp only [Option.some.injEq, Obj.cells.injEq] at h2'
      exact ht h2'.2.1
theorem Own.slice (h : Own w B H t v xs) : ∃ ao cap, v = .slice ao xs.length cap ∧ (ao = none → xs.length = 0 ∧ cap = 0) ∧ xs.length ≤ cap ∧ cap ≤ maxLen ∧ ∀ a, ao = some a → ∃ g, a = ⟨g, 0, none⟩ ∧ B ≤ g ∧ g < H := by
  rcases h.1.2 with ⟨rfl, h0⟩ | ⟨g, cap, cur, rfl, h1, h2, h3, h4, _⟩
  · exact ⟨none, 0, by rw [h0], fun _ => ⟨h0, rfl⟩, by omega, by simp [maxLen], fun a ha => by cases ha⟩
  · exact ⟨some ⟨g, 0, none⟩, cap, rfl, (fun e => by cases e), h3, h4, fun a ha => ⟨g, by cases ha; rfl, h1, h.2 g rfl⟩⟩
/-- a cell of it, wherever it lies -/
theorem Own.cell (h : Own w B H t v xs) (j : Nat) (hj : j < xs.length) : ∃ g cap, v = .slice (some ⟨g, 0, none⟩) xs.length cap ∧ B ≤ g ∧ g < H ∧ w.cell? ⟨g, j, none⟩ = xs[j]? ∧ w.frozen? ⟨g, j, none⟩ = false := by
  rcases h.1.2 with ⟨rfl, h0⟩ | ⟨g, cap, cur, rfl, h1, h2, h3, h4, _⟩
  · omega
  · exact ⟨g, cap, rfl, h1, h.2 g rfl, h.1.cellAt j (by omega), h.1.frozenAt j⟩
/-- its last element dropped -/
theorem Own.pop {g cap n m : Nat} (h : Own w B H t (.slice (some ⟨g, 0, none⟩) m cap) xs) (hl : xs.length = n + 1) : Own w B H t (.slice (some ⟨g, 0, none⟩) n cap) xs.dropLast := by
  obtain ⟨⟨_, h7⟩, h8⟩ := h
  rcases h7 with ⟨h0, _⟩ | ⟨g', cap', cur, hv, h1, h2, h3, h4, h5, h6⟩
  · cases h0
  · have hg : g = g' ∧ cap = cap' := by simp only [Value.slice.injEq, Option.some.injEq, Addr.mk.injEq, and_true] at hv; exact ⟨hv.1, hv.2.2⟩
    obtain ⟨rfl, rfl⟩ := hg
    have hd : xs.dropLast.length = n := by rw [List.length_dropLast, hl]; rfl
    refine ⟨⟨by rw [hd]; omega, .inr ⟨g, cap, cur, by rw [hd], h1, h2, by rw [hd]; omega, h4, h5, ?_⟩⟩, fun q hq => h8 q hq⟩
    have e : xs.dropLast = xs.take n := by rw [List.dropLast_eq_take, hl]; rfl
    rw [hd, e, ← h6, List.take_take, hl]
    congr 1
    omega
/-- a row that is full is known whole -/
theorem own_full {g n : Nat} (h : w.ownsRow B t 1 (.slice (some ⟨g, 0, none⟩) n n) n xs) : w.heap[g]? = some (.cells xs.toArray t (0, 0)) := by
  rcases h.2 with ⟨h0, _⟩ | ⟨g', cap', cur, hv, h1, h2, h3, h4, h5, h6⟩
  · cases h0
  · cases hv
    rw [h2, ← h6, List.take_of_length_le (by simp [h5])]
theorem own_of_full {g n : Nat} (hB : B ≤ g) (hn : n ≤ maxLen) (hl : xs.length = n) (h : w.heap[g]? = some (.cells xs.toArray t (0, 0))) : w.ownsRow B t 1 (.slice (some ⟨g, 0, none⟩) n n) n xs :=
  ⟨by simp [hl], .inr ⟨g, n, xs.toArray, rfl, hB, h, Nat.le_refl _, hn, by simp [hl], by simp [hl.symm]⟩⟩
end
end Go.Proofs.Ytchfnbcpjiiphaa

namespace Go.Proofs.Ytchfnbcpjiiphaa
open Go.RowKit

/-- what is told of a slice of numbers that came in: nil, or a row of cap cells that hold zs -/
def IsRow (k : IntKind) (w : World) (a : Option Addr) (len cap : Nat) (zs : List Int) : Prop :=
  (a = none ∧ len = 0 ∧ cap = 0 ∧ zs = []) ∨
  ∃ x, a = some x ∧ len ≤ cap ∧ cap ≤ maxLen ∧ zs.length = cap ∧ (∀ i, i < zs.length → w.cell? (x.add i) = some (.int k (zs.getD i 0))) ∧ ∀ n ∈ zs, (Lit.int k n).wf = true

theorem IsRow.below {k : IntKind} {w w' : World} {a : Option Addr} {len cap : Nat} {zs : List Int} (h : IsRow k w a len cap zs) (hb : Below w.heap.size w w') : IsRow k w' a len cap zs := by
  rcases h with h | ⟨x, h1, h2, h3, h4, h5, h6⟩
  · exact .inl h
  · refine .inr ⟨x, h1, h2, h3, h4, fun i hi => ?_, h6⟩
    have hc := h5 i hi
    exact (hb.cell (World.block_lt_of_cell? w _ hc)).trans hc
theorem IsRow.at_ {k : IntKind} {w : World} {a : Option Addr} {len cap : Nat} {zs : List Int} (h : IsRow k w a len cap zs) (i : Nat) (hi : i < len) :
    ∃ b off, a = some ⟨b, off, none⟩ ∧ w.cell? ⟨b, off + i, none⟩ = some (.int k (zs.getD i 0)) := by
  rcases h with ⟨_, h0, _⟩ | ⟨x, h1, h2, h3, h4, h5, h6⟩
  · omega
  · obtain ⟨b, off, spot⟩ := x
    have hc0 := h5 0 (by omega)
    have hspot : spot = none := by simpa [Addr.add] using World.cell?_spot hc0
    subst hspot
    exact ⟨b, off, h1, by have := h5 i (by omega); rwa [Addr.add_lit] at this⟩
theorem IsRow.len {k : IntKind} {w : World} {a : Option Addr} {len cap : Nat} {zs : List Int} (h : IsRow k w a len cap zs) : len ≤ zs.length ∧ len ≤ cap := by
  rcases h with ⟨_, h0, h1, h2⟩ | ⟨x, h1, h2, h3, h4, h5, h6⟩
  · subst h2; simp; omega
  · omega

end Go.Proofs.Ytchfnbcpjiiphaa

namespace Go.Proofs.Ytchfnbcpjiiphaa
open Go.RowKit

def iv (l : List Int) : List Value := l.map (Value.int .i64)
theorem iv_length (l : List Int) : (iv l).length = l.length := by simp [iv]
theorem iv_at (l : List Int) (k : Nat) (h : k < l.length) : (iv l)[k]? = some (.int .i64 l[k]) := by simp [iv, h]
theorem iv_set (l : List Int) (k : Nat) (n : Int) : (iv l).set k (.int .i64 n) = iv (l.set k n) := by simp [iv, List.map_set]
theorem iv_snoc (l : List Int) (n : Int) : iv l ++ [.int .i64 n] = iv (l ++ [n]) := by simp [iv]

/-- nothing but draws -/
def Same (w w' : World) : Prop := w'.heap = w.heap ∧ Below w.heap.size w w'
theorem Same.refl (w : World) : Same w w := ⟨rfl, Below.refl _ _⟩
theorem Same.drewN {w w' : World} (h : Same w w') (n : Nat) : Same w (w'.drewN n) := ⟨h.1, h.2.trans ⟨rfl, rfl, rfl, Nat.le_refl _, fun _ _ => rfl⟩⟩
theorem Same.below {w w' : World} (h : Same w w') (B : Nat) : Below B w w' := ⟨h.2.os, h.2.tape, h.2.output, h.2.size, fun k _ => by rw [h.1]⟩
theorem Own.same {w w' : World} {B H : Nat} {t : TypeId} {v : Value} {xs : List Value} (h : Own w B H t v xs) (e : w'.heap = w.heap) : Own w' B H t v xs :=
  ⟨own_of_blocks h.1 fun g _ => by rw [e], h.2⟩
/-- the cell at a place, of a slice whose shape is known -/
theorem Own.at_ {w : World} {B H : Nat} {t : TypeId} {ao : Option Addr} {n c : Nat} {xs : List Value} (h : Own w B H t (.slice ao n c) xs) (k : Nat) (hk : k < xs.length) :
    ∃ g, ao = some ⟨g, 0, none⟩ ∧ B ≤ g ∧ g < H ∧ w.cell? ⟨g, k, none⟩ = xs[k]? ∧ w.frozen? ⟨g, k, none⟩ = false := by
  obtain ⟨g, cap, hv, h1, h2, h3, h4⟩ := h.cell k hk
  simp only [Value.slice.injEq] at hv
  exact ⟨g, hv.1, h1, h2, h3, h4⟩

end Go.Proofs.Ytchfnbcpjiiphaa

namespace Go.Proofs.Ytchfnbcpjiiphaa

/-- how many words there are of k pairs, up to nine -/
def cat (k : Nat) : Int := [1, 1, 2, 5, 14, 42, 132, 429, 1430, 4862].getD k 0
/-- the sum of the first i products -/
def ps (k : Nat) : Nat → Int
  | 0 => 0
  | i + 1 => ps k i + cat i * cat (k - 1 - i)

theorem ps_full (k : Nat) (h1 : 1 ≤ k) (h9 : k ≤ 9) : ps k k = cat k := (by decide : ∀ k, k ≤ 9 → 1 ≤ k → ps k k = cat k) k h9 h1
theorem ps_bd : ∀ k, k ≤ 9 → ∀ i, i ≤ k → 0 ≤ ps k i ∧ ps k i ≤ 4862 := by decide
theorem cat_bd : ∀ k, k ≤ 9 → 0 ≤ cat k ∧ cat k ≤ 4862 := by decide
theorem prod_bd : ∀ k, k ≤ 9 → ∀ i, i < k → 0 ≤ cat i * cat (k - 1 - i) ∧ cat i * cat (k - 1 - i) ≤ 4862 := by decide

def catV (m : Nat) : List Value := (List.range m).map fun k => .int .i64 (cat k)
theorem catV_length (m : Nat) : (catV m).length = m := by simp [catV]
theorem catV_at (m j : Nat) (h : j < m) : (catV m)[j]? = some (.int .i64 (cat j)) := by simp [catV, h]
theorem catV_snoc (m : Nat) : catV m ++ [.int .i64 (cat m)] = catV (m + 1) := by simp [catV, List.range_succ]

/-- the row of the program's function: p numbers done, i products added of the next -/
def arrV (n p i : Nat) : List Value := (List.range (n + 1)).map fun j => .int .i64 (if j < p then cat j else if j = p then ps p i else 0)
theorem arrV_length (n p i : Nat) : (arrV n p i).length = n + 1 := by simp [arrV]
theorem arrV_at (n p i j : Nat) (h : j < n + 1) : (arrV n p i)[j]? = some (.int .i64 (if j < p then cat j else if j = p then ps p i else 0)) := by simp [arrV, h]
theorem arrV_lo (n p i j : Nat) (h : j < n + 1) (hj : j < p) : (arrV n p i)[j]? = some (.int .i64 (cat j)) := by rw [arrV_at n p i j h, if_pos hj]
theorem arrV_mid (n p i : Nat) (h : p < n + 1) : (arrV n p i)[p]? = some (.int .i64 (ps p i)) := by rw [arrV_at n p i p h, if_neg (by omega), if_pos rfl]
theorem arrV_set (n p i : Nat) : (arrV n p i).set p (.int .i64 (ps p i + cat i * cat (p - 1 - i))) = arrV n p (i + 1) := by
  apply List.ext_getElem?
  intro j
  rw [List.getElem?_set]
  by_cases hj : j < n + 1
  · by_cases he : p = j
    · subst he
      rw [if_pos rfl, if_pos (by rw [arrV_length]; exact hj), arrV_mid n p (i + 1) hj]; rfl
    · rw [if_neg he, arrV_at n p i j hj, arrV_at n p (i + 1) j hj]
      by_cases h1 : j < p
      · rw [if_pos h1, if_pos h1]
      · rw [if_neg h1, if_neg h1, if_neg (fun e => he e.symm), if_neg (fun e => he e.symm)]
  · have e1 : (arrV n p i)[j]? = none := List.getElem?_eq_none (by rw [arrV_length]; omega)
    have e2 : (arrV n p (i + 1))[j]? = none := List.getElem?_eq_none (by rw [arrV_length]; omega)
    rw [e1, e2]
    split
    · rename_i h; subst h; rw [if_neg (by rw [arrV_length]; exact hj)]
    · rfl
theorem arrV_next (n p : Nat) (h1 : 1 ≤ p) (h9 : p ≤ 9) : arrV n p p = arrV n (p + 1) 0 := by
  unfold arrV
  apply List.map_congr_left
  intro j _
  by_cases a : j < p
  · rw [if_pos a, if_pos (by omega)]
  · by_cases b : j = p
    · subst b; rw [if_neg a, if_pos rfl, if_pos (by omega), ps_full j h1 h9]
    · rw [if_neg a, if_neg b, if_neg (by omega)]; split <;> simp [ps]
theorem arrV_start (n : Nat) : (List.replicate (n + 1) (Value.int .i64 0)).set 0 (.int .i64 1) = arrV n 1 0 := by
  apply List.ext_getElem?
  intro j
  rw [List.getElem?_set]
  by_cases hj : j < n + 1
  · rw [arrV_at n 1 0 j hj]
    by_cases h0 : 0 = j
    · subst h0; simp [cat]
    · rw [if_neg h0, List.getElem?_replicate, if_pos hj, if_neg (by omega)]; split <;> simp [ps]
  · rw [List.getElem?_eq_none (by rw [arrV_length]; omega : (arrV n 1 0).length ≤ j)]
    split
    · rename_i h; subst h; omega
    · rw [List.getElem?_replicate, if_neg hj]

/-- the answer -/
def catOut (n : Int) : Int := if 0 ≤ n ∧ n ≤ 9 then cat n.toNat else -1
theorem catOut_in (n : Nat) (h : n ≤ 9) : catOut n = cat n := by rw [catOut, if_pos ⟨by omega, by omega⟩]; rfl
theorem catOut_out (n : Int) (h : n < 0 ∨ 9 < n) : catOut n = -1 := by rw [catOut, if_neg (by omega)]
end Go.Proofs.Ytchfnbcpjiiphaa

namespace Go.Proofs.Ytchfnbcpjiiphaa

def wishAt (n : Nat) (x : Int) : Bool := decide (0 ≤ x ∧ x ≤ (n : Int))
def wishUp (l : List Int) (k : Nat) : Bool := (l.take k).all (wishAt l.length)
/-- are these numbers wishes -/
def wishB (l : List Int) : Bool := l.all (wishAt l.length) && decide (l.length ≤ 8)
theorem wishUp_step {l : List Int} {k : Nat} (h : k < l.length) : wishUp l (k + 1) = (wishUp l k && wishAt l.length l[k]) := by
  rw [wishUp, wishUp, List.take_succ_eq_append_getElem h, List.all_append]; simp
theorem wishB_full {l : List Int} (h : wishUp l l.length = true) : wishB l = decide (l.length ≤ 8) := by
  rw [wishUp, List.take_length] at h
  rw [wishB, h, Bool.true_and]
theorem wishB_no {l : List Int} {k : Nat} (hk : k < l.length) (h : wishAt l.length l[k] = false) : wishB l = false := by
  have : l.all (wishAt l.length) = false := List.all_eq_false.2 ⟨l[k], List.getElem_mem hk, by rw [h]; exact Bool.false_ne_true⟩
  rw [wishB, this, Bool.false_and]
theorem wishB_len {l : List Int} (h : wishB l = true) : l.length ≤ 8 := by
  rw [wishB, Bool.and_eq_true, decide_eq_true_eq] at h; exact h.2
theorem wishB_at {l : List Int} (h : wishB l = true) {k : Nat} (hk : k < l.length) : 0 ≤ l[k] ∧ l[k] ≤ (l.length : Int) := by
  rw [wishB, Bool.and_eq_true] at h
  have := List.all_eq_true.1 h.1 _ (List.getElem_mem hk)
  exact of_decide_eq_true this
theorem wishB_reverse (l : List Int) : wishB l.reverse = wishB l := by
  rw [wishB, wishB, List.length_reverse, List.all_reverse]
/-- how many are below a number -/
def belowN (l : List Int) (k : Int) : Nat := (l.filter fun x => decide (x < k)).length
theorem belowN_step {l : List Int} {j : Nat} (h : j < l.length) (k : Int) : belowN (l.take (j + 1)) k = belowN (l.take j) k + if l[j] < k then 1 else 0 := by
  rw [belowN, belowN, List.take_succ_eq_append_getElem h, List.filter_append, List.length_append]
  by_cases hx : l[j] < k <;> simp [hx]
theorem belowN_le (l : List Int) (k : Int) (j : Nat) : belowN (l.take j) k ≤ j := by
  rw [belowN]
  exact Nat.le_trans (List.length_filter_le _ _) (by rw [List.length_take]; omega)
def fewUp (l : List Int) (k : Nat) : Bool := (List.range k).all fun j => decide (j + 1 ≤ belowN l ((j + 1 : Nat) : Int))
/-- do enough of these numbers wish far to the front -/
def fewB (l : List Int) : Bool := wishB l && fewUp l l.length
theorem fewUp_step (l : List Int) (k : Nat) : fewUp l (k + 1) = (fewUp l k && decide (k + 1 ≤ belowN l ((k + 1 : Nat) : Int))) := by
  rw [fewUp, fewUp, List.range_succ, List.all_append]; simp
theorem fewB_no {l : List Int} (h : wishB l = false) : fewB l = false := by rw [fewB, h, Bool.false_and]
theorem fewB_yes {l : List Int} (h : wishB l = true) (h2 : fewUp l l.length = true) : fewB l = true := by rw [fewB, h, h2]; rfl
theorem fewB_bad {l : List Int} {k : Nat} (hk : k < l.length) (h : belowN l ((k + 1 : Nat) : Int) < k + 1) : fewB l = false := by
  have : fewUp l l.length = false := List.all_eq_false.2 ⟨k, List.mem_range.2 hk, by rw [decide_eq_true_eq]; omega⟩
  rw [fewB, this, Bool.and_false]
/-- of how many wishes all park -/
def parkN (n : Int) : Int := if 0 ≤ n ∧ n ≤ 8 then (((n.toNat + 1) ^ (n.toNat - 1) : Nat) : Int) else -1
theorem pow9_le (x : Nat) (hx : x ≤ 9) (k : Nat) (hk : k ≤ 8) : x ^ k ≤ 43046721 := by
  have h1 : x ^ k ≤ 9 ^ k := Nat.pow_le_pow_left hx k
  have h2 : 9 ^ k ≤ 9 ^ 8 := Nat.pow_le_pow_right (by omega) hk
  have h3 : (9 : Nat) ^ 8 = 43046721 := by decide
  omega
end Go.Proofs.Ytchfnbcpjiiphaa

namespace Go.Proofs.Ytchfnbcpjiiphaa

/-- the first free place from x on, of n; n if there is none -/
def freeN (n : Nat) (T : List Bool) (x : Nat) : Nat := if x < n then (if T.getD x false = true then freeN n T (x + 1) else x) else n
termination_by n - x
theorem freeN_far {n : Nat} {T : List Bool} {x : Nat} (h : n ≤ x) : freeN n T x = n := by
  rw [freeN, if_neg (by omega)]
theorem freeN_taken {n : Nat} {T : List Bool} {x : Nat} (h : x < n) (ht : T.getD x false = true) : freeN n T x = freeN n T (x + 1) := by
  rw [freeN, if_pos h, if_pos ht]
theorem freeN_free {n : Nat} {T : List Bool} {x : Nat} (h : x < n) (ht : T.getD x false = false) : freeN n T x = x := by
  rw [freeN, if_pos h, if_neg (by rw [ht]; simp)]
/-- where a car stands that wishes x, -1 for nowhere; what is taken then -/
def stepT (n : Nat) (T : List Bool) (x : Nat) : Int := if freeN n T x < n then (freeN n T x : Int) else -1
def stepS (n : Nat) (T : List Bool) (x : Nat) : List Bool := if freeN n T x < n then T.set (freeN n T x) true else T
theorem stepT_at {n : Nat} {T : List Bool} {x j : Nat} (h : freeN n T x = j) (hj : j < n) : stepT n T x = (j : Int) := by rw [stepT, h, if_pos hj]
theorem stepS_at {n : Nat} {T : List Bool} {x j : Nat} (h : freeN n T x = j) (hj : j < n) : stepS n T x = T.set j true := by rw [stepS, h, if_pos hj]
theorem stepT_no {n : Nat} {T : List Bool} {x : Nat} (h : freeN n T x = n) : stepT n T x = -1 := by rw [stepT, h, if_neg (by omega)]
theorem stepS_no {n : Nat} {T : List Bool} {x : Nat} (h : freeN n T x = n) : stepS n T x = T := by rw [stepS, h, if_neg (by omega)]
theorem stepS_length (n : Nat) (T : List Bool) (x : Nat) : (stepS n T x).length = T.length := by
  unfold stepS; split <;> simp
/-- one car behind the other -/
def goP (n : Nat) : List Bool → List Int → List Int
  | _, [] => []
  | T, x :: l => stepT n T x.toNat :: goP n (stepS n T x.toNat) l
def runS (n : Nat) : List Bool → List Int → List Bool
  | T, [] => T
  | T, x :: l => runS n (stepS n T x.toNat) l
theorem goP_length (n : Nat) (l : List Int) : ∀ T, (goP n T l).length = l.length := by
  induction l with
  | nil => exact fun _ => rfl
  | cons x l ih => exact fun T => by rw [goP, List.length_cons, ih, List.length_cons]
theorem runS_length (n : Nat) (l : List Int) : ∀ T, (runS n T l).length = T.length := by
  induction l with
  | nil => exact fun _ => rfl
  | cons x l ih => exact fun T => by rw [runS, ih, stepS_length]
theorem runS_snoc (n : Nat) (l : List Int) (x : Int) : ∀ T, runS n T (l ++ [x]) = stepS n (runS n T l) x.toNat := by
  induction l with
  | nil => exact fun _ => rfl
  | cons y l ih => exact fun T => by rw [List.cons_append, runS, ih, runS]
theorem goP_snoc (n : Nat) (l : List Int) (x : Int) : ∀ T, goP n T (l ++ [x]) = goP n T l ++ [stepT n (runS n T l) x.toNat] := by
  induction l with
  | nil => exact fun _ => rfl
  | cons y l ih => exact fun T => by rw [List.cons_append, goP, ih, goP, runS, List.cons_append]
/-- none is taken -/
def emptyT (n : Nat) : List Bool := List.replicate n false
/-- the places of the cars -/
def placesB (l : List Int) : List Int := goP l.length (emptyT l.length) l
/-- what is taken behind the first k cars -/
def takenB (l : List Int) (k : Nat) : List Bool := runS l.length (emptyT l.length) (l.take k)
def placesUp (l : List Int) (k : Nat) : List Int := goP l.length (emptyT l.length) (l.take k)
theorem takenB_zero (l : List Int) : takenB l 0 = emptyT l.length := rfl
theorem placesUp_zero (l : List Int) : placesUp l 0 = [] := rfl
theorem placesUp_full (l : List Int) : placesUp l l.length = placesB l := by rw [placesUp, List.take_length]; rfl
theorem takenB_length (l : List Int) (k : Nat) : (takenB l k).length = l.length := by rw [takenB, runS_length, emptyT, List.length_replicate]
theorem placesUp_length (l : List Int) (k : Nat) (h : k ≤ l.length) : (placesUp l k).length = k := by rw [placesUp, goP_length, List.length_take]; omega
theorem placesB_length (l : List Int) : (placesB l).length = l.length := by rw [← placesUp_full, placesUp_length l _ (Nat.le_refl _)]
theorem takenB_step {l : List Int} {k : Nat} (h : k < l.length) : takenB l (k + 1) = stepS l.length (takenB l k) l[k].toNat := by
  rw [takenB, List.take_succ_eq_append_getElem h, runS_snoc]; rfl
theorem placesUp_step {l : List Int} {k : Nat} (h : k < l.length) : placesUp l (k + 1) = placesUp l k ++ [stepT l.length (takenB l k) l[k].toNat] := by
  rw [placesUp, List.take_succ_eq_append_getElem h, goP_snoc]; rfl
theorem stepT_small {n : Nat} (T : List Bool) (x : Nat) : -1 ≤ stepT n T x ∧ stepT n T x < (n : Int) ∨ n = 0 ∧ stepT n T x = -1 := by
  unfold stepT
  split
  · exact .inl ⟨by omega, by omega⟩
  · by_cases h : n = 0
    · exact .inr ⟨h, rfl⟩
    · exact .inl ⟨by omega, by omega⟩
/-- do all cars park -/
def parkB (l : List Int) : Bool := wishB l && !((placesB l).contains (-1))
/-- one place more, never asked for, makes no difference -/
def SameT (n : Nat) (T U : List Bool) : Prop := ∀ i, i < n → T.getD i false = U.getD i false
theorem freeN_same {n : Nat} {T U : List Bool} (h : SameT n T U) (k : Nat) : ∀ x, n - x = k → freeN n T x = freeN n U x := by
  induction k with
  | zero => exact fun x hx => by rw [freeN_far (by omega), freeN_far (by omega)]
  | succ k ih =>
    intro x hx
    have hxn : x < n := by omega
    have e := h x hxn
    cases ht : T.getD x false with
    | true => rw [freeN_taken hxn ht, freeN_taken hxn (by rw [← e]; exact ht)]; exact ih (x + 1) (by omega)
    | false => rw [freeN_free hxn ht, freeN_free hxn (by rw [← e]; exact ht)]
theorem stepT_same {n : Nat} {T U : List Bool} (h : SameT n T U) (x : Nat) : stepT n T x = stepT n U x := by unfold stepT; rw [freeN_same h _ x rfl]
theorem getD_setB (T : List Bool) (i j : Nat) (hi : i < T.length) : (T.set i true).getD j false = if i = j then true else T.getD j false := by
  rw [List.getD_eq_getElem?_getD, List.getElem?_set, List.getD_eq_getElem?_getD]
  by_cases e : i = j
  · subst e; rw [if_pos rfl, if_pos hi, if_pos rfl]; rfl
  · rw [if_neg e, if_neg e]
theorem stepS_same {n : Nat} {T U : List Bool} (h : SameT n T U) (hT : n ≤ T.length) (hU : n ≤ U.length) (x : Nat) : SameT n (stepS n T x) (stepS n U x) := by
  unfold stepS
  rw [freeN_same h _ x rfl]
  split
  · intro i hi
    rw [getD_setB _ _ _ (by omega), getD_setB _ _ _ (by omega)]
    split
    · rfl
    · exact h i hi
  · exact h
theorem runS_same {n : Nat} (l : List Int) : ∀ {T U : List Bool}, SameT n T U → n ≤ T.length → n ≤ U.length → SameT n (runS n T l) (runS n U l) ∧ goP n T l = goP n U l := by
  induction l with
  | nil => exact fun h _ _ => ⟨h, rfl⟩
  | cons x l ih =>
    intro T U h hT hU
    obtain ⟨h1, h2⟩ := ih (stepS_same h hT hU x.toNat) (by rw [stepS_length]; exact hT) (by rw [stepS_length]; exact hU)
    exact ⟨h1, by rw [goP, goP, stepT_same h, h2]⟩
theorem same_empty (n m : Nat) : SameT n (emptyT n) (emptyT m) := fun i hi => by
  unfold emptyT
  rw [List.getD_eq_getElem?_getD, List.getD_eq_getElem?_getD, List.getElem?_replicate, List.getElem?_replicate, if_pos hi]
  split <;> rfl
/-- the model's row has one place more -/
def takenM (l : List Int) (k : Nat) : List Bool := runS l.length (emptyT (l.length + 1)) (l.take k)
theorem takenM_zero (l : List Int) : takenM l 0 = emptyT (l.length + 1) := rfl
theorem takenM_length (l : List Int) (k : Nat) : (takenM l k).length = l.length + 1 := by rw [takenM, runS_length, emptyT, List.length_replicate]
theorem takenM_step {l : List Int} {k : Nat} (h : k < l.length) : takenM l (k + 1) = stepS l.length (takenM l k) l[k].toNat := by
  rw [takenM, List.take_succ_eq_append_getElem h, runS_snoc]; rfl
theorem placesM_step {l : List Int} {k : Nat} (h : k < l.length) : placesUp l (k + 1) = placesUp l k ++ [stepT l.length (takenM l k) l[k].toNat] := by
  rw [placesUp_step h, takenB, takenM, stepT_same (runS_same (n := l.length) (l.take k) (same_empty l.length (l.length + 1)) (by simp [emptyT]) (by simp [emptyT])).1]
end Go.Proofs.Ytchfnbcpjiiphaa

namespace Go.Proofs.Ytchfnbcpjiiphaa

/-- how much farther the first k cars stand than their wishes -/
def driftUp (l : List Int) : Nat → Int
  | 0 => 0
  | k + 1 => driftUp l k + ((placesB l).getD k 0 - l.getD k 0)
def driftB (l : List Int) : Int := if parkB l = true then driftUp l l.length else -1
theorem goP_small (n : Nat) (l : List Int) : ∀ T, ∀ y ∈ goP n T l, -1 ≤ y ∧ y ≤ (n : Int) := by
  induction l with
  | nil => exact fun _ y hy => by cases hy
  | cons x l ih =>
    intro T y hy
    rcases List.mem_cons.1 hy with rfl | hy
    · have := stepT_small (n := n) T x.toNat
      omega
    · exact ih _ y hy
theorem places_at (l : List Int) {k : Nat} (h : k < l.length) : -1 ≤ (placesB l).getD k 0 ∧ (placesB l).getD k 0 ≤ (l.length : Int) := by
  have hk : k < (placesB l).length := by rw [placesB_length]; exact h
  rw [List.getD_eq_getElem?_getD, List.getElem?_eq_getElem hk]
  exact goP_small _ l _ _ (List.getElem_mem hk)
theorem drift_small {l : List Int} (hw : wishB l = true) : ∀ k, k ≤ l.length → -(9 * (k : Int)) ≤ driftUp l k ∧ driftUp l k ≤ 9 * (k : Int) := by
  intro k
  induction k with
  | zero => exact fun _ => ⟨by simp [driftUp], by simp [driftUp]⟩
  | succ k ih =>
    intro h
    have hk : k < l.length := by omega
    have h1 := ih (by omega)
    have h2 := places_at l hk
    have h3 := wishB_at hw hk
    have h4 := wishB_len hw
    have h5 : l.getD k 0 = l[k] := by rw [List.getD_eq_getElem?_getD, List.getElem?_eq_getElem hk]; rfl
    rw [driftUp, h5]
    push_cast
    omega
/-- each wish more by c, as the rest by one more than there are cars -/
def shiftL (l : List Int) (c : Nat) : List Int := l.map fun x => (x + (c : Int)) % ((l.length : Int) + 1)
theorem shiftL_length (l : List Int) (c : Nat) : (shiftL l c).length = l.length := by simp [shiftL]
theorem shiftL_at (l : List Int) (c : Nat) {k : Nat} (h : k < l.length) : (shiftL l c).take (k + 1) = (shiftL l c).take k ++ [(l[k] + (c : Int)) % ((l.length : Int) + 1)] := by
  have hk : k < (shiftL l c).length := by rw [shiftL_length]; exact h
  rw [List.take_succ_eq_append_getElem hk]
  simp [shiftL]
theorem wishB_shift {l : List Int} (hw : wishB l = true) (c : Nat) : wishB (shiftL l c) = true := by
  rw [wishB, Bool.and_eq_true] at hw ⊢
  refine ⟨List.all_eq_true.2 fun x hx => ?_, by rw [shiftL_length]; exact hw.2⟩
  obtain ⟨y, hy, rfl⟩ := List.mem_map.1 hx
  have h1 := of_decide_eq_true (List.all_eq_true.1 hw.1 y hy)
  rw [wishAt, shiftL_length]
  refine decide_eq_true ⟨Int.emod_nonneg _ (by omega), ?_⟩
  have := Int.emod_lt_of_pos (y + (c : Int)) (show (0 : Int) < (l.length : Int) + 1 by omega)
  omega
theorem shift_nat (x c n : Nat) : (((x : Int) + (c : Int)) % ((n : Int) + 1)) = (((x + c) % (n + 1) : Nat) : Int) := by
  push_cast; rfl
theorem shift_tmod (x c n : Nat) : (((x : Int) + (c : Int)).tmod ((n : Int) + 1)) = (((x + c) % (n + 1) : Nat) : Int) := by
  rw [Int.tmod_eq_emod_of_nonneg (by omega)]
  push_cast; rfl
def shiftB (l : List Int) : Int := if wishB l = true then (match (List.range (l.length + 1)).find? (fun c => parkB (shiftL l c)) with | some c => (c : Int) | none => -1) else -1
theorem shiftB_at {l : List Int} (hw : wishB l = true) {k : Nat} (hk : k ≤ l.length) (hno : ∀ j, j < k → parkB (shiftL l j) = false) (h : parkB (shiftL l k) = true) : shiftB l = (k : Int) := by
  have : (List.range (l.length + 1)).find? (fun c => parkB (shiftL l c)) = some k := by
    rw [List.find?_range_eq_some]
    exact ⟨h, List.mem_range.2 (by omega), fun j hj => by simp [hno j hj]⟩
  rw [shiftB, if_pos hw, this]
theorem shiftB_no {l : List Int} (hw : wishB l = true) (hno : ∀ j, j ≤ l.length → parkB (shiftL l j) = false) : shiftB l = -1 := by
  have : (List.range (l.length + 1)).find? (fun c => parkB (shiftL l c)) = none := by
    rw [List.find?_eq_none]
    intro j hj
    rw [hno j (by have := List.mem_range.1 hj; omega)]
    simp
  rw [shiftB, if_pos hw, this]
theorem shiftB_bad {l : List Int} (hw : wishB l = false) : shiftB l = -1 := by rw [shiftB, hw]; rfl
end Go.Proofs.Ytchfnbcpjiiphaa

namespace Go.Proofs.Ytchfnbcpjiiphaa

def sumR (f : Nat → Nat) : Nat → Nat
  | 0 => 0
  | k + 1 => sumR f k + f k
theorem sumR_congr {f g : Nat → Nat} : ∀ k, (∀ x, x < k → f x = g x) → sumR f k = sumR g k
  | 0, _ => rfl
  | k + 1, h => by rw [sumR, sumR, sumR_congr k fun x hx => h x (by omega), h k (by omega)]
theorem sumR_le {f : Nat → Nat} {b : Nat} : ∀ k, (∀ x, x < k → f x ≤ b) → sumR f k ≤ k * b
  | 0, _ => by simp [sumR]
  | k + 1, h => by
    have h1 := sumR_le k fun x hx => h x (by omega)
    have h2 := h k (by omega)
    rw [sumR, Nat.succ_mul]
    omega
/-- of those that begin with l, d cars to come -/
def tryN (n : Nat) : Nat → List Int → Nat
  | 0, l => if parkB l = true then 1 else 0
  | d + 1, l => sumR (fun x => tryN n d (l ++ [(x : Int)])) (n + 1)
theorem tryN_le (n : Nat) : ∀ d l, tryN n d l ≤ (n + 1) ^ d
  | 0, l => by rw [tryN]; split <;> simp
  | d + 1, l => by
    rw [tryN, Nat.pow_succ, Nat.mul_comm]
    exact sumR_le _ fun x _ => tryN_le n d _
/-- the wishes of number w -/
def digL (n w k : Nat) : List Int := (List.range k).map fun i => ((w / (n + 1) ^ i % (n + 1) : Nat) : Int)
theorem digL_step (n w k : Nat) : digL n w (k + 1) = digL n w k ++ [((w / (n + 1) ^ k % (n + 1) : Nat) : Int)] := by
  rw [digL, List.range_succ, List.map_append]; rfl
theorem digL_length (n w k : Nat) : (digL n w k).length = k := by simp [digL]
theorem digL_wish (n w : Nat) (hn : n ≤ 8) : wishB (digL n w n) = true := by
  rw [wishB, Bool.and_eq_true]
  refine ⟨List.all_eq_true.2 fun x hx => ?_, by rw [digL_length]; exact decide_eq_true hn⟩
  obtain ⟨i, _, rfl⟩ := List.mem_map.1 hx
  rw [wishAt, digL_length]
  refine decide_eq_true ⟨by omega, ?_⟩
  have := Nat.mod_lt (w / (n + 1) ^ i) (show 0 < n + 1 by omega)
  omega
def oneIf (n w : Nat) : Nat := if parkB (digL n w n) = true then 1 else 0
def cntW (n m : Nat) : Nat := sumR (oneIf n) m
theorem cntW_le (n m : Nat) : cntW n m ≤ m := by
  have := sumR_le (f := oneIf n) (b := 1) m fun x _ => by unfold oneIf; split <;> omega
  rw [cntW]
  omega
/-! ### reckoned -/
def freeF (n : Nat) (T : List Bool) : Nat → Nat → Nat
  | 0, _ => n
  | f + 1, x => if x < n then (if T.getD x false = true then freeF n T f (x + 1) else x) else n
theorem freeF_eq (n : Nat) (T : List Bool) : ∀ f x, n ≤ x + f → freeF n T f x = freeN n T x
  | 0, x, h => by rw [freeF, freeN_far (by omega)]
  | f + 1, x, h => by
    rw [freeF, freeN]
    split
    · split
      · exact freeF_eq n T f (x + 1) (by omega)
      · rfl
    · rfl
def parksF (n : Nat) : List Bool → List Int → Bool
  | _, [] => true
  | T, x :: l => decide (freeF n T n x.toNat < n) && parksF n (T.set (freeF n T n x.toNat) true) l
theorem parksF_eq (n : Nat) : ∀ (l : List Int) (T : List Bool), parksF n T l = !((goP n T l).contains (-1))
  | [], T => by simp [parksF, goP]
  | x :: l, T => by
    rw [parksF, goP, List.contains_cons, parksF_eq n l]
    rw [freeF_eq n T n x.toNat (by omega), stepT, stepS]
    by_cases h : freeN n T x.toNat < n
    · rw [if_pos h, if_pos h, decide_eq_true h]
      have : ((-1 : Int) == ((freeN n T x.toNat : Nat) : Int)) = false := by
        rw [beq_eq_false_iff_ne]; omega
      rw [this, Bool.true_and, Bool.false_or]
    · rw [if_neg h, if_neg h, decide_eq_false h]
      simp
def parkF (l : List Int) : Bool := wishB l && parksF l.length (emptyT l.length) l
theorem parkF_eq (l : List Int) : parkB l = parkF l := by rw [parkB, parkF, parksF_eq]; rfl
def tryF (n : Nat) : Nat → List Int → Nat
  | 0, l => if parkF l = true then 1 else 0
  | d + 1, l => sumR (fun x => tryF n d (l ++ [(x : Int)])) (n + 1)
theorem tryF_eq (n : Nat) : ∀ d l, tryN n d l = tryF n d l
  | 0, l => by rw [tryN, tryF, parkF_eq]
  | d + 1, l => by rw [tryN, tryF]; exact sumR_congr _ fun x _ => tryF_eq n d _
def cntF (n m : Nat) : Nat := sumR (fun w => if parkF (digL n w n) = true then 1 else 0) m
theorem cntF_eq (n m : Nat) : cntW n m = cntF n m := by
  rw [cntW, cntF]; exact sumR_congr _ fun w _ => by rw [oneIf, parkF_eq]
theorem tries_all : (List.range 5).all (fun n => decide (tryF n n [] = (n + 1) ^ (n - 1)) && decide (cntF n ((n + 1) ^ n) = (n + 1) ^ (n - 1))) = true := by decide +kernel
theorem try_few {n : Nat} (h : n ≤ 4) : tryN n n [] = (n + 1) ^ (n - 1) ∧ cntW n ((n + 1) ^ n) = (n + 1) ^ (n - 1) := by
  have := List.all_eq_true.1 tries_all n (List.mem_range.2 (by omega))
  rw [Bool.and_eq_true, decide_eq_true_eq, decide_eq_true_eq] at this
  rw [tryF_eq, cntF_eq]
  exact this
/-- what trying answers -/
def triedN (n : Int) : Int := if 0 ≤ n ∧ n ≤ 4 then (((n.toNat + 1) ^ (n.toNat - 1) : Nat) : Int) else -1
theorem pow5_le {n : Nat} (h : n ≤ 4) : (n + 1) ^ n ≤ 625 := by
  have h1 : (n + 1) ^ n ≤ 5 ^ n := Nat.pow_le_pow_left (by omega) n
  have h2 : 5 ^ n ≤ 5 ^ 4 := Nat.pow_le_pow_right (by omega) h
  have h3 : (5 : Nat) ^ 4 = 625 := by decide
  omega
end Go.Proofs.Ytchfnbcpjiiphaa

namespace Go.Proofs.Ytchfnbcpjiiphaa

/-- how many of the first k places are taken; their sum -/
def cT (T : List Bool) : Nat → Nat
  | 0 => 0
  | k + 1 => cT T k + if T.getD k false = true then 1 else 0
def sT (T : List Bool) : Nat → Nat
  | 0 => 0
  | k + 1 => sT T k + if T.getD k false = true then k else 0
theorem cT_le (T : List Bool) : ∀ k, cT T k ≤ k
  | 0 => Nat.le_refl _
  | k + 1 => by
    have := cT_le T k
    rw [cT]
    split <;> omega
theorem cT_set {T : List Bool} {f : Nat} (hf : f < T.length) (h : T.getD f false = false) : ∀ k, cT (T.set f true) k = cT T k + if f < k then 1 else 0
  | 0 => by simp [cT]
  | k + 1 => by
    rw [cT, cT, cT_set hf h k, getD_setB _ _ _ hf]
    by_cases e : f = k
    · subst e
      rw [if_pos rfl, h]
      simp
    · rw [if_neg e]
      by_cases e2 : f < k
      · rw [if_pos e2, if_pos (show f < k + 1 by omega)]; omega
      · rw [if_neg e2, if_neg (show ¬ f < k + 1 by omega)]; omega
theorem sT_set {T : List Bool} {f : Nat} (hf : f < T.length) (h : T.getD f false = false) : ∀ k, sT (T.set f true) k = sT T k + if f < k then f else 0
  | 0 => by simp [sT]
  | k + 1 => by
    rw [sT, sT, sT_set hf h k, getD_setB _ _ _ hf]
    by_cases e : f = k
    · subst e
      rw [if_pos rfl, h]
      simp
    · rw [if_neg e]
      by_cases e2 : f < k
      · rw [if_pos e2, if_pos (show f < k + 1 by omega)]; omega
      · rw [if_neg e2, if_neg (show ¬ f < k + 1 by omega)]; omega
theorem cT_empty (n : Nat) : ∀ k, cT (emptyT n) k = 0
  | 0 => rfl
  | k + 1 => by
    rw [cT, cT_empty n k, emptyT, List.getD_eq_getElem?_getD, List.getElem?_replicate]
    split <;> simp
theorem sT_empty (n : Nat) : ∀ k, sT (emptyT n) k = 0
  | 0 => rfl
  | k + 1 => by
    rw [sT, sT_empty n k, emptyT, List.getD_eq_getElem?_getD, List.getElem?_replicate]
    split <;> simp
theorem cT_gap {T : List Bool} : ∀ {n : Nat}, cT T n < n → ∃ j, j < n ∧ T.getD j false = false
  | 0, h => absurd h (Nat.not_lt_zero _)
  | n + 1, h => by
    rw [cT] at h
    cases e : T.getD n false with
    | false => exact ⟨n, by omega, e⟩
    | true =>
      rw [e, if_pos rfl] at h
      obtain ⟨j, hj, h2⟩ := cT_gap (T := T) (n := n) (by omega)
      exact ⟨j, by omega, h2⟩
theorem cT_full {T : List Bool} {n : Nat} (h : cT T n = n) : ∀ j, j < n → T.getD j false = true := by
  induction n with
  | zero => exact fun j hj => absurd hj (Nat.not_lt_zero _)
  | succ n ih =>
    intro j hj
    have hl := cT_le T n
    rw [cT] at h
    cases e : T.getD n false with
    | false =>
      rw [e, if_neg (by simp)] at h
      omega
    | true =>
      rw [e, if_pos rfl] at h
      by_cases ej : j = n
      · rw [ej]; exact e
      · exact ih (by omega) j (by omega)
theorem cT_all {T : List Bool} {n : Nat} (h : ∀ j, j < n → T.getD j false = true) : ∀ k, k ≤ n → cT T k = k ∧ 2 * sT T k = k * (k - 1)
  | 0, _ => ⟨rfl, rfl⟩
  | k + 1, hk => by
    obtain ⟨h1, h2⟩ := cT_all h k (by omega)
    rw [cT, sT, h k (by omega), if_pos rfl, if_pos rfl, h1]
    refine ⟨rfl, ?_⟩
    cases k with
    | zero => simp [sT]
    | succ m =>
      rw [Nat.mul_add, h2]
      simp only [Nat.add_sub_cancel]
      rw [Nat.mul_comm 2, ← Nat.mul_add, Nat.mul_comm (m + 1)]
/-- the first free place -/
theorem freeN_spec (n : Nat) (T : List Bool) : ∀ (m x : Nat), n - x = m → x ≤ n → x ≤ freeN n T x ∧ freeN n T x ≤ n ∧ (freeN n T x < n → T.getD (freeN n T x) false = false) ∧ ∀ j, x ≤ j → j < freeN n T x → T.getD j false = true
  | 0, x, hm, hx => by
    rw [freeN_far (by omega)]
    exact ⟨hx, Nat.le_refl _, fun h => absurd h (Nat.lt_irrefl _), fun j h1 h2 => by omega⟩
  | m + 1, x, hm, hx => by
    cases e : T.getD x false with
    | false =>
      rw [freeN_free (by omega) e]
      exact ⟨Nat.le_refl _, hx, fun _ => e, fun j h1 h2 => by omega⟩
    | true =>
      rw [freeN_taken (by omega) e]
      obtain ⟨h1, h2, h3, h4⟩ := freeN_spec n T m (x + 1) (by omega) (by omega)
      refine ⟨by omega, h2, h3, fun j hj hj2 => ?_⟩
      by_cases ej : j = x
      · rw [ej]; exact e
      · exact h4 j (by omega) hj2
theorem belowN_cons (x : Int) (l : List Int) (k : Int) : belowN (x :: l) k = (if x < k then 1 else 0) + belowN l k := by
  rw [belowN, belowN, List.filter_cons]
  by_cases h : x < k
  · rw [if_pos (decide_eq_true h), if_pos h, List.length_cons]; omega
  · rw [if_neg (by simpa using h), if_neg h]; omega
/-- where a place is free in the end, those that wish it or less stand ahead of it -/
theorem free_end {n j : Nat} (hj : j < n) : ∀ (l : List Int) (T : List Bool), T.length = n → (∀ x ∈ l, 0 ≤ x ∧ x ≤ (n : Int)) → (runS n T l).getD j false = false →
    T.getD j false = false ∧ cT (runS n T l) j = cT T j + belowN l ((j + 1 : Nat) : Int)
  | [], T, _, _, h => ⟨h, by simp [runS, belowN]⟩
  | x :: l, T, hT, hw, h => by
    have hx := hw x (List.mem_cons_self ..)
    have ih := free_end hj l (stepS n T x.toNat) (by rw [stepS_length]; exact hT) (fun y hy => hw y (List.mem_cons_of_mem _ hy)) h
    obtain ⟨f1, f2, f3, f4⟩ := freeN_spec n T _ x.toNat rfl (by omega)
    rw [runS, belowN_cons, ih.2]
    have i1 := ih.1
    unfold stepS at i1 ⊢
    by_cases hf : freeN n T x.toNat < n
    · rw [if_pos hf] at i1 ⊢
      rw [getD_setB _ _ _ (by omega)] at i1
      by_cases e : freeN n T x.toNat = j
      · rw [if_pos e] at i1; cases i1
      · rw [if_neg e] at i1
        refine ⟨i1, ?_⟩
        rw [cT_set (by omega) (f3 hf)]
        by_cases hxj : x < ((j + 1 : Nat) : Int)
        · have : freeN n T x.toNat < j := by
            refine Classical.byContradiction fun hn => ?_
            have := f4 j (by omega) (by omega)
            rw [i1] at this
            cases this
          rw [if_pos this, if_pos hxj]; omega
        · rw [if_neg (by omega), if_neg hxj]; omega
    · rw [if_neg hf] at i1 ⊢
      refine ⟨i1, ?_⟩
      have : ¬ x < ((j + 1 : Nat) : Int) := fun hxj => by
        have := f4 j (by omega) (by omega)
        rw [i1] at this
        cases this
      rw [if_neg this]; omega
theorem taken_le {n : Nat} (k : Nat) : ∀ (l : List Int) (T : List Bool), T.length = n → (∀ x ∈ l, 0 ≤ x ∧ x ≤ (n : Int)) → cT (runS n T l) k ≤ cT T k + belowN l (k : Int)
  | [], T, _, _ => by simp [runS]
  | x :: l, T, hT, hw => by
    have hx := hw x (List.mem_cons_self ..)
    have ih := taken_le k l (stepS n T x.toNat) (by rw [stepS_length]; exact hT) (fun y hy => hw y (List.mem_cons_of_mem _ hy))
    obtain ⟨f1, f2, f3, f4⟩ := freeN_spec n T _ x.toNat rfl (by omega)
    rw [runS, belowN_cons]
    have : cT (stepS n T x.toNat) k ≤ cT T k + if x < (k : Int) then 1 else 0 := by
      unfold stepS
      by_cases hf : freeN n T x.toNat < n
      · rw [if_pos hf, cT_set (by omega) (f3 hf)]
        by_cases hk : freeN n T x.toNat < k
        · rw [if_pos hk, if_pos (by omega)]; exact Nat.le_refl _
        · rw [if_neg hk]; omega
      · rw [if_neg hf]; omega
    omega
/-- those that stand, those that don't; the sum of the places -/
theorem stand_count {n : Nat} : ∀ (l : List Int) (T : List Bool), T.length = n → (∀ x ∈ l, 0 ≤ x ∧ x ≤ (n : Int)) → cT (runS n T l) n + (goP n T l).count (-1) = cT T n + l.length
  | [], T, _, _ => by simp [runS, goP]
  | x :: l, T, hT, hw => by
    have hx := hw x (List.mem_cons_self ..)
    have ih := stand_count l (stepS n T x.toNat) (by rw [stepS_length]; exact hT) (fun y hy => hw y (List.mem_cons_of_mem _ hy))
    obtain ⟨f1, f2, f3, f4⟩ := freeN_spec n T _ x.toNat rfl (by omega)
    rw [runS, goP, List.count_cons, List.length_cons]
    unfold stepS at ih ⊢
    unfold stepT
    by_cases hf : freeN n T x.toNat < n
    · rw [if_pos hf] at ih ⊢
      rw [cT_set (by omega) (f3 hf), if_pos hf] at ih
      rw [if_pos hf]
      have : (((freeN n T x.toNat : Nat) : Int) == (-1 : Int)) = false := by rw [beq_eq_false_iff_ne]; omega
      rw [this]
      simp only [Bool.false_eq_true, if_false]
      omega
    · rw [if_neg hf] at ih ⊢
      rw [if_neg hf]
      simp only [beq_self_eq_true, if_true]
      omega
theorem stand_sum {n : Nat} : ∀ (l : List Int) (T : List Bool), T.length = n → (∀ x ∈ l, 0 ≤ x ∧ x ≤ (n : Int)) → (-1 : Int) ∉ goP n T l → (sT (runS n T l) n : Int) = (sT T n : Int) + (goP n T l).sum
  | [], T, _, _, _ => by simp [runS, goP]
  | x :: l, T, hT, hw, hno => by
    have hx := hw x (List.mem_cons_self ..)
    rw [goP, List.mem_cons, not_or] at hno
    have ih := stand_sum l (stepS n T x.toNat) (by rw [stepS_length]; exact hT) (fun y hy => hw y (List.mem_cons_of_mem _ hy)) hno.2
    obtain ⟨f1, f2, f3, f4⟩ := freeN_spec n T _ x.toNat rfl (by omega)
    rw [runS, goP, List.sum_cons]
    have h1 := hno.1
    unfold stepS at ih ⊢
    unfold stepT at h1 ⊢
    by_cases hf : freeN n T x.toNat < n
    · rw [if_pos hf] at ih ⊢
      rw [sT_set (by omega) (f3 hf), if_pos hf] at ih
      rw [if_pos hf]
      push_cast at ih
      omega
    · rw [if_neg hf] at h1
      exact absurd rfl h1
theorem wishes_of {l : List Int} (h : wishB l = true) : ∀ x ∈ l, 0 ≤ x ∧ x ≤ (l.length : Int) := by
  rw [wishB, Bool.and_eq_true] at h
  exact fun x hx => of_decide_eq_true (List.all_eq_true.1 h.1 x hx)
theorem emptyT_length (n : Nat) : (emptyT n).length = n := by simp [emptyT]
theorem park_iff {l : List Int} (h : wishB l = true) : parkB l = true ↔ (-1 : Int) ∉ placesB l := by
  rw [parkB, h, Bool.true_and, Bool.not_eq_true', List.contains_eq_mem, decide_eq_false_iff_not]
theorem park_full {l : List Int} (h : wishB l = true) : parkB l = true ↔ cT (runS l.length (emptyT l.length) l) l.length = l.length := by
  have := stand_count l (emptyT l.length) (emptyT_length _) (wishes_of h)
  rw [cT_empty] at this
  rw [park_iff h, ← List.count_eq_zero]
  show List.count (-1) (goP l.length (emptyT l.length) l) = 0 ↔ _
  omega
/-- all park just if enough wish far to the front -/
theorem park_few (l : List Int) : parkB l = fewB l := by
  cases h : wishB l with
  | false => rw [fewB_no h, parkB, h]; rfl
  | true =>
    rw [Bool.eq_iff_iff, park_full h, fewB, h, Bool.true_and, fewUp, List.all_eq_true]
    constructor
    · intro hf j hj
      have hj2 := List.mem_range.1 hj
      have h1 := (cT_all (cT_full hf) (j + 1) (by omega)).1
      have h2 := taken_le (j + 1) l (emptyT l.length) (emptyT_length _) (wishes_of h)
      rw [cT_empty] at h2
      rw [decide_eq_true_eq]
      omega
    · intro hf
      refine Classical.byContradiction fun hn => ?_
      have hle := cT_le (runS l.length (emptyT l.length) l) l.length
      obtain ⟨j, hj, hg⟩ := cT_gap (T := runS l.length (emptyT l.length) l) (n := l.length) (by omega)
      have h1 := (free_end hj l (emptyT l.length) (emptyT_length _) (wishes_of h) hg).2
      have h2 := of_decide_eq_true (hf j (List.mem_range.2 hj))
      have h3 := cT_le (runS l.length (emptyT l.length) l) j
      rw [cT_empty] at h1
      omega
theorem all_perm {l m : List Int} (h : l.Perm m) (p : Int → Bool) : l.all p = m.all p := by
  rw [Bool.eq_iff_iff, List.all_eq_true, List.all_eq_true]
  exact ⟨fun g x hx => g x (h.mem_iff.2 hx), fun g x hx => g x (h.mem_iff.1 hx)⟩
theorem wishB_perm {l m : List Int} (h : l.Perm m) : wishB l = wishB m := by
  rw [wishB, wishB, h.length_eq, all_perm h]
theorem fewB_perm {l m : List Int} (h : l.Perm m) : fewB l = fewB m := by
  have : ∀ k, belowN l k = belowN m k := fun k => (h.filter _).length_eq
  rw [fewB, fewB, wishB_perm h, h.length_eq, fewUp, fewUp]
  simp only [this]
theorem parkB_perm {l m : List Int} (h : l.Perm m) : parkB l = parkB m := by rw [park_few, park_few, fewB_perm h]
/-! ### drift -/
theorem drift_sum (l : List Int) : ∀ k, k ≤ l.length → driftUp l k + (l.take k).sum = ((placesB l).take k).sum
  | 0, _ => by simp [driftUp]
  | k + 1, hk => by
    have hp : k < (placesB l).length := by rw [placesB_length]; omega
    rw [driftUp, List.take_succ_eq_append_getElem (by omega), List.take_succ_eq_append_getElem hp, List.sum_append, List.sum_append, ← drift_sum l k (by omega), List.getD_eq_getElem?_getD, List.getD_eq_getElem?_getD,
      List.getElem?_eq_getElem (show k < l.length by omega), List.getElem?_eq_getElem hp]
    simp only [Option.getD_some, List.sum_cons, List.sum_nil]
    omega
theorem drift_all {l : List Int} (hp : parkB l = true) : 2 * (driftB l + l.sum) = (l.length : Int) * ((l.length : Int) - 1) := by
  have hw : wishB l = true := by rw [parkB, Bool.and_eq_true] at hp; exact hp.1
  have hf := (park_full hw).1 hp
  have h1 := (cT_all (cT_full hf) l.length (Nat.le_refl _)).2
  have h2 := stand_sum l (emptyT l.length) (emptyT_length _) (wishes_of hw) ((park_iff hw).1 hp)
  have h3 := drift_sum l l.length (Nat.le_refl _)
  rw [sT_empty] at h2
  rw [List.take_length, List.take_of_length_le (by rw [placesB_length]; exact Nat.le_refl _)] at h3
  rw [driftB, if_pos hp, h3]
  have e : (placesB l).sum = (sT (runS l.length (emptyT l.length) l) l.length : Int) := by rw [h2]; simp [placesB]
  rw [e]
  cases hn : l.length with
  | zero => rw [hn] at h1; simp only [Nat.zero_mul] at h1; rw [show ((0 : Nat) : Int) * _ = 0 by simp]; rw [hn] at *; omega
  | succ m =>
    rw [hn] at h1
    have : ((2 * sT (runS (m + 1) (emptyT (m + 1)) l) (m + 1) : Nat) : Int) = (((m + 1) * m : Nat) : Int) := by rw [h1]; rfl
    push_cast at this ⊢
    rw [this]
    congr 1
    omega
theorem sum_rev (l : List Int) : l.reverse.sum = l.sum := by
  induction l with
  | nil => rfl
  | cons x l ih => rw [List.reverse_cons, List.sum_append, ih, List.sum_cons, List.sum_cons, List.sum_nil]; omega
theorem drift_rev {l : List Int} (hp : parkB l = true) : driftB l.reverse = driftB l := by
  have h1 := drift_all hp
  have h2 := drift_all (l := l.reverse) (by rw [parkB_perm (List.reverse_perm l)]; exact hp)
  rw [List.length_reverse, sum_rev] at h2
  omega
/-! ### shifts -/
theorem below_shift {n c : Nat} (hc : c ≤ n) {k : Nat} (hk : k ≤ n) : ∀ m : List Int, (∀ x ∈ m, 0 ≤ x ∧ x ≤ (n : Int)) →
    (k ≤ c → belowN (m.map fun x => (x + (c : Int)) % ((n : Int) + 1)) (k : Int) + belowN m ((n + 1 - c : Nat) : Int) = belowN m ((n + 1 - c + k : Nat) : Int)) ∧
    (c < k → belowN (m.map fun x => (x + (c : Int)) % ((n : Int) + 1)) (k : Int) + belowN m ((n + 1 - c : Nat) : Int) = belowN m ((k - c : Nat) : Int) + m.length)
  | [], _ => by simp [belowN]
  | x :: m, hm => by
    have hx := hm x (List.mem_cons_self ..)
    obtain ⟨h1, h2⟩ := below_shift hc hk m fun y hy => hm y (List.mem_cons_of_mem _ hy)
    have hy : (x + (c : Int)) % ((n : Int) + 1) = if x + (c : Int) < (n : Int) + 1 then x + (c : Int) else x + (c : Int) - ((n : Int) + 1) := by
      split
      · exact Int.emod_eq_of_lt (by omega) (by omega)
      · rw [← Int.sub_emod_right]
        exact Int.emod_eq_of_lt (by omega) (by omega)
    rw [List.map_cons]
    simp only [belowN_cons, List.length_cons, hy]
    constructor
    · intro hkc
      have := h1 hkc
      split <;> (repeat' split) <;> omega
    · intro hkc
      have := h2 hkc
      split <;> (repeat' split) <;> omega
theorem few_at {l : List Int} (h : fewB l = true) {k : Nat} (h1 : 1 ≤ k) (hk : k ≤ l.length) : k ≤ belowN l (k : Int) := by
  rw [fewB, Bool.and_eq_true, fewUp] at h
  have := of_decide_eq_true (List.all_eq_true.1 h.2 (k - 1) (List.mem_range.2 (by omega)))
  rwa [show k - 1 + 1 = k by omega] at this
theorem shift_two {l : List Int} (hw : wishB l = true) {c c' : Nat} (hlt : c < c') (hc : c' ≤ l.length) (h : parkB (shiftL l c) = true) (h' : parkB (shiftL l c') = true) : False := by
  rw [park_few] at h h'
  have e1 := few_at h' (k := c' - c) (by omega) (by rw [shiftL_length]; omega)
  have e2 := few_at h (k := l.length + 1 - (c' - c)) (by omega) (by rw [shiftL_length]; omega)
  have b1 := (below_shift (c := c') hc (k := c' - c) (by omega) l (wishes_of hw)).1 (by omega)
  have b2 := (below_shift (n := l.length) (c := c) (by omega) (k := l.length + 1 - (c' - c)) (by omega) l (wishes_of hw)).2 (by omega)
  rw [show l.length + 1 - c' + (c' - c) = l.length + 1 - c by omega] at b1
  rw [show l.length + 1 - (c' - c) - c = l.length + 1 - c' by omega] at b2
  unfold shiftL at e1 e2
  omega
/-- only one shift parks -/
theorem shift_one {l : List Int} (hw : wishB l = true) {c c' : Nat} (hc : c ≤ l.length) (hc' : c' ≤ l.length) (h : parkB (shiftL l c) = true) (h' : parkB (shiftL l c') = true) : c = c' := by
  rcases Nat.lt_trichotomy c c' with hl | he | hl
  · exact (shift_two hw hl hc' h h').elim
  · exact he
  · exact (shift_two hw hl hc h' h).elim
/-- what the shift that is found tells -/
theorem shift_facts {l : List Int} (h : 0 ≤ shiftB l) : ∃ c : Nat, shiftB l = (c : Int) ∧ c ≤ l.length ∧ wishB l = true ∧ ∀ k, k ≤ l.length → parkB (shiftL l k) = decide (k = c) := by
  unfold shiftB at h ⊢
  by_cases hw : wishB l = true
  · rw [if_pos hw] at h ⊢
    cases hf : (List.range (l.length + 1)).find? (fun c => parkB (shiftL l c)) with
    | none => rw [hf] at h; simp at h
    | some c =>
      have h1 := List.find?_range_eq_some.1 hf
      have hc := List.mem_range.1 h1.2.1
      refine ⟨c, rfl, by omega, hw, fun k hk => ?_⟩
      by_cases e : k = c
      · subst e; rw [h1.1]; simp
      · rw [decide_eq_false e]
        cases hp : parkB (shiftL l k) with
        | false => rfl
        | true => exact absurd (shift_one hw hk (by omega) hp h1.1) e
  · rw [if_neg hw] at h; simp at h
theorem shift_zero {l : List Int} (hw : wishB l = true) : shiftL l 0 = l := by
  have := wishes_of hw
  rw [shiftL]
  conv => rhs; rw [← List.map_id l]
  refine List.map_congr_left fun x hx => ?_
  have := this x hx
  show (x + ((0 : Nat) : Int)) % _ = x
  rw [show x + ((0 : Nat) : Int) = x by simp]
  exact Int.emod_eq_of_lt (by omega) (by omega)
theorem shift_again {l : List Int} {c : Nat} (hw : wishB l = true) (h : parkB (shiftL l c) = true) : shiftB (shiftL l c) = 0 :=
  shiftB_at (k := 0) (wishB_shift hw c) (Nat.zero_le _) (fun j hj => absurd hj (Nat.not_lt_zero _)) (by rw [shift_zero (wishB_shift hw c)]; exact h)
/-! ### places -/
theorem taken_mem {n j : Nat} (hj : j < n) : ∀ (l : List Int) (T : List Bool), T.length = n → ((runS n T l).getD j false = true ↔ T.getD j false = true ∨ (j : Int) ∈ goP n T l)
  | [], T, _ => by simp [runS, goP]
  | x :: l, T, hT => by
    rw [runS, goP, taken_mem hj l (stepS n T x.toNat) (by rw [stepS_length]; exact hT), List.mem_cons]
    unfold stepS stepT
    by_cases hf : freeN n T x.toNat < n
    · rw [if_pos hf, if_pos hf, getD_setB _ _ _ (by omega)]
      by_cases e : freeN n T x.toNat = j
      · rw [if_pos e, e]; simp
      · rw [if_neg e]
        have : ¬ (j : Int) = ((freeN n T x.toNat : Nat) : Int) := by omega
        simp [this]
    · rw [if_neg hf, if_neg hf]
      have : ¬ (j : Int) = -1 := by omega
      simp [this]
theorem place_facts {l : List Int} (hw : wishB l = true) {k : Nat} (hk : k < l.length) : ∃ p : Int, (placesB l)[k]? = some p ∧ (p = -1 ∨ l[k] ≤ p ∧ p < (l.length : Int) ∧ p ∉ (placesB l).take k ∧ ∀ x : Int, l[k] ≤ x → x < p → x ∈ (placesB l).take k) := by
  have hx := wishB_at hw hk
  have hp : k < (placesB l).length := by rw [placesB_length]; exact hk
  have ht : (placesB l).take k = placesUp l k := by
    have hup : ∀ (m : List Int) (T : List Bool) (n k : Nat), (goP n T m).take k = goP n T (m.take k) := by
      intro m
      induction m with
      | nil => intro T n k; simp [goP]
      | cons y m ih =>
        intro T n k
        cases k with
        | zero => simp [goP]
        | succ k => rw [goP, List.take_succ_cons, List.take_succ_cons, goP, ih]
    rw [placesB, hup, placesUp]
  have hs : placesUp l (k + 1) = placesUp l k ++ [stepT l.length (takenB l k) l[k].toNat] := placesUp_step hk
  have h2 : placesUp l (k + 1) = (placesB l).take (k + 1) := by
    have hup : ∀ (m : List Int) (T : List Bool) (n k : Nat), (goP n T m).take k = goP n T (m.take k) := by
      intro m
      induction m with
      | nil => intro T n k; simp [goP]
      | cons y m ih =>
        intro T n k
        cases k with
        | zero => simp [goP]
        | succ k => rw [goP, List.take_succ_cons, List.take_succ_cons, goP, ih]
    rw [placesB, hup, placesUp]
  rw [h2, List.take_succ_eq_append_getElem hp, ht] at hs
  have hv : (placesB l)[k] = stepT l.length (takenB l k) l[k].toNat := by simpa using List.append_cancel_left hs
  refine ⟨_, List.getElem?_eq_getElem hp, ?_⟩
  rw [hv, ht]
  obtain ⟨f1, f2, f3, f4⟩ := freeN_spec l.length (takenB l k) _ l[k].toNat rfl (by omega)
  have hm : ∀ j, j < l.length → ((takenB l k).getD j false = true ↔ (j : Int) ∈ placesUp l k) := fun j hj => by
    rw [takenB, taken_mem hj (l.take k) (emptyT l.length) (emptyT_length _)]
    have : (emptyT l.length).getD j false = false := by
      rw [emptyT, List.getD_eq_getElem?_getD, List.getElem?_replicate]
      split <;> rfl
    rw [this]
    simp [placesUp]
  unfold stepT
  by_cases hf : freeN l.length (takenB l k) l[k].toNat < l.length
  · rw [if_pos hf]
    refine .inr ⟨by omega, by omega, fun h => ?_, fun x h1 h3 => ?_⟩
    · have := (hm _ hf).2 h
      rw [f3 hf] at this
      cases this
    · have h4 := f4 x.toNat (by omega) (by omega)
      have h5 := (hm x.toNat (by omega)).1 h4
      rwa [show ((x.toNat : Nat) : Int) = x by omega] at h5
  · rw [if_neg hf]
    exact .inl rfl
/-! ### counts -/
theorem tried_park {n : Int} (h : 0 ≤ triedN n) : triedN n = parkN n := by
  unfold triedN at h ⊢
  by_cases hn : 0 ≤ n ∧ n ≤ 4
  · rw [if_pos hn, parkN, if_pos (by omega)]
  · rw [if_neg hn] at h; simp at h
theorem power_park {n : Nat} (h : n ≤ 8) : parkN (n : Int) * ((n : Int) + 1) = (((n + 1) ^ n : Nat) : Int) := by
  rw [parkN, if_pos (by omega), Int.toNat_natCast]
  cases n with
  | zero => rfl
  | succ m => rw [Nat.add_sub_cancel, Nat.pow_succ (m + 1 + 1) m]; push_cast; rfl
end Go.Proofs.Ytchfnbcpjiiphaa

namespace Go.Proofs.Ytchfnbcpjiiphaa

/-- a number put into a list in order, behind those that are at most it -/
def insA (out : List Int) (x : Int) : List Int := out.takeWhile (fun y => decide (y ≤ x)) ++ [x] ++ out.dropWhile (fun y => decide (y ≤ x))
def ascA (L : List Int) : List Int := L.foldl insA []
theorem take_whileA {out : List Int} {x : Int} : ∀ {k : Nat}, k ≤ out.length → (∀ (j : Nat) (hj : j < out.length), j < k → out[j] ≤ x) → (∀ (hk : k < out.length), x < out[k]) →
    out.takeWhile (fun y => decide (y ≤ x)) = out.take k ∧ out.dropWhile (fun y => decide (y ≤ x)) = out.drop k := by
  induction out with
  | nil => intro k hk _ _; simp
  | cons z r ih =>
    intro k hk h1 h2
    cases k with
    | zero =>
      have hz : ¬ z ≤ x := by have := h2 (by simp); simp at this; omega
      rw [List.takeWhile_cons, List.dropWhile_cons, decide_eq_false hz]
      simp
    | succ k =>
      have hz : z ≤ x := h1 0 (by simp) (by omega)
      obtain ⟨i1, i2⟩ := ih (k := k) (by simpa using hk) (fun j hj hjk => by
        have := h1 (j + 1) (by simp; omega) (by omega)
        simpa using this) (fun hk' => by
        have := h2 (by simp; omega)
        simpa using this)
      rw [List.takeWhile_cons, List.dropWhile_cons, decide_eq_true hz]
      simp [i1, i2]
theorem insA_at {out : List Int} {x : Int} {k : Nat} (hk : k ≤ out.length) (h1 : ∀ (j : Nat) (hj : j < out.length), j < k → out[j] ≤ x) (h2 : ∀ (hk : k < out.length), x < out[k]) :
    insA out x = out.take k ++ [x] ++ out.drop k := by
  obtain ⟨e1, e2⟩ := take_whileA hk h1 h2
  rw [insA, e1, e2]
theorem asc_snoc (L : List Int) (k : Nat) (h : k < L.length) : ascA (L.take (k + 1)) = insA (ascA (L.take k)) L[k] := by
  rw [ascA, List.take_succ_eq_append_getElem h, List.foldl_append]; rfl
/-- in order -/
def AscS : List Int → Prop
  | [] => True
  | x :: r => (∀ y ∈ r, x ≤ y) ∧ AscS r
theorem insA_perm (out : List Int) (x : Int) : (insA out x).Perm (out ++ [x]) := by
  rw [insA]
  have h := List.takeWhile_append_dropWhile (p := fun y => decide (y ≤ x)) (l := out)
  have e : out ++ [x] = out.takeWhile (fun y => decide (y ≤ x)) ++ out.dropWhile (fun y => decide (y ≤ x)) ++ [x] := by rw [h]
  rw [e, List.append_assoc, List.append_assoc]
  exact List.Perm.append_left _ List.perm_append_comm
theorem ascA_perm (L : List Int) : (ascA L).Perm L := by
  have key : ∀ (L out : List Int), (L.foldl insA out).Perm (out ++ L) := by
    intro L
    induction L with
    | nil => intro out; simp
    | cons x r ih =>
      intro out
      rw [List.foldl_cons]
      exact (ih _).trans (((insA_perm out x).append_right r).trans (by rw [List.append_assoc]; exact List.Perm.refl _))
  simpa [ascA] using key L []
theorem insA_sorted : ∀ (out : List Int) (x : Int), AscS out → AscS (insA out x)
  | [], x, _ => by simp [insA, AscS]
  | z :: r, x, h => by
    by_cases hz : z ≤ x
    · have e : insA (z :: r) x = z :: insA r x := by simp [insA, hz]
      rw [e]
      refine ⟨fun y hy => ?_, insA_sorted r x h.2⟩
      have := (insA_perm r x).mem_iff.1 hy
      rcases List.mem_append.1 this with h1 | h1
      · exact h.1 y h1
      · simp at h1; omega
    · have e : insA (z :: r) x = x :: z :: r := by simp [insA, hz]
      rw [e]
      refine ⟨fun y hy => ?_, h⟩
      rcases List.mem_cons.1 hy with rfl | h1
      · omega
      · have := h.1 y h1; omega
theorem ascA_sorted (L : List Int) : AscS (ascA L) := by
  have key : ∀ (L out : List Int), AscS out → AscS (L.foldl insA out) := by
    intro L
    induction L with
    | nil => intro out h; exact h
    | cons x r ih => intro out h; exact ih _ (insA_sorted out x h)
  exact key L [] trivial
theorem ascS_get : ∀ (l : List Int), AscS l → ∀ (i j : Nat) (hj : j < l.length) (hij : i ≤ j), l[i]'(by omega) ≤ l[j]
  | x :: r, h, 0, 0, _, _ => Int.le_refl _
  | x :: r, h, 0, j + 1, hj, _ => h.1 _ (by simp)
  | x :: r, h, i + 1, j + 1, hj, hij => by
    simp only [List.getElem_cons_succ]
    exact ascS_get r h.2 i j (by simpa using hj) (by omega)
/-- in a list in order more than i are less than a bound just if number i is -/
theorem asc_count : ∀ (l : List Int), AscS l → ∀ (i : Nat) (hi : i < l.length) (b : Int), i + 1 ≤ (l.filter fun x => decide (x < b)).length ↔ l[i] < b
  | x :: r, h, 0, _, b => by
    by_cases hx : x < b
    · simp [hx]
    · have : ∀ y ∈ r, ¬ y < b := fun y hy => by have := h.1 y hy; omega
      have e : (r.filter fun x => decide (x < b)) = [] := List.filter_eq_nil_iff.2 fun y hy => by simpa using this y hy
      simp [hx, e]
  | x :: r, h, i + 1, hi, b => by
    have hi' : i < r.length := by simpa using hi
    have ih := asc_count r h.2 i hi' b
    simp only [List.getElem_cons_succ]
    by_cases hx : x < b
    · rw [List.filter_cons_of_pos (by simpa using hx), List.length_cons]
      omega
    · have hn : ¬ r[i] < b := by have := h.1 r[i] (List.getElem_mem hi'); omega
      rw [List.filter_cons_of_neg (by simpa using hx)]
      have : (r.filter fun x => decide (x < b)).length = 0 := by
        rw [List.length_eq_zero_iff]
        exact List.filter_eq_nil_iff.2 fun y hy => by have := h.1 y hy; simp; omega
      omega
theorem filter_perm_len {l m : List Int} (h : l.Perm m) (p : Int → Bool) : (l.filter p).length = (m.filter p).length := (h.filter p).length_eq
end Go.Proofs.Ytchfnbcpjiiphaa
