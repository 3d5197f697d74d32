/-
  Words on slices that a call itself makes: where they lie, and what keeps them.
  Words on lists of numbers in the call's own memory.
  Numbers put in order, each as often as it stands there.
  Words on lists of rows of numbers in the call's own memory.
  Plain facts on trees of edges and their codes: a tree is peeled leaf by leaf, and built back. Nothing of the program is named here.
  Plain facts on trees of edges whose rows ascend: what is a tree, its code, and the tree of a code. Nothing of the program is named here.
  Plain facts: the nodes that are reached, found one behind the other; rows of numbers that are a tree. Nothing of the program is named here.
  Words on a slice of numbers that came in.
  Plain facts on how many words there are of each number of pairs.
-/
import Derived.WalkKit
import Derived.Deep.AppendLies
import Derived.Laws.CopyOwn
import Derived.Lib.OthersKept
import Derived.Deep.QuietTactic
namespace Go.Proofs.Ytakpbnkncjddeaa
open Go.RowKit

/-- a row of the call's own that lies in blocks from B on and below H -/
def Own (w : World) (B H : Nat) (t : TypeId) (v : Value) (xs : List Value) : Prop :=
  w.ownsRow B t 1 v xs.length xs ∧ ∀ g, v.ownBlock = some g → g < H

section
variable {w w' : World} {B H H' : Nat} {t t' : TypeId} {v v' : Value} {xs ys : List Value}

theorem Own.more (h : Own w B H t v xs) (hH : H ≤ H') : Own w B H' t v xs := ⟨h.1, fun g hg => Nat.lt_of_lt_of_le (h.2 g hg) hH⟩
theorem Own.of_own (h : w.ownsRow B t 1 v xs.length xs) : Own w B w.heap.size t v xs := ⟨h, fun g hg => (h.lt g hg).2⟩
theorem own_of_blocks {n : Nat} (h : w.ownsRow B t 1 v n xs) (hb : ∀ g, v.ownBlock = some g → w'.heap[g]? = w.heap[g]?) : w'.ownsRow B t 1 v n xs := by
  refine ⟨h.1, ?_⟩
  rcases h.2 with hn | ⟨g, cap, cur, rfl, h1, h2, rest⟩
  · exact .inl hn
  · exact .inr ⟨g, cap, cur, rfl, h1, by rw [hb g rfl]; exact h2, rest⟩
theorem Own.below (h : Own w B H t v xs) (hb : Below H w w') : Own w' B H t v xs :=
  ⟨own_of_blocks h.1 fun g hg => hb.block g (h.2 g hg), h.2⟩
theorem Own.grown {row : Option Nat} (h : Own w B H t v xs) (hg : w.grownBy w' row) (hne : v.ownBlock = none ∨ v.ownBlock ≠ row) : Own w' B H t v xs :=
  ⟨h.1.kept hg hne, h.2⟩
theorem Own.alloc (h : Own w B H t v xs) (o : Obj) : Own (w.alloc o) B H t v xs := ⟨h.1.alloc o, h.2⟩
/-- rows of different element types never share a block -/
theorem Own.ne {B' : Nat} (h : Own w B H t v xs) (h' : Own w B' H' t' v' ys) (ht : t ≠ t') : v.ownBlock = none ∨ v.ownBlock ≠ v'.ownBlock := by
  rcases h.1.2 with ⟨rfl, _⟩ | ⟨g, cap, cur, rfl, _, h2, _⟩
  · exact .inl rfl
  · right
    rcases h'.1.2 with ⟨rfl, _⟩ | ⟨g', cap', cur', rfl, _, h2', _⟩
    · simp [Value.ownBlock]
    · intro e
      simp only [Value.ownBlock, Option.some.injEq] at e
      subst e
      rw [h2] at h2'
      simp only [Option.some.injEq, Obj.cells.injEq] at h2'
      exact ht h2'.2.1
theorem Own.slice (h : Own w B H t v xs) : ∃ ao cap, v = .slice ao xs.length cap ∧ (ao = none → xs.length = 0 ∧ cap = 0) ∧ xs.length ≤ cap ∧ cap ≤ maxLen ∧ ∀ a, ao = some a → ∃ g, a = ⟨g, 0, none⟩ ∧ B ≤ g ∧ g < H := by
  rcases h.1.2 with ⟨rfl, h0⟩ | ⟨g, cap, cur, rfl, h1, h2, h3, h4, _⟩
  · exact ⟨none, 0, by rw [h0], fun _ => ⟨h0, rfl⟩, by omega, by simp [maxLen], fun a ha => by cases ha⟩
  · exact ⟨some ⟨g, 0, none⟩, cap, rfl, (fun e => by cases e), h3, h4, fun a ha => ⟨g, by cases ha; rfl, h1, h.2 g rfl⟩⟩
/-- a cell of it, wherever it lies -/
theorem Own.cell (h : Own w B H t v xs) (j : Nat) (hj : j < xs.length) : ∃ g cap, v = .slice (some ⟨g, 0, none⟩) xs.length cap ∧ B ≤ g ∧ g < H ∧ w.cell? ⟨g, j, none⟩ = xs[j]? ∧ w.frozen? ⟨g, j, none⟩ = false := by
  rcases h.1.2 with ⟨rfl, h0⟩ | ⟨g, cap, cur, rfl, h1, h2, h3, h4, _⟩
  · omega
  · exact ⟨g, cap, rfl, h1, h.2 g rfl, h.1.cellAt j (by omega), h.1.frozenAt j⟩
/-- its last element dropped -/
theorem Own.pop {g cap n m : Nat} (h : Own w B H t (.slice (some ⟨g, 0, none⟩) m cap) xs) (hl : xs.length = n + 1) : Own w B H t (.slice (some ⟨g, 0, none⟩) n cap) xs.dropLast := by
  obtain ⟨⟨_, h7⟩, h8⟩ := h
  rcases h7 with ⟨h0, _⟩ | ⟨g', cap', cur, hv, h1, h2, h3, h4, h5, h6⟩
  · cases h0
  · have hg : g = g' ∧ cap = cap' := by simp only [Value.slice.injEq, Option.some.injEq, Addr.mk.injEq, and_true] at hv; exact ⟨hv.1, hv.2.2⟩
    obtain ⟨rfl, rfl⟩ := hg
    have hd : xs.dropLast.length = n := by rw [List.length_dropLast, hl]; rfl
    refine ⟨⟨by rw [hd]; omega, .inr ⟨g, cap, cur, by rw [hd], h1, h2, by rw [hd]; omega, h4, h5, ?_⟩⟩, fun q hq => h8 q hq⟩
    have e : xs.dropLast = xs.take n := by rw [List.dropLast_eq_take, hl]; rfl
    rw [hd, e, ← h6, List.take_take, hl]
    congr 1
    omega
/-- a row that is full is known whole -/
theorem own_full {g n : Nat} (h : w.ownsRow B t 1 (.slice (some ⟨g, 0, none⟩) n n) n xs) : w.heap[g]? = some (.cells xs.toArray t (0, 0)) := by
  rcases h.2 with ⟨h0, _⟩ | ⟨g', cap', cur, hv, h1, h2, h3, h4, h5, h6⟩
  · cases h0
  · cases hv
    rw [h2, ← h6, List.take_of_length_le (by simp [h5])]
theorem own_of_full {g n : Nat} (hB : B ≤ g) (hn : n ≤ maxLen) (hl : xs.length = n) (h : w.heap[g]? = some (.cells xs.toArray t (0, 0))) : w.ownsRow B t 1 (.slice (some ⟨g, 0, none⟩) n n) n xs :=
  ⟨by simp [hl], .inr ⟨g, n, xs.toArray, rfl, hB, h, Nat.le_refl _, hn, by simp [hl], by simp [hl.symm]⟩⟩
end
end Go.Proofs.Ytakpbnkncjddeaa

namespace Go.Proofs.Ytakpbnkncjddeaa
open Go.RowKit

def iv (l : List Int) : List Value := l.map (Value.int .i64)
theorem iv_length (l : List Int) : (iv l).length = l.length := by simp [iv]
theorem iv_at (l : List Int) (k : Nat) (h : k < l.length) : (iv l)[k]? = some (.int .i64 l[k]) := by simp [iv, h]
theorem iv_set (l : List Int) (k : Nat) (n : Int) : (iv l).set k (.int .i64 n) = iv (l.set k n) := by simp [iv, List.map_set]
theorem iv_snoc (l : List Int) (n : Int) : iv l ++ [.int .i64 n] = iv (l ++ [n]) := by simp [iv]

/-- nothing but draws -/
def Same (w w' : World) : Prop := w'.heap = w.heap ∧ Below w.heap.size w w'
theorem Same.refl (w : World) : Same w w := ⟨rfl, Below.refl _ _⟩
theorem Same.drewN {w w' : World} (h : Same w w') (n : Nat) : Same w (w'.drewN n) := ⟨h.1, h.2.trans ⟨rfl, rfl, rfl, Nat.le_refl _, fun _ _ => rfl⟩⟩
theorem Same.below {w w' : World} (h : Same w w') (B : Nat) : Below B w w' := ⟨h.2.os, h.2.tape, h.2.output, h.2.size, fun k _ => by rw [h.1]⟩
theorem Own.same {w w' : World} {B H : Nat} {t : TypeId} {v : Value} {xs : List Value} (h : Own w B H t v xs) (e : w'.heap = w.heap) : Own w' B H t v xs :=
  ⟨own_of_blocks h.1 fun g _ => by rw [e], h.2⟩
/-- the cell at a place, of a slice whose shape is known -/
theorem Own.at_ {w : World} {B H : Nat} {t : TypeId} {ao : Option Addr} {n c : Nat} {xs : List Value} (h : Own w B H t (.slice ao n c) xs) (k : Nat) (hk : k < xs.length) :
    ∃ g, ao = some ⟨g, 0, none⟩ ∧ B ≤ g ∧ g < H ∧ w.cell? ⟨g, k, none⟩ = xs[k]? ∧ w.frozen? ⟨g, k, none⟩ = false := by
  obtain ⟨g, cap, hv, h1, h2, h3, h4⟩ := h.cell k hk
  simp only [Value.slice.injEq] at hv
  exact ⟨g, hv.1, h1, h2, h3, h4⟩

end Go.Proofs.Ytakpbnkncjddeaa

namespace Go.Proofs.Ytakpbnkncjddeaa

/-- a number put into a list in order, behind those that are at most it -/
def insA (out : List Int) (x : Int) : List Int := out.takeWhile (fun y => decide (y ≤ x)) ++ [x] ++ out.dropWhile (fun y => decide (y ≤ x))
def ascA (L : List Int) : List Int := L.foldl insA []
theorem take_whileA {out : List Int} {x : Int} : ∀ {k : Nat}, k ≤ out.length → (∀ (j : Nat) (hj : j < out.length), j < k → out[j] ≤ x) → (∀ (hk : k < out.length), x < out[k]) →
    out.takeWhile (fun y => decide (y ≤ x)) = out.take k ∧ out.dropWhile (fun y => decide (y ≤ x)) = out.drop k := by
  induction out with
  | nil => intro k hk _ _; simp
  | cons z r ih =>
    intro k hk h1 h2
    cases k with
    | zero =>
      have hz : ¬ z ≤ x := by have := h2 (by simp); simp at this; omega
      rw [List.takeWhile_cons, List.dropWhile_cons, decide_eq_false hz]
      simp
    | succ k =>
      have hz : z ≤ x := h1 0 (by simp) (by omega)
      obtain ⟨i1, i2⟩ := ih (k := k) (by simpa using hk) (fun j hj hjk => by
        have := h1 (j + 1) (by simp; omega) (by omega)
        simpa using this) (fun hk' => by
        have := h2 (by simp; omega)
        simpa using this)
      rw [List.takeWhile_cons, List.dropWhile_cons, decide_eq_true hz]
      simp [i1, i2]
theorem insA_at {out : List Int} {x : Int} {k : Nat} (hk : k ≤ out.length) (h1 : ∀ (j : Nat) (hj : j < out.length), j < k → out[j] ≤ x) (h2 : ∀ (hk : k < out.length), x < out[k]) :
    insA out x = out.take k ++ [x] ++ out.drop k := by
  obtain ⟨e1, e2⟩ := take_whileA hk h1 h2
  rw [insA, e1, e2]
theorem asc_snoc (L : List Int) (k : Nat) (h : k < L.length) : ascA (L.take (k + 1)) = insA (ascA (L.take k)) L[k] := by
  rw [ascA, List.take_succ_eq_append_getElem h, List.foldl_append]; rfl
/-- in order -/
def AscS : List Int → Prop
  | [] => True
  | x :: r => (∀ y ∈ r, x ≤ y) ∧ AscS r
theorem insA_perm (out : List Int) (x : Int) : (insA out x).Perm (out ++ [x]) := by
  rw [insA]
  have h := List.takeWhile_append_dropWhile (p := fun y => decide (y ≤ x)) (l := out)
  have e : out ++ [x] = out.takeWhile (fun y => decide (y ≤ x)) ++ out.dropWhile (fun y => decide (y ≤ x)) ++ [x] := by rw [h]
  rw [e, List.append_assoc, List.append_assoc]
  exact List.Perm.append_left _ List.perm_append_comm
theorem ascA_perm (L : List Int) : (ascA L).Perm L := by
  have key : ∀ (L out : List Int), (L.foldl insA out).Perm (out ++ L) := by
    intro L
    induction L with
    | nil => intro out; simp
    | cons x r ih =>
      intro out
      rw [List.foldl_cons]
      exact (ih _).trans (((insA_perm out x).append_right r).trans (by rw [List.append_assoc]; exact List.Perm.refl _))
  simpa [ascA] using key L []
theorem insA_sorted : ∀ (out : List Int) (x : Int), AscS out → AscS (insA out x)
  | [], x, _ => by simp [insA, AscS]
  | z :: r, x, h => by
    by_cases hz : z ≤ x
    · have e : insA (z :: r) x = z :: insA r x := by simp [insA, hz]
      rw [e]
      refine ⟨fun y hy => ?_, insA_sorted r x h.2⟩
      have := (insA_perm r x).mem_iff.1 hy
      rcases List.mem_append.1 this with h1 | h1
      · exact h.1 y h1
      · simp at h1; omega
    · have e : insA (z :: r) x = x :: z :: r := by simp [insA, hz]
      rw [e]
      refine ⟨fun y hy => ?_, h⟩
      rcases List.mem_cons.1 hy with rfl | h1
      · omega
      · have := h.1 y h1; omega
theorem ascA_sorted (L : List Int) : AscS (ascA L) := by
  have key : ∀ (L out : List Int), AscS out → AscS (L.foldl insA out) := by
    intro L
    induction L with
    | nil => intro out h; exact h
    | cons x r ih => intro out h; exact ih _ (insA_sorted out x h)
  exact key L [] trivial
theorem ascS_get : ∀ (l : List Int), AscS l → ∀ (i j : Nat) (hj : j < l.length) (hij : i ≤ j), l[i]'(by omega) ≤ l[j]
  | x :: r, h, 0, 0, _, _ => Int.le_refl _
  | x :: r, h, 0, j + 1, hj, _ => h.1 _ (by simp)
  | x :: r, h, i + 1, j + 1, hj, hij => by
    simp only [List.getElem_cons_succ]
    exact ascS_get r h.2 i j (by simpa using hj) (by omega)
/-- in a list in order more than i are less than a bound just if number i is -/
theorem asc_count : ∀ (l : List Int), AscS l → ∀ (i : Nat) (hi : i < l.length) (b : Int), i + 1 ≤ (l.filter fun x => decide (x < b)).length ↔ l[i] < b
  | x :: r, h, 0, _, b => by
    by_cases hx : x < b
    · simp [hx]
    · have : ∀ y ∈ r, ¬ y < b := fun y hy => by have := h.1 y hy; omega
      have e : (r.filter fun x => decide (x < b)) = [] := List.filter_eq_nil_iff.2 fun y hy => by simpa using this y hy
      simp [hx, e]
  | x :: r, h, i + 1, hi, b => by
    have hi' : i < r.length := by simpa using hi
    have ih := asc_count r h.2 i hi' b
    simp only [List.getElem_cons_succ]
    by_cases hx : x < b
    · rw [List.filter_cons_of_pos (by simpa using hx), List.length_cons]
      omega
    · have hn : ¬ r[i] < b := by have := h.1 r[i] (List.getElem_mem hi'); omega
      rw [List.filter_cons_of_neg (by simpa using hx)]
      have : (r.filter fun x => decide (x < b)).length = 0 := by
        rw [List.length_eq_zero_iff]
        exact List.filter_eq_nil_iff.2 fun y hy => by have := h.1 y hy; simp; omega
      omega
theorem filter_perm_len {l m : List Int} (h : l.Perm m) (p : Int → Bool) : (l.filter p).length = (m.filter p).length := (h.filter p).length_eq
end Go.Proofs.Ytakpbnkncjddeaa

namespace Go.Proofs.Ytakpbnkncjddeaa
open Go.RowKit

/-- each row holds its numbers -/
def RowsI (w : World) (B H : Nat) (RV : List Value) (rows : List (List Int)) : Prop :=
  RV.length = rows.length ∧ ∀ (i : Nat) (v : Value) (r : List Int), RV[i]? = some v → rows[i]? = some r → Own w B H 3 v (iv r)
/-- no two rows share a block -/
def Dist (RV : List Value) : Prop := ∀ (i j : Nat) (u v : Value), i < j → RV[i]? = some u → RV[j]? = some v → u.ownBlock = none ∨ u.ownBlock ≠ v.ownBlock
/-- a list of rows -/
def Grid (w : World) (B H : Nat) (v : Value) (RV : List Value) (rows : List (List Int)) : Prop := Own w B H 23 v RV ∧ RowsI w B H RV rows

section
variable {w w' : World} {B H H' : Nat} {v : Value} {RV RV' : List Value} {rows rows' : List (List Int)}
theorem RowsI.more (h : RowsI w B H RV rows) (hH : H ≤ H') : RowsI w B H' RV rows := ⟨h.1, fun i v r h1 h2 => (h.2 i v r h1 h2).more hH⟩
theorem RowsI.below (h : RowsI w B H RV rows) (hb : Below H w w') : RowsI w' B H RV rows := ⟨h.1, fun i v r h1 h2 => (h.2 i v r h1 h2).below hb⟩
theorem RowsI.same (h : RowsI w B H RV rows) (e : w'.heap = w.heap) : RowsI w' B H RV rows := ⟨h.1, fun i v r h1 h2 => (h.2 i v r h1 h2).same e⟩
theorem Grid.more (h : Grid w B H v RV rows) (hH : H ≤ H') : Grid w B H' v RV rows := ⟨h.1.more hH, h.2.more hH⟩
theorem Grid.below (h : Grid w B H v RV rows) (hb : Below H w w') : Grid w' B H v RV rows := ⟨h.1.below hb, h.2.below hb⟩
theorem Grid.same (h : Grid w B H v RV rows) (e : w'.heap = w.heap) : Grid w' B H v RV rows := ⟨h.1.same e, h.2.same e⟩
theorem own_lo {B' : Nat} {t : TypeId} {xs : List Value} (h : Own w B H t v xs) (hB : B' ≤ B) : Own w B' H t v xs :=
  ⟨⟨h.1.1, h.1.2.imp id (fun ⟨g, cap, cur, e1, hg, r⟩ => ⟨g, cap, cur, e1, by omega, r⟩)⟩, h.2⟩
theorem RowsI.lo {B' : Nat} (h : RowsI w B H RV rows) (hB : B' ≤ B) : RowsI w B' H RV rows := ⟨h.1, fun i v r h1 h2 => own_lo (h.2 i v r h1 h2) hB⟩
theorem Grid.lo {B' : Nat} (h : Grid w B H v RV rows) (hB : B' ≤ B) : Grid w B' H v RV rows := ⟨own_lo h.1 hB, h.2.lo hB⟩
theorem RowsI.nil : RowsI w B H [] [] := ⟨rfl, fun i v r h => by simp at h⟩
theorem RowsI.append (h : RowsI w B H RV rows) (h' : RowsI w B H RV' rows') : RowsI w B H (RV ++ RV') (rows ++ rows') := by
  refine ⟨by rw [List.length_append, List.length_append, h.1, h'.1], fun i u r h1 h2 => ?_⟩
  by_cases hi : i < RV.length
  · rw [List.getElem?_append_left hi] at h1
    rw [List.getElem?_append_left (by rw [← h.1]; exact hi)] at h2
    exact h.2 i u r h1 h2
  · rw [List.getElem?_append_right (by omega)] at h1
    rw [List.getElem?_append_right (by rw [← h.1]; omega)] at h2
    rw [← h.1] at h2
    exact h'.2 _ u r h1 h2
theorem RowsI.one {u : Value} {r : List Int} (h : Own w B H 3 u (iv r)) : RowsI w B H [u] [r] := by
  refine ⟨rfl, fun i x y h1 h2 => ?_⟩
  cases i with
  | zero => simp at h1 h2; subst h1; subst h2; exact h
  | succ i => simp at h1
theorem RowsI.at_ (h : RowsI w B H RV rows) (i : Nat) (hi : i < rows.length) : ∃ u, RV[i]? = some u ∧ Own w B H 3 u (iv rows[i]) := by
  have hi' : i < RV.length := by rw [h.1]; exact hi
  exact ⟨_, List.getElem?_eq_getElem hi', h.2 i _ _ (List.getElem?_eq_getElem hi') (List.getElem?_eq_getElem hi)⟩
/-- rows of numbers are no rows of rows: a change of the one leaves the other -/
theorem RowsI.grown {t : TypeId} {u : Value} {xs : List Value} {B₁ H₁ : Nat} (h : RowsI w B H RV rows) (hu : Own w B₁ H₁ t u xs) (ht : 3 ≠ t) (hg : w.grownBy w' u.ownBlock) : RowsI w' B H RV rows :=
  ⟨h.1, fun i v r h1 h2 => (h.2 i v r h1 h2).grown hg ((h.2 i v r h1 h2).ne hu ht)⟩
theorem RowsI.fresh (h : RowsI w B H RV rows) (hb : Below w.heap.size w w') (hH : H ≤ w.heap.size) : RowsI w' B H RV rows := h.below (hb.mono hH)
end
end Go.Proofs.Ytakpbnkncjddeaa

namespace Go.Proofs.Ytakpbnkncjddeaa

abbrev Edges := List (Nat × Nat)
/-- how often a node is an end -/
def deg1 (e : Nat × Nat) (v : Nat) : Nat := (if e.1 = v then 1 else 0) + (if e.2 = v then 1 else 0)
def deg (E : Edges) (v : Nat) : Nat := (E.map fun e => deg1 e v).sum
theorem deg_nil (v : Nat) : deg [] v = 0 := rfl
theorem deg_cons (e : Nat × Nat) (E : Edges) (v : Nat) : deg (e :: E) v = deg1 e v + deg E v := by simp [deg]
theorem deg_append (A B : Edges) (v : Nat) : deg (A ++ B) v = deg A v + deg B v := by simp [deg]
def touches (v : Nat) (e : Nat × Nat) : Bool := decide (e.1 = v) || decide (e.2 = v)
def other (v : Nat) (e : Nat × Nat) : Nat := if e.1 = v then e.2 else e.1
theorem touch_iff (e : Nat × Nat) (v : Nat) : touches v e = true ↔ deg1 e v ≠ 0 := by
  unfold touches deg1
  by_cases h1 : e.1 = v <;> by_cases h2 : e.2 = v <;> simp [h1, h2]
/-- the lesser one first -/
def norm (e : Nat × Nat) : Nat × Nat := (min e.1 e.2, max e.1 e.2)
theorem norm_cases (e : Nat × Nat) : norm e = e ∨ norm e = (e.2, e.1) := by
  unfold norm
  by_cases h : e.1 ≤ e.2
  · left; rw [Nat.min_eq_left h, Nat.max_eq_right h]
  · right; rw [Nat.min_eq_right (by omega), Nat.max_eq_left (by omega)]
theorem deg1_flip (a b v : Nat) : deg1 (a, b) v = deg1 (b, a) v := by unfold deg1; simp only; omega
theorem deg1_norm (e : Nat × Nat) (v : Nat) : deg1 (norm e) v = deg1 e v := by
  rcases norm_cases e with h | h
  · rw [h]
  · rw [h]; exact deg1_flip _ _ _
theorem other_norm (e : Nat × Nat) (v : Nat) (h : deg1 e v = 1) : other v (norm e) = other v e := by
  rcases norm_cases e with k | k
  · rw [k]
  · rw [k]
    unfold other deg1 at *
    simp only at *
    by_cases h1 : e.1 = v <;> by_cases h2 : e.2 = v <;> simp_all
theorem norm_eq {a b c d : Nat} (h : norm (a, b) = norm (c, d)) : (a = c ∧ b = d) ∨ (a = d ∧ b = c) := by
  unfold norm at h
  simp only [Prod.mk.injEq] at h
  omega
theorem deg_perm {A B : Edges} (h : A.Perm B) (v : Nat) : deg A v = deg B v := (h.map _).sum_nat
theorem deg_norm (A : Edges) (v : Nat) : deg (A.map norm) v = deg A v := by
  induction A with
  | nil => rfl
  | cons e r ih => rw [List.map_cons, deg_cons, deg_cons, deg1_norm, ih]
/-- the same edges, in whatever order, each in whatever direction -/
def SameE (A B : Edges) : Prop := (A.map norm).Perm (B.map norm)
theorem SameE.deg {A B : Edges} (h : SameE A B) (v : Nat) : deg A v = deg B v := by rw [← deg_norm A, ← deg_norm B, deg_perm h]
theorem SameE.length {A B : Edges} (h : SameE A B) : A.length = B.length := by simpa using List.Perm.length_eq h
theorem SameE.symm {A B : Edges} (h : SameE A B) : SameE B A := List.Perm.symm h
theorem SameE.trans {A B C : Edges} (h : SameE A B) (k : SameE B C) : SameE A C := List.Perm.trans h k
theorem SameE.refl (A : Edges) : SameE A A := List.Perm.refl _
theorem norm_norm (e : Nat × Nat) : norm (norm e) = norm e := by unfold norm; simp only [Prod.mk.injEq]; omega
theorem same_norm (A : Edges) : SameE (A.map norm) A := by
  show ((A.map norm).map norm).Perm (A.map norm)
  rw [List.map_map, show (norm ∘ norm) = norm from funext norm_norm]

/-- the least node with one edge -/
def leastL (n : Nat) (d : Nat → Nat) : Option Nat := (List.range n).find? fun v => decide (d v = 1)
theorem least_some {n : Nat} {d : Nat → Nat} {l : Nat} : leastL n d = some l ↔ l < n ∧ d l = 1 ∧ ∀ v, v < l → d v ≠ 1 := by
  unfold leastL
  induction n with
  | zero => simp
  | succ n ih =>
    rw [List.range_succ, List.find?_append]
    cases hf : (List.range n).find? (fun v => decide (d v = 1)) with
    | some k =>
      have hk := ih
      rw [hf] at hk
      simp only [Option.some_or]
      constructor
      · intro e
        obtain ⟨h1, h2, h3⟩ := hk.1 e
        exact ⟨by omega, h2, h3⟩
      · rintro ⟨h1, h2, h3⟩
        by_cases hl : l < n
        · exact hk.2 ⟨hl, h2, h3⟩
        · exfalso
          have := List.find?_some hf
          have hm := List.mem_of_find?_eq_some hf
          rw [List.mem_range] at hm
          exact h3 k (by omega) (by simpa using this)
    | none =>
      have hno : ∀ v, v < n → d v ≠ 1 := fun v hv => by simpa using List.find?_eq_none.1 hf v (List.mem_range.2 hv)
      simp only [Option.none_or, List.find?_cons, List.find?_nil]
      by_cases hn : d n = 1
      · simp only [hn, decide_true, Option.some.injEq]
        constructor
        · rintro rfl; exact ⟨by omega, hn, hno⟩
        · rintro ⟨h1, h2, h3⟩
          have : ¬ l < n := fun h => hno l h h2
          omega
      · simp only [hn, decide_false]
        constructor
        · intro h; cases h
        · rintro ⟨h1, h2, h3⟩
          by_cases hl : l < n
          · exact absurd h2 (hno l hl)
          · obtain rfl : l = n := by omega
            exact absurd h2 hn
theorem least_congr {n : Nat} {d d' : Nat → Nat} (h : ∀ v, d v = d' v) : leastL n d = leastL n d' := by
  rw [show d = d' from funext h]

/-- a code: leaf by leaf -/
def codeE (n : Nat) : Nat → Edges → List Nat
  | 0, _ => []
  | k + 1, E => match leastL n (deg E) with
    | none => []
    | some l => (E.filter (touches l)).map (other l) ++ codeE n k (E.filter fun e => !touches l e)
def down (d : Nat → Nat) (l c : Nat) : Nat → Nat := fun v => if v = l then 0 else if v = c then d v - 1 else d v
/-- the edges of a code, in the order in which they are found -/
def treeE (n : Nat) : List Nat → (Nat → Nat) → Edges
  | [], d => match (List.range n).filter fun v => decide (d v = 1) with
    | [a, b] => [(a, b)]
    | _ => []
  | c :: r, d => match leastL n d with
    | none => []
    | some l => (l, c) :: treeE n r (down d l c)

/-- edges in the order in which they are left out, and the code that they give -/
inductive Pl (n : Nat) : Edges → List Nat → Prop where
  | last (a b : Nat) : a < b → b < n → Pl n [(a, b)] []
  | step (l x : Nat) (es : Edges) (c : List Nat) : l < n → x < n → l ≠ x → deg es l = 0 → deg es x ≠ 0 → leastL n (deg ((l, x) :: es)) = some l → Pl n es c → Pl n ((l, x) :: es) (x :: c)
theorem Pl.length {n : Nat} {es : Edges} {c : List Nat} (h : Pl n es c) : es.length = c.length + 1 := by
  induction h with
  | last => rfl
  | step _ _ _ _ _ _ _ _ _ _ _ ih => simp [ih]
theorem deg1_self {l x : Nat} (h : l ≠ x) : deg1 (l, x) l = 1 := by unfold deg1; simp [Ne.symm h]
theorem deg1_other {l x : Nat} (h : l ≠ x) : deg1 (l, x) x = 1 := by unfold deg1; simp [h]
theorem deg1_none {l x v : Nat} (h1 : v ≠ l) (h2 : v ≠ x) : deg1 (l, x) v = 0 := by unfold deg1; simp [Ne.symm h1, Ne.symm h2]
/-- degrees are told by codes -/
theorem Pl.deg_count {n : Nat} {es : Edges} {c : List Nat} (h : Pl n es c) (v : Nat) : deg es v = (if deg es v = 0 then 0 else 1) + c.count v := by
  induction h with
  | last a b hab hb =>
    rw [deg_cons, deg_nil, List.count_nil]
    by_cases h1 : v = a
    · subst h1; rw [deg1_self (by omega)]; rfl
    · by_cases h2 : v = b
      · subst h2; rw [deg1_other (by omega)]; rfl
      · rw [deg1_none h1 h2]; rfl
  | step l x es c hl hx hlx hdl hdx _ hp ih =>
    rw [deg_cons, List.count_cons]
    by_cases h1 : v = l
    · subst h1
      have hc : c.count v = 0 := by rw [hdl] at ih; simp at ih; exact ih.symm
      rw [deg1_self hlx, hdl, hc]
      simp [Ne.symm hlx]
    · by_cases h2 : v = x
      · subst h2
        rw [if_neg hdx] at ih
        rw [deg1_other hlx]
        simp
        omega
      · rw [deg1_none h1 h2, Nat.zero_add]
        have : (x == v) = false := by simp [Ne.symm h2]
        rw [this]
        simpa using ih
theorem Pl.lt {n : Nat} {es : Edges} {c : List Nat} (h : Pl n es c) : ∀ e ∈ es, e.1 < n ∧ e.2 < n ∧ e.1 ≠ e.2 := by
  induction h with
  | last a b hab hb => intro e he; simp at he; subst he; simp only; omega
  | step l x es c hl hx hlx _ _ _ _ ih =>
    intro e he
    rcases List.mem_cons.1 he with rfl | he
    · exact ⟨hl, hx, hlx⟩
    · exact ih e he
theorem asc_nat : ∀ (L M : List Nat), L.Pairwise (· < ·) → M.Pairwise (· < ·) → (∀ x, x ∈ L ↔ x ∈ M) → L = M
  | [], [], _, _, _ => rfl
  | [], y :: M, _, _, h => by have := (h y).2 (by simp); simp at this
  | x :: L, [], _, _, h => by have := (h x).1 (by simp); simp at this
  | x :: L, y :: M, h1, h2, h => by
    obtain ⟨a1, a2⟩ := List.pairwise_cons.1 h1
    obtain ⟨b1, b2⟩ := List.pairwise_cons.1 h2
    have hxy : x = y := by
      rcases List.mem_cons.1 ((h x).1 (by simp)) with e | m1
      · exact e
      · rcases List.mem_cons.1 ((h y).2 (by simp)) with e | m2
        · exact e.symm
        · have q1 := b1 x m1
          have q2 := a1 y m2
          omega
    subst hxy
    have : L = M := asc_nat L M a2 b2 (fun z => by
      have hz := h z
      simp only [List.mem_cons] at hz
      constructor
      · intro m
        rcases hz.1 (.inr m) with e | m'
        · subst e; have := a1 z m; omega
        · exact m'
      · intro m
        rcases hz.2 (.inr m) with e | m'
        · subst e; have := b1 z m; omega
        · exact m')
    rw [this]
theorem filter_two {n a b : Nat} (hab : a < b) (hb : b < n) : ((List.range n).filter fun v => decide (deg [(a, b)] v = 1)) = [a, b] := by
  have hd : ∀ v, deg [(a, b)] v = 1 ↔ v = a ∨ v = b := by
    intro v
    rw [deg_cons, deg_nil]
    by_cases h1 : v = a
    · subst h1; rw [deg1_self (by omega)]; simp
    · by_cases h2 : v = b
      · subst h2; rw [deg1_other (by omega)]; simp
      · rw [deg1_none h1 h2]; simp [h1, h2]
  apply asc_nat
  · exact (List.pairwise_lt_range).filter _
  · simpa using hab
  · intro v
    rw [List.mem_filter, List.mem_range, decide_eq_true_iff, hd]
    simp only [List.mem_cons, List.mem_nil_iff, or_false]
    omega
/-- a code gives the edges back -/
theorem Pl.tree {n : Nat} {es : Edges} {c : List Nat} (h : Pl n es c) : treeE n c (deg es) = es := by
  induction h with
  | last a b hab hb => rw [treeE, filter_two hab hb]
  | step l x es c hl hx hlx hdl hdx hm hp ih =>
    rw [treeE, hm]
    simp only
    have e1 : down (deg ((l, x) :: es)) l x = deg es := by
      funext v
      unfold down
      rw [deg_cons]
      by_cases h1 : v = l
      · subst h1; rw [if_pos rfl, hdl]
      · rw [if_neg h1]
        by_cases h2 : v = x
        · subst h2; rw [if_pos rfl, deg1_other hlx]; omega
        · rw [if_neg h2, deg1_none h1 h2]; omega
    rw [e1, ih]

/-! ### a code is told by the edges, in whatever order they stand -/
theorem filter_same {A B : Edges} (h : SameE A B) (l : Nat) : SameE (A.filter fun e => !touches l e) (B.filter fun e => !touches l e) := by
  have key : ∀ X : Edges, (X.filter fun e => !touches l e).map norm = (X.map norm).filter fun e => !touches l e := by
    intro X
    rw [List.filter_map]
    congr 1
    apply List.filter_congr
    intro e _
    have : touches l (norm e) = touches l e := by
      rw [Bool.eq_iff_iff, touch_iff, touch_iff, deg1_norm]
    simp [this]
  show (List.map norm _).Perm (List.map norm _)
  rw [key, key]
  exact List.Perm.filter _ h
theorem touch_same {A B : Edges} (h : SameE A B) (l : Nat) (hd : deg B l = 1) : ((A.filter (touches l)).map (other l)).Perm ((B.filter (touches l)).map (other l)) := by
  have key : ∀ X : Edges, deg X l = 1 → (X.filter (touches l)).map (other l) = ((X.map norm).filter (touches l)).map (other l) := by
    intro X hX
    rw [List.filter_map, List.map_map]
    have e1 : (touches l ∘ norm) = touches l := by
      funext e
      rw [Bool.eq_iff_iff]
      show touches l (norm e) = true ↔ _
      rw [touch_iff, touch_iff, deg1_norm]
    rw [e1]
    apply List.map_congr_left
    intro e he
    obtain ⟨he1, he2⟩ := List.mem_filter.1 he
    have hle : deg1 e l ≤ deg X l := by
      clear hX he he2 e1
      induction X with
      | nil => simp at he1
      | cons y r ih =>
        rw [deg_cons]
        rcases List.mem_cons.1 he1 with rfl | h
        · omega
        · have := ih h; omega
    rw [touch_iff] at he2
    exact (other_norm e l (by omega)).symm
  rw [key A (by rw [h.deg, hd]), key B hd]
  exact (List.Perm.filter _ h).map _
theorem filter_out {es : Edges} {l : Nat} (h : deg es l = 0) : es.filter (touches l) = [] ∧ (es.filter fun e => !touches l e) = es := by
  have hno : ∀ e ∈ es, touches l e = false := by
    intro e he
    cases ht : touches l e with
    | false => rfl
    | true =>
      exfalso
      rw [touch_iff] at ht
      induction es with
      | nil => simp at he
      | cons y r ih =>
        rw [deg_cons] at h
        rcases List.mem_cons.1 he with rfl | he
        · omega
        · exact ih (by omega) he
  exact ⟨List.filter_eq_nil_iff.2 fun e he => by rw [hno e he]; simp, List.filter_eq_self.2 fun e he => by rw [hno e he]; rfl⟩
theorem Pl.code {n : Nat} {es : Edges} {c : List Nat} (h : Pl n es c) : ∀ F, SameE F es → codeE n c.length F = c := by
  induction h with
  | last a b _ _ => intro F _; rfl
  | step l x es c hl hx hlx hdl hdx hm hp ih =>
    intro F hF
    rw [List.length_cons, codeE, least_congr (hF.deg), hm]
    simp only
    have t1 : touches l (l, x) = true := by simp [touches]
    obtain ⟨f1, f2⟩ := filter_out hdl
    have hd1 : deg ((l, x) :: es) l = 1 := by rw [deg_cons, deg1_self hlx, hdl]
    have e1 := touch_same hF l hd1
    rw [List.filter_cons_of_pos t1, f1] at e1
    have e2 : (F.filter (touches l)).map (other l) = [x] := by
      have e3 := List.perm_singleton.1 e1
      rw [e3]
      simp [other]
    have s2 := filter_same hF l
    have e4 : (((l, x) :: es).filter fun e => !touches l e) = es := by
      rw [List.filter_cons_of_neg (by simp [t1]), f2]
    rw [e4] at s2
    rw [e2, ih _ s2]
    rfl

/-- one round of leaving out -/
theorem Pl.round {n x : Nat} {es : Edges} {c : List Nat} (h : Pl n es (x :: c)) {F : Edges} (hF : SameE F es) :
    ∃ l es', leastL n (deg F) = some l ∧ (F.filter (touches l)).map (other l) = [x] ∧ Pl n es' c ∧ SameE (F.filter fun e => !touches l e) es' := by
  cases h with
  | step l _ es' _ hl hx hlx hdl hdx hm hp =>
    have t1 : touches l (l, x) = true := by simp [touches]
    obtain ⟨f1, f2⟩ := filter_out hdl
    have hd1 : deg ((l, x) :: es') l = 1 := by rw [deg_cons, deg1_self hlx, hdl]
    have e1 := touch_same hF l hd1
    rw [List.filter_cons_of_pos t1, f1] at e1
    have s2 := filter_same hF l
    have e4 : (((l, x) :: es').filter fun e => !touches l e) = es' := by
      rw [List.filter_cons_of_neg (by simp [t1]), f2]
    rw [e4] at s2
    refine ⟨l, es', by rw [least_congr (hF.deg)]; exact hm, ?_, hp, s2⟩
    rw [List.perm_singleton.1 e1]
    simp [other]

/-! ### each code has edges -/
/-- degrees that fit a code: those that are there have one more than they are written down -/
def Fits (n : Nat) (S : List Nat) (c : List Nat) (d : Nat → Nat) : Prop :=
  S.Pairwise (· < ·) ∧ (∀ v ∈ S, v < n) ∧ (∀ x ∈ c, x ∈ S) ∧ S.length = c.length + 2 ∧ ∀ v, d v = (if v ∈ S then 1 else 0) + c.count v
theorem fits_leaf {n : Nat} {S c : List Nat} {d : Nat → Nat} (h : Fits n S c d) : ∃ l, leastL n d = some l ∧ l ∈ S ∧ l ∉ c := by
  obtain ⟨h1, h2, h3, h4, h5⟩ := h
  have hex : ∃ v ∈ S, v ∉ c := by
    apply Classical.byContradiction
    intro hno
    have hsub : ∀ v ∈ S, v ∈ c := fun v hv => Classical.byContradiction fun hc => hno ⟨v, hv, hc⟩
    have hnd : S.Nodup := h1.imp fun hab => by omega
    have := List.Nodup.length_le_of_subset hnd hsub
    omega
  obtain ⟨v, hv, hc⟩ := hex
  have hdv : d v = 1 := by rw [h5, if_pos hv, List.count_eq_zero.2 hc]
  cases hl : leastL n d with
  | none =>
    exfalso
    unfold leastL at hl
    have := List.find?_eq_none.1 hl v (List.mem_range.2 (h2 v hv))
    simp [hdv] at this
  | some l =>
    obtain ⟨l1, l2, l3⟩ := least_some.1 hl
    rw [h5] at l2
    by_cases hls : l ∈ S
    · rw [if_pos hls] at l2
      exact ⟨l, rfl, hls, List.count_eq_zero.1 (by omega)⟩
    · rw [if_neg hls] at l2
      exfalso
      have : l ∈ c := List.count_pos_iff.1 (by omega)
      exact hls (h3 l this)
theorem fits_two {n a b : Nat} {d : Nat → Nat} (h : Fits n [a, b] [] d) : (List.range n).filter (fun v => decide (d v = 1)) = [a, b] ∧ a < b ∧ b < n := by
  obtain ⟨h1, h2, h3, h4, h5⟩ := h
  have hab : a < b := by simpa using h1
  have hb := h2 b (by simp)
  refine ⟨?_, hab, hb⟩
  apply asc_nat
  · exact (List.pairwise_lt_range).filter _
  · exact h1
  · intro v
    rw [List.mem_filter, List.mem_range, decide_eq_true_iff, h5, List.count_nil]
    constructor
    · rintro ⟨_, h⟩
      by_cases hm : v ∈ [a, b]
      · exact hm
      · rw [if_neg hm] at h; simp at h
    · intro hm
      exact ⟨h2 v hm, by rw [if_pos hm]⟩
theorem fits_down {n l x : Nat} {S c : List Nat} {d : Nat → Nat} (h : Fits n S (x :: c) d) (hl : l ∈ S) (hlc : l ∉ x :: c) : Fits n (S.filter fun v => decide (v ≠ l)) c (down d l x) := by
  obtain ⟨h1, h2, h3, h4, h5⟩ := h
  have hx : x ≠ l := fun e => hlc (by simp [e])
  have hc : l ∉ c := fun e => hlc (by simp [e])
  refine ⟨h1.filter _, fun v hv => h2 v (List.mem_filter.1 hv).1, fun y hy => ?_, ?_, fun v => ?_⟩
  · exact List.mem_filter.2 ⟨h3 y (by simp [hy]), decide_eq_true (fun e => hc (by rw [← e]; exact hy))⟩
  · have hnd : S.Nodup := h1.imp fun hab => by omega
    have e1 : (S.filter fun v => decide (v ≠ l)) = S.erase l := by
      rw [List.Nodup.erase_eq_filter hnd]
      apply List.filter_congr
      intro y _
      by_cases h : y = l <;> simp [h]
    rw [e1, List.length_erase_of_mem hl, h4]
    simp
  · unfold down
    by_cases e1 : v = l
    · subst e1
      rw [if_pos rfl, if_neg (by simp), List.count_eq_zero.2 hc]
    · rw [if_neg e1]
      have hm : v ∈ (S.filter fun v => decide (v ≠ l)) ↔ v ∈ S := by simp [e1]
      by_cases e2 : v = x
      · subst e2
        rw [if_pos rfl, h5, List.count_cons_self]
        have hvS : v ∈ S := h3 v (by simp)
        rw [if_pos hvS, if_pos (hm.2 hvS)]
        omega
      · rw [if_neg e2, h5, List.count_cons_of_ne (Ne.symm e2)]
        by_cases hvS : v ∈ S
        · rw [if_pos hvS, if_pos (hm.2 hvS)]
        · rw [if_neg hvS, if_neg (fun h => hvS (hm.1 h))]
theorem fits_pl {n : Nat} : ∀ (c S : List Nat) (d : Nat → Nat), Fits n S c d → Pl n (treeE n c d) c ∧ ∀ v, deg (treeE n c d) v = d v := by
  intro c
  induction c with
  | nil =>
    intro S d h
    obtain ⟨a, b, rfl⟩ : ∃ a b, S = [a, b] := by
      have := h.2.2.2.1
      match S, this with
      | [a, b], _ => exact ⟨a, b, rfl⟩
    obtain ⟨h1, h2, h3⟩ := fits_two h
    rw [treeE, h1]
    refine ⟨Pl.last a b h2 h3, fun v => ?_⟩
    rw [h.2.2.2.2 v, deg_cons, deg_nil, List.count_nil]
    simp only [List.mem_cons, List.mem_nil_iff, or_false]
    by_cases e1 : v = a
    · subst e1; rw [deg1_self (by omega), if_pos (.inl rfl)]
    · by_cases e2 : v = b
      · subst e2; rw [deg1_other (by omega), if_pos (.inr rfl)]
      · rw [deg1_none e1 e2, if_neg (by simp [e1, e2])]
  | cons x c ih =>
    intro S d h
    obtain ⟨l, hl, hlS, hlc⟩ := fits_leaf h
    have hd := fits_down h hlS hlc
    obtain ⟨p, q⟩ := ih _ _ hd
    have hx : x ≠ l := fun e => hlc (by simp [e])
    have hxS : x ∈ S := h.2.2.1 x (by simp)
    have qd : ∀ v, deg ((l, x) :: treeE n c (down d l x)) v = d v := by
      intro v
      rw [deg_cons, q v]
      unfold down
      have h5 := h.2.2.2.2
      by_cases e1 : v = l
      · subst e1
        rw [deg1_self (Ne.symm hx), if_pos rfl, h5, if_pos hlS, List.count_eq_zero.2 hlc]
      · rw [if_neg e1]
        by_cases e2 : v = x
        · subst e2
          have : d v ≥ 1 := by rw [h5, if_pos hxS]; omega
          rw [deg1_other (Ne.symm hx), if_pos rfl]
          omega
        · rw [deg1_none e1 e2, if_neg e2]; omega
    rw [treeE, hl]
    refine ⟨Pl.step l x _ c (h.2.1 l hlS) (h.2.1 x hxS) (Ne.symm hx) ?_ ?_ (by rw [least_congr qd]; exact hl) p, qd⟩
    · rw [q l]; unfold down; rw [if_pos rfl]
    · rw [q x]
      unfold down
      rw [if_neg hx, if_pos rfl, h.2.2.2.2 x, if_pos hxS, List.count_cons_self]
      omega
/-- a code of n nodes -/
theorem fits_code {n : Nat} {c : List Nat} (hn : n = c.length + 2) (hc : ∀ x ∈ c, x < n) : Fits n (List.range n) c (fun v => (if v < n then 1 else 0) + c.count v) := by
  refine ⟨List.pairwise_lt_range, fun v hv => List.mem_range.1 hv, fun x hx => List.mem_range.2 (hc x hx), by rw [List.length_range, hn], fun v => ?_⟩
  simp only [List.mem_range]

/-! ### nodes that are reached -/
inductive Reach (E : Edges) : Nat → Nat → Prop where
  | refl (u : Nat) : Reach E u u
  | step (u v w : Nat) : Reach E u v → (v, w) ∈ E ∨ (w, v) ∈ E → Reach E u w
theorem Reach.trans {E : Edges} {u v w : Nat} (h : Reach E u v) (k : Reach E v w) : Reach E u w := by
  induction k with
  | refl => exact h
  | step _ _ _ he ih => exact .step _ _ _ ih he
theorem Reach.one {E : Edges} {u v : Nat} (h : (u, v) ∈ E ∨ (v, u) ∈ E) : Reach E u v := .step _ _ _ (.refl u) h
theorem Reach.symm {E : Edges} {u v : Nat} (h : Reach E u v) : Reach E v u := by
  induction h with
  | refl => exact .refl _
  | step _ _ _ he ih => exact (Reach.one he.symm).trans ih
theorem Reach.mono {A B : Edges} (hs : ∀ a b, ((a, b) ∈ A ∨ (b, a) ∈ A) → ((a, b) ∈ B ∨ (b, a) ∈ B)) {u v : Nat} (h : Reach A u v) : Reach B u v := by
  induction h with
  | refl => exact .refl _
  | step _ _ _ he ih => exact .step _ _ _ ih (hs _ _ he)
theorem mem_norm {E : Edges} {a b : Nat} : norm (a, b) ∈ E.map norm ↔ (a, b) ∈ E ∨ (b, a) ∈ E := by
  rw [List.mem_map]
  constructor
  · rintro ⟨⟨c, d⟩, hm, he⟩
    rcases norm_eq he with ⟨rfl, rfl⟩ | ⟨rfl, rfl⟩
    · exact .inl hm
    · exact .inr hm
  · rintro (h | h)
    · exact ⟨_, h, rfl⟩
    · refine ⟨_, h, ?_⟩
      unfold norm; simp only [Prod.mk.injEq]; omega
theorem SameE.ends {A B : Edges} (h : SameE A B) (a b : Nat) : ((a, b) ∈ A ∨ (b, a) ∈ A) ↔ ((a, b) ∈ B ∨ (b, a) ∈ B) := by
  rw [← mem_norm, ← mem_norm, List.Perm.mem_iff h]
theorem SameE.reach {A B : Edges} (h : SameE A B) {u v : Nat} (hr : Reach A u v) : Reach B u v := hr.mono fun a b => (h.ends a b).1
theorem deg_edge {E : Edges} {u v : Nat} (h : (u, v) ∈ E ∨ (v, u) ∈ E) : deg E v ≠ 0 := by
  have key : ∀ (e : Nat × Nat) (E : Edges), e ∈ E → deg1 e v ≤ deg E v := by
    intro e E
    induction E with
    | nil => intro h; simp at h
    | cons y r ih =>
      intro h
      rw [deg_cons]
      rcases List.mem_cons.1 h with rfl | h
      · omega
      · have := ih h; omega
  rcases h with h | h
  · have := key _ _ h
    unfold deg1 at this
    simp at this
    omega
  · have := key _ _ h
    unfold deg1 at this
    simp at this
    omega
theorem reach_deg {E : Edges} {u v : Nat} (h : Reach E u v) (hne : u ≠ v) : deg E v ≠ 0 := by
  cases h with
  | refl => exact absurd rfl hne
  | step p _ hp he => exact deg_edge he
theorem deg_mem {E : Edges} {v : Nat} (h : deg E v ≠ 0) : ∃ e ∈ E, deg1 e v ≠ 0 := by
  induction E with
  | nil => exact absurd rfl h
  | cons y r ih =>
    rw [deg_cons] at h
    by_cases hy : deg1 y v = 0
    · obtain ⟨e, he, h2⟩ := ih (by omega)
      exact ⟨e, List.mem_cons_of_mem _ he, h2⟩
    · exact ⟨y, by simp, hy⟩
theorem deg1_end {e : Nat × Nat} {v : Nat} (h : deg1 e v ≠ 0) : e.1 = v ∨ e.2 = v := by
  unfold deg1 at h
  by_cases h1 : e.1 = v
  · exact .inl h1
  · by_cases h2 : e.2 = v
    · exact .inr h2
    · simp [h1, h2] at h

/-- what a peel leaves hangs together -/
theorem Pl.reach {n : Nat} {es : Edges} {c : List Nat} (h : Pl n es c) : ∀ u v, deg es u ≠ 0 → deg es v ≠ 0 → Reach es u v := by
  induction h with
  | last a b hab hb =>
    intro u v hu hv
    have hend : ∀ w, deg [(a, b)] w ≠ 0 → w = a ∨ w = b := fun w hw => by
      obtain ⟨e, he, hd⟩ := deg_mem hw
      simp at he; subst he
      rcases deg1_end hd with h | h
      · exact .inl h.symm
      · exact .inr h.symm
    rcases hend u hu with rfl | rfl <;> rcases hend v hv with rfl | rfl
    · exact .refl _
    · exact .one (.inl (by simp))
    · exact .one (.inr (by simp))
    · exact .refl _
  | step l x es c hl hx hlx hdl hdx _ _ ih =>
    have hub : ∀ w, deg ((l, x) :: es) w ≠ 0 → Reach ((l, x) :: es) w x := fun w hw => by
      by_cases e1 : w = l
      · subst e1; exact .one (.inl (by simp))
      · by_cases e2 : w = x
        · subst e2; exact .refl _
        · rw [deg_cons, deg1_none e1 e2, Nat.zero_add] at hw
          exact (ih w x hw hdx).mono fun a b h => h.imp (List.mem_cons_of_mem _) (List.mem_cons_of_mem _)
    intro u v hu hv
    exact (hub u hu).trans (hub v hv).symm
theorem Pl.nodup {n : Nat} {es : Edges} {c : List Nat} (h : Pl n es c) : (es.map norm).Nodup := by
  induction h with
  | last => simp
  | step l x es c _ _ hlx hdl _ _ _ ih =>
    rw [List.map_cons, List.nodup_cons]
    refine ⟨fun hm => ?_, ih⟩
    rw [mem_norm] at hm
    exact deg_edge hm.symm hdl

/-! ### what hangs together can be peeled -/
theorem sum_zero (S : List Nat) : (S.map fun _ => 0).sum = 0 := by
  induction S with
  | nil => rfl
  | cons y r ih => rw [List.map_cons, List.sum_cons, ih]
theorem sum_one {S : List Nat} (hS : S.Nodup) {a : Nat} (ha : a ∈ S) : (S.map fun v => if a = v then 1 else 0).sum = 1 := by
  induction S with
  | nil => simp at ha
  | cons y r ih =>
    obtain ⟨h1, h2⟩ := List.nodup_cons.1 hS
    rw [List.map_cons, List.sum_cons]
    rcases List.mem_cons.1 ha with rfl | h
    · rw [if_pos rfl]
      have : (r.map fun v => if a = v then 1 else 0).sum = 0 := by
        have hz : (r.map fun v => if a = v then 1 else 0) = r.map fun _ => 0 := by
          apply List.map_congr_left
          intro v hv
          rw [if_neg]
          rintro rfl; exact h1 hv
        rw [hz, sum_zero]
      omega
    · rw [if_neg (by rintro rfl; exact h1 h), ih h2 h]
theorem sum_add (S : List Nat) (f g : Nat → Nat) : (S.map fun v => f v + g v).sum = (S.map f).sum + (S.map g).sum := by
  induction S with
  | nil => rfl
  | cons y r ih => simp only [List.map_cons, List.sum_cons, ih]; omega
theorem deg_sum {S : List Nat} (hS : S.Nodup) : ∀ F : Edges, (∀ e ∈ F, e.1 ∈ S ∧ e.2 ∈ S) → (S.map (deg F)).sum = 2 * F.length := by
  intro F
  induction F with
  | nil =>
    intro _
    have : (S.map (deg [])) = S.map fun _ => 0 := rfl
    rw [this, sum_zero]; rfl
  | cons e r ih =>
    intro h
    have e1 : (S.map (deg (e :: r))) = S.map fun v => deg1 e v + deg r v := rfl
    rw [e1, sum_add, ih fun y hy => h y (List.mem_cons_of_mem _ hy)]
    have e2 : (S.map (deg1 e)) = S.map fun v => (if e.1 = v then 1 else 0) + (if e.2 = v then 1 else 0) := rfl
    obtain ⟨h1, h2⟩ := h e (by simp)
    rw [e2, sum_add, sum_one hS h1, sum_one hS h2, List.length_cons]
    omega
theorem touch_len {F : Edges} (hne : ∀ e ∈ F, e.1 ≠ e.2) (l : Nat) : (F.filter (touches l)).length = deg F l := by
  induction F with
  | nil => rfl
  | cons e r ih =>
    have hr := ih fun y hy => hne y (List.mem_cons_of_mem _ hy)
    have he := hne e (by simp)
    rw [deg_cons]
    by_cases ht : touches l e = true
    · rw [List.filter_cons_of_pos ht, List.length_cons, hr]
      rw [touch_iff] at ht
      have : deg1 e l = 1 := by
        unfold deg1 at *
        by_cases h1 : e.1 = l <;> by_cases h2 : e.2 = l <;> simp_all
      omega
    · rw [List.filter_cons_of_neg ht, hr]
      have : deg1 e l = 0 := Classical.byContradiction fun h => ht ((touch_iff e l).2 h)
      omega
/-- a tree over some nodes -/
structure Tree (n : Nat) (S : List Nat) (F : Edges) : Prop where
  asc : S.Pairwise (· < ·)
  lt : ∀ v ∈ S, v < n
  ends : ∀ e ∈ F, e.1 ∈ S ∧ e.2 ∈ S ∧ e.1 ≠ e.2
  conn : ∀ u ∈ S, ∀ v ∈ S, Reach F u v
theorem Tree.nodup {n : Nat} {S : List Nat} {F : Edges} (h : Tree n S F) : S.Nodup := h.asc.imp fun hab => by omega
theorem Tree.pos {n : Nat} {S : List Nat} {F : Edges} (h : Tree n S F) (h2 : 2 ≤ S.length) {v : Nat} (hv : v ∈ S) : deg F v ≠ 0 := by
  obtain ⟨u, hu, hne⟩ : ∃ u ∈ S, u ≠ v := by
    apply Classical.byContradiction
    intro hno
    have hsub : ∀ u ∈ S, u ∈ [v] := fun u hu => by
      rw [List.mem_singleton]
      exact Classical.byContradiction fun hc => hno ⟨u, hu, hc⟩
    have := List.Nodup.length_le_of_subset h.nodup hsub
    simp at this; omega
  exact reach_deg (h.conn u hu v hv) hne
theorem tree_peel {n : Nat} : ∀ (m : Nat) (S : List Nat) (F : Edges), Tree n S F → S.length = m + 2 → F.length = m + 1 → ∃ es c, Pl n es c ∧ SameE F es := by
  intro m
  induction m with
  | zero =>
    intro S F h hS hF
    match S, hS with
    | [a, b], _ =>
      match F, hF with
      | [e], _ =>
        have hab : a < b := by simpa using h.asc
        obtain ⟨h1, h2, h3⟩ := h.ends e (by simp)
        simp only [List.mem_cons, List.mem_nil_iff, or_false] at h1 h2
        refine ⟨[(a, b)], [], Pl.last a b hab (h.lt b (by simp)), ?_⟩
        have : norm e = norm (a, b) := by
          unfold norm
          simp only [Prod.mk.injEq]
          omega
        show ([e].map norm).Perm ([(a, b)].map norm)
        rw [List.map_cons, List.map_cons, this]
  | succ m ih =>
    intro S F h hS hF
    have hpos : ∀ v ∈ S, deg F v ≠ 0 := fun v hv => h.pos (by omega) hv
    have hsum := deg_sum h.nodup F fun e he => ⟨(h.ends e he).1, (h.ends e he).2.1⟩
    obtain ⟨w, hwS, hw1⟩ : ∃ w ∈ S, deg F w = 1 := by
      apply Classical.byContradiction
      intro hno
      have hge : ∀ v ∈ S, 2 ≤ deg F v := fun v hv => by
        have h1 := hpos v hv
        have h2 : deg F v ≠ 1 := fun e => hno ⟨v, hv, e⟩
        omega
      have key : ∀ T : List Nat, (∀ v ∈ T, 2 ≤ deg F v) → 2 * T.length ≤ (T.map (deg F)).sum := by
        intro T
        induction T with
        | nil => intro _; simp
        | cons y r ih2 =>
          intro hT
          have h1 := hT y (by simp)
          have h2 := ih2 fun v hv => hT v (List.mem_cons_of_mem _ hv)
          simp only [List.map_cons, List.sum_cons, List.length_cons]
          omega
      have := key S hge
      omega
    obtain ⟨l, hl⟩ : ∃ l, leastL n (deg F) = some l := by
      cases hl : leastL n (deg F) with
      | some l => exact ⟨l, rfl⟩
      | none =>
        exfalso
        unfold leastL at hl
        have := List.find?_eq_none.1 hl w (List.mem_range.2 (h.lt w hwS))
        simp [hw1] at this
    obtain ⟨l1, l2, _⟩ := least_some.1 hl
    obtain ⟨e, he, hed⟩ := deg_mem (E := F) (v := l) (by omega)
    have hlS : l ∈ S := by
      rcases deg1_end hed with h1 | h1
      · rw [← h1]; exact (h.ends e he).1
      · rw [← h1]; exact (h.ends e he).2.1
    have hone := touch_len (fun e he => (h.ends e he).2.2) l (F := F)
    rw [l2] at hone
    obtain ⟨e0, he0⟩ := List.length_eq_one_iff.1 hone
    have hm0 : e0 ∈ F ∧ touches l e0 = true := List.mem_filter.1 (by rw [he0]; simp)
    obtain ⟨x, hx⟩ : ∃ x, x = other l e0 := ⟨_, rfl⟩
    obtain ⟨q1, q2, q3⟩ := h.ends e0 hm0.1
    have hdir : e0 = (l, x) ∨ e0 = (x, l) := by
      rcases deg1_end ((touch_iff e0 l).1 hm0.2) with h1 | h1
      · left
        rw [hx]; unfold other; rw [if_pos h1, ← h1]
      · right
        rw [hx]; unfold other; rw [if_neg (by rw [← h1]; exact q3)]; rw [← h1]
    have hlx : l ≠ x := by
      rcases hdir with h1 | h1 <;> rw [h1] at q3 <;> simp only at q3
      · exact q3
      · exact Ne.symm q3
    have hxS : x ∈ S := by
      rcases hdir with h1 | h1 <;> rw [h1] at q1 q2
      · exact q2
      · exact q1
    obtain ⟨F', hF'⟩ : ∃ F', F' = F.filter fun e => !touches l e := ⟨_, rfl⟩
    have hperm : F.Perm (e0 :: F') := by
      have := (List.filter_append_perm (touches l) F).symm
      rw [he0, ← hF'] at this
      exact this
    have hn0 : norm e0 = norm (l, x) := by
      rcases hdir with h1 | h1
      · rw [h1]
      · rw [h1]; unfold norm; simp only [Prod.mk.injEq]; omega
    have hlen : F'.length = m + 1 := by
      have := hperm.length_eq
      rw [hF, List.length_cons] at this; omega
    obtain ⟨S', hS'⟩ : ∃ S', S' = S.filter fun v => decide (v ≠ l) := ⟨_, rfl⟩
    have hmS : ∀ v, v ∈ S' ↔ v ∈ S ∧ v ≠ l := fun v => by rw [hS', List.mem_filter, decide_eq_true_iff]
    have hlS' : S'.length = m + 2 := by
      have e1 : S' = S.erase l := by
        rw [hS', List.Nodup.erase_eq_filter h.nodup]
        apply List.filter_congr
        intro y _
        by_cases h : y = l <;> simp [h]
      rw [e1, List.length_erase_of_mem hlS, hS]; rfl
    have hnt : ∀ e ∈ F', deg1 e l = 0 := fun e he => by
      rw [hF'] at he
      have h1 := (List.mem_filter.1 he).2
      apply Classical.byContradiction
      intro h2
      rw [(touch_iff e l).2 h2] at h1
      cases h1
    have hmF : ∀ e, e ∈ F' → e ∈ F := fun e he => by rw [hF'] at he; exact (List.mem_filter.1 he).1
    have hT' : Tree n S' F' := by
      refine ⟨by rw [hS']; exact h.asc.filter _, fun v hv => h.lt v ((hmS v).1 hv).1, fun e he => ?_, fun u hu v hv => ?_⟩
      · obtain ⟨r1, r2, r3⟩ := h.ends e (hmF e he)
        have h0 := hnt e he
        refine ⟨(hmS _).2 ⟨r1, fun hh => ?_⟩, (hmS _).2 ⟨r2, fun hh => ?_⟩, r3⟩
        · unfold deg1 at h0; rw [if_pos hh] at h0; omega
        · unfold deg1 at h0; rw [if_pos hh] at h0; omega
      · have hr := h.conn u ((hmS u).1 hu).1 v ((hmS v).1 hv).1
        have key : ∀ a b, Reach F a b → Reach F' (if a = l then x else a) (if b = l then x else b) := by
          intro a b hab
          induction hab with
          | refl => exact .refl _
          | step p q hp hpq ih2 =>
            refine ih2.trans ?_
            have hstep : ∀ y z, (y, z) ∈ F → Reach F' (if y = l then x else y) (if z = l then x else z) := by
              intro y z hyz
              rcases List.mem_cons.1 (hperm.mem_iff.1 hyz) with h1 | h1
              · rcases hdir with h2 | h2
                · rw [h2] at h1
                  obtain ⟨rfl, rfl⟩ := Prod.mk.inj h1
                  rw [if_pos rfl, if_neg (Ne.symm hlx)]; exact .refl _
                · rw [h2] at h1
                  obtain ⟨rfl, rfl⟩ := Prod.mk.inj h1
                  rw [if_pos rfl, if_neg (Ne.symm hlx)]; exact .refl _
              · have h0 := hnt _ h1
                unfold deg1 at h0
                simp only at h0
                have hy : y ≠ l := fun hh => by rw [if_pos hh] at h0; omega
                have hz : z ≠ l := fun hh => by rw [if_pos hh] at h0; omega
                rw [if_neg hy, if_neg hz]
                exact .one (.inl h1)
            rcases hpq with h1 | h1
            · exact hstep p q h1
            · exact (hstep q p h1).symm
        have := key u v hr
        rw [if_neg ((hmS u).1 hu).2, if_neg ((hmS v).1 hv).2] at this
        exact this
    obtain ⟨es, c, hp, hs⟩ := ih S' F' hT' hlS' hlen
    have hsame : SameE F ((l, x) :: es) := by
      have h1 := hperm.map norm
      rw [List.map_cons, hn0] at h1
      show (F.map norm).Perm (List.map norm ((l, x) :: es))
      rw [List.map_cons]
      exact h1.trans (List.Perm.cons _ hs)
    have hdl : deg F' l = 0 := by
      apply Classical.byContradiction
      intro hh
      obtain ⟨e, he, h2⟩ := deg_mem hh
      exact h2 (hnt e he)
    refine ⟨(l, x) :: es, x :: c, Pl.step l x es c l1 (h.lt x hxS) hlx (by rw [← hs.deg]; exact hdl) ?_ ?_ hp, hsame⟩
    · rw [← hs.deg]
      exact hT'.pos (by omega) ((hmS x).2 ⟨hxS, Ne.symm hlx⟩)
    · rw [← least_congr (fun v => hsame.deg v)]; exact hl
end Go.Proofs.Ytakpbnkncjddeaa

namespace Go.Proofs.Ytakpbnkncjddeaa

/-- the rows' order -/
def ltP (x y : Nat × Nat) : Bool := decide (x.1 < y.1) || (decide (x.1 = y.1) && decide (x.2 < y.2))
theorem ltP_iff (x y : Nat × Nat) : ltP x y = true ↔ x.1 < y.1 ∨ (x.1 = y.1 ∧ x.2 < y.2) := by simp [ltP]
theorem ltP_trans {x y z : Nat × Nat} (h : ltP x y = true) (k : ltP y z = true) : ltP x z = true := by
  rw [ltP_iff] at *; omega
theorem ltP_total (x y : Nat × Nat) : ltP x y = true ∨ x = y ∨ ltP y x = true := by
  rw [ltP_iff, ltP_iff, Prod.ext_iff]; omega
theorem ltP_irr (x : Nat × Nat) : ltP x x = false := by
  cases h : ltP x x with
  | false => rfl
  | true => rw [ltP_iff] at h; omega
def AscP (L : Edges) : Prop := L.Pairwise fun x y => ltP x y = true
theorem ascP_uniq : ∀ (L M : Edges), AscP L → AscP M → (∀ x, x ∈ L ↔ x ∈ M) → L = M
  | [], [], _, _, _ => rfl
  | [], y :: M, _, _, h => by have := (h y).2 (by simp); simp at this
  | x :: L, [], _, _, h => by have := (h x).1 (by simp); simp at this
  | x :: L, y :: M, h1, h2, h => by
    obtain ⟨a1, a2⟩ := List.pairwise_cons.1 h1
    obtain ⟨b1, b2⟩ := List.pairwise_cons.1 h2
    have hxy : x = y := by
      rcases List.mem_cons.1 ((h x).1 (by simp)) with e | m1
      · exact e
      · rcases List.mem_cons.1 ((h y).2 (by simp)) with e | m2
        · exact e.symm
        · have q := ltP_trans (b1 x m1) (a1 y m2)
          rw [ltP_irr] at q; cases q
    subst hxy
    have : L = M := ascP_uniq L M a2 b2 (fun z => by
      have hz := h z
      simp only [List.mem_cons] at hz
      constructor
      · intro m
        rcases hz.1 (.inr m) with e | m'
        · subst e; have := a1 z m; rw [ltP_irr] at this; cases this
        · exact m'
      · intro m
        rcases hz.2 (.inr m) with e | m'
        · subst e; have := b1 z m; rw [ltP_irr] at this; cases this
        · exact m')
    rw [this]
/-- an edge goes to its place -/
def insP (out : Edges) (x : Nat × Nat) : Edges := out.takeWhile (fun y => ltP y x) ++ x :: out.dropWhile (fun y => ltP y x)
def sortP (L : Edges) : Edges := L.foldl insP []
theorem insP_perm (out : Edges) (x : Nat × Nat) : (insP out x).Perm (x :: out) := by
  have e := List.takeWhile_append_dropWhile (p := fun y => ltP y x) (l := out)
  unfold insP
  refine List.perm_middle.trans ?_
  rw [e]
theorem fold_perm (L : Edges) : ∀ out, (L.foldl insP out).Perm (L ++ out) := by
  induction L with
  | nil => intro out; exact List.Perm.refl _
  | cons x r ih =>
    intro out
    rw [List.foldl_cons]
    refine (ih _).trans ?_
    refine ((insP_perm out x).append_left r).trans ?_
    exact List.perm_middle
theorem sortP_perm (L : Edges) : (sortP L).Perm L := by
  have := fold_perm L []
  rwa [List.append_nil] at this
theorem dropP_gt (x : Nat × Nat) : ∀ (out : Edges), AscP out → x ∉ out → ∀ y ∈ out.dropWhile (fun y => ltP y x), ltP x y = true
  | [], _, _, y, hy => by simp at hy
  | z :: r, h, hx, y, hy => by
    obtain ⟨h1, h2⟩ := List.pairwise_cons.1 h
    have hxz : x ≠ z := fun e => hx (by simp [e])
    have hxr : x ∉ r := fun e => hx (by simp [e])
    by_cases hz : ltP z x = true
    · rw [List.dropWhile_cons, if_pos hz] at hy
      exact dropP_gt x r h2 hxr y hy
    · rw [List.dropWhile_cons, if_neg hz] at hy
      have hzx : ltP x z = true := by
        rcases ltP_total x z with e | e | e
        · exact e
        · exact absurd e hxz
        · exact absurd e hz
      rcases List.mem_cons.1 hy with e | e
      · rw [e]; exact hzx
      · exact ltP_trans hzx (h1 y e)
theorem asc_insP {out : Edges} {x : Nat × Nat} (h : AscP out) (hx : x ∉ out) : AscP (insP out x) := by
  unfold insP
  have e := List.takeWhile_append_dropWhile (p := fun y => ltP y x) (l := out)
  have ht : AscP (out.takeWhile (fun y => ltP y x) ++ out.dropWhile (fun y => ltP y x)) := by rw [e]; exact h
  obtain ⟨t1, t2, t3⟩ := List.pairwise_append.1 ht
  have tx : ∀ y ∈ out.takeWhile (fun y => ltP y x), ltP y x = true := fun y hy => by
    have := List.all_takeWhile (l := out) (p := fun y => ltP y x)
    exact List.all_eq_true.1 this y hy
  have dx := dropP_gt x out h hx
  refine List.pairwise_append.2 ⟨t1, List.pairwise_cons.2 ⟨dx, t2⟩, fun a ha b hb => ?_⟩
  rcases List.mem_cons.1 hb with hb | hb
  · rw [hb]; exact tx a ha
  · exact t3 a ha b hb
theorem asc_fold : ∀ (L out : Edges), AscP out → L.Nodup → (∀ x ∈ L, x ∉ out) → AscP (L.foldl insP out)
  | [], out, h, _, _ => h
  | x :: r, out, h, hn, hd => by
    obtain ⟨n1, n2⟩ := List.nodup_cons.1 hn
    rw [List.foldl_cons]
    refine asc_fold r (insP out x) (asc_insP h (hd x (by simp))) n2 fun y hy => ?_
    rw [(insP_perm out x).mem_iff, List.mem_cons]
    rintro (e | e)
    · subst e; exact n1 hy
    · exact hd y (by simp [hy]) e
theorem asc_sortP {L : Edges} (h : L.Nodup) : AscP (sortP L) := asc_fold L [] List.Pairwise.nil h (fun _ _ => by simp)
theorem sortP_uniq {L M : Edges} (hM : AscP M) (hL : L.Nodup) (h : L.Perm M) : sortP L = M :=
  ascP_uniq _ _ (asc_sortP hL) hM fun x => by rw [(sortP_perm L).mem_iff, h.mem_iff]

/-! ### what is a tree -/
/-- rows of a tree of n nodes -/
structure ValidT (n : Nat) (E : Edges) : Prop where
  len : E.length + 1 = n
  ord : ∀ e ∈ E, e.1 < e.2 ∧ e.2 < n
  asc : AscP E
  conn : ∀ v, v < n → Reach E 0 v
theorem norm_of {e : Nat × Nat} (h : e.1 < e.2) : norm e = e := by
  unfold norm
  rw [Nat.min_eq_left (by omega), Nat.max_eq_right (by omega)]
theorem map_norm {E : Edges} (h : ∀ e ∈ E, e.1 < e.2) : E.map norm = E := by
  induction E with
  | nil => rfl
  | cons e r ih => rw [List.map_cons, norm_of (h e (by simp)), ih fun y hy => h y (List.mem_cons_of_mem _ hy)]
theorem ValidT.tree {n : Nat} {E : Edges} (h : ValidT n E) : Tree n (List.range n) E := by
  refine ⟨List.pairwise_lt_range, fun v hv => List.mem_range.1 hv, fun e he => ?_, fun u hu v hv => ?_⟩
  · obtain ⟨h1, h2⟩ := h.ord e he
    exact ⟨List.mem_range.2 (by omega), List.mem_range.2 h2, by omega⟩
  · exact (h.conn u (List.mem_range.1 hu)).symm.trans (h.conn v (List.mem_range.1 hv))
/-- the code of a tree, the tree of a code -/
def codeN (n : Nat) (E : Edges) : List Nat := codeE n (n - 2) E
def degC (n : Nat) (c : List Nat) : Nat → Nat := fun v => (if v < n then 1 else 0) + c.count v
def treeN (n : Nat) (c : List Nat) : Edges := sortP ((treeE n c (degC n c)).map norm)
theorem valid_peel {n : Nat} {E : Edges} (h : ValidT n E) (h2 : 2 ≤ n) : ∃ es c, Pl n es c ∧ SameE E es ∧ c.length = n - 2 ∧ codeN n E = c := by
  have hl := h.len
  obtain ⟨es, c, hp, hs⟩ := tree_peel (n - 2) (List.range n) E h.tree (by rw [List.length_range]; omega) (by omega)
  have h3 := hp.length
  have h4 := hs.length
  have hc : c.length = n - 2 := by omega
  refine ⟨es, c, hp, hs, hc, ?_⟩
  have := hp.code E hs
  rw [hc] at this
  exact this
/-- degrees are told by codes -/
theorem valid_deg {n : Nat} {E : Edges} (h : ValidT n E) (h2 : 2 ≤ n) (v : Nat) (hv : v < n) : deg E v = 1 + (codeN n E).count v := by
  obtain ⟨es, c, hp, hs, hc, he⟩ := valid_peel h h2
  have hpos := h.tree.pos (by rw [List.length_range]; exact h2) (List.mem_range.2 hv)
  have := hp.deg_count v
  rw [← hs.deg, if_neg hpos] at this
  rw [he]; exact this
theorem valid_out {n : Nat} {E : Edges} (h : ValidT n E) (v : Nat) (hv : n ≤ v) : deg E v = 0 := by
  apply Classical.byContradiction
  intro hh
  obtain ⟨e, he, hd⟩ := deg_mem hh
  obtain ⟨h1, h2⟩ := h.ord e he
  rcases deg1_end hd with h3 | h3 <;> omega
theorem valid_sum {n : Nat} {E : Edges} (h : ValidT n E) : ((List.range n).map (deg E)).sum = 2 * (n - 1) := by
  have := deg_sum List.nodup_range E fun e he => ⟨(h.tree.ends e he).1, (h.tree.ends e he).2.1⟩
  rw [this]
  have := h.len
  congr 1; omega
theorem code_len {n : Nat} {E : Edges} (h : ValidT n E) : (codeN n E).length = n - 2 := by
  by_cases h2 : 2 ≤ n
  · obtain ⟨es, c, _, _, hc, he⟩ := valid_peel h h2
    rw [he, hc]
  · unfold codeN
    rw [show n - 2 = 0 by omega]; rfl
theorem code_lt {n : Nat} {E : Edges} (h : ValidT n E) : ∀ x ∈ codeN n E, x < n := by
  by_cases h2 : 2 ≤ n
  · obtain ⟨es, c, hp, hs, hc, he⟩ := valid_peel h h2
    rw [he]
    intro x hx
    clear he hc hs
    induction hp with
    | last => simp at hx
    | step l x' es c _ hx' _ _ _ _ _ ih =>
      rcases List.mem_cons.1 hx with rfl | hx
      · exact hx'
      · exact ih hx
  · unfold codeN
    rw [show n - 2 = 0 by omega]
    intro x hx
    simp [codeE] at hx
/-- the tree of a tree's code is the tree -/
theorem tree_code {n : Nat} {E : Edges} (h : ValidT n E) (h2 : 2 ≤ n) : treeN n (codeN n E) = E := by
  obtain ⟨es, c, hp, hs, hc, he⟩ := valid_peel h h2
  have hd : degC n (codeN n E) = deg es := by
    funext v
    unfold degC
    by_cases hv : v < n
    · rw [if_pos hv, ← valid_deg h h2 v hv, hs.deg]
    · rw [if_neg hv, ← hs.deg, valid_out h v (by omega), List.count_eq_zero.2 (fun hm => by have := code_lt h v hm; omega)]
  rw [treeN, hd, he, hp.tree]
  have hE := map_norm (E := E) fun e he => (h.ord e he).1
  have hperm : (es.map norm).Perm E := by
    have := hs.symm
    unfold SameE at this
    rw [hE] at this
    exact this
  exact sortP_uniq h.asc hp.nodup hperm
/-- a code's tree is a tree, and the code is its code -/
theorem code_tree {n : Nat} {c : List Nat} (hn : n = c.length + 2) (hc : ∀ x ∈ c, x < n) : ValidT n (treeN n c) ∧ codeN n (treeN n c) = c := by
  have hf := fits_code hn hc
  obtain ⟨hp, hq⟩ := fits_pl c (List.range n) (degC n c) hf
  have hnd := hp.nodup
  have hperm := sortP_perm ((treeE n c (degC n c)).map norm)
  have hnorm : ∀ e ∈ treeN n c, e.1 < e.2 ∧ e.2 < n := by
    intro e he
    obtain ⟨e', he', rfl⟩ := List.mem_map.1 (hperm.mem_iff.1 he)
    obtain ⟨h1, h2, h3⟩ := hp.lt e' he'
    unfold norm
    simp only
    omega
  have hsame : SameE (treeN n c) (treeE n c (degC n c)) := by
    unfold SameE
    rw [map_norm fun e he => (hnorm e he).1]
    exact hperm
  refine ⟨⟨?_, hnorm, asc_sortP hnd, fun v hv => ?_⟩, ?_⟩
  · rw [hsame.length, hp.length]; omega
  · refine hsame.symm.reach (hp.reach 0 v ?_ ?_)
    · rw [hq]; unfold degC; rw [if_pos (by omega)]; omega
    · rw [hq]; unfold degC; rw [if_pos hv]; omega
  · have := hp.code _ hsame
    unfold codeN
    rw [show n - 2 = c.length by omega]
    exact this
end Go.Proofs.Ytakpbnkncjddeaa

namespace Go.Proofs.Ytakpbnkncjddeaa

def side1 (x : Nat) (out : List Nat) (e : Nat × Nat) : List Nat := if e.1 = x ∧ e.2 ∉ out then out ++ [e.2] else out
def side2 (x : Nat) (out : List Nat) (e : Nat × Nat) : List Nat := if e.2 = x ∧ e.1 ∉ out then out ++ [e.1] else out
def bstepE (x : Nat) (out : List Nat) (e : Nat × Nat) : List Nat := side2 x (side1 x out e) e
def roundB (E : Edges) (x : Nat) (out : List Nat) : List Nat := E.foldl (bstepE x) out
def bfs (E : Edges) : Nat → Nat → List Nat → List Nat
  | 0, _, out => out
  | f + 1, i, out => if i < out.length then bfs E f (i + 1) (roundB E (out.getD i 0) out) else out
def reachedN (n : Nat) (E : Edges) : List Nat := bfs E (n + 1) 0 [0]

theorem side1_pre (x : Nat) (out : List Nat) (e : Nat × Nat) : out <+: side1 x out e := by
  unfold side1; split
  · exact List.prefix_append _ _
  · exact List.prefix_refl _
theorem side2_pre (x : Nat) (out : List Nat) (e : Nat × Nat) : out <+: side2 x out e := by
  unfold side2; split
  · exact List.prefix_append _ _
  · exact List.prefix_refl _
theorem step_pre (x : Nat) (out : List Nat) (e : Nat × Nat) : out <+: bstepE x out e := (side1_pre x out e).trans (side2_pre x _ e)
theorem round_pre (E : Edges) (x : Nat) : ∀ out, out <+: roundB E x out := by
  induction E with
  | nil => intro out; exact List.prefix_refl _
  | cons e r ih => intro out; exact (step_pre x out e).trans (ih _)
/-- what every step keeps: no node twice, each one reached, none too great -/
structure BInv (n : Nat) (E : Edges) (out : List Nat) : Prop where
  nd : out.Nodup
  rch : ∀ v ∈ out, Reach E 0 v
  lt : ∀ v ∈ out, v < n
theorem binv_add {n : Nat} {E : Edges} {out : List Nat} (h : BInv n E out) {x y : Nat} (hx : x ∈ out) (hy : y ∉ out) (hyn : y < n) (he : (x, y) ∈ E ∨ (y, x) ∈ E) : BInv n E (out ++ [y]) := by
  refine ⟨?_, fun v hv => ?_, fun v hv => ?_⟩
  · rw [List.nodup_append]
    refine ⟨h.nd, by simp, fun a ha b hb => ?_⟩
    simp only [List.mem_singleton] at hb
    rintro rfl
    rw [hb] at ha; exact hy ha
  · rcases List.mem_append.1 hv with hv | hv
    · exact h.rch v hv
    · simp only [List.mem_singleton] at hv
      rw [hv]
      exact .step _ _ _ (h.rch x hx) he
  · rcases List.mem_append.1 hv with hv | hv
    · exact h.lt v hv
    · simp only [List.mem_singleton] at hv; rw [hv]; exact hyn
theorem binv_step {n : Nat} {E : Edges} (hE : ∀ e ∈ E, e.1 < n ∧ e.2 < n) {out : List Nat} (h : BInv n E out) {x : Nat} (hx : x ∈ out) {e : Nat × Nat} (he : e ∈ E) : BInv n E (bstepE x out e) ∧ (∀ y, (e = (x, y) ∨ e = (y, x)) → y ∈ bstepE x out e) := by
  have h1 : BInv n E (side1 x out e) ∧ (e.1 = x → e.2 ∈ side1 x out e) := by
    unfold side1
    split
    · rename_i hc
      exact ⟨binv_add h hx hc.2 (hE e he).2 (.inl (by rw [← hc.1]; exact he)), fun _ => by simp⟩
    · rename_i hc
      refine ⟨h, fun hh => Classical.byContradiction fun hn => hc ⟨hh, hn⟩⟩
  have hx1 : x ∈ side1 x out e := (side1_pre x out e).subset hx
  have h2 : BInv n E (bstepE x out e) ∧ (e.2 = x → e.1 ∈ bstepE x out e) := by
    unfold bstepE side2
    split
    · rename_i hc
      exact ⟨binv_add h1.1 hx1 hc.2 (hE e he).1 (.inr (by rw [← hc.1]; exact he)), fun _ => by simp⟩
    · rename_i hc
      refine ⟨h1.1, fun hh => Classical.byContradiction fun hn => hc ⟨hh, hn⟩⟩
  refine ⟨h2.1, fun y hy => ?_⟩
  rcases hy with rfl | rfl
  · exact (side2_pre x _ _).subset (h1.2 rfl)
  · exact h2.2 rfl
theorem binv_round {n : Nat} {E : Edges} (hE : ∀ e ∈ E, e.1 < n ∧ e.2 < n) {x : Nat} : ∀ (L : Edges), (∀ e ∈ L, e ∈ E) → ∀ out, BInv n E out → x ∈ out → BInv n E (roundB L x out) ∧ ∀ y, ((x, y) ∈ L ∨ (y, x) ∈ L) → y ∈ roundB L x out := by
  intro L
  induction L with
  | nil => intro _ out h _; exact ⟨h, fun y hy => by simp at hy⟩
  | cons e r ih =>
    intro hL out h hx
    obtain ⟨s1, s2⟩ := binv_step hE h hx (hL e (by simp))
    obtain ⟨i1, i2⟩ := ih (fun z hz => hL z (List.mem_cons_of_mem _ hz)) _ s1 ((step_pre x out e).subset hx)
    refine ⟨i1, fun y hy => ?_⟩
    have hc : (e = (x, y) ∨ e = (y, x)) ∨ ((x, y) ∈ r ∨ (y, x) ∈ r) := by
      rcases hy with hy | hy <;> rcases List.mem_cons.1 hy with hy | hy
      · exact .inl (.inl hy.symm)
      · exact .inr (.inl hy)
      · exact .inl (.inr hy.symm)
      · exact .inr (.inr hy)
    rcases hc with hc | hc
    · exact (round_pre r x _).subset (s2 y hc)
    · exact i2 y hc
theorem binv_len {n : Nat} {E : Edges} {out : List Nat} (h : BInv n E out) : out.length ≤ n := by
  have := List.Nodup.length_le_of_subset (l₂ := List.range n) h.nd fun v hv => List.mem_range.2 (h.lt v hv)
  rwa [List.length_range] at this
theorem bfs_inv {n : Nat} {E : Edges} (hE : ∀ e ∈ E, e.1 < n ∧ e.2 < n) : ∀ (f i : Nat) (out : List Nat), BInv n E out → 0 ∈ out → (∀ j (_ : j < i) (hj : j < out.length) y, ((out[j], y) ∈ E ∨ (y, out[j]) ∈ E) → y ∈ out) → n < f + i →
    BInv n E (bfs E f i out) ∧ 0 ∈ bfs E f i out ∧ ∀ x ∈ bfs E f i out, ∀ y, ((x, y) ∈ E ∨ (y, x) ∈ E) → y ∈ bfs E f i out := by
  intro f
  induction f with
  | zero =>
    intro i out h h0 hc hf
    refine ⟨h, h0, fun x hx y hy => ?_⟩
    obtain ⟨j, hj, rfl⟩ := List.getElem_of_mem hx
    have hj' : j < out.length := hj
    have := binv_len h
    exact hc j (by omega) hj' y hy
  | succ f ih =>
    intro i out h h0 hc hf
    rw [bfs]
    split
    · rename_i hi
      have hx : out.getD i 0 ∈ out := by
        rw [List.getD_eq_getElem?_getD, List.getElem?_eq_getElem hi]
        exact List.getElem_mem hi
      obtain ⟨r1, r2⟩ := binv_round hE E (fun _ h => h) out h hx
      have hpre := round_pre E (out.getD i 0) out
      refine ih (i + 1) _ r1 (hpre.subset h0) (fun j hj hjl y hy => ?_) (by omega)
      have hjo : j < out.length := by omega
      have e1 : (roundB E (out.getD i 0) out)[j] = out[j] := (List.IsPrefix.getElem hpre hjo).symm
      rw [e1] at hy
      by_cases hji : j = i
      · subst hji
        have e2 : out.getD j 0 = out[j] := by rw [List.getD_eq_getElem?_getD, List.getElem?_eq_getElem hjo]; rfl
        rw [e2] at r2 ⊢
        exact r2 y hy
      · exact hpre.subset (hc j (by omega) hjo y hy)
    · rename_i hi
      refine ⟨h, h0, fun x hx y hy => ?_⟩
      obtain ⟨j, hj, rfl⟩ := List.getElem_of_mem hx
      exact hc j (by omega) hj y hy
theorem reachedN_iff {n : Nat} {E : Edges} (hn : 0 < n) (hE : ∀ e ∈ E, e.1 < n ∧ e.2 < n) : (reachedN n E).length = n ↔ ∀ v, v < n → Reach E 0 v := by
  have h0 : BInv n E [0] := ⟨by simp, fun v hv => by simp at hv; rw [hv]; exact .refl _, fun v hv => by simp at hv; omega⟩
  obtain ⟨b1, b2, b3⟩ := bfs_inv hE (n + 1) 0 [0] h0 (by simp) (fun j hj => absurd hj (by omega)) (by omega)
  show (bfs E (n + 1) 0 [0]).length = n ↔ _
  constructor
  · intro hl v hv
    refine b1.rch v ?_
    apply Classical.byContradiction
    intro hno
    have hsub : ∀ x ∈ v :: bfs E (n + 1) 0 [0], x ∈ List.range n := fun x hx => by
      rcases List.mem_cons.1 hx with rfl | hx
      · exact List.mem_range.2 hv
      · exact List.mem_range.2 (b1.lt x hx)
    have := List.Nodup.length_le_of_subset (List.nodup_cons.2 ⟨hno, b1.nd⟩) hsub
    rw [List.length_range, List.length_cons] at this
    omega
  · intro hall
    have hmem : ∀ v, Reach E 0 v → v ∈ bfs E (n + 1) 0 [0] := by
      have key : ∀ z v, Reach E z v → z ∈ bfs E (n + 1) 0 [0] → v ∈ bfs E (n + 1) 0 [0] := by
        intro z v hv hz
        induction hv with
        | refl => exact hz
        | step p q hp he ih => exact b3 _ ih _ he
      exact fun v hv => key 0 v hv b2
    have h1 := List.Nodup.length_le_of_subset (List.nodup_range (n := n)) fun v hv => hmem v (hall v (List.mem_range.1 hv))
    rw [List.length_range] at h1
    have := binv_len b1
    omega
theorem bfs_len {n : Nat} {E : Edges} (hn : 0 < n) (hE : ∀ e ∈ E, e.1 < n ∧ e.2 < n) : (reachedN n E).length ≤ n := by
  have h0 : BInv n E [0] := ⟨by simp, fun v hv => by simp at hv; rw [hv]; exact .refl _, fun v hv => by simp at hv; omega⟩
  exact binv_len (bfs_inv hE (n + 1) 0 [0] h0 (by simp) (fun j hj => absurd hj (by omega)) (by omega)).1

/-! ### rows of numbers -/
def rowsE (E : Edges) : List (List Int) := E.map fun e => [(e.1 : Int), (e.2 : Int)]
def edgesR (rows : List (List Int)) : Edges := rows.map fun r => ((r.getD 0 0).toNat, (r.getD 1 0).toNat)
theorem edges_rows (E : Edges) : edgesR (rowsE E) = E := by
  unfold edgesR rowsE
  rw [List.map_map]
  exact (List.map_congr_left fun e _ => by simp).trans (List.map_id _)
/-- a row is two nodes, the lesser one first, behind the row ahead of it -/
def okRow (n : Int) (r : List Int) : Bool := match r with
  | [a, b] => decide (0 ≤ a) && decide (a + 1 ≤ b) && decide (b ≤ n - 1)
  | _ => false
def okNext (p r : List Int) : Bool := match p, r with
  | [a, b], [c, d] => decide (a < c) || (decide (a = c) && decide (b < d))
  | _, _ => false
def okAt (n : Int) (rows : List (List Int)) (i : Nat) : Bool := okRow n (rows.getD i []) && (decide (i = 0) || okNext (rows.getD (i - 1) []) (rows.getD i []))
def okUp (n : Int) (rows : List (List Int)) (k : Nat) : Bool := (List.range k).all (okAt n rows)
theorem okUp_step (n : Int) (rows : List (List Int)) (k : Nat) : okUp n rows (k + 1) = (okUp n rows k && okAt n rows k) := by
  unfold okUp
  rw [List.range_succ, List.all_append]
  simp
theorem okUp_at {n : Int} {rows : List (List Int)} {k i : Nat} (h : okUp n rows k = true) (hi : i < k) : okAt n rows i = true :=
  List.all_eq_true.1 h i (List.mem_range.2 hi)
theorem okUp_no {n : Int} {rows : List (List Int)} {k i : Nat} (h : okAt n rows i = false) (hi : i < k) : okUp n rows k = false := by
  cases hh : okUp n rows k with
  | false => rfl
  | true => rw [okUp_at hh hi] at h; cases h
theorem okRow_eq {n : Int} {r : List Int} (h : okRow n r = true) : ∃ a b : Nat, r = [(a : Int), (b : Int)] ∧ a < b ∧ (b : Int) ≤ n - 1 := by
  unfold okRow at h
  split at h
  · rename_i a b
    simp only [Bool.and_eq_true, decide_eq_true_eq] at h
    obtain ⟨⟨h1, h2⟩, h3⟩ := h
    exact ⟨a.toNat, b.toNat, by rw [Int.toNat_of_nonneg h1, Int.toNat_of_nonneg (by omega)], by omega, by omega⟩
  · cases h
/-- are the rows a tree of so many nodes? -/
def treeB (n : Int) (rows : List (List Int)) : Bool :=
  decide (1 ≤ n ∧ n ≤ 7) && decide ((rows.length : Int) = n - 1) && okUp n rows rows.length && decide (((reachedN n.toNat (edgesR rows)).length : Int) = n)
theorem ok_rows {n : Int} {rows : List (List Int)} (h : okUp n rows rows.length = true) : rows = rowsE (edgesR rows) ∧ (∀ e ∈ edgesR rows, e.1 < e.2 ∧ (e.2 : Int) < n) ∧ AscP (edgesR rows) := by
  have hrow : ∀ r ∈ rows, ∃ a b : Nat, r = [(a : Int), (b : Int)] ∧ a < b ∧ (b : Int) ≤ n - 1 := by
    intro r hr
    obtain ⟨i, hi, rfl⟩ := List.getElem_of_mem hr
    have h1 := okUp_at h hi
    unfold okAt at h1
    rw [Bool.and_eq_true] at h1
    have e : rows.getD i [] = rows[i] := by rw [List.getD_eq_getElem?_getD, List.getElem?_eq_getElem hi]; rfl
    rw [e] at h1
    exact okRow_eq h1.1
  refine ⟨?_, ?_, ?_⟩
  · unfold rowsE edgesR
    rw [List.map_map]
    refine (List.map_id rows).symm.trans (List.map_congr_left fun r hr => ?_)
    obtain ⟨a, b, rfl, _, _⟩ := hrow r hr
    simp
  · intro e he
    obtain ⟨r, hr, rfl⟩ := List.mem_map.1 he
    obtain ⟨a, b, rfl, h1, h2⟩ := hrow r hr
    simp
    omega
  · show List.Pairwise _ (rows.map _)
    have key : ∀ (L : List (List Int)), (∀ i (hi : i + 1 < L.length), okNext (L.getD i []) (L.getD (i + 1) []) = true) → (∀ r ∈ L, ∃ a b : Nat, r = [(a : Int), (b : Int)] ∧ a < b ∧ (b : Int) ≤ n - 1) → AscP (edgesR L) := by
      intro L
      induction L with
      | nil => intro _ _; exact List.Pairwise.nil
      | cons r t ih =>
        intro h1 h2
        have iht := ih (fun i hi => h1 (i + 1) (by simp; omega)) (fun z hz => h2 z (List.mem_cons_of_mem _ hz))
        show AscP (_ :: edgesR t)
        refine List.pairwise_cons.2 ⟨fun y hy => ?_, iht⟩
        cases t with
        | nil => simp [edgesR] at hy
        | cons s u =>
          obtain ⟨a, b, rfl, _, _⟩ := h2 r (by simp)
          obtain ⟨c, d, rfl, _, _⟩ := h2 s (by simp)
          have h3 := h1 0 (by simp)
          have h4 : ltP (((([(a : Int), (b : Int)] : List Int).getD 0 0).toNat), ((([(a : Int), (b : Int)] : List Int).getD 1 0).toNat)) (c, d) = true := by
            rw [ltP_iff]
            simp [okNext] at h3
            simp
            omega
          have hcd : edgesR ([(c : Int), (d : Int)] :: u) = (c, d) :: edgesR u := by simp [edgesR]
          rw [hcd] at hy iht
          rcases List.mem_cons.1 hy with rfl | hy
          · exact h4
          · exact ltP_trans h4 ((List.pairwise_cons.1 iht).1 y hy)
    refine key rows (fun i hi => ?_) hrow
    have h1 := okUp_at h hi
    unfold okAt at h1
    simp only [Bool.and_eq_true, Bool.or_eq_true, decide_eq_true_eq] at h1
    rcases h1.2 with h2 | h2
    · omega
    · exact h2
theorem rows_ok {n : Int} {E : Edges} (ho : ∀ e ∈ E, e.1 < e.2 ∧ (e.2 : Int) < n) (ha : AscP E) : okUp n (rowsE E) (rowsE E).length = true := by
  unfold okUp
  rw [List.all_eq_true]
  intro i hi
  rw [List.mem_range] at hi
  have hiE : i < E.length := by simpa [rowsE] using hi
  have e1 : (rowsE E).getD i [] = [(E[i].1 : Int), (E[i].2 : Int)] := by
    rw [List.getD_eq_getElem?_getD, List.getElem?_eq_getElem hi]; simp [rowsE]
  obtain ⟨o1, o2⟩ := ho _ (List.getElem_mem hiE)
  unfold okAt
  rw [e1, Bool.and_eq_true, Bool.or_eq_true, decide_eq_true_eq]
  refine ⟨?_, ?_⟩
  · simp [okRow]; omega
  · by_cases h0 : i = 0
    · exact .inl h0
    · right
      have hp : i - 1 < E.length := by omega
      have e2 : (rowsE E).getD (i - 1) [] = [(E[i - 1].1 : Int), (E[i - 1].2 : Int)] := by
        rw [List.getD_eq_getElem?_getD, List.getElem?_eq_getElem (by simp [rowsE]; omega)]; simp [rowsE]
      rw [e2]
      have := (List.pairwise_iff_getElem.1 ha) (i - 1) i hp hiE (by omega)
      rw [ltP_iff] at this
      simp [okNext]
      omega
/-- the rows are a tree just if they are the rows of one -/
theorem treeB_iff {n : Int} {rows : List (List Int)} : treeB n rows = true ↔ (1 ≤ n ∧ n ≤ 7) ∧ rows = rowsE (edgesR rows) ∧ ValidT n.toNat (edgesR rows) := by
  have hlen : (edgesR rows).length = rows.length := by simp [edgesR]
  unfold treeB
  simp only [Bool.and_eq_true, decide_eq_true_eq]
  constructor
  · rintro ⟨⟨⟨h1, h2⟩, h3⟩, h4⟩
    obtain ⟨r1, r2, r3⟩ := ok_rows h3
    have hE : ∀ e ∈ edgesR rows, e.1 < n.toNat ∧ e.2 < n.toNat := fun e he => by have := r2 e he; omega
    exact ⟨h1, r1, by omega, fun e he => ⟨(r2 e he).1, (hE e he).2⟩, r3, (reachedN_iff (by omega) hE).1 (by omega)⟩
  · rintro ⟨h1, h2, h3⟩
    have hE : ∀ e ∈ edgesR rows, e.1 < n.toNat ∧ e.2 < n.toNat := fun e he => by have := h3.ord e he; omega
    have hl := h3.len
    refine ⟨⟨⟨h1, by omega⟩, ?_⟩, ?_⟩
    · have := rows_ok (n := n) (fun e he => ⟨(h3.ord e he).1, by have := (h3.ord e he).2; omega⟩) h3.asc
      rw [← h2] at this
      exact this
    · have := (reachedN_iff (n := n.toNat) (by omega) hE).2 h3.conn
      omega
end Go.Proofs.Ytakpbnkncjddeaa

namespace Go.Proofs.Ytakpbnkncjddeaa
open Go.RowKit

/-- what is told of a slice of numbers that came in: nil, or a row of cap cells that hold zs -/
def IsRow (k : IntKind) (w : World) (a : Option Addr) (len cap : Nat) (zs : List Int) : Prop :=
  (a = none ∧ len = 0 ∧ cap = 0 ∧ zs = []) ∨
  ∃ x, a = some x ∧ len ≤ cap ∧ cap ≤ maxLen ∧ zs.length = cap ∧ (∀ i, i < zs.length → w.cell? (x.add i) = some (.int k (zs.getD i 0))) ∧ ∀ n ∈ zs, (Lit.int k n).wf = true

theorem IsRow.below {k : IntKind} {w w' : World} {a : Option Addr} {len cap : Nat} {zs : List Int} (h : IsRow k w a len cap zs) (hb : Below w.heap.size w w') : IsRow k w' a len cap zs := by
  rcases h with h | ⟨x, h1, h2, h3, h4, h5, h6⟩
  · exact .inl h
  · refine .inr ⟨x, h1, h2, h3, h4, fun i hi => ?_, h6⟩
    have hc := h5 i hi
    exact (hb.cell (World.block_lt_of_cell? w _ hc)).trans hc
theorem IsRow.at_ {k : IntKind} {w : World} {a : Option Addr} {len cap : Nat} {zs : List Int} (h : IsRow k w a len cap zs) (i : Nat) (hi : i < len) :
    ∃ b off, a = some ⟨b, off, none⟩ ∧ w.cell? ⟨b, off + i, none⟩ = some (.int k (zs.getD i 0)) := by
  rcases h with ⟨_, h0, _⟩ | ⟨x, h1, h2, h3, h4, h5, h6⟩
  · omega
  · obtain ⟨b, off, spot⟩ := x
    have hc0 := h5 0 (by omega)
    have hspot : spot = none := by simpa [Addr.add] using World.cell?_spot hc0
    subst hspot
    exact ⟨b, off, h1, by have := h5 i (by omega); rwa [Addr.add_lit] at this⟩
theorem IsRow.len {k : IntKind} {w : World} {a : Option Addr} {len cap : Nat} {zs : List Int} (h : IsRow k w a len cap zs) : len ≤ zs.length ∧ len ≤ cap := by
  rcases h with ⟨_, h0, h1, h2⟩ | ⟨x, h1, h2, h3, h4, h5, h6⟩
  · subst h2; simp; omega
  · omega

end Go.Proofs.Ytakpbnkncjddeaa

namespace Go.Proofs.Ytakpbnkncjddeaa

/-- how many words there are of k pairs, up to nine -/
def cat (k : Nat) : Int := [1, 1, 2, 5, 14, 42, 132, 429, 1430, 4862].getD k 0
/-- the sum of the first i products -/
def ps (k : Nat) : Nat → Int
  | 0 => 0
  | i + 1 => ps k i + cat i * cat (k - 1 - i)

theorem ps_full (k : Nat) (h1 : 1 ≤ k) (h9 : k ≤ 9) : ps k k = cat k := (by decide : ∀ k, k ≤ 9 → 1 ≤ k → ps k k = cat k) k h9 h1
theorem ps_bd : ∀ k, k ≤ 9 → ∀ i, i ≤ k → 0 ≤ ps k i ∧ ps k i ≤ 4862 := by decide
theorem cat_bd : ∀ k, k ≤ 9 → 0 ≤ cat k ∧ cat k ≤ 4862 := by decide
theorem prod_bd : ∀ k, k ≤ 9 → ∀ i, i < k → 0 ≤ cat i * cat (k - 1 - i) ∧ cat i * cat (k - 1 - i) ≤ 4862 := by decide

def catV (m : Nat) : List Value := (List.range m).map fun k => .int .i64 (cat k)
theorem catV_length (m : Nat) : (catV m).length = m := by simp [catV]
theorem catV_at (m j : Nat) (h : j < m) : (catV m)[j]? = some (.int .i64 (cat j)) := by simp [catV, h]
theorem catV_snoc (m : Nat) : catV m ++ [.int .i64 (cat m)] = catV (m + 1) := by simp [catV, List.range_succ]

/-- the row of the program's function: p numbers done, i products added of the next -/
def arrV (n p i : Nat) : List Value := (List.range (n + 1)).map fun j => .int .i64 (if j < p then cat j else if j = p then ps p i else 0)
theorem arrV_length (n p i : Nat) : (arrV n p i).length = n + 1 := by simp [arrV]
theorem arrV_at (n p i j : Nat) (h : j < n + 1) : (arrV n p i)[j]? = some (.int .i64 (if j < p then cat j else if j = p then ps p i else 0)) := by simp [arrV, h]
theorem arrV_lo (n p i j : Nat) (h : j < n + 1) (hj : j < p) : (arrV n p i)[j]? = some (.int .i64 (cat j)) := by rw [arrV_at n p i j h, if_pos hj]
theorem arrV_mid (n p i : Nat) (h : p < n + 1) : (arrV n p i)[p]? = some (.int .i64 (ps p i)) := by rw [arrV_at n p i p h, if_neg (by omega), if_pos rfl]
theorem arrV_set (n p i : Nat) : (arrV n p i).set p (.int .i64 (ps p i + cat i * cat (p - 1 - i))) = arrV n p (i + 1) := by
  apply List.ext_getElem?
  intro j
  rw [List.getElem?_set]
  by_cases hj : j < n + 1
  · by_cases he : p = j
    · subst he
      rw [if_pos rfl, if_pos (by rw [arrV_length]; exact hj), arrV_mid n p (i + 1) hj]; rfl
    · rw [if_neg he, arrV_at n p i j hj, arrV_at n p (i + 1) j hj]
      by_cases h1 : j < p
      · rw [if_pos h1, if_pos h1]
      · rw [if_neg h1, if_neg h1, if_neg (fun e => he e.symm), if_neg (fun e => he e.symm)]
  · have e1 : (arrV n p i)[j]? = none := List.getElem?_eq_none (by rw [arrV_length]; omega)
    have e2 : (arrV n p (i + 1))[j]? = none := List.getElem?_eq_none (by rw [arrV_length]; omega)
    rw [e1, e2]
    split
    · rename_i h; subst h; rw [if_neg (by rw [arrV_length]; exact hj)]
    · rfl
theorem arrV_next (n p : Nat) (h1 : 1 ≤ p) (h9 : p ≤ 9) : arrV n p p = arrV n (p + 1) 0 := by
  unfold arrV
  apply List.map_congr_left
  intro j _
  by_cases a : j < p
  · rw [if_pos a, if_pos (by omega)]
  · by_cases b : j = p
    · subst b; rw [if_neg a, if_pos rfl, if_pos (by omega), ps_full j h1 h9]
    · rw [if_neg a, if_neg b, if_neg (by omega)]; split <;> simp [ps]
theorem arrV_start (n : Nat) : (List.replicate (n + 1) (Value.int .i64 0)).set 0 (.int .i64 1) = arrV n 1 0 := by
  apply List.ext_getElem?
  intro j
  rw [List.getElem?_set]
  by_cases hj : j < n + 1
  · rw [arrV_at n 1 0 j hj]
    by_cases h0 : 0 = j
    · subst h0; simp [cat]
    · rw [if_neg h0, List.getElem?_replicate, if_pos hj, if_neg (by omega)]; split <;> simp [ps]
  · rw [List.getElem?_eq_none (by rw [arrV_length]; omega : (arrV n 1 0).length ≤ j)]
    split
    · rename_i h; subst h; omega
    · rw [List.getElem?_replicate, if_neg hj]

/-- the answer -/
def catOut (n : Int) : Int := if 0 ≤ n ∧ n ≤ 9 then cat n.toNat else -1
theorem catOut_in (n : Nat) (h : n ≤ 9) : catOut n = cat n := by rw [catOut, if_pos ⟨by omega, by omega⟩]; rfl
theorem catOut_out (n : Int) (h : n < 0 ∨ 9 < n) : catOut n = -1 := by rw [catOut, if_neg (by omega)]
end Go.Proofs.Ytakpbnkncjddeaa
