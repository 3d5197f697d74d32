/-
  Words on lists of rows of numbers in the call's own memory.
-/
import Derived.Test.YtfdalmeimhcdjaaWInts
namespace Go.Proofs.Ytfdalmeimhcdjaa
open Go.RowKit

/-- each row holds its numbers -/
def RowsI (w : World) (B H : Nat) (RV : List Value) (rows : List (List Int)) : Prop :=
  RV.length = rows.length ∧ ∀ (i : Nat) (v : Value) (r : List Int), RV[i]? = some v → rows[i]? = some r → Own w B H 3 v (iv r)
/-- no two rows share a block -/
def Dist (RV : List Value) : Prop := ∀ (i j : Nat) (u v : Value), i < j → RV[i]? = some u → RV[j]? = some v → u.ownBlock = none ∨ u.ownBlock ≠ v.ownBlock
/-- a list of rows -/
def Grid (w : World) (B H : Nat) (v : Value) (RV : List Value) (rows : List (List Int)) : Prop := Own w B H 28 v RV ∧ RowsI w B H RV rows

section
variable {w w' : World} {B H H' : Nat} {v : Value} {RV RV' : List Value} {rows rows' : List (List Int)}
theorem RowsI.more (h : RowsI w B H RV rows) (hH : H ≤ H') : RowsI w B H' RV rows := ⟨h.1, fun i v r h1 h2 => (h.2 i v r h1 h2).more hH⟩
theorem RowsI.below (h : RowsI w B H RV rows) (hb : Below H w w') : RowsI w' B H RV rows := ⟨h.1, fun i v r h1 h2 => (h.2 i v r h1 h2).below hb⟩
theorem RowsI.same (h : RowsI w B H RV rows) (e : w'.heap = w.heap) : RowsI w' B H RV rows := ⟨h.1, fun i v r h1 h2 => (h.2 i v r h1 h2).same e⟩
theorem Grid.more (h : Grid w B H v RV rows) (hH : H ≤ H') : Grid w B H' v RV rows := ⟨h.1.more hH, h.2.more hH⟩
theorem Grid.below (h : Grid w B H v RV rows) (hb : Below H w w') : Grid w' B H v RV rows := ⟨h.1.below hb, h.2.below hb⟩
theorem Grid.same (h : Grid w B H v RV rows) (e : w'.heap = w.heap) : Grid w' B H v RV rows := ⟨h.1.same e, h.2.same e⟩
theorem own_lo {B' : Nat} {t : TypeId} {xs : List Value} (h : Own w B H t v xs) (hB : B' ≤ B) : Own w B' H t v xs :=
  ⟨⟨h.1.1, h.1.2.imp id (fun ⟨g, cap, cur, e1, hg, r⟩ => ⟨g, cap, cur, e1, by omega, r⟩)⟩, h.2⟩
theorem RowsI.lo {B' : Nat} (h : RowsI w B H RV rows) (hB : B' ≤ B) : RowsI w B' H RV rows := ⟨h.1, fun i v r h1 h2 => own_lo (h.2 i v r h1 h2) hB⟩
theorem Grid.lo {B' : Nat} (h : Grid w B H v RV rows) (hB : B' ≤ B) : Grid w B' H v RV rows := ⟨own_lo h.1 hB, h.2.lo hB⟩
theorem RowsI.nil : RowsI w B H [] [] := ⟨rfl, fun i v r h => by simp at h⟩
theorem RowsI.append (h : RowsI w B H RV rows) (h' : RowsI w B H RV' rows') : RowsI w B H (RV ++ RV') (rows ++ rows') := by
  refine ⟨by rw [List.length_append, List.length_append, h.1, h'.1], fun i u r h1 h2 => ?_⟩
  by_cases hi : i < RV.length
  · rw [List.getElem?_append_left hi] at h1
    rw [List.getElem?_append_left (by rw [← h.1]; exact hi)] at h2
    exact h.2 i u r h1 h2
  · rw [List.getElem?_append_right (by omega)] at h1
    rw [List.getElem?_append_right (by rw [← h.1]; omega)] at h2
    rw [← h.1] at h2
    exact h'.2 _ u r h1 h2
theorem RowsI.one {u : Value} {r : List Int} (h : Own w B H 3 u (iv r)) : RowsI w B H [u] [r] := by
  refine ⟨rfl, fun i x y h1 h2 => ?_⟩
  cases i with
  | zero => simp at h1 h2; subst h1; subst h2; exact h
  | succ i => simp at h1
theorem RowsI.at_ (h : RowsI w B H RV rows) (i : Nat) (hi : i < rows.length) : ∃ u, RV[i]? = some u ∧ Own w B H 3 u (iv rows[i]) := by
  have hi' : i < RV.length := by rw [h.1]; exact hi
  exact ⟨_, List.getElem?_eq_getElem hi', h.2 i _ _ (List.getElem?_eq_getElem hi') (List.getElem?_eq_getElem hi)⟩
/-- rows of numbers are no rows of rows: a change of the one leaves the other -/
theorem RowsI.grown {t : TypeId} {u : Value} {xs : List Value} {B₁ H₁ : Nat} (h : RowsI w B H RV rows) (hu : Own w B₁ H₁ t u xs) (ht : 3 ≠ t) (hg : w.grownBy w' u.ownBlock) : RowsI w' B H RV rows :=
  ⟨h.1, fun i v r h1 h2 => (h.2 i v r h1 h2).grown hg ((h.2 i v r h1 h2).ne hu ht)⟩
theorem RowsI.fresh (h : RowsI w B H RV rows) (hb : Below w.heap.size w w') (hH : H ≤ w.heap.size) : RowsI w' B H RV rows := h.below (hb.mono hH)
end
end Go.Proofs.Ytfdalmeimhcdjaa
