/-
  Rows of numbers beside a reader: what drawing leaves alone, and a row put in the place of another one.
-/
import Derived.Test.YthlboikljibohaaZD
import Derived.Test.YthlboikljibohaaZW
namespace Go.Proofs.Ythlboikljibohaa
open Go.RowKit

theorem rd_ne {w : World} {B B1 H R n c p : Nat} {a : Option Addr} {t : TypeId} {v : Value} {xs : List Value} (hO : Own w B1 H t v xs) (h : Rd w B R a n c p) (ht : t ≠ 86) : v.ownBlock ≠ some R := by
  rcases hO.1.2 with ⟨h0, _⟩ | ⟨g, cap, cur, e, _, hb, _⟩
  · subst h0; simp [Value.ownBlock]
  · subst e
    intro e
    simp only [Value.ownBlock, Option.some.injEq] at e
    subst e
    have := h.blk
    rw [hb] at this
    simp only [Option.some.injEq, Obj.cells.injEq] at this
    exact ht this.2.1
theorem Grid.only {w w' : World} {B B1 H R n c p : Nat} {a : Option Addr} {v : Value} {RV : List Value} {rows : List (List Int)} (hG : Grid w B1 H v RV rows) (h : Rd w B R a n c p) (ho : Only R w w') : Grid w' B1 H v RV rows :=
  ⟨hG.1.only ho (rd_ne hG.1 h (by decide)), hG.2.1, fun i u r h1 h2 => (hG.2.2 i u r h1 h2).only ho (rd_ne (hG.2.2 i u r h1 h2) h (by decide))⟩
/-- one row is put in the place of another one -/
theorem Grid.put {w : World} {B H g c0 k : Nat} {u : Value} {r : List Int} {RV : List Value} {rows : List (List Int)} (hG : Grid w B H (.slice (some ⟨g, 0, none⟩) rows.length c0) RV rows) (hk : k < rows.length) (hu : Own w B H 3 u (iv r)) :
    Grid (w.setCell ⟨g, k, none⟩ u) B H (.slice (some ⟨g, 0, none⟩) rows.length c0) (RV.set k u) (rows.set k r) := by
  have lu := hG.2.1
  have ho1 := hG.1.1
  rw [lu] at ho1
  have st := ho1.stored k u
  have far : ∀ {v : Value} {xs : List Value}, Own w B H 3 v xs → Own (w.setCell ⟨g, k, none⟩ u) B H 3 v xs := fun {v xs} h => by
    have hne := h.ne hG.1 (by decide)
    exact ⟨own_of_blocks h.1 (fun q hq => Below.heap_setCell _ _ _ _ (fun e => by
      rcases hne with h0 | h0
      · rw [h0] at hq; cases hq
      · apply h0; rw [hq, e]; rfl)), h.2⟩
  refine ⟨⟨by rw [List.length_set, lu]; exact st.1, hG.1.2⟩, by rw [List.length_set, List.length_set]; exact lu, fun i v x h1 h2 => ?_⟩
  by_cases e : i = k
  · subst e
    rw [List.getElem?_set_self (by omega)] at h1 h2
    cases h1; cases h2
    exact far hu
  · rw [List.getElem?_set_ne (by omega)] at h1 h2
    exact far (hG.2.2 i v x h1 h2)
end Go.Proofs.Ythlboikljibohaa
