/-
  The contracts of the model's functions on words as two-armed trees and as cut polygons, for whatever text.
-/
import Derived.Test.YtmlcbeekimiaiaaCFam
namespace Go.Proofs.Ytmlcbeekimiaiaa
open Go.RowKit

theorem rows_one {w : World} {B H : Nat} {RV : List Value} {rows : List (List Int)} (h : RowsI w B H RV rows) : ∀ u ∈ RV, u.oneCell' = true := by
  intro u hu
  obtain ⟨i, hi, rfl⟩ := List.getElem_of_mem hu
  obtain ⟨ao, cap, hv', _⟩ := (h.2 i _ _ (List.getElem?_eq_getElem hi) (List.getElem?_eq_getElem (by rw [← h.1]; exact hi))).slice
  rw [hv']; rfl

end Go.Proofs.Ytmlcbeekimiaiaa
