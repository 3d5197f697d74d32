/-
  The walk of the exact statement on DegreesOf, given the contract of the program's DegreesOf.
-/
import Derived.Test.YtfdalmeimhcdjaaCCodeS
import Derived.Test.YtfdalmeimhcdjaaCGridIn
import Derived.Test.YtfdalmeimhcdjaaCMarks
namespace Go.Proofs.Ytfdalmeimhcdjaa
open Go.RowKit

theorem grid_sliceK {w : World} {B H : Nat} {v : Value} {RV : List Value} {rows : List (List Int)} (hG : Grid w B H v RV rows) : ∃ a cap, v = .slice a rows.length cap := by
  obtain ⟨au, cu, rfl, _⟩ := hG.1.slice
  exact ⟨au, cu, by rw [hG.2.1]⟩
theorem rowsIn_leK {len : Nat} {L : Nat → Nat} {Z : Nat → List Int} (h : ∀ r, r < len → L r ≤ 1048576) : ∀ r ∈ rowsIn len L Z, r.length ≤ 1048576 := by
  intro r hr
  obtain ⟨k, hk, rfl⟩ := List.mem_map.1 hr
  rw [List.length_take]
  have := h k (List.mem_range.1 hk)
  omega
theorem offs_big (rows : List (List Int)) (h : ∀ r ∈ rows, r.length ≤ 1048576) : ∀ j, offs rows j ≤ 1048576 * j := by
  intro j
  induction j with
  | zero => simp [offs]
  | succ j ih =>
    rw [offs]
    by_cases hj : j < rows.length
    · have h1 := h _ (List.getElem_mem hj)
      have h2 : rows.getD j [] = rows[j] := by rw [List.getD_eq_getElem?_getD, List.getElem?_eq_getElem hj]; rfl
      rw [h2]; omega
    · have h2 : rows.getD j [] = [] := by rw [List.getD_eq_getElem?_getD, List.getElem?_eq_none (by omega)]; rfl
      rw [h2]; simp only [List.length_nil]; omega
theorem degOut_length (n : Int) (rows : List (List Int)) : (degOut n rows).length ≤ 64 := by
  unfold degOut
  split
  · next h =>
    obtain ⟨h1, _, _⟩ := treeB_iff.1 h
    rw [List.length_map, List.length_map, List.length_range]; omega
  · simp
theorem rowblock {w : World} {B H : Nat} {RV : List Value} {rows : List (List Int)} (h : RowsI w B H RV rows) : ∀ u ∈ RV, ∀ q, u.ownBlock = some q → B ≤ q ∧ q < H := by
  intro u hu q hq
  obtain ⟨i, hi, rfl⟩ := List.getElem_of_mem hu
  have ho := h.2 i _ _ (List.getElem?_eq_getElem hi) (List.getElem?_eq_getElem (by rw [← h.1]; exact hi))
  exact ⟨(ho.1.lt q hq).1, ho.2 q hq⟩
theorem apart_rows {w0 : World} {B H B' H' : Nat} {t : TypeId} {v : Value} {xs : List Value} {RV : List Value} {w1 : World} {rows : List (List Int)} (ho : Own w0 B' H' t v xs) (hr : RowsI w1 B H RV rows) (hd : H' ≤ B ∨ H ≤ B') : ∀ u ∈ RV, v.ownBlock = none ∨ v.ownBlock ≠ u.ownBlock := by
  intro u hu
  cases hb : v.ownBlock with
  | none => exact .inl rfl
  | some g =>
    right
    intro e
    have h1 := rowblock hr u hu g e.symm
    have h2 := ho.2 g hb
    have h3 := (ho.1.lt g hb).1
    omega

end Go.Proofs.Ytfdalmeimhcdjaa
