/-
  The sum of a list is what total answers; what the drift law asks.
-/
import Derived.Test.YtchfnbcpjiiphaaCTotal
import Derived.Test.YtchfnbcpjiiphaaZW
namespace Go.Proofs.Ytchfnbcpjiiphaa

theorem sumI_take (l : List Int) : ∀ k, k ≤ l.length → sumI l k = (l.take k).sum
  | 0, _ => by simp [sumI]
  | k + 1, hk => by
    rw [sumI, sumI_take l k (by omega), List.take_succ_eq_append_getElem (by omega), List.sum_append, List.getD_eq_getElem?_getD, List.getElem?_eq_getElem (show k < l.length by omega)]
    simp
theorem drift_law {l : List Int} (h : 0 ≤ driftB l) : wishB l = true ∧ 2 * (driftB l + sumI l l.length) = (l.length : Int) * ((l.length : Int) - 1) ∧ driftB l.reverse = driftB l := by
  have hp : parkB l = true := by
    cases e : parkB l with
    | true => rfl
    | false => rw [driftB, e] at h; simp at h
  rw [sumI_take l _ (Nat.le_refl _), List.take_length]
  exact ⟨by rw [parkB, Bool.and_eq_true] at hp; exact hp.1, drift_all hp, drift_rev hp⟩
theorem half_of {n : Nat} (hn : n ≤ 8) {T : Int} (h : 2 * T = (n : Int) * ((n : Int) - 1)) :
    IntKind.i64.wrap ((n : Int) - 1) = (n : Int) - 1 ∧ IntKind.i64.wrap ((n : Int) * ((n : Int) - 1)) = 2 * T ∧ (2 * T).tdiv 2 = T ∧ IntKind.i64.wrap T = T := by
  have hb : 0 ≤ T ∧ T ≤ 28 := by
    have : n = 0 ∨ n = 1 ∨ n = 2 ∨ n = 3 ∨ n = 4 ∨ n = 5 ∨ n = 6 ∨ n = 7 ∨ n = 8 := by omega
    rcases this with rfl | rfl | rfl | rfl | rfl | rfl | rfl | rfl | rfl <;> simp at h <;> omega
  refine ⟨by rw [IntKind.wrap_i64]; omega, by rw [← h, IntKind.wrap_i64]; omega, ?_, by rw [IntKind.wrap_i64]; omega⟩
  rw [Int.tdiv_eq_ediv_of_nonneg (by omega)]
  omega
end Go.Proofs.Ytchfnbcpjiiphaa
