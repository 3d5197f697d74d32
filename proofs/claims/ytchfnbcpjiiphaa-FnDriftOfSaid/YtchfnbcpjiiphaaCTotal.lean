/-
  The contract of the laws' own sum of a list.
-/
import Derived.Test.YtchfnbcpjiiphaaZE
import Derived.Test.YtchfnbcpjiiphaaWFactsD
namespace Go.Proofs.Ytchfnbcpjiiphaa
open Go.RowKit

theorem sumI_bd (l : List Int) (h : ∀ x ∈ l, 0 ≤ x ∧ x ≤ 1000) : ∀ k, k ≤ l.length → 0 ≤ sumI l k ∧ sumI l k ≤ 1000 * k
  | 0, _ => by simp [sumI]
  | k + 1, hk => by
    have ih := sumI_bd l h k (by omega)
    have hx := h (l[k]'(by omega)) (List.getElem_mem _)
    have e : l.getD k 0 = l[k]'(by omega) := by simp [List.getElem?_eq_getElem (show k < l.length by omega)]
    rw [sumI, e]; omega

set_option maxHeartbeats 800000 in
theorem total_any (l : List Int) (v : Value) (w : World) {B H : Nat} (hv : Hid (Own w B H 3 v (iv l))) (hl : l.length ≤ 1000) (hb : Hid (∀ x ∈ l, 0 ≤ x ∧ x ≤ 1000)) :
    Calls Try.prog 32 #[v] w fun e w' => e = .returned (.int .i64 (sumI l l.length)) ∧ w = w' := by
  obtain ⟨av, cv, rfl, _, hcv, _, _⟩ := hv.out.slice
  rw [iv_length] at hv hcv ⊢
  go_enter Try.func32, Try.ntmps32
  go_wp2
  go_loop [3, 4] (fun n i => ∃ k : Nat, k ≤ l.length ∧ i = .int .i64 k ∧ n = .int .i64 (sumI l k)) (fun _ i => l.length - (intOf i).toNat)
  case atStart => exact ⟨0, Nat.zero_le _, rfl, rfl⟩
  case round =>
    obtain ⟨k, hk, rfl, rfl⟩ := hrel
    by_cases hlt : k < l.length
    · obtain ⟨g1, rfl, _, _, h1, _⟩ := hv.out.at_ k (by rw [iv_length]; exact hlt)
      rw [iv_at l k hlt] at h1
      have b1 : (k : Int) < (l.length : Int) := by omega
      have h2 := sumI_bd l hb.out k hk
      have h3 := sumI_bd l hb.out (k + 1) hlt
      have e : sumI l (k + 1) = sumI l k + l[k] := by rw [sumI]; congr 1; simp [List.getElem?_eq_getElem hlt]
      rw [e] at h3
      have E := Lib.hid e
      obtain ⟨y, hy⟩ : ∃ y, y = l[k] := ⟨_, rfl⟩
      obtain ⟨S, hS⟩ : ∃ S, S = sumI l k := ⟨_, rfl⟩
      rw [← hy] at h1 h3 E
      rw [← hS] at h2 h3 E ⊢
      clear hy hS e
      go_wp2
      go_round
      case rel => exact ⟨k + 1, by omega, by go_num, by rw [E.out]⟩
      case measure => simp [intOf]; omega
    · obtain rfl : k = l.length := by omega
      go_wp2
      go_ret
      exact ⟨rfl, rfl⟩
end Go.Proofs.Ytchfnbcpjiiphaa
