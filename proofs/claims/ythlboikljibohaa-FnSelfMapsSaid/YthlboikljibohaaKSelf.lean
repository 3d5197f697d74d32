/-
  What the laws on maps ask: the numbers of maps told by texts and of those that are tried, and the contract of the laws' factorial.
-/
import Derived.Test.YthlboikljibohaaCFreeO
import Derived.Test.YthlboikljibohaaZQ
import Derived.Test.YthlboikljibohaaCInts
namespace Go.Proofs.Ythlboikljibohaa
open Go.RowKit

theorem self_facts (n : Int) (rows : List (List Int)) : (mapsOut n rows = -1 ∧ triedOut n rows = -1) ∨
    ∃ (k m : Nat), n = (k : Int) ∧ 1 ≤ k ∧ k ≤ 7 ∧ mapsOut n rows = (m : Int) ∧ 1 ≤ m ∧ m ≤ 5040 ∧ m ∣ fct k ∧ (k ≤ 6 → triedOut n rows = (m : Int)) ∧ rows.length + 1 = k := by
  unfold mapsOut triedOut
  by_cases ht : treeB n rows = true
  · right
    rw [if_pos ht, if_pos ht]
    obtain ⟨hn, _, hv⟩ := treeB_iff.1 ht
    have hrl : rows.length = (edgesR rows).length := by unfold edgesR; rw [List.length_map]
    have hvl := hv.len
    obtain ⟨k, rfl⟩ : ∃ k : Nat, n = (k : Int) := ⟨n.toNat, by omega⟩
    rw [Int.toNat_natCast] at hv ⊢
    have hk7 : k ≤ 7 := by omega
    have hp := maps_pos hv hk7
    refine ⟨k, mapsN k (edgesR rows), rfl, by omega, hk7, ?_, hp.1, hp.2, maps_dvd hv hk7, fun h6 => ?_, by omega⟩
    · rw [IntKind.wrap_i64]; omega
    · rw [maps_tried hv (by omega) h6]
  · left
    rw [if_neg ht, if_neg ht]
    exact ⟨rfl, rfl⟩

set_option maxHeartbeats 800000 in
theorem factorial_any (n : Nat) (w : World) (hn : n ≤ 7) :
    Calls Try.prog 17 #[.int .i64 (n : Int)] w fun e w' => e = .returned (.int .i64 ((fct n : Nat) : Int)) ∧ w = w' := by
  obtain ⟨r, hr⟩ : ∃ r : Nat, r = fct n := ⟨_, rfl⟩
  rw [← hr]
  have HR := Lib.hid hr
  clear hr
  go_enter Try.func17, Try.ntmps17
  go_wp2
  go_loop [3, 4] (fun out i => ∃ (k p : Nat), 1 ≤ k ∧ (k ≤ n ∨ k = 1) ∧ i = .int .i64 ((k + 1 : Nat) : Int) ∧ out = .int .i64 (p : Int) ∧ Hid (p = fct k)) (fun _ i => n + 1 - (intOf i).toNat)
  case atStart => exact ⟨1, 1, Nat.le_refl _, .inr rfl, rfl, rfl, rfl⟩
  case round =>
    obtain ⟨k, p, hk1, hk, rfl, rfl, HP⟩ := hrel
    obtain ⟨K, hK⟩ : ∃ K : Int, K = ((k + 1 : Nat) : Int) := ⟨_, rfl⟩
    rw [← hK]
    by_cases hlt : k < n
    · have b1 : K ≤ (n : Int) := by omega
      have hp : p ≤ 5040 := by rw [HP.out]; exact fct_le k (by omega)
      have hm : p * (k + 1) ≤ 5040 * 7 := Nat.mul_le_mul hp (by omega)
      have hmc : (p : Int) * K = ((p * (k + 1) : Nat) : Int) := by rw [hK]; push_cast; rfl
      have e1 : IntKind.i64.wrap ((p : Int) * K) = ((p * (k + 1) : Nat) : Int) := by rw [hmc, IntKind.wrap_i64]; omega
      have e2 : IntKind.i64.wrap (K + 1) = ((k + 1 + 1 : Nat) : Int) := by rw [IntKind.wrap_i64]; omega
      have HP2 : Hid (p * (k + 1) = fct (k + 1)) := by show _ = (k + 1) * fct k; rw [← HP.out, Nat.mul_comm]
      have HK := Lib.hid hK
      clear hp hm hmc HP hK
      go_wp2
      go_round
      case rel => exact ⟨k + 1, p * (k + 1), by omega, .inl (by omega), by first | rfl | rw [e2] | go_num, by first | rfl | rw [e1], HP2⟩
      case measure => have := HK.out; simp [intOf]; first | omega | (rw [e2]; simp [intOf]; omega)
    · have b1 : ¬ K ≤ (n : Int) := by omega
      have HF : Hid (p = fct n) := by
        show _ = _
        rw [HP.out]
        rcases hk with h | h
        · rw [show k = n by omega]
        · subst h
          obtain rfl | rfl : n = 0 ∨ n = 1 := by omega
          · rfl
          · rfl
      clear hK HP
      go_wp2
      go_ret
      exact ⟨by rw [HR.out, HF.out]; rfl, rfl⟩
end Go.Proofs.Ythlboikljibohaa
