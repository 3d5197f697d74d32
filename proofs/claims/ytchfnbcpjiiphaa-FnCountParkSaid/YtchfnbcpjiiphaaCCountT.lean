/-
  The contract of the program's count of trees.
-/
import Derived.Test.YtchfnbcpjiiphaaCPow
namespace Go.Proofs.Ytchfnbcpjiiphaa
open Go.RowKit

set_option maxHeartbeats 800000 in
theorem countTrees_p (n : Int) (w : World) (_hn : (Lit.int .i64 n).wf = true) :
    Calls Try.prog 26 #[.int .i64 n] w fun e w' => e = .returned (.int .i64 (treesN n)) ∧ w = w' := by
  by_cases h : 1 ≤ n ∧ n ≤ 7
  · rw [treesN, if_pos h]
    obtain ⟨x, rfl⟩ : ∃ k : Nat, n = (k : Int) := ⟨n.toNat, by omega⟩
    have hx : x ≤ 7 := by omega
    obtain ⟨d, hd⟩ : ∃ d, d = x - 2 := ⟨_, rfl⟩
    obtain ⟨z, hz⟩ : ∃ z : Int, z = (x : Int) - 2 := ⟨_, rfl⟩
    have e0 : IntKind.i64.wrap ((x : Int) - 2) = z := by rw [IntKind.wrap_i64]; omega
    have hd5 : d ≤ 5 := by omega
    have hzd : (d : Int) = z ∨ (z < 0 ∧ d = 0) := by omega
    rw [show ((x : Int).toNat) = x from rfl]
    obtain ⟨r, hr⟩ : ∃ r : Nat, r = x ^ (x - 2) := ⟨_, rfl⟩
    rw [← hr]
    rw [← hd] at hr
    have HR := Lib.hid hr
    clear hr hd hz
    go_enter Try.func26, Try.ntmps26
    go_wp2
    go_loop [3, 12] (fun out i => ∃ k p : Nat, k ≤ d ∧ i = .int .i64 (k : Int) ∧ out = .int .i64 (p : Int) ∧ Hid (p = x ^ k)) (fun _ i => d - (intOf i).toNat)
    case atStart => exact ⟨0, 1, Nat.zero_le _, rfl, rfl, rfl⟩
    case round =>
      obtain ⟨k, p, hk, rfl, rfl, HP⟩ := hrel
      by_cases hlt : k < d
      · have b1 : (k : Int) < z := by omega
        have hp := pow_le x hx k (by omega)
        rw [← HP.out] at hp
        have hm : p * x ≤ 16807 * 7 := Nat.mul_le_mul hp hx
        have hmc : (p : Int) * (x : Int) = ((p * x : Nat) : Int) := by push_cast; rfl
        have e1 : IntKind.i64.wrap ((p : Int) * (x : Int)) = ((p * x : Nat) : Int) := by rw [hmc, IntKind.wrap_i64]; omega
        have HP2 : Hid (p * x = x ^ (k + 1)) := by show _ = _; rw [Nat.pow_succ, ← HP.out]
        clear hp hm hmc HP
        go_wp2
        go_round
        case rel => exact ⟨k + 1, p * x, by omega, by go_num, by first | rfl | rw [e1], HP2⟩
        case measure => simp [intOf]; omega
      · obtain rfl : k = d := by omega
        have b1 : ¬ (k : Int) < z := by omega
        go_wp2
        go_ret
        exact ⟨by rw [HR.out, HP.out]; rfl, rfl⟩
  · rw [treesN, if_neg h]
    go_enter Try.func26, Try.ntmps26
    go_wp2
    all_goals first
      | (exfalso; omega)
      | (go_ret; exact ⟨rfl, rfl⟩)
end Go.Proofs.Ytchfnbcpjiiphaa
