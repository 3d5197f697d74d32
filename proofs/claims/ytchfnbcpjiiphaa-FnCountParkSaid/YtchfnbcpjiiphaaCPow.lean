/-
  The contracts of the model's power and of its count of trees; the walk of the exact statement on CountTrees.
-/
import Derived.Test.YtchfnbcpjiiphaaZV
import Derived.Test.YtchfnbcpjiiphaaCInts
namespace Go.Proofs.Ytchfnbcpjiiphaa
open Go.RowKit

theorem pow_le (x : Nat) (hx : x ≤ 7) : ∀ k, k ≤ 5 → x ^ k ≤ 16807 := by
  intro k hk
  have h1 : x ^ k ≤ 7 ^ k := Nat.pow_le_pow_left hx k
  have h2 : 7 ^ k ≤ 7 ^ 5 := Nat.pow_le_pow_right (by omega) hk
  have h3 : (7 : Nat) ^ 5 = 16807 := by decide
  omega
set_option maxHeartbeats 800000 in
theorem power_any (x n : Nat) (w : World) (hx : x ≤ 7) (hn : n ≤ 5) :
    Calls Try.prog 48 #[.int .i64 (x : Int), .int .i64 (n : Int)] w fun e w' => e = .returned (.int .i64 ((x ^ n : Nat) : Int)) ∧ w = w' := by
  obtain ⟨r, hr⟩ : ∃ r : Nat, r = x ^ n := ⟨_, rfl⟩
  rw [← hr]
  have HR := Lib.hid hr
  clear hr
  go_enter Try.func48, Try.ntmps48
  go_wp2
  go_loop [1, 5] (fun i out => ∃ k p : Nat, k ≤ n ∧ i = .int .i64 ((n - k : Nat) : Int) ∧ out = .int .i64 (p : Int) ∧ Hid (p = x ^ k)) (fun i _ => (intOf i).toNat)
  case atStart => exact ⟨0, 1, Nat.zero_le _, rfl, rfl, rfl⟩
  case round =>
    obtain ⟨k, p, hk, rfl, rfl, HP⟩ := hrel
    by_cases hlt : k < n
    · have b1 : (0 : Int) < ((n - k : Nat) : Int) := by omega
      have hp := pow_le x hx k (by omega)
      rw [← HP.out] at hp
      have hm : p * x ≤ 16807 * 7 := Nat.mul_le_mul hp hx
      have hmc : (p : Int) * (x : Int) = ((p * x : Nat) : Int) := by push_cast; rfl
      have e1 : IntKind.i64.wrap ((p : Int) * (x : Int)) = ((p * x : Nat) : Int) := by rw [hmc, IntKind.wrap_i64]; omega
      have e2 : IntKind.i64.wrap (((n - k : Nat) : Int) - 1) = ((n - (k + 1) : Nat) : Int) := by rw [IntKind.wrap_i64]; omega
      have HP2 : Hid (p * x = x ^ (k + 1)) := by show _ = _; rw [Nat.pow_succ, ← HP.out]
      clear hp hm hmc HP
      go_wp2
      go_round
      case rel => exact ⟨k + 1, p * x, by omega, by first | rfl | rw [e2], by first | rfl | rw [e1], HP2⟩
      case measure => first | (rw [e2]; simp [intOf]; omega) | (simp [intOf]; omega)
    · obtain rfl : k = n := by omega
      have b1 : ¬ (0 : Int) < ((k - k : Nat) : Int) := by omega
      go_wp2
      go_ret
      exact ⟨by rw [HR.out, HP.out]; rfl, rfl⟩
def treesN (n : Int) : Int := if 1 ≤ n ∧ n ≤ 7 then ((n.toNat ^ (n.toNat - 2) : Nat) : Int) else -1
end Go.Proofs.Ytchfnbcpjiiphaa
