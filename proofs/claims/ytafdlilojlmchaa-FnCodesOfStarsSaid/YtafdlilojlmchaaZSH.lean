/-
  Plain: the product of the numbers up to one. Nothing of the program is named here.
  The contract of the laws' factorial.
-/
import Derived.Test.YtafdlilojlmchaaWords
import Derived.Test.YtafdlilojlmchaaCInts
namespace Go.Proofs.Ytafdlilojlmchaa

/-- the product of the numbers up to one -/
def fct : Nat → Nat
  | 0 => 1
  | n + 1 => (n + 1) * fct n
theorem fct_pos : ∀ n, 0 < fct n
  | 0 => Nat.one_pos
  | n + 1 => Nat.mul_pos (Nat.succ_pos n) (fct_pos n)
theorem fct_le : ∀ n, n ≤ 7 → fct n ≤ 5040 := by decide
end Go.Proofs.Ytafdlilojlmchaa

namespace Go.Proofs.Ytafdlilojlmchaa
open Go.RowKit

set_option maxHeartbeats 800000 in
theorem factorial_any (n : Nat) (w : World) (hn : n ≤ 8) :
    Calls Try.prog 20 #[.int .i64 (n : Int)] w fun e w' => e = .returned (.int .i64 ((fct n : Nat) : Int)) ∧ w = w' := by
  obtain ⟨r, hr⟩ : ∃ r : Nat, r = fct n := ⟨_, rfl⟩
  rw [← hr]
  have HR := Lib.hid hr
  clear hr
  go_enter Try.func20, Try.ntmps20
  go_wp2
  go_loop [3, 4] (fun out i => ∃ (k p : Nat), 1 ≤ k ∧ (k ≤ n ∨ k = 1) ∧ i = .int .i64 ((k + 1 : Nat) : Int) ∧ out = .int .i64 (p : Int) ∧ Hid (p = fct k)) (fun _ i => n + 1 - (intOf i).toNat)
  case atStart => exact ⟨1, 1, Nat.le_refl _, .inr rfl, rfl, rfl, rfl⟩
  case round =>
    obtain ⟨k, p, hk1, hk, rfl, rfl, HP⟩ := hrel
    obtain ⟨K, hK⟩ : ∃ K : Int, K = ((k + 1 : Nat) : Int) := ⟨_, rfl⟩
    rw [← hK]
    by_cases hlt : k < n
    · have b1 : K ≤ (n : Int) := by omega
      have hp : p ≤ 5040 := by rw [HP.out]; exact fct_le k (by omega)
      have hm : p * (k + 1) ≤ 5040 * 8 := Nat.mul_le_mul hp (by omega)
      have hmc : (p : Int) * K = ((p * (k + 1) : Nat) : Int) := by rw [hK]; push_cast; rfl
      have e1 : IntKind.i64.wrap ((p : Int) * K) = ((p * (k + 1) : Nat) : Int) := by rw [hmc, IntKind.wrap_i64]; omega
      have e2 : IntKind.i64.wrap (K + 1) = ((k + 1 + 1 : Nat) : Int) := by rw [IntKind.wrap_i64]; omega
      have HP2 : Hid (p * (k + 1) = fct (k + 1)) := by show _ = (k + 1) * fct k; rw [← HP.out, Nat.mul_comm]
      have HK := Lib.hid hK
      clear hp hm hmc HP hK
      go_wp2
      go_round
      case rel => exact ⟨k + 1, p * (k + 1), by omega, .inl (by omega), by first | rfl | rw [e2] | go_num, by first | rfl | rw [e1], HP2⟩
      case measure => have := HK.out; simp [intOf]; first | omega | (rw [e2]; simp [intOf]; omega)
    · have b1 : ¬ K ≤ (n : Int) := by omega
      have HF : Hid (p = fct n) := by
        show _ = _
        rw [HP.out]
        rcases hk with h | h
        · rw [show k = n by omega]
        · subst h
          obtain rfl | rfl : n = 0 ∨ n = 1 := by omega
          · rfl
          · rfl
      clear hK HP
      go_wp2
      go_ret
      exact ⟨by rw [HR.out, HF.out]; rfl, rfl⟩
end Go.Proofs.Ytafdlilojlmchaa
