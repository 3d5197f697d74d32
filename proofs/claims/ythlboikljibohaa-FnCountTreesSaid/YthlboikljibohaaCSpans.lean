/-
  The contract of the model's list of spans.
-/
import Derived.Test.YthlboikljibohaaZN
import Derived.Test.YthlboikljibohaaCPow
import Derived.Test.YthlboikljibohaaZW
namespace Go.Proofs.Ythlboikljibohaa
open Go.RowKit

theorem pow2_le : ∀ k, k ≤ 8 → 2 ^ k ≤ 256 := by
  intro k hk
  have h2 : 2 ^ k ≤ 2 ^ 8 := Nat.pow_le_pow_right (by omega) hk
  have h3 : (2 : Nat) ^ 8 = 256 := by decide
  omega
set_option maxHeartbeats 800000 in
theorem pow2_any (n : Nat) (w : World) (hn : n ≤ 8) :
    Calls Try.prog 33 #[.int .i64 2, .int .i64 (n : Int)] w fun e w' => e = .returned (.int .i64 ((2 ^ n : Nat) : Int)) ∧ w = w' := by
  obtain ⟨r, hr⟩ : ∃ r : Nat, r = 2 ^ n := ⟨_, rfl⟩
  rw [← hr]
  have HR := Lib.hid hr
  clear hr
  go_enter Try.func33, Try.ntmps33
  go_wp2
  go_loop [1, 5] (fun i out => ∃ k p : Nat, k ≤ n ∧ i = .int .i64 ((n - k : Nat) : Int) ∧ out = .int .i64 (p : Int) ∧ Hid (p = 2 ^ k)) (fun i _ => (intOf i).toNat)
  case atStart => exact ⟨0, 1, Nat.zero_le _, rfl, rfl, rfl⟩
  case round =>
    obtain ⟨k, p, hk, rfl, rfl, HP⟩ := hrel
    by_cases hlt : k < n
    · have b1 : (0 : Int) < ((n - k : Nat) : Int) := by omega
      have hp := pow2_le k (by omega)
      rw [← HP.out] at hp
      have e1 : IntKind.i64.wrap ((p : Int) * 2) = ((p * 2 : Nat) : Int) := by rw [IntKind.wrap_i64]; omega
      have e2 : IntKind.i64.wrap (((n - k : Nat) : Int) - 1) = ((n - (k + 1) : Nat) : Int) := by rw [IntKind.wrap_i64]; omega
      have HP2 : Hid (p * 2 = 2 ^ (k + 1)) := by show _ = _; rw [Nat.pow_succ, ← HP.out]
      clear hp HP
      go_wp2
      go_round
      case rel => exact ⟨k + 1, p * 2, by omega, by first | rfl | rw [e2], by first | rfl | rw [e1], HP2⟩
      case measure => first | (rw [e2]; simp [intOf]; omega) | (simp [intOf]; omega)
    · obtain rfl : k = n := by omega
      have b1 : ¬ (0 : Int) < ((k - k : Nat) : Int) := by omega
      go_wp2
      go_ret
      exact ⟨by rw [HR.out, HP.out]; rfl, rfl⟩
theorem pick_snoc : ∀ (A : Edges) (x : Nat × Nat) (s : Nat), pickE (A ++ [x]) s = if s / 2 ^ A.length % 2 = 1 then pickE A s ++ [x] else pickE A s
  | [], x, s => by
    rw [List.nil_append, pickE, List.length_nil, Nat.pow_zero, Nat.div_one]
    rfl
  | e :: r, x, s => by
    have e2 : s / 2 / 2 ^ r.length = s / 2 ^ (r.length + 1) := by rw [Nat.div_div_eq_div_mul, Nat.pow_succ, Nat.mul_comm]
    rw [List.cons_append, pickE, pick_snoc r x (s / 2), e2, List.length_cons, pickE]
    split <;> split <;> rfl
theorem pick_take (E : Edges) (k s : Nat) (h : k < E.length) : pickE (E.take (k + 1)) s = if s / 2 ^ k % 2 = 1 then pickE (E.take k) s ++ [E[k]] else pickE (E.take k) s := by
  rw [List.take_succ_eq_append_getElem h, pick_snoc, List.length_take, Nat.min_eq_left (by omega)]
theorem pick_len : ∀ (E : Edges) (s : Nat), (pickE E s).length ≤ E.length
  | [], _ => Nat.le_refl _
  | e :: r, s => by
    rw [pickE]
    have := pick_len r (s / 2)
    split <;> simp only [List.length_cons] <;> omega

end Go.Proofs.Ythlboikljibohaa
