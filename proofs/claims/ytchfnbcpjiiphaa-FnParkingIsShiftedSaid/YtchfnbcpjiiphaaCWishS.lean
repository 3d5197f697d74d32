/-
  The contracts of the model's ValidWishes, FewWish and CountPark, of rows in a call's own memory.
-/
import Derived.Test.YtchfnbcpjiiphaaCInts
import Derived.Test.YtchfnbcpjiiphaaZV
import Derived.Test.YtchfnbcpjiiphaaZW
namespace Go.Proofs.Ytchfnbcpjiiphaa
open Go.RowKit

set_option maxHeartbeats 800000 in
theorem validWishesM_any (l : List Int) (v : Value) (w : World) {B H : Nat} (hv : Hid (Own w B H 3 v (iv l))) (hl : l.length ≤ 1048576) :
    Calls Try.prog 41 #[v] w fun e w' => e = .returned (.bool (wishB l)) ∧ w = w' := by
  obtain ⟨av, cv, rfl, _, hcv, _, _⟩ := hv.out.slice
  rw [iv_length] at hv hcv ⊢
  go_enter Try.func41, Try.ntmps41
  go_wp2
  go_loop [3] (fun i => ∃ k : Nat, k ≤ l.length ∧ i = .int .i64 k ∧ Hid (wishUp l k = true)) (fun i => l.length - (intOf i).toNat)
  case atStart => exact ⟨0, Nat.zero_le _, rfl, rfl⟩
  case round =>
    obtain ⟨k, hk, rfl, HU⟩ := hrel
    by_cases hlt : k < l.length
    · obtain ⟨g1, rfl, _, _, h1, _⟩ := hv.out.at_ k (by rw [iv_length]; exact hlt)
      rw [iv_at l k hlt] at h1
      have b1 : (k : Int) < (l.length : Int) := by omega
      have HAT := Lib.hid (wishUp_step hlt)
      have HNO := Lib.hid (fun h => wishB_no (l := l) hlt h)
      obtain ⟨y, hy⟩ : ∃ y, y = l[k] := ⟨_, rfl⟩
      rw [← hy] at h1 HAT HNO
      clear hy
      by_cases hy0 : 0 ≤ y ∧ y ≤ (l.length : Int)
      · have C := Lib.hid (inRange_yes y 0 (l.length : Int) w hy0.1 hy0.2)
        have HU2 : Hid (wishUp l (k + 1) = true) := by show _ = _; rw [HAT.out, HU.out, Bool.true_and]; exact decide_eq_true hy0
        clear HAT HNO hy0
        go_wp2_with fail
        refine C.out.mono ?_
        rintro e w1 ⟨rfl, rfl⟩
        go_wp2
        go_round
        case rel => exact ⟨k + 1, by omega, by go_num, HU2⟩
        case measure => simp [intOf]; omega
      · have C := Lib.hid (inRange_no y 0 (l.length : Int) w (by omega))
        have hn := Lib.hid (HNO.out (decide_eq_false hy0))
        clear HAT HNO hy0
        go_wp2_with fail
        refine C.out.mono ?_
        rintro e w1 ⟨rfl, rfl⟩
        go_wp2
        go_ret
        exact ⟨by rw [hn.out]; rfl, rfl⟩
    · obtain rfl : k = l.length := by omega
      have hy := Lib.hid (wishB_full HU.out)
      have hd : decide (l.length ≤ 8) = decide ((l.length : Int) ≤ 8) := by rw [decide_eq_decide]; omega
      rw [hd] at hy
      go_wp2
      go_ret
      exact ⟨by rw [hy.out]; rfl, rfl⟩

set_option maxHeartbeats 800000 in
theorem power9_any (x n : Nat) (w : World) (hx : x ≤ 9) (hn : n ≤ 8) :
    Calls Try.prog 48 #[.int .i64 (x : Int), .int .i64 (n : Int)] w fun e w' => e = .returned (.int .i64 ((x ^ n : Nat) : Int)) ∧ w = w' := by
  obtain ⟨r, hr⟩ : ∃ r : Nat, r = x ^ n := ⟨_, rfl⟩
  rw [← hr]
  have HR := Lib.hid hr
  clear hr
  go_enter Try.func48, Try.ntmps48
  go_wp2
  go_loop [1, 5] (fun i out => ∃ k p : Nat, k ≤ n ∧ i = .int .i64 ((n - k : Nat) : Int) ∧ out = .int .i64 (p : Int) ∧ Hid (p = x ^ k)) (fun i _ => (intOf i).toNat)
  case atStart => exact ⟨0, 1, Nat.zero_le _, rfl, rfl, rfl⟩
  case round =>
    obtain ⟨k, p, hk, rfl, rfl, HP⟩ := hrel
    by_cases hlt : k < n
    · have b1 : (0 : Int) < ((n - k : Nat) : Int) := by omega
      have hp := pow9_le x hx k (by omega)
      rw [← HP.out] at hp
      have hm : p * x ≤ 43046721 * 9 := Nat.mul_le_mul hp hx
      have hmc : (p : Int) * (x : Int) = ((p * x : Nat) : Int) := by push_cast; rfl
      have e1 : IntKind.i64.wrap ((p : Int) * (x : Int)) = ((p * x : Nat) : Int) := by rw [hmc, IntKind.wrap_i64]; omega
      have e2 : IntKind.i64.wrap (((n - k : Nat) : Int) - 1) = ((n - (k + 1) : Nat) : Int) := by rw [IntKind.wrap_i64]; omega
      have HP2 : Hid (p * x = x ^ (k + 1)) := by show _ = _; rw [Nat.pow_succ, ← HP.out]
      clear hp hm hmc HP
      go_wp2
      go_round
      case rel => exact ⟨k + 1, p * x, by omega, by first | rfl | rw [e2], by first | rfl | rw [e1], HP2⟩
      case measure => first | (rw [e2]; simp [intOf]; omega) | (simp [intOf]; omega)
    · obtain rfl : k = n := by omega
      have b1 : ¬ (0 : Int) < ((k - k : Nat) : Int) := by omega
      go_wp2
      go_ret
      exact ⟨by rw [HR.out, HP.out]; rfl, rfl⟩

set_option maxHeartbeats 800000 in
theorem specCountPark_any (n : Int) (w : World) :
    Calls Try.prog 24 #[.int .i64 n] w fun e w' => e = .returned (.int .i64 (parkN n)) ∧ w = w' := by
  by_cases h : 0 ≤ n ∧ n ≤ 8
  · rw [parkN, if_pos h]
    have C0 := Lib.hid (inRange_yes n 0 8 w h.1 h.2)
    obtain ⟨k, rfl⟩ : ∃ k : Nat, n = (k : Int) := ⟨n.toNat, by omega⟩
    rw [show ((k : Int).toNat) = k from rfl]
    by_cases hk0 : k = 0
    · subst hk0
      clear h
      go_enter Try.func24, Try.ntmps24
      go_wp2_with fail
      refine C0.out.mono ?_
      rintro e w1 ⟨rfl, rfl⟩
      go_wp2
      go_ret
      exact ⟨rfl, rfl⟩
    · have e1 : IntKind.i64.wrap ((k : Int) - 1) = ((k - 1 : Nat) : Int) := by rw [IntKind.wrap_i64]; omega
      have e2 : IntKind.i64.wrap ((k : Int) + 1) = ((k + 1 : Nat) : Int) := by rw [IntKind.wrap_i64]; omega
      have q0 : ((k : Int) == 0) = false := beq_false_of_ne (by omega)
      have C1 := Lib.hid (power9_any (k + 1) (k - 1) w (by omega) (by omega))
      obtain ⟨r, hr⟩ : ∃ r : Nat, r = (k + 1) ^ (k - 1) := ⟨_, rfl⟩
      rw [← hr] at C1 ⊢
      clear hr
      obtain ⟨y, hy⟩ : ∃ y : Int, y = ((k + 1 : Nat) : Int) := ⟨_, rfl⟩
      obtain ⟨z, hz⟩ : ∃ z : Int, z = ((k - 1 : Nat) : Int) := ⟨_, rfl⟩
      rw [← hy] at e2 C1
      rw [← hz] at e1 C1
      clear hy hz h
      go_enter Try.func24, Try.ntmps24
      go_wp2_with fail
      refine C0.out.mono ?_
      rintro e w1 ⟨rfl, rfl⟩
      go_wp2_with fail
      refine C1.out.mono ?_
      rintro e w1 ⟨rfl, rfl⟩
      go_wp2
      go_ret
      exact ⟨rfl, rfl⟩
  · rw [parkN, if_neg h]
    have C0 := Lib.hid (inRange_no n 0 8 w (by omega))
    clear h
    go_enter Try.func24, Try.ntmps24
    go_wp2_with fail
    refine C0.out.mono ?_
    rintro e w1 ⟨rfl, rfl⟩
    go_wp2
    go_ret
    exact ⟨rfl, rfl⟩
end Go.Proofs.Ytchfnbcpjiiphaa
