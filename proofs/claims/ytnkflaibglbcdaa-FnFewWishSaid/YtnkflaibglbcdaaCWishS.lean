/-
  The contracts of the model's ValidWishes, FewWish and CountPark, of rows in a call's own memory.
-/
import Derived.Test.YtnkflaibglbcdaaCInts
import Derived.Test.YtnkflaibglbcdaaZV
import Derived.Test.YtnkflaibglbcdaaZW
namespace Go.Proofs.Ytnkflaibglbcdaa
open Go.RowKit

set_option maxHeartbeats 800000 in
theorem validWishesM_any (l : List Int) (v : Value) (w : World) {B H : Nat} (hv : Hid (Own w B H 3 v (iv l))) (hl : l.length ≤ 1048576) :
    Calls Try.prog 47 #[v] w fun e w' => e = .returned (.bool (wishB l)) ∧ w = w' := by
  obtain ⟨av, cv, rfl, _, hcv, _, _⟩ := hv.out.slice
  rw [iv_length] at hv hcv ⊢
  go_enter Try.func47, Try.ntmps47
  go_wp2
  go_loop [3] (fun i => ∃ k : Nat, k ≤ l.length ∧ i = .int .i64 k ∧ Hid (wishUp l k = true)) (fun i => l.length - (intOf i).toNat)
  case atStart => exact ⟨0, Nat.zero_le _, rfl, rfl⟩
  case round =>
    obtain ⟨k, hk, rfl, HU⟩ := hrel
    by_cases hlt : k < l.length
    · obtain ⟨g1, rfl, _, _, h1, _⟩ := hv.out.at_ k (by rw [iv_length]; exact hlt)
      rw [iv_at l k hlt] at h1
      have b1 : (k : Int) < (l.length : Int) := by omega
      have HAT := Lib.hid (wishUp_step hlt)
      have HNO := Lib.hid (fun h => wishB_no (l := l) hlt h)
      obtain ⟨y, hy⟩ : ∃ y, y = l[k] := ⟨_, rfl⟩
      rw [← hy] at h1 HAT HNO
      clear hy
      by_cases hy0 : 0 ≤ y ∧ y ≤ (l.length : Int)
      · have C := Lib.hid (inRange_yes y 0 (l.length : Int) w hy0.1 hy0.2)
        have HU2 : Hid (wishUp l (k + 1) = true) := by show _ = _; rw [HAT.out, HU.out, Bool.true_and]; exact decide_eq_true hy0
        clear HAT HNO hy0
        go_wp2_with fail
        refine C.out.mono ?_
        rintro e w1 ⟨rfl, rfl⟩
        go_wp2
        go_round
        case rel => exact ⟨k + 1, by omega, by go_num, HU2⟩
        case measure => simp [intOf]; omega
      · have C := Lib.hid (inRange_no y 0 (l.length : Int) w (by omega))
        have hn := Lib.hid (HNO.out (decide_eq_false hy0))
        clear HAT HNO hy0
        go_wp2_with fail
        refine C.out.mono ?_
        rintro e w1 ⟨rfl, rfl⟩
        go_wp2
        go_ret
        exact ⟨by rw [hn.out]; rfl, rfl⟩
    · obtain rfl : k = l.length := by omega
      have hy := Lib.hid (wishB_full HU.out)
      have hd : decide (l.length ≤ 8) = decide ((l.length : Int) ≤ 8) := by rw [decide_eq_decide]; omega
      rw [hd] at hy
      go_wp2
      go_ret
      exact ⟨by rw [hy.out]; rfl, rfl⟩

set_option maxHeartbeats 800000 in
theorem specValidWishes_any (l : List Int) (v : Value) (w : World) {B H : Nat} (hv : Hid (Own w B H 3 v (iv l))) (hl : l.length ≤ 1048576) :
    Calls Try.prog 36 #[v] w fun e w' => e = .returned (.bool (wishB l)) ∧ w = w' := by
  have CV := Lib.hid (validWishesM_any l v w hv hl)
  go_enter Try.func36, Try.ntmps36
  go_wp2_with fail
  refine CV.out.mono ?_
  rintro e w1 ⟨rfl, rfl⟩
  go_wp2
  go_ret
  exact ⟨rfl, rfl⟩

set_option maxHeartbeats 1600000 in
theorem specFewWish_any (l : List Int) (v : Value) (w : World) {B H : Nat} (hv : Hid (Own w B H 3 v (iv l))) (hl : l.length ≤ 1048576) :
    Calls Try.prog 42 #[v] w fun e w' => e = .returned (.bool (fewB l)) ∧ w = w' := by
  have CV := Lib.hid (validWishesM_any l v w hv hl)
  obtain ⟨av, cv, rfl, _, hcv, _, _⟩ := hv.out.slice
  rw [iv_length] at hv hcv CV ⊢
  cases hw : wishB l
  · rw [hw] at CV
    have hr := Lib.hid (fewB_no hw)
    clear hw
    go_enter Try.func42, Try.ntmps42
    go_wp2_with fail
    refine CV.out.mono ?_
    rintro e w1 ⟨rfl, rfl⟩
    go_wp2
    go_ret
    exact ⟨by rw [hr.out]; rfl, rfl⟩
  · rw [hw] at CV
    have h8 := wishB_len hw
    have HW := Lib.hid hw
    clear hw
    go_enter Try.func42, Try.ntmps42
    go_wp2_with fail
    refine CV.out.mono ?_
    rintro e w1 ⟨rfl, rfl⟩
    clear CV
    go_wp2_with fail
    go_loop [3] (fun i => ∃ k : Nat, k ≤ l.length ∧ i = .int .i64 ((k + 1 : Nat) : Int) ∧ Hid (fewUp l k = true)) (fun i => l.length + 1 - (intOf i).toNat)
    case atStart => exact ⟨0, Nat.zero_le _, rfl, rfl⟩
    case round =>
      obtain ⟨k, hk, rfl, HU⟩ := hrel
      obtain ⟨K, hK⟩ : ∃ K : Int, K = ((k + 1 : Nat) : Int) := ⟨_, rfl⟩
      by_cases hlt : k < l.length
      · have b1 : K ≤ (l.length : Int) := by omega
        have e1 : IntKind.i64.wrap (K + 1) = ((k + 1 + 1 : Nat) : Int) := by rw [IntKind.wrap_i64]; omega
        have HK := Lib.hid hK
        have hK9 : K ≤ 8 := by omega
        rw [← hK]
        clear hK
        go_wp2
        go_loop [4, 5] (fun c i => ∃ j n : Nat, j ≤ l.length ∧ i = .int .i64 j ∧ c = .int .i64 n ∧ n ≤ j ∧ Hid (n = belowN (l.take j) K)) (fun _ i => l.length - (intOf i).toNat)
        case atStart => exact ⟨0, 0, Nat.zero_le _, rfl, rfl, Nat.le_refl _, rfl⟩
        case round =>
          obtain ⟨j, n, hj, rfl, rfl, hnj, HN⟩ := hrel
          by_cases hlj : j < l.length
          · obtain ⟨g1, rfl, _, _, h1, _⟩ := hv.out.at_ j (by rw [iv_length]; exact hlj)
            rw [iv_at l j hlj] at h1
            have b2 : (j : Int) < (l.length : Int) := by omega
            have HAT := Lib.hid (belowN_step hlj K)
            obtain ⟨y, hy⟩ : ∃ y, y = l[j] := ⟨_, rfl⟩
            rw [← hy] at h1 HAT
            clear hy
            by_cases hyx : y < K
            · have HN2 : Hid (n + 1 = belowN (l.take (j + 1)) K) := by show _ = _; rw [HAT.out, if_pos hyx, HN.out]
              clear HAT HN
              go_wp2
              go_round
              case rel => exact ⟨j + 1, n + 1, by omega, by go_num, by go_num, by omega, HN2⟩
              case measure => simp [intOf]; omega
            · have HN2 : Hid (n = belowN (l.take (j + 1)) K) := by show _ = _; rw [HAT.out, if_neg hyx, HN.out]; rfl
              clear HAT HN
              go_wp2
              go_round
              case rel => exact ⟨j + 1, n, by omega, by go_num, rfl, by omega, HN2⟩
              case measure => simp [intOf]; omega
          · obtain rfl : j = l.length := by omega
            rw [List.take_length] at HN
            have HM : Hid (n = belowN l ((k + 1 : Nat) : Int)) := by show _ = _; rw [HN.out, HK.out]
            clear HN
            by_cases hmk : n < k + 1
            · have hr := Lib.hid (fewB_bad hlt (by rw [← HM.out]; exact hmk))
              have b2 : (n : Int) < K := by have := HK.out; omega
              go_wp2
              go_ret
              exact ⟨by rw [hr.out]; rfl, rfl⟩
            · have HU2 : Hid (fewUp l (k + 1) = true) := by show _ = _; rw [fewUp_step, HU.out, ← HM.out, Bool.true_and]; exact decide_eq_true (by omega)
              have b2 : ¬ (n : Int) < K := by have := HK.out; omega
              go_wp2
              go_round
              case rel => exact ⟨k + 1, by omega, by first | rw [e1] | go_num, HU2⟩
              case measure => have := HK.out; simp [intOf]; first | omega | (rw [e1]; omega)
      · obtain rfl : k = l.length := by omega
        have hr := Lib.hid (fewB_yes HW.out HU.out)
        have b1 : ¬ K ≤ (l.length : Int) := by omega
        rw [← hK]
        clear hK
        go_wp2
        go_ret
        exact ⟨by rw [hr.out]; rfl, rfl⟩

set_option maxHeartbeats 800000 in
theorem power9_any (x n : Nat) (w : World) (hx : x ≤ 9) (hn : n ≤ 8) :
    Calls Try.prog 51 #[.int .i64 (x : Int), .int .i64 (n : Int)] w fun e w' => e = .returned (.int .i64 ((x ^ n : Nat) : Int)) ∧ w = w' := by
  obtain ⟨r, hr⟩ : ∃ r : Nat, r = x ^ n := ⟨_, rfl⟩
  rw [← hr]
  have HR := Lib.hid hr
  clear hr
  go_enter Try.func51, Try.ntmps51
  go_wp2
  go_loop [1, 5] (fun i out => ∃ k p : Nat, k ≤ n ∧ i = .int .i64 ((n - k : Nat) : Int) ∧ out = .int .i64 (p : Int) ∧ Hid (p = x ^ k)) (fun i _ => (intOf i).toNat)
  case atStart => exact ⟨0, 1, Nat.zero_le _, rfl, rfl, rfl⟩
  case round =>
    obtain ⟨k, p, hk, rfl, rfl, HP⟩ := hrel
    by_cases hlt : k < n
    · have b1 : (0 : Int) < ((n - k : Nat) : Int) := by omega
      have hp := pow9_le x hx k (by omega)
      rw [← HP.out] at hp
      have hm : p * x ≤ 43046721 * 9 := Nat.mul_le_mul hp hx
      have hmc : (p : Int) * (x : Int) = ((p * x : Nat) : Int) := by push_cast; rfl
      have e1 : IntKind.i64.wrap ((p : Int) * (x : Int)) = ((p * x : Nat) : Int) := by rw [hmc, IntKind.wrap_i64]; omega
      have e2 : IntKind.i64.wrap (((n - k : Nat) : Int) - 1) = ((n - (k + 1) : Nat) : Int) := by rw [IntKind.wrap_i64]; omega
      have HP2 : Hid (p * x = x ^ (k + 1)) := by show _ = _; rw [Nat.pow_succ, ← HP.out]
      clear hp hm hmc HP
      go_wp2
      go_round
      case rel => exact ⟨k + 1, p * x, by omega, by first | rfl | rw [e2], by first | rfl | rw [e1], HP2⟩
      case measure => first | (rw [e2]; simp [intOf]; omega) | (simp [intOf]; omega)
    · obtain rfl : k = n := by omega
      have b1 : ¬ (0 : Int) < ((k - k : Nat) : Int) := by omega
      go_wp2
      go_ret
      exact ⟨by rw [HR.out, HP.out]; rfl, rfl⟩

set_option maxHeartbeats 800000 in
theorem specCountPark_any (n : Int) (w : World) :
    Calls Try.prog 19 #[.int .i64 n] w fun e w' => e = .returned (.int .i64 (parkN n)) ∧ w = w' := by
  by_cases h : 0 ≤ n ∧ n ≤ 8
  · rw [parkN, if_pos h]
    have C0 := Lib.hid (inRange_yes n 0 8 w h.1 h.2)
    obtain ⟨k, rfl⟩ : ∃ k : Nat, n = (k : Int) := ⟨n.toNat, by omega⟩
    rw [show ((k : Int).toNat) = k from rfl]
    by_cases hk0 : k = 0
    · subst hk0
      clear h
      go_enter Try.func19, Try.ntmps19
      go_wp2_with fail
      refine C0.out.mono ?_
      rintro e w1 ⟨rfl, rfl⟩
      go_wp2
      go_ret
      exact ⟨rfl, rfl⟩
    · have e1 : IntKind.i64.wrap ((k : Int) - 1) = ((k - 1 : Nat) : Int) := by rw [IntKind.wrap_i64]; omega
      have e2 : IntKind.i64.wrap ((k : Int) + 1) = ((k + 1 : Nat) : Int) := by rw [IntKind.wrap_i64]; omega
      have q0 : ((k : Int) == 0) = false := beq_false_of_ne (by omega)
      have C1 := Lib.hid (power9_any (k + 1) (k - 1) w (by omega) (by omega))
      obtain ⟨r, hr⟩ : ∃ r : Nat, r = (k + 1) ^ (k - 1) := ⟨_, rfl⟩
      rw [← hr] at C1 ⊢
      clear hr
      obtain ⟨y, hy⟩ : ∃ y : Int, y = ((k + 1 : Nat) : Int) := ⟨_, rfl⟩
      obtain ⟨z, hz⟩ : ∃ z : Int, z = ((k - 1 : Nat) : Int) := ⟨_, rfl⟩
      rw [← hy] at e2 C1
      rw [← hz] at e1 C1
      clear hy hz h
      go_enter Try.func19, Try.ntmps19
      go_wp2_with fail
      refine C0.out.mono ?_
      rintro e w1 ⟨rfl, rfl⟩
      go_wp2_with fail
      refine C1.out.mono ?_
      rintro e w1 ⟨rfl, rfl⟩
      go_wp2
      go_ret
      exact ⟨rfl, rfl⟩
  · rw [parkN, if_neg h]
    have C0 := Lib.hid (inRange_no n 0 8 w (by omega))
    clear h
    go_enter Try.func19, Try.ntmps19
    go_wp2_with fail
    refine C0.out.mono ?_
    rintro e w1 ⟨rfl, rfl⟩
    go_wp2
    go_ret
    exact ⟨rfl, rfl⟩
end Go.Proofs.Ytnkflaibglbcdaa
