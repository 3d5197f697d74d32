/-
  The contracts of the program's ValidWishes, FewWish and CountPark, of rows in a call's own memory.
-/
import Derived.Test.YtchfnbcpjiiphaaCInts
import Derived.Test.YtchfnbcpjiiphaaZW
namespace Go.Proofs.Ytchfnbcpjiiphaa
open Go.RowKit

set_option maxHeartbeats 800000 in
theorem validWishes_p (l : List Int) (v : Value) (w : World) {B H : Nat} (hv : Hid (Own w B H 3 v (iv l))) (hl : l.length ≤ 1048576) :
    Calls Try.prog 18 #[v] w fun e w' => e = .returned (.bool (wishB l)) ∧ w = w' := by
  obtain ⟨av, cv, rfl, _, hcv, _, _⟩ := hv.out.slice
  rw [iv_length] at hv hcv ⊢
  go_enter Try.func18, Try.ntmps18
  go_wp2
  go_loop [7] (fun i => ∃ k : Nat, k ≤ l.length ∧ i = .int .i64 k ∧ Hid (wishUp l k = true)) (fun i => l.length - (intOf i).toNat)
  case atStart => exact ⟨0, Nat.zero_le _, rfl, rfl⟩
  case round =>
    obtain ⟨k, hk, rfl, HU⟩ := hrel
    by_cases hlt : k < l.length
    · obtain ⟨g1, rfl, _, _, h1, _⟩ := hv.out.at_ k (by rw [iv_length]; exact hlt)
      rw [iv_at l k hlt] at h1
      have b1 : (k : Int) < (l.length : Int) := by omega
      have HAT := Lib.hid (wishUp_step hlt)
      have HNO := Lib.hid (fun h => wishB_no (l := l) hlt h)
      obtain ⟨y, hy⟩ : ∃ y, y = l[k] := ⟨_, rfl⟩
      rw [← hy] at h1 HAT HNO
      clear hy
      by_cases hy0 : y < 0
      · have hn := Lib.hid (HNO.out (decide_eq_false (by omega)))
        clear HAT HNO
        go_wp2
        go_ret
        exact ⟨by rw [hn.out]; rfl, rfl⟩
      · by_cases hyn : (l.length : Int) < y
        · have hn := Lib.hid (HNO.out (decide_eq_false (by omega)))
          clear HAT HNO
          go_wp2
          go_ret
          exact ⟨by rw [hn.out]; rfl, rfl⟩
        · have HU2 : Hid (wishUp l (k + 1) = true) := by show _ = _; rw [HAT.out, HU.out, Bool.true_and]; exact decide_eq_true ⟨by omega, by omega⟩
          clear HAT HNO
          go_wp2
          go_round
          case rel => exact ⟨k + 1, by omega, by go_num, HU2⟩
          case measure => simp [intOf]; omega
    · obtain rfl : k = l.length := by omega
      have hy := Lib.hid (wishB_full HU.out)
      have hd : decide (l.length ≤ 8) = decide ((l.length : Int) ≤ 8) := by rw [decide_eq_decide]; omega
      rw [hd] at hy
      go_wp2
      go_ret
      exact ⟨by rw [hy.out]; rfl, rfl⟩

set_option maxHeartbeats 800000 in
theorem countBelow_p (l : List Int) (x : Int) (v : Value) (w : World) {B H : Nat} (hv : Hid (Own w B H 3 v (iv l))) (hl : l.length ≤ 1048576) :
    Calls Try.prog 45 #[.int .i64 x, v] w fun e w' => e = .returned (.int .i64 (belowN l x : Int)) ∧ w = w' := by
  obtain ⟨av, cv, rfl, _, hcv, _, _⟩ := hv.out.slice
  rw [iv_length] at hv hcv ⊢
  go_enter Try.func45, Try.ntmps45
  go_wp2
  go_loop [5, 10] (fun c i => ∃ k n : Nat, k ≤ l.length ∧ i = .int .i64 k ∧ c = .int .i64 n ∧ n ≤ k ∧ Hid (n = belowN (l.take k) x)) (fun _ i => l.length - (intOf i).toNat)
  case atStart => exact ⟨0, 0, Nat.zero_le _, rfl, rfl, Nat.le_refl _, rfl⟩
  case round =>
    obtain ⟨k, n, hk, rfl, rfl, hnk, HN⟩ := hrel
    by_cases hlt : k < l.length
    · obtain ⟨g1, rfl, _, _, h1, _⟩ := hv.out.at_ k (by rw [iv_length]; exact hlt)
      rw [iv_at l k hlt] at h1
      have b1 : (k : Int) < (l.length : Int) := by omega
      have HAT := Lib.hid (belowN_step hlt x)
      obtain ⟨y, hy⟩ : ∃ y, y = l[k] := ⟨_, rfl⟩
      rw [← hy] at h1 HAT
      clear hy
      by_cases hyx : y < x
      · have HN2 : Hid (n + 1 = belowN (l.take (k + 1)) x) := by show _ = _; rw [HAT.out, if_pos hyx, HN.out]
        clear HAT HN
        go_wp2
        go_round
        case rel => exact ⟨k + 1, n + 1, by omega, by go_num, by go_num, by omega, HN2⟩
        case measure => simp [intOf]; omega
      · have HN2 : Hid (n = belowN (l.take (k + 1)) x) := by show _ = _; rw [HAT.out, if_neg hyx, HN.out]; rfl
        clear HAT HN
        go_wp2
        go_round
        case rel => exact ⟨k + 1, n, by omega, by go_num, rfl, by omega, HN2⟩
        case measure => simp [intOf]; omega
    · obtain rfl : k = l.length := by omega
      rw [List.take_length] at HN
      go_wp2
      go_ret
      exact ⟨by rw [HN.out]; rfl, rfl⟩

set_option maxHeartbeats 800000 in
theorem fewWish_p (l : List Int) (v : Value) (w : World) {B H : Nat} (hv : Hid (Own w B H 3 v (iv l))) (hl : l.length ≤ 1048576) :
    Calls Try.prog 19 #[v] w fun e w' => e = .returned (.bool (fewB l)) ∧ w = w' := by
  have CV := Lib.hid (validWishes_p l v w hv hl)
  have CB := Lib.hid (fun x => countBelow_p l x v w hv hl)
  obtain ⟨av, cv, rfl, _, hcv, _, _⟩ := hv.out.slice
  rw [iv_length] at hcv CV CB ⊢
  cases hw : wishB l
  · rw [hw] at CV
    have hr := Lib.hid (fewB_no hw)
    clear hw
    go_enter Try.func19, Try.ntmps19
    go_wp2_with fail
    refine CV.out.mono ?_
    rintro e w1 ⟨rfl, rfl⟩
    go_wp2
    go_ret
    exact ⟨by rw [hr.out]; rfl, rfl⟩
  · rw [hw] at CV
    have h8 := wishB_len hw
    have HW := Lib.hid hw
    clear hw
    go_enter Try.func19, Try.ntmps19
    go_wp2_with fail
    refine CV.out.mono ?_
    rintro e w1 ⟨rfl, rfl⟩
    clear CV
    go_wp2_with fail
    go_loop [3] (fun i => ∃ k : Nat, k ≤ l.length ∧ i = .int .i64 ((k + 1 : Nat) : Int) ∧ Hid (fewUp l k = true)) (fun i => l.length + 1 - (intOf i).toNat)
    case atStart => exact ⟨0, Nat.zero_le _, rfl, rfl⟩
    case round =>
      obtain ⟨k, hk, rfl, HU⟩ := hrel
      obtain ⟨K, hK⟩ : ∃ K : Int, K = ((k + 1 : Nat) : Int) := ⟨_, rfl⟩
      by_cases hlt : k < l.length
      · have b1 : K ≤ (l.length : Int) := by omega
        have C := Lib.hid (CB.out K)
        obtain ⟨m, hm⟩ : ∃ m, m = belowN l K := ⟨_, rfl⟩
        rw [← hm] at C
        have HM : Hid (m = belowN l ((k + 1 : Nat) : Int)) := by show _ = _; rw [hm, hK]
        have e1 : IntKind.i64.wrap (K + 1) = ((k + 1 + 1 : Nat) : Int) := by rw [IntKind.wrap_i64]; omega
        rw [← hK]
        by_cases hmk : m < k + 1
        · have hr := Lib.hid (fewB_bad hlt (by rw [← HM.out]; exact hmk))
          have b2 : (m : Int) < K := by omega
          clear hm hK
          go_wp2_with fail
          refine C.out.mono ?_
          rintro e w2 ⟨rfl, rfl⟩
          go_wp2
          go_ret
          exact ⟨by rw [hr.out]; rfl, rfl⟩
        · have HU2 : Hid (fewUp l (k + 1) = true) := by show _ = _; rw [fewUp_step, HU.out, ← HM.out, Bool.true_and]; exact decide_eq_true (by omega)
          have b2 : ¬ (m : Int) < K := by omega
          have HK := Lib.hid hK
          clear hm hK
          go_wp2_with fail
          refine C.out.mono ?_
          rintro e w2 ⟨rfl, rfl⟩
          go_wp2
          go_round
          case rel => exact ⟨k + 1, by omega, by first | rw [e1] | go_num, HU2⟩
          case measure => have := HK.out; simp [intOf]; first | omega | (rw [e1]; omega)
      · obtain rfl : k = l.length := by omega
        have hr := Lib.hid (fewB_yes HW.out HU.out)
        have b1 : ¬ K ≤ (l.length : Int) := by omega
        rw [← hK]
        clear hK
        go_wp2
        go_ret
        exact ⟨by rw [hr.out]; rfl, rfl⟩

set_option maxHeartbeats 800000 in
theorem countPark_p (n : Int) (w : World) (_hn : (Lit.int .i64 n).wf = true) :
    Calls Try.prog 23 #[.int .i64 n] w fun e w' => e = .returned (.int .i64 (parkN n)) ∧ w = w' := by
  by_cases h : 0 ≤ n ∧ n ≤ 8
  · rw [parkN, if_pos h]
    obtain ⟨x, rfl⟩ : ∃ k : Nat, n = (k : Int) := ⟨n.toNat, by omega⟩
    have hx : x ≤ 8 := by omega
    rw [show ((x : Int).toNat) = x from rfl]
    obtain ⟨d, hd⟩ : ∃ d, d = x - 1 := ⟨_, rfl⟩
    obtain ⟨z, hz⟩ : ∃ z : Int, z = (x : Int) - 1 := ⟨_, rfl⟩
    have e0 : IntKind.i64.wrap ((x : Int) - 1) = z := by rw [IntKind.wrap_i64]; omega
    obtain ⟨y, hy⟩ : ∃ y, y = x + 1 := ⟨_, rfl⟩
    have e9 : IntKind.i64.wrap ((x : Int) + 1) = (y : Int) := by rw [IntKind.wrap_i64]; omega
    have hd5 : d ≤ 8 := by omega
    have hy9 : y ≤ 9 := by omega
    have hzd : (d : Int) = z ∨ (z < 0 ∧ d = 0) := by omega
    obtain ⟨r, hr⟩ : ∃ r : Nat, r = (x + 1) ^ (x - 1) := ⟨_, rfl⟩
    rw [← hr]
    rw [← hd, ← hy] at hr
    have HR := Lib.hid hr
    clear hr hd hz hy
    go_enter Try.func23, Try.ntmps23
    go_wp2
    go_loop [3, 12] (fun out i => ∃ k p : Nat, k ≤ d ∧ i = .int .i64 (k : Int) ∧ out = .int .i64 (p : Int) ∧ Hid (p = y ^ k)) (fun _ i => d - (intOf i).toNat)
    case atStart => exact ⟨0, 1, Nat.zero_le _, rfl, rfl, rfl⟩
    case round =>
      obtain ⟨k, p, hk, rfl, rfl, HP⟩ := hrel
      by_cases hlt : k < d
      · have b1 : (k : Int) < z := by omega
        have hp := pow9_le y hy9 k (by omega)
        rw [← HP.out] at hp
        have hm : p * y ≤ 43046721 * 9 := Nat.mul_le_mul hp hy9
        have hmc : (p : Int) * (y : Int) = ((p * y : Nat) : Int) := by push_cast; rfl
        have e1 : IntKind.i64.wrap ((p : Int) * (y : Int)) = ((p * y : Nat) : Int) := by rw [hmc, IntKind.wrap_i64]; omega
        have HP2 : Hid (p * y = y ^ (k + 1)) := by show _ = _; rw [Nat.pow_succ, ← HP.out]
        clear hp hm hmc HP
        go_wp2
        go_round
        case rel => exact ⟨k + 1, p * y, by omega, by go_num, by first | rfl | rw [e1], HP2⟩
        case measure => simp [intOf]; omega
      · obtain rfl : k = d := by omega
        have b1 : ¬ (k : Int) < z := by omega
        go_wp2
        go_ret
        exact ⟨by rw [HR.out, HP.out]; rfl, rfl⟩
  · rw [parkN, if_neg h]
    go_enter Try.func23, Try.ntmps23
    go_wp2
    all_goals first
      | (exfalso; omega)
      | (go_ret; exact ⟨rfl, rfl⟩)
end Go.Proofs.Ytchfnbcpjiiphaa
