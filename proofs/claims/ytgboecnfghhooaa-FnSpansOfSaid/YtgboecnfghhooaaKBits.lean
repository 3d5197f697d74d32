/-
  The contracts of the laws' own count of bits, and of their test whether a list ascends.
-/
import Derived.Test.YtgboecnfghhooaaCHasI
import Derived.Test.YtgboecnfghhooaaCReach
import Derived.Test.YtgboecnfghhooaaZW
namespace Go.Proofs.Ytgboecnfghhooaa
open Go.RowKit

theorem bits_zero {s j : Nat} (h : s / 2 ^ j = 0) : ∀ d, sumTo (bitD s) (j + d) = sumTo (bitD s) j
  | 0 => rfl
  | d + 1 => by
    have hz : bitD s (j + d) = 0 := by
      unfold bitD
      rw [Nat.pow_add, ← Nat.div_div_eq_div_mul, h]
      simp
    rw [← Nat.add_assoc, sumTo, bits_zero h d, hz, Nat.add_zero]
set_option maxHeartbeats 1600000 in
theorem bitsOf_any (s k : Nat) (w : World) (hs : s < 2 ^ k) (hk : k ≤ 8) :
    Calls Try.prog 29 #[.int .i64 (s : Int)] w fun e w' => e = .returned (.int .i64 (sumTo (bitD s) k : Int)) ∧ w = w' := by
  have HK := Lib.hid (Nat.div_eq_of_lt hs)
  have h256 : s < 256 := by
    have h2 : 2 ^ k ≤ 2 ^ 8 := Nat.pow_le_pow_right (by omega) hk
    have h3 : (2 : Nat) ^ 8 = 256 := by decide
    omega
  clear hs
  go_enter Try.func29, Try.ntmps29
  go_wp2
  go_loop [0, 3] (fun ss nn => ∃ j y x : Nat, j ≤ k ∧ ss = .int .i64 (y : Int) ∧ nn = .int .i64 (x : Int) ∧ x ≤ j ∧ y < 256 ∧ Hid (y = s / 2 ^ j) ∧ Hid (x = sumTo (bitD s) j)) (fun ss _ => (intOf ss).toNat)
  case atStart => exact ⟨0, s, 0, Nat.zero_le _, rfl, rfl, Nat.le_refl _, h256, (show s = s / 2 ^ 0 by rw [Nat.pow_zero, Nat.div_one]), (show 0 = sumTo (bitD s) 0 from rfl)⟩
  case round =>
    obtain ⟨j, y, x, hj, rfl, rfl, hx, hy, HY, HX⟩ := hrel
    by_cases hy0 : 0 < y
    · have b1 : (0 : Int) < (y : Int) := by omega
      have hjk : j < k := by
        rcases Nat.lt_or_ge j k with h | h
        · exact h
        · exfalso
          have : j = k := by omega
          subst this
          have h1 := HY.out
          rw [HK.out] at h1
          omega
      obtain ⟨b, hb⟩ : ∃ b, b = y % 2 := ⟨_, rfl⟩
      obtain ⟨d, hd⟩ : ∃ d, d = y / 2 := ⟨_, rfl⟩
      have HX2 : Hid (x + b = sumTo (bitD s) (j + 1)) := by
        show _ = _
        rw [sumTo, ← HX.out, hb, HY.out]; rfl
      have HY2 : Hid (d = s / 2 ^ (j + 1)) := by
        show _ = _
        rw [hd, HY.out, Nat.pow_succ, Nat.div_div_eq_div_mul]
      have et1 : (y : Int).tmod 2 = (b : Int) := by rw [Int.tmod_eq_emod_of_nonneg (by omega), hb]; omega
      have et2 : (y : Int) % 2 = (b : Int) := by omega
      have ed2 : (y : Int) / 2 = (d : Int) := by omega
      have ed3 : (y : Int).tdiv 2 = (d : Int) := by rw [Int.tdiv_eq_ediv_of_nonneg (by omega)]; omega
      have ed4 : IntKind.i64.wrap (d : Int) = (d : Int) := by rw [IntKind.wrap_i64]; omega
      have hb1 : b ≤ 1 := by omega
      have hdy : d < y := by omega
      have ewx : IntKind.i64.wrap ((x : Int) + (b : Int)) = (x : Int) + (b : Int) := by rw [IntKind.wrap_i64]; omega
      clear hb hd HX HY
      go_wp2
      go_round
      case rel => exact ⟨j + 1, d, x + b, by omega, by first | rfl | go_num, by go_num, by omega, by omega, HY2, HX2⟩
      case measure => first | (simp [intOf]; omega) | (rw [ed2]; simp [intOf]; omega)
    · have hyz : y = 0 := by omega
      have HE : Hid (x = sumTo (bitD s) k) := by
        show _ = _
        have h1 := bits_zero (s := s) (j := j) (by rw [← HY.out]; exact hyz) (k - j)
        rw [show j + (k - j) = k by omega] at h1
        rw [h1, HX.out]
      subst hyz
      clear HX HY
      go_wp2
      go_ret
      exact ⟨by rw [← HE.out]; rfl, rfl⟩
set_option maxHeartbeats 1600000 in
theorem ascends_any (L : List Nat) (v : Value) (w : World) {B H : Nat} (hv : Hid (Own w B H 3 v (ints L))) (hl : L.length ≤ 1000) (hA : Hid (L.Pairwise (· < ·))) :
    Calls Try.prog 30 #[v] w fun e w' => e = .returned (.bool true) ∧ ∃ q, w' = w.drewN q := by
  obtain ⟨av, cv, rfl, _, hcv, _, _⟩ := hv.out.slice
  rw [ints_length] at hv hcv ⊢
  go_enter Try.func30, Try.ntmps30
  go_wp2
  go_loopw [3] (fun ii wr => ∃ i : Nat, 1 ≤ i ∧ ii = .int .i64 (i : Int) ∧ Hid (∃ q, wr = w.drewN q)) (fun ii _ => L.length - (intOf ii).toNat)
  case atStart => exact ⟨1, Nat.le_refl _, rfl, ⟨0, rfl⟩⟩
  case round =>
    obtain ⟨i, hi1, rfl, HW⟩ := hrel
    by_cases hlt : i < L.length
    · have b1 : (i : Int) < (L.length : Int) := by omega
      obtain ⟨p, hp⟩ : ∃ p, p = i - 1 := ⟨_, rfl⟩
      have b2 : (p : Int) < (L.length : Int) := by omega
      have hpL : p < L.length := by omega
      have ov : Own wr B H 3 (.slice av L.length cv) (ints L) := by
        obtain ⟨q, hq⟩ := HW.out
        rw [hq]; exact hv.out.same rfl
      obtain ⟨g, rfl, _, _, c1, _⟩ := ov.at_ i (by rw [ints_length]; exact hlt)
      obtain ⟨g', e2, _, _, c2, _⟩ := ov.at_ p (by rw [ints_length]; exact hpL)
      cases e2
      have d1 := c1.trans (ints_get L i (List.getElem?_eq_getElem hlt))
      have d2 := c2.trans (ints_get L p (List.getElem?_eq_getElem hpL))
      have hxy : L[p] < L[i] := List.pairwise_iff_getElem.1 hA.out p i hpL hlt (by omega)
      obtain ⟨x, hx⟩ : ∃ x, x = L[i] := ⟨_, rfl⟩
      obtain ⟨y, hy⟩ : ∃ y, y = L[p] := ⟨_, rfl⟩
      rw [← hx] at hxy d1
      rw [← hy] at hxy d2
      have f2 : decide ((x : Int) ≤ (y : Int)) = false := decide_eq_false (by omega)
      have ew : IntKind.i64.wrap ((i : Int) - 1) = (p : Int) := by rw [IntKind.wrap_i64]; omega
      have HXY := Lib.hid hxy
      clear c1 c2 hx hy ov hxy hpL hlt hp
      go_wp2
      go_quiet (fail)
      have f3 : ¬ (x ≤ y) := by have := HXY.out; omega
      have f4 : y < x := HXY.out
      have f5 : decide (x ≤ y) = false := decide_eq_false f3
      go_wp2
      go_roundw
      case rel => exact ⟨i + 1, by omega, by go_num, by obtain ⟨q, hq⟩ := HW.out; exact ⟨q + nq, by rw [hq, World.drewN_drewN]⟩⟩
      case measure => simp [intOf]; omega
    · have b1 : ¬ ((i : Int) < (L.length : Int)) := by omega
      go_wp2
      go_ret
      exact ⟨rfl, HW.out⟩
end Go.Proofs.Ytgboecnfghhooaa
