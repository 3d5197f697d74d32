/-
  The contracts of the counts of bits, the model's and the laws' own.
  The contracts of the model's count of bits, of its test whether a set watches all, and of its LeastWatch.
  The contract of the model's LeastWatch.
  What the laws ask of watchers, and of sets in rows.
-/
import Derived.Test.YtmpppocmbdainaaZH
import Derived.Test.YtmpppocmbdainaaZFS
import Derived.Test.YtmpppocmbdainaaZW
import Derived.Test.YtmpppocmbdainaaZRL
namespace Go.Proofs.Ytmpppocmbdainaa
open Go.RowKit

/-- how many of the first bits of a number are 1 -/
def popN (s : Nat) : Nat → Nat
  | 0 => 0
  | k + 1 => popN s k + s / 2 ^ k % 2
theorem pop_le (s : Nat) : ∀ k, popN s k ≤ k
  | 0 => Nat.le_refl _
  | k + 1 => by rw [popN]; have := pop_le s k; omega
theorem pop_zero {s j : Nat} (h : s / 2 ^ j = 0) : ∀ d, popN s (j + d) = popN s j
  | 0 => rfl
  | d + 1 => by
    have hz : s / 2 ^ (j + d) % 2 = 0 := by
      rw [Nat.pow_add, ← Nat.div_div_eq_div_mul, h]
      simp
    rw [← Nat.add_assoc, popN, pop_zero h d, hz, Nat.add_zero]
set_option maxHeartbeats 1600000 in
theorem bitsOfP_any (s k : Nat) (w : World) (hs : s < 2 ^ k) (hk : k ≤ 8) :
    Calls Try.prog 18 #[.int .i64 (s : Int)] w fun e w' => e = .returned (.int .i64 (popN s k : Int)) ∧ w = w' := by
  have HK := Lib.hid (Nat.div_eq_of_lt hs)
  have h256 : s < 256 := by
    have h2 : 2 ^ k ≤ 2 ^ 8 := Nat.pow_le_pow_right (by omega) hk
    have h3 : (2 : Nat) ^ 8 = 256 := by decide
    omega
  clear hs
  go_enter Try.func18, Try.ntmps18
  go_wp2
  go_loop [0, 3] (fun ss nn => ∃ j y x : Nat, j ≤ k ∧ ss = .int .i64 (y : Int) ∧ nn = .int .i64 (x : Int) ∧ x ≤ j ∧ y < 256 ∧ Hid (y = s / 2 ^ j) ∧ Hid (x = popN s j)) (fun ss _ => (intOf ss).toNat)
  case atStart => exact ⟨0, s, 0, Nat.zero_le _, rfl, rfl, Nat.le_refl _, h256, (show s = s / 2 ^ 0 by rw [Nat.pow_zero, Nat.div_one]), (show 0 = popN s 0 from rfl)⟩
  case round =>
    obtain ⟨j, y, x, hj, rfl, rfl, hx, hy, HY, HX⟩ := hrel
    by_cases hy0 : 0 < y
    · have b1 : (0 : Int) < (y : Int) := by omega
      have hjk : j < k := by
        rcases Nat.lt_or_ge j k with h | h
        · exact h
        · exfalso
          have : j = k := by omega
          subst this
          have h1 := HY.out
          rw [HK.out] at h1
          omega
      obtain ⟨b, hb⟩ : ∃ b, b = y % 2 := ⟨_, rfl⟩
      obtain ⟨d, hd⟩ : ∃ d, d = y / 2 := ⟨_, rfl⟩
      have HX2 : Hid (x + b = popN s (j + 1)) := by
        show _ = _
        rw [popN, ← HX.out, hb, HY.out]
      have HY2 : Hid (d = s / 2 ^ (j + 1)) := by
        show _ = _
        rw [hd, HY.out, Nat.pow_succ, Nat.div_div_eq_div_mul]
      have et1 : (y : Int).tmod 2 = (b : Int) := by rw [Int.tmod_eq_emod_of_nonneg (by omega), hb]; omega
      have et2 : (y : Int) % 2 = (b : Int) := by omega
      have ed2 : (y : Int) / 2 = (d : Int) := by omega
      have ed3 : (y : Int).tdiv 2 = (d : Int) := by rw [Int.tdiv_eq_ediv_of_nonneg (by omega)]; omega
      have ed4 : IntKind.i64.wrap (d : Int) = (d : Int) := by rw [IntKind.wrap_i64]; omega
      have hb1 : b ≤ 1 := by omega
      have hdy : d < y := by omega
      have ewx : IntKind.i64.wrap ((x : Int) + (b : Int)) = (x : Int) + (b : Int) := by rw [IntKind.wrap_i64]; omega
      clear hb hd HX HY
      go_wp2
      go_round
      case rel => exact ⟨j + 1, d, x + b, by omega, by first | rfl | go_num, by go_num, by omega, by omega, HY2, HX2⟩
      case measure => first | (simp [intOf]; omega) | (rw [ed2]; simp [intOf]; omega)
    · have hyz : y = 0 := by omega
      have HE : Hid (x = popN s k) := by
        show _ = _
        have h1 := pop_zero (s := s) (j := j) (by rw [← HY.out]; exact hyz) (k - j)
        rw [show j + (k - j) = k by omega] at h1
        rw [h1, HX.out]
      subst hyz
      clear HX HY
      go_wp2
      go_ret
      exact ⟨by rw [← HE.out]; rfl, rfl⟩
set_option maxHeartbeats 1600000 in
theorem bitsM_any (s k : Nat) (w : World) (hs : s < 2 ^ k) (hk : k ≤ 8) :
    Calls Try.prog 53 #[.int .i64 (s : Int)] w fun e w' => e = .returned (.int .i64 (popN s k : Int)) ∧ w = w' := by
  have HK := Lib.hid (Nat.div_eq_of_lt hs)
  have h256 : s < 256 := by
    have h2 : 2 ^ k ≤ 2 ^ 8 := Nat.pow_le_pow_right (by omega) hk
    have h3 : (2 : Nat) ^ 8 = 256 := by decide
    omega
  clear hs
  go_enter Try.func53, Try.ntmps53
  go_wp2
  go_loop [0, 3] (fun ss nn => ∃ j y x : Nat, j ≤ k ∧ ss = .int .i64 (y : Int) ∧ nn = .int .i64 (x : Int) ∧ x ≤ j ∧ y < 256 ∧ Hid (y = s / 2 ^ j) ∧ Hid (x = popN s j)) (fun ss _ => (intOf ss).toNat)
  case atStart => exact ⟨0, s, 0, Nat.zero_le _, rfl, rfl, Nat.le_refl _, h256, (show s = s / 2 ^ 0 by rw [Nat.pow_zero, Nat.div_one]), (show 0 = popN s 0 from rfl)⟩
  case round =>
    obtain ⟨j, y, x, hj, rfl, rfl, hx, hy, HY, HX⟩ := hrel
    by_cases hy0 : 0 < y
    · have b1 : (0 : Int) < (y : Int) := by omega
      have hjk : j < k := by
        rcases Nat.lt_or_ge j k with h | h
        · exact h
        · exfalso
          have : j = k := by omega
          subst this
          have h1 := HY.out
          rw [HK.out] at h1
          omega
      obtain ⟨b, hb⟩ : ∃ b, b = y % 2 := ⟨_, rfl⟩
      obtain ⟨d, hd⟩ : ∃ d, d = y / 2 := ⟨_, rfl⟩
      have HX2 : Hid (x + b = popN s (j + 1)) := by
        show _ = _
        rw [popN, ← HX.out, hb, HY.out]
      have HY2 : Hid (d = s / 2 ^ (j + 1)) := by
        show _ = _
        rw [hd, HY.out, Nat.pow_succ, Nat.div_div_eq_div_mul]
      have et1 : (y : Int).tmod 2 = (b : Int) := by rw [Int.tmod_eq_emod_of_nonneg (by omega), hb]; omega
      have et2 : (y : Int) % 2 = (b : Int) := by omega
      have ed2 : (y : Int) / 2 = (d : Int) := by omega
      have ed3 : (y : Int).tdiv 2 = (d : Int) := by rw [Int.tdiv_eq_ediv_of_nonneg (by omega)]; omega
      have ed4 : IntKind.i64.wrap (d : Int) = (d : Int) := by rw [IntKind.wrap_i64]; omega
      have hb1 : b ≤ 1 := by omega
      have hdy : d < y := by omega
      have ewx : IntKind.i64.wrap ((x : Int) + (b : Int)) = (x : Int) + (b : Int) := by rw [IntKind.wrap_i64]; omega
      clear hb hd HX HY
      go_wp2
      go_round
      case rel => exact ⟨j + 1, d, x + b, by omega, by first | rfl | go_num, by go_num, by omega, by omega, HY2, HX2⟩
      case measure => first | (simp [intOf]; omega) | (rw [ed2]; simp [intOf]; omega)
    · have hyz : y = 0 := by omega
      have HE : Hid (x = popN s k) := by
        show _ = _
        have h1 := pop_zero (s := s) (j := j) (by rw [← HY.out]; exact hyz) (k - j)
        rw [show j + (k - j) = k by omega] at h1
        rw [h1, HX.out]
      subst hyz
      clear HX HY
      go_wp2
      go_ret
      exact ⟨by rw [← HE.out]; rfl, rfl⟩
theorem pow2M_le : ∀ k, k ≤ 8 → 2 ^ k ≤ 256 := by
  intro k hk
  have h2 : 2 ^ k ≤ 2 ^ 8 := Nat.pow_le_pow_right (by omega) hk
  have h3 : (2 : Nat) ^ 8 = 256 := by decide
  omega
set_option maxHeartbeats 800000 in
theorem pow2M_any (n : Nat) (w : World) (hn : n ≤ 8) :
    Calls Try.prog 51 #[.int .i64 2, .int .i64 (n : Int)] w fun e w' => e = .returned (.int .i64 ((2 ^ n : Nat) : Int)) ∧ w = w' := by
  obtain ⟨r, hr⟩ : ∃ r : Nat, r = 2 ^ n := ⟨_, rfl⟩
  rw [← hr]
  have HR := Lib.hid hr
  clear hr
  go_enter Try.func51, Try.ntmps51
  go_wp2
  go_loop [1, 5] (fun i out => ∃ k p : Nat, k ≤ n ∧ i = .int .i64 ((n - k : Nat) : Int) ∧ out = .int .i64 (p : Int) ∧ Hid (p = 2 ^ k)) (fun i _ => (intOf i).toNat)
  case atStart => exact ⟨0, 1, Nat.zero_le _, rfl, rfl, rfl⟩
  case round =>
    obtain ⟨k, p, hk, rfl, rfl, HP⟩ := hrel
    by_cases hlt : k < n
    · have b1 : (0 : Int) < ((n - k : Nat) : Int) := by omega
      have hp := pow2M_le k (by omega)
      rw [← HP.out] at hp
      have e1 : IntKind.i64.wrap ((p : Int) * 2) = ((p * 2 : Nat) : Int) := by rw [IntKind.wrap_i64]; omega
      have e2 : IntKind.i64.wrap (((n - k : Nat) : Int) - 1) = ((n - (k + 1) : Nat) : Int) := by rw [IntKind.wrap_i64]; omega
      have HP2 : Hid (p * 2 = 2 ^ (k + 1)) := by show _ = _; rw [Nat.pow_succ, ← HP.out]
      clear hp HP
      go_wp2
      go_round
      case rel => exact ⟨k + 1, p * 2, by omega, by first | rfl | rw [e2], by first | rfl | rw [e1], HP2⟩
      case measure => first | (rw [e2]; simp [intOf]; omega) | (simp [intOf]; omega)
    · obtain rfl : k = n := by omega
      have b1 : ¬ (0 : Int) < ((k - k : Nat) : Int) := by omega
      go_wp2
      go_ret
      exact ⟨by rw [HR.out, HP.out]; rfl, rfl⟩
set_option maxHeartbeats 800000 in
theorem pow2L_any (n : Nat) (w : World) (hn : n ≤ 8) :
    Calls Try.prog 17 #[.int .i64 2, .int .i64 (n : Int)] w fun e w' => e = .returned (.int .i64 ((2 ^ n : Nat) : Int)) ∧ w = w' := by
  obtain ⟨r, hr⟩ : ∃ r : Nat, r = 2 ^ n := ⟨_, rfl⟩
  rw [← hr]
  have HR := Lib.hid hr
  clear hr
  go_enter Try.func17, Try.ntmps17
  go_wp2
  go_loop [1, 5] (fun i out => ∃ k p : Nat, k ≤ n ∧ i = .int .i64 ((n - k : Nat) : Int) ∧ out = .int .i64 (p : Int) ∧ Hid (p = 2 ^ k)) (fun i _ => (intOf i).toNat)
  case atStart => exact ⟨0, 1, Nat.zero_le _, rfl, rfl, rfl⟩
  case round =>
    obtain ⟨k, p, hk, rfl, rfl, HP⟩ := hrel
    by_cases hlt : k < n
    · have b1 : (0 : Int) < ((n - k : Nat) : Int) := by omega
      have hp := pow2M_le k (by omega)
      rw [← HP.out] at hp
      have e1 : IntKind.i64.wrap ((p : Int) * 2) = ((p * 2 : Nat) : Int) := by rw [IntKind.wrap_i64]; omega
      have e2 : IntKind.i64.wrap (((n - k : Nat) : Int) - 1) = ((n - (k + 1) : Nat) : Int) := by rw [IntKind.wrap_i64]; omega
      have HP2 : Hid (p * 2 = 2 ^ (k + 1)) := by show _ = _; rw [Nat.pow_succ, ← HP.out]
      clear hp HP
      go_wp2
      go_round
      case rel => exact ⟨k + 1, p * 2, by omega, by first | rfl | rw [e2], by first | rfl | rw [e1], HP2⟩
      case measure => first | (rw [e2]; simp [intOf]; omega) | (simp [intOf]; omega)
    · obtain rfl : k = n := by omega
      have b1 : ¬ (0 : Int) < ((k - k : Nat) : Int) := by omega
      go_wp2
      go_ret
      exact ⟨by rw [HR.out, HP.out]; rfl, rfl⟩
end Go.Proofs.Ytmpppocmbdainaa

namespace Go.Proofs.Ytmpppocmbdainaa
open Go.RowKit

/-! ### sets that watch all -/
def bitT (s i : Nat) : Bool := decide (s / 2 ^ i % 2 = 1)
def seenK (E : Edges) (s v k : Nat) : Bool := bitT s v || ((nb E v).take k).any (bitT s)
def seenB (E : Edges) (s v : Nat) : Bool := bitT s v || (nb E v).any (bitT s)
theorem seenK_next {E : Edges} {s v k : Nat} (hk : k < (nb E v).length) : seenK E s v (k + 1) = (seenK E s v k || bitT s (nb E v)[k]) := by
  unfold seenK
  rw [List.take_succ_eq_append_getElem hk, List.any_append, Bool.or_assoc]; simp
theorem seenK_all (E : Edges) (s v : Nat) : seenK E s v (nb E v).length = seenB E s v := by unfold seenK seenB; rw [List.take_length]
def watchB (n : Nat) (E : Edges) (s : Nat) : Bool := (List.range n).all (seenB E s)
theorem watch_no {n : Nat} {E : Edges} {s v : Nat} (hv : v < n) (h : seenB E s v = false) : watchB n E s = false := by
  unfold watchB
  rw [List.all_eq_false]
  exact ⟨v, List.mem_range.2 hv, by rw [h]; exact Bool.false_ne_true⟩
theorem watch_yes {n : Nat} {E : Edges} {s : Nat} (h : ∀ v, v < n → seenB E s v = true) : watchB n E s = true := by
  unfold watchB
  rw [List.all_eq_true]
  exact fun v hv => h v (List.mem_range.1 hv)
/-- a bit of a number, as the model asks it -/
theorem bit_ask (s i : Nat) (hs : s ≤ 256) (hi : i ≤ 8) : ∃ p d : Nat, p = 2 ^ i ∧ 0 < p ∧ p ≤ 256 ∧ IntKind.i64.wrap ((s : Int) / (p : Int)) = (d : Int) ∧ d ≤ 256 ∧ ((d : Int) % 2 == 1) = bitT s i := by
  refine ⟨2 ^ i, s / 2 ^ i, rfl, Nat.two_pow_pos i, pow2M_le i hi, ?_, Nat.le_trans (Nat.div_le_self _ _) hs, ?_⟩
  · have h1 : s / 2 ^ i ≤ s := Nat.div_le_self _ _
    obtain ⟨d, hd⟩ : ∃ d, d = s / 2 ^ i := ⟨_, rfl⟩
    rw [← Int.natCast_ediv, ← hd, IntKind.wrap_i64]
    rw [← hd] at h1
    omega
  · unfold bitT
    by_cases h : s / 2 ^ i % 2 = 1
    · rw [decide_eq_true h, beq_iff_eq]; omega
    · rw [decide_eq_false h, beq_eq_false_iff_ne]; omega
set_option maxRecDepth 100000 in
set_option maxHeartbeats 3200000 in
theorem watchedM_any (n : Nat) (E : Edges) (hT : Hid (TreeS n E)) (s : Nat) (hs : s ≤ 128) (v : Value) (RV : List Value) (w : World) {B0 H0 : Nat} (hG : Hid (Grid w B0 H0 v RV (rowsE E))) (hH : H0 ≤ w.heap.size) :
    Calls Try.prog 52 #[.int .i64 (n : Int), v, .int .i64 (s : Int)] w fun e w' => e = .returned (.bool (watchB n E s)) ∧ Below w.heap.size w w' := by
  have CB := Lib.hid (fun (u : Nat) (W : World) (hW : Below w.heap.size w W) => beside_nb n E hT u v RV W (Lib.hid (hG.out.below (hW.mono hH))) (Nat.le_trans hH hW.size))
  obtain ⟨av, cv, rfl⟩ : ∃ a c, v = .slice a RV.length c := by
    obtain ⟨a, c, h, _⟩ := hG.out.1.slice; exact ⟨a, c, h⟩
  have h7 := hT.out.h7
  have h12 := Lib.hid (fun u => hT.out.nb12 u)
  have HLT : Hid (∀ u, ∀ x ∈ nb E u, x < n) := fun u x hx => (adj_lt hT.out.v (mem_nb.1 hx)).2
  have WN : Hid (∀ v, v < n → seenB E s v = false → watchB n E s = false) := fun v hv h => watch_no hv h
  have WY : Hid ((∀ v, v < n → seenB E s v = true) → watchB n E s = true) := watch_yes
  obtain ⟨R, hR⟩ : ∃ R, R = watchB n E s := ⟨_, rfl⟩
  rw [← hR] at WN WY ⊢
  clear hG hH hR
  go_enter Try.func52, Try.ntmps52
  go_wp2
  go_loopw [7, 8, 9, 10] (fun vv gg nn ii wr => ∃ k : Nat, k ≤ n ∧ vv = .int .i64 (k : Int) ∧ Hid (∀ j, j < k → seenB E s j = true) ∧ Hid (Below w.heap.size w wr)) (fun vv _ _ _ _ => n - (intOf vv).toNat)
  case atStart => exact ⟨0, Nat.zero_le _, rfl, fun j h => absurd h (Nat.not_lt_zero _), Below.refl _ _⟩
  case round =>
    obtain ⟨k, hk, rfl, HK, HB⟩ := hrel
    by_cases hlt : k < n
    · have b1 : (k : Int) < (n : Int) := by omega
      obtain ⟨p, d, hp, hp0, hp2, hd, hd2, hbit⟩ := bit_ask s k (by omega) (by omega)
      have CP := Lib.hid (fun W => pow2M_any k W (by omega))
      rw [← hp] at CP
      have p0 : ((p : Int) == 0) = false := by rw [beq_eq_false_iff_ne]; omega
      have CB1 := Lib.hid (CB.out k wr HB.out)
      have hiL := intsB_len (nb E k)
      have h12k := h12.out k
      have HLK := Lib.hid (HLT.out k)
      have SA := Lib.hid (seenK_all E s k)
      have S0 : Hid (bitT s k = seenK E s k 0) := by show _ = _; unfold seenK; simp
      obtain ⟨m, hm⟩ : ∃ m, m = (nb E k).length := ⟨_, rfl⟩
      have HM := Lib.hid hm
      rw [← hm] at hiL h12k SA
      obtain ⟨t0, ht0⟩ : ∃ t, t = bitT s k := ⟨_, rfl⟩
      rw [← ht0] at hbit S0
      clear hp hm ht0 CB
      go_wp2_with fail
      refine (CP.out _).mono ?_
      rintro e wx ⟨rfl, rfl⟩
      clear CP
      go_wp2_with fail
      refine CB1.out.mono ?_
      rintro e w1 ⟨y, rfl, hy, hb1⟩
      obtain ⟨ay, cy, rfl, _⟩ := hy.slice
      rw [hiL] at hy ⊢
      have HY := Lib.hid hy
      have HB1 : Hid (Below w.heap.size w w1) := HB.out.trans (hb1.mono HB.out.size)
      clear hy hb1 CB1 hiL
      go_wp2_with fail
      go_loopw [8, 10] (fun gg ii wi => ∃ (j : Nat) (t : Bool), j ≤ m ∧ ii = .int .i64 (j : Int) ∧ gg = .bool t ∧ Hid (t = seenK E s k j) ∧ Hid (Below w.heap.size w wi ∧ Below w1.heap.size w1 wi)) (fun _ ii _ => m - (intOf ii).toNat)
      case atStart => exact ⟨0, t0, Nat.zero_le _, rfl, by first | rfl | rw [hbit], S0.out, HB1.out, Below.refl _ _⟩
      case round =>
        clear S0 hbit
        obtain ⟨j, t, hj, rfl, rfl, HS, HW⟩ := hrel
        by_cases hjm : j < m
        · have b2 : (j : Int) < (m : Int) := by omega
          have hkn : j < (nb E k).length := by rw [← HM.out]; exact hjm
          obtain ⟨g, rfl, _, hgl, c0, _⟩ := HY.out.at_ j (by rw [intsB_len]; exact hkn)
          have c1 := (HW.out.2.cell (p := ⟨g, j, none⟩) hgl).trans c0
          have e1 : (iv (intsB (nb E k)))[j]? = some (.int .i64 (((nb E k)[j] : Nat) : Int)) := by simp [iv, intsB, hkn]
          rw [e1] at c1
          have SN := seenK_next (s := s) hkn
          have hmem := HLK.out _ (List.getElem_mem hkn)
          rw [← HS.out] at SN
          obtain ⟨x, hx⟩ : ∃ x, x = (nb E k)[j] := ⟨_, rfl⟩
          rw [← hx] at c1 SN hmem
          obtain ⟨p', d', hp', hp0', hp2', hd', hd2', hbit'⟩ := bit_ask s x (by omega) (by omega)
          have CP := Lib.hid (fun W => pow2M_any x W (by omega))
          rw [← hp'] at CP
          have p0' : ((p' : Int) == 0) = false := by rw [beq_eq_false_iff_ne]; omega
          obtain ⟨t1, ht1⟩ : ∃ t, t = bitT s x := ⟨_, rfl⟩
          rw [← ht1] at hbit' SN
          clear hx hkn c0 e1 hgl hp' ht1 HS
          cases t with
          | true =>
            have SN2 : Hid (true = seenK E s k (j + 1)) := by show _ = _; rw [SN]; rfl
            clear SN CP hbit' hd' c1
            go_wp2
            go_roundw
            case rel => exact ⟨j + 1, true, by omega, by go_num, rfl, SN2, HW⟩
            case measure => simp [intOf]; omega
          | false =>
            have SN2 : Hid (t1 = seenK E s k (j + 1)) := by show _ = _; rw [SN]; rfl
            clear SN
            go_wp2_with fail
            refine (CP.out _).mono ?_
            rintro e wx ⟨rfl, rfl⟩
            clear CP
            go_wp2
            go_roundw
            case rel => exact ⟨j + 1, t1, by omega, by go_num, by first | rfl | rw [hbit'], SN2, HW⟩
            case measure => simp [intOf]; omega
        · obtain rfl : j = m := by omega
          have HF : Hid (t = seenB E s k) := by show _ = _; rw [HS.out, SA.out]
          clear HS SA
          cases t with
          | true =>
            have HK2 : Hid (∀ i, i < k + 1 → seenB E s i = true) := fun i hi => by
              by_cases e : i = k
              · subst e; exact HF.out.symm
              · exact HK.out i (by omega)
            clear HF HK
            go_wp2
            go_roundw
            case rel => exact ⟨k + 1, by omega, by go_num, HK2, HW.out.1⟩
            case measure => simp [intOf]; omega
          | false =>
            have hF := Lib.hid (WN.out k hlt HF.out.symm)
            clear HF HK
            go_wp2
            go_ret
            exact ⟨(by rw [hF.out]; rfl), HW.out.1⟩
    · obtain rfl : k = n := by omega
      have hF := Lib.hid (WY.out HK.out)
      go_wp2
      go_ret
      exact ⟨(by rw [hF.out]; rfl), HB.out⟩
end Go.Proofs.Ytmpppocmbdainaa

namespace Go.Proofs.Ytmpppocmbdainaa
open Go.RowKit

def lstN (n : Nat) (E : Edges) (k : Nat) : Nat := (List.range k).foldl (fun b s => if watchB n E s = true then min b (popN s n) else b) n
def leastN (n : Nat) (E : Edges) : Nat := lstN n E (2 ^ n)
theorem lst_next (n : Nat) (E : Edges) (k : Nat) : lstN n E (k + 1) = if watchB n E k = true then min (lstN n E k) (popN k n) else lstN n E k := by
  unfold lstN
  rw [List.range_succ, List.foldl_append]; rfl
theorem lst_le (n : Nat) (E : Edges) : ∀ k, lstN n E k ≤ n
  | 0 => Nat.le_refl _
  | k + 1 => by
    rw [lst_next]
    have := lst_le n E k
    split <;> omega
set_option maxRecDepth 100000 in
set_option maxHeartbeats 3200000 in
theorem specLeastWatch_any : TreeFn 24 (treeV leastN) := by
  intro n rows v RV w B0 H0 hG hH hrl _ _
  have CV := Lib.hid (validTree_any n rows v RV w hG hH hrl)
  obtain ⟨av, cv, rfl⟩ : ∃ a c, v = .slice a RV.length c := by
    obtain ⟨a, c, h, _⟩ := hG.out.1.slice; exact ⟨a, c, h⟩
  cases ht : treeB n rows with
  | true =>
    rw [treeV, if_pos ht]
    obtain ⟨h1, h2⟩ := rowsE_tree ht
    obtain ⟨N, rfl⟩ : ∃ N : Nat, n = N := ⟨n.toNat, by have := (treeB_iff.1 ht).1; omega⟩
    rw [Int.toNat_natCast] at h2 ⊢
    have h7 := h2.h7
    have CC := Lib.hid (fun (s : Nat) (hs : s ≤ 128) (W : World) (hW : Below w.heap.size w W) => watchedM_any N (edgesR rows) h2 s hs (.slice av RV.length cv) RV W (Lib.hid (by rw [← h1]; exact hG.out.below (hW.mono hH))) (Nat.le_trans hH hW.size))
    have CP := Lib.hid (fun W => pow2M_any N W (by omega))
    have CB := Lib.hid (fun (s : Nat) W (hs : s < 2 ^ N) => bitsM_any s N W hs (by omega))
    rw [ht] at CV
    obtain ⟨E, hE⟩ : ∃ E, E = edgesR rows := ⟨_, rfl⟩
    rw [← hE] at CC ⊢
    have LN := Lib.hid (lst_next N E)
    have LL := Lib.hid (lst_le N E)
    have L0 : Hid (N = lstN N E 0) := rfl
    have HR : Hid (leastN N E = lstN N E (2 ^ N)) := rfl
    obtain ⟨R, hR⟩ : ∃ R, R = leastN N E := ⟨_, rfl⟩
    rw [← hR] at HR ⊢
    have hp8 : 2 ^ N ≤ 128 := Nat.pow_le_pow_right (by decide) h7
    obtain ⟨T, hT⟩ : ∃ T, T = 2 ^ N := ⟨_, rfl⟩
    rw [← hT] at CP CB hp8 HR
    clear hG hH hrl h1 h2 ht hE hR hT
    go_enter Try.func24, Try.ntmps24
    go_wp2_with fail
    refine CV.out.mono ?_
    rintro e w1 ⟨rfl, hb1⟩
    have HB1 := Lib.hid hb1
    clear hb1 CV
    go_wp2_with fail
    go_loopw [5, 6] (fun bb ss wr => ∃ k b : Nat, k ≤ T ∧ ss = .int .i64 (k : Int) ∧ bb = .int .i64 (b : Int) ∧ Hid (b = lstN N E k) ∧ Hid (Below w.heap.size w wr)) (fun _ ss _ => T - (intOf ss).toNat)
    case atStart => exact ⟨0, N, Nat.zero_le _, rfl, rfl, L0.out, HB1.out⟩
    case round =>
      clear L0 HB1
      obtain ⟨k, b, hk, rfl, rfl, HL, HB⟩ := hrel
      go_wp2_with fail
      refine (CP.out _).mono ?_
      rintro e wx ⟨rfl, rfl⟩
      by_cases hlt : k < T
      · have b1 : (k : Int) < (T : Int) := by omega
        have CC1 := Lib.hid (CC.out k (by omega) wr HB.out)
        have LN1 := LN.out k
        have hl := LL.out k
        rw [← HL.out] at LN1 hl
        cases hw : watchB N E k with
        | false =>
          rw [hw] at CC1 LN1
          have L2 : Hid (b = lstN N E (k + 1)) := by show _ = _; rw [LN1]; rfl
          clear LN1 HL hw
          go_wp2_with fail
          refine CC1.out.mono ?_
          rintro e w2 ⟨rfl, hb2⟩
          have B2 : Hid (Below w.heap.size w w2) := HB.out.trans (hb2.mono HB.out.size)
          clear hb2 CC1 HB
          go_wp2
          go_roundw
          case rel => exact ⟨k + 1, b, by omega, by go_num, rfl, L2, B2⟩
          case measure => simp [intOf]; omega
        | true =>
          rw [hw, if_pos rfl] at LN1
          rw [hw] at CC1
          have CB1 := Lib.hid (fun W => CB.out k W hlt)
          have hpl := pop_le k N
          obtain ⟨c, hc⟩ : ∃ c, c = popN k N := ⟨_, rfl⟩
          rw [← hc] at LN1 CB1 hpl
          have LNH := Lib.hid LN1
          clear LN1 HL hw hc
          go_wp2_with fail
          refine CC1.out.mono ?_
          rintro e w2 ⟨rfl, hb2⟩
          have B2 : Hid (Below w.heap.size w w2) := HB.out.trans (hb2.mono HB.out.size)
          clear hb2 CC1 HB
          go_wp2_with fail
          refine (CB1.out _).mono ?_
          rintro e w3 ⟨rfl, rfl⟩
          clear CB1
          rcases Nat.lt_trichotomy b c with hz | hz | hz
          · have hz' : (b : Int) < (c : Int) := by omega
            have L2 : Hid (b = lstN N E (k + 1)) := by show _ = _; rw [LNH.out, Nat.min_eq_left (by omega)]
            have e9 : Hid (min (b : Int) (c : Int) = (b : Int)) := by show _ = _; omega
            clear LNH
            go_wp2
            go_roundw
            case rel => exact ⟨k + 1, b, by omega, by go_num, by first | rfl | rw [e9.out], L2, B2⟩
            case measure => simp [intOf]; omega
          · subst hz
            have L2 : Hid (b = lstN N E (k + 1)) := by show _ = _; rw [LNH.out, Nat.min_self]
            have e9 : Hid (min (b : Int) (b : Int) = (b : Int)) := by show _ = _; omega
            clear LNH
            go_wp2
            go_roundw
            case rel => exact ⟨k + 1, b, by omega, by go_num, by first | rfl | rw [e9.out], L2, B2⟩
            case measure => simp [intOf]; omega
          · have hz' : (c : Int) < (b : Int) := by omega
            have L2 : Hid (c = lstN N E (k + 1)) := by show _ = _; rw [LNH.out, Nat.min_eq_right (by omega)]
            have e9 : Hid (min (b : Int) (c : Int) = (c : Int)) := by show _ = _; omega
            clear LNH
            go_wp2
            go_roundw
            case rel => exact ⟨k + 1, c, by omega, by go_num, by first | rfl | rw [e9.out], L2, B2⟩
            case measure => simp [intOf]; omega
      · obtain rfl : k = T := by omega
        have hF : Hid (b = R) := by show _ = _; rw [HL.out, HR.out]
        clear HL
        go_wp2
        go_ret
        exact ⟨(by rw [hF.out]; rfl), HB.out⟩
  | false =>
    rw [treeV, if_neg (by rw [ht]; decide)]
    rw [ht] at CV
    clear hG hH hrl ht
    go_enter Try.func24, Try.ntmps24
    go_wp2_with fail
    refine CV.out.mono ?_
    rintro e w1 ⟨rfl, hb1⟩
    have HB1 := Lib.hid hb1
    clear hb1 CV
    go_wp2
    go_ret
    exact ⟨rfl, HB1.out⟩
end Go.Proofs.Ytmpppocmbdainaa

namespace Go.Proofs.Ytmpppocmbdainaa
open Go.RowKit

theorem pop_len (s : Nat) : ∀ n, popN s n = (setsB n s).length
  | 0 => rfl
  | n + 1 => by
    rw [popN, pop_len s n]
    unfold setsB
    rw [List.range_succ, List.filter_append, List.length_append]
    by_cases h : s / 2 ^ n % 2 = 1
    · rw [List.filter_cons_of_pos (by simpa using h), h]; rfl
    · rw [List.filter_cons_of_neg (by simpa using h), show s / 2 ^ n % 2 = 0 by omega]; rfl
theorem seen_iff {n : Nat} {E : Edges} (h : ValidT n E) {s v : Nat} (hv : v < n) : seenB E s v = true ↔ Seen E (setsB n s) v := by
  unfold seenB Seen bitT
  rw [Bool.or_eq_true, decide_eq_true_eq, List.any_eq_true, setsB_mem]
  constructor
  · rintro (q | ⟨x, hx, q⟩)
    · exact .inl ⟨hv, q⟩
    · rw [decide_eq_true_eq] at q
      exact .inr ⟨x, setsB_mem.2 ⟨(adj_lt h (mem_nb.1 hx)).2, q⟩, mem_nb.1 hx⟩
  · rintro (⟨_, q⟩ | ⟨x, hx, q⟩)
    · exact .inl q
    · exact .inr ⟨x, mem_nb.2 q, decide_eq_true (setsB_mem.1 hx).2⟩
theorem watch_iff {n : Nat} {E : Edges} (h : ValidT n E) {s : Nat} : watchB n E s = true ↔ ∀ v, v < n → Seen E (setsB n s) v := by
  unfold watchB
  rw [List.all_eq_true]
  constructor
  · exact fun q v hv => (seen_iff h hv).1 (q v (List.mem_range.2 hv))
  · exact fun q v hv => (seen_iff h (List.mem_range.1 hv)).2 (q v (List.mem_range.1 hv))
/-- watchers are enough: each sees itself and as many as it has edges -/
theorem watch_many {n : Nat} {E : Edges} (h : ValidT n E) {D : Nat} (hd : ∀ v, v < n → deg E v ≤ D) {s : Nat} (hw : watchB n E s = true) : n ≤ popN s n * (D + 1) := by
  rw [pop_len]
  have h1 := (watch_iff h).1 hw
  have hsub : ∀ v ∈ List.range n, v ∈ (setsB n s).flatMap fun x => x :: nb E x := fun v hv => by
    rcases h1 v (List.mem_range.1 hv) with q | ⟨x, hx, q⟩
    · exact List.mem_flatMap.2 ⟨v, q, List.mem_cons_self ..⟩
    · exact List.mem_flatMap.2 ⟨x, hx, List.mem_cons_of_mem _ (mem_nb.2 q.symm)⟩
  have h2 := List.Nodup.length_le_of_subset List.nodup_range hsub
  rw [List.length_range] at h2
  have key : ∀ L : List Nat, (∀ x ∈ L, x < n) → (L.flatMap fun x => x :: nb E x).length ≤ L.length * (D + 1) := by
    intro L
    induction L with
    | nil => intro _; simp
    | cons a r ih =>
      intro hL
      have h3 := ih fun x hx => hL x (List.mem_cons_of_mem _ hx)
      have h4 := hd a (hL a (List.mem_cons_self ..))
      rw [← nb_deg (fun e he => (h.ord e he).1)] at h4
      rw [List.flatMap_cons, List.length_append, List.length_cons, List.length_cons, Nat.add_mul, Nat.one_mul]
      omega
  exact Nat.le_trans h2 (key _ fun x hx => (setsB_mem.1 hx).1)
theorem lst_many {n : Nat} {E : Edges} (h : ValidT n E) {D : Nat} (hd : ∀ v, v < n → deg E v ≤ D) : ∀ k, n ≤ lstN n E k * (D + 1) := by
  intro k
  induction k with
  | zero => exact Nat.le_mul_of_pos_right _ (Nat.succ_pos _)
  | succ k ih =>
    rw [lst_next]
    split
    · next hw =>
      have h1 := watch_many h hd hw
      rcases Nat.le_total (lstN n E k) (popN k n) with q | q
      · rw [Nat.min_eq_left q]; exact ih
      · rw [Nat.min_eq_right q]; exact h1
    · exact ih
theorem lst_few {n : Nat} {E : Edges} {s : Nat} (hw : watchB n E s = true) : ∀ k, s < k → lstN n E k ≤ popN s n := by
  intro k
  induction k with
  | zero => intro h; omega
  | succ k ih =>
    intro hs
    rw [lst_next]
    by_cases e : s = k
    · subst e
      rw [if_pos hw]; exact Nat.min_le_right _ _
    · have := ih (by omega)
      split
      · exact Nat.le_trans (Nat.min_le_left _ _) this
      · exact this
/-- the least number of watchers -/
theorem least_facts {n : Nat} {E : Edges} (h : ValidT n E) (h7 : n ≤ 7) {D : Nat} (hd : ∀ v, v < n → deg E v ≤ D) : 1 ≤ leastN n E ∧ n ≤ leastN n E * (D + 1) ∧ (2 ≤ n → leastN n E ≤ (pairF E 14 0 (-1)).1) := by
  have hn : 0 < n := by have := h.len; omega
  have h1 := lst_many h hd (2 ^ n)
  refine ⟨?_, h1, fun h2 => ?_⟩
  · rcases Nat.eq_zero_or_pos (leastN n E) with e | e
    · have e' : lstN n E (2 ^ n) = 0 := e
      rw [e'] at h1; omega
    · exact e
  · have hp := nd_perm h h7 hn
    obtain ⟨D', a1, a2, _, a4⟩ := watch_there (E := E) 14 0 (-1) (valid_brn h h7 0 (-1))
    have hne : away E 0 (-1) ≠ [] := by
      intro e
      have h3 := sz_at E 14 0 (-1)
      rw [e, sz_more (valid_brn h h7 0 (-1)), sz_all h h7 hn] at h3
      simp at h3
      omega
    have hlt : ∀ y ∈ D', y < n := fun y hy => List.mem_range.1 (hp.mem_iff.1 (a1 y hy))
    obtain ⟨s, h3, h4⟩ := bits_there (fun i => decide (i ∈ D')) n
    have hw : watchB n E s = true := (watch_iff h).2 fun v hv => by
      have h5 := a4 v (hp.mem_iff.2 (List.mem_range.2 hv)) (.inr hne)
      refine h5.mono fun z hz => ?_
      rw [h4, List.mem_filter, decide_eq_true_eq]
      exact ⟨List.mem_range.2 (hlt z hz), hz⟩
    have h5 := lst_few hw (2 ^ n) h3
    have h6 : popN s n ≤ D'.length := by
      rw [pop_len, h4]
      exact List.Nodup.length_le_of_subset (List.nodup_range.filter _) fun x hx => of_decide_eq_true (List.mem_filter.1 hx).2
    exact Nat.le_trans h5 (Nat.le_trans h6 a2)

/-! ### sets in rows are the fewest -/
def fibA : Nat → Nat
  | 0 => 1
  | 1 => 2
  | n + 2 => fibA (n + 1) + fibA n
theorem fib_add : ∀ a, a ≤ 7 → ∀ b, b ≤ 7 → fibA (1 + (a + 1 + (b + 1))) = fibA (a + 1) * fibA (b + 1) + fibA a * fibA b := by decide
theorem fib_sub : ∀ a, a ≤ 7 → ∀ b, b ≤ 7 → fibA (a + b) ≤ fibA a * fibA b := by decide
theorem fib_mono : ∀ a, a ≤ 15 → fibA a ≤ fibA (a + 1) := by decide
theorem fib_step {f0 f1 g0 g1 x y P Q : Nat} (h0 : f0 ≤ f1) (h1 : f0 ≤ x) (h2 : f1 ≤ x + y) (h3 : g1 ≤ P) (h4 : g1 + g0 ≤ P + Q) : f1 * g1 + f0 * g0 ≤ (x + y) * P + x * Q := by
  obtain ⟨k, rfl⟩ : ∃ k, f1 = f0 + k := ⟨f1 - f0, by omega⟩
  have a1 : (f0 + k) * P ≤ (x + y) * P := Nat.mul_le_mul_right _ h2
  have a2 : f0 * Q ≤ x * Q := Nat.mul_le_mul_right _ h1
  have a3 : k * g1 ≤ k * P := Nat.mul_le_mul_left _ h3
  have a4 : f0 * (g1 + g0) ≤ f0 * (P + Q) := Nat.mul_le_mul_left _ h4
  rw [Nat.mul_add] at a4
  rw [Nat.mul_add] at a4
  rw [Nat.add_mul] at a1
  rw [Nat.add_mul]
  omega
/-- the sets of a branch, without and with its node, against rows of as many nodes -/
theorem set_fib {E : Edges} : ∀ (d v : Nat) (fr : Int), Brn E d v fr → sz E d v fr ≤ 7 → fibA (sz E d v fr - 1) ≤ (setF E d v fr).1 ∧ fibA (sz E d v fr) ≤ (setF E d v fr).1 + (setF E d v fr).2 := by
  intro d
  induction d with
  | zero => intro v fr h; exact h.elim
  | succ d ih =>
    intro v fr h hs
    rw [sz_at] at hs ⊢
    rw [setF_at, Nat.add_sub_cancel_left]
    simp only
    have key : ∀ L : List Nat, (∀ x ∈ L, x ∈ away E v fr) → 1 + (L.map fun x => sz E d x v).sum ≤ 7 →
        fibA (L.map fun x => sz E d x v).sum ≤ prodM (L.map fun x => (setF E d x v).1 + (setF E d x v).2) ∧
        fibA (1 + (L.map fun x => sz E d x v).sum) ≤ prodM (L.map fun x => (setF E d x v).1 + (setF E d x v).2) + prodM (L.map fun x => (setF E d x v).1) := by
      intro L
      induction L with
      | nil => intro _ _; exact ⟨Nat.le_refl _, Nat.le_refl _⟩
      | cons a r ihr =>
        intro hL hn
        rw [List.map_cons, List.sum_cons] at hn
        obtain ⟨i1, i2⟩ := ihr (fun x hx => hL x (List.mem_cons_of_mem _ hx)) (by omega)
        have ha := h a (hL a (List.mem_cons_self ..))
        obtain ⟨j1, j2⟩ := ih a v ha (by omega)
        have h3 : 1 ≤ sz E d a v := List.length_pos_iff.2 (List.ne_nil_of_mem (nds_head ha))
        simp only [List.map_cons, List.sum_cons]
        show _ ≤ (_ * prodM _) ∧ _ ≤ (_ * prodM _) + (_ * prodM _)
        obtain ⟨t, ht⟩ : ∃ t, sz E d a v = t + 1 := ⟨sz E d a v - 1, by omega⟩
        obtain ⟨T, hT⟩ : ∃ T, T = (r.map fun x => sz E d x v).sum := ⟨_, rfl⟩
        obtain ⟨P, hP⟩ : ∃ P, P = prodM (r.map fun x => (setF E d x v).1 + (setF E d x v).2) := ⟨_, rfl⟩
        obtain ⟨Q, hQ⟩ : ∃ Q, Q = prodM (r.map fun x => (setF E d x v).1) := ⟨_, rfl⟩
        obtain ⟨x, hx⟩ : ∃ x, x = (setF E d a v).1 := ⟨_, rfl⟩
        obtain ⟨y, hy⟩ : ∃ y, y = (setF E d a v).2 := ⟨_, rfl⟩
        rw [ht, ← hT] at hn
        rw [ht] at j1 j2 ⊢
        rw [Nat.add_sub_cancel] at j1
        rw [← hT, ← hP] at i1
        rw [← hT, ← hP, ← hQ] at i2
        rw [← hx] at j1
        rw [← hx, ← hy] at j2
        rw [← hT, ← hP, ← hQ, ← hx, ← hy]
        have b1 : fibA (t + 1) * fibA T ≤ (x + y) * P := Nat.mul_le_mul j2 i1
        have hm := fib_mono t (by omega)
        refine ⟨Nat.le_trans (fib_sub (t + 1) (by omega) T (by omega)) b1, ?_⟩
        cases T with
        | zero =>
          have h5 := fib_step (g0 := 1) (g1 := 1) hm j1 j2 i1 i2
          have e2 : fibA (1 + (t + 1 + 0)) = fibA (t + 1) + fibA t := by rw [Nat.add_comm 1]; rfl
          rw [e2]
          rw [Nat.mul_one, Nat.mul_one] at h5
          exact h5
        | succ T =>
          rw [fib_add t (by omega) T (by omega)]
          refine fib_step hm j1 j2 i1 ?_
          have e3 : fibA (1 + (T + 1)) = fibA (T + 1) + fibA T := by rw [Nat.add_comm 1]; rfl
          rw [e3] at i2
          exact i2
    have := key (away E v fr) (fun x hx => hx) hs
    exact this
end Go.Proofs.Ytmpppocmbdainaa
