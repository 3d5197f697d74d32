/-
  The walk of the law that no two words are farther, given the contracts of the program's functions on turns.
-/
import Derived.Test.YtddhiokpdhahbaaKBtw
namespace Go.Proofs.Ytddhiokpdhahbaa
open Go.RowKit

set_option maxHeartbeats 3200000 in
theorem few_walk (HM : Hid (∀ (n : Int) (w : World), -1000 ≤ n ∧ n ≤ 1000 → Calls Try.prog 21 #[.int .i64 n] w fun e w' => e = .returned (.int .i64 (mostOut n)) ∧ Below w.heap.size w w'))
    (HB : Hid (∀ (s t : ByteArray) (w : World), s.size ≤ maxLen → t.size ≤ maxLen → Calls Try.prog 17 #[.string s, .string t] w fun e w' => e = .returned (.int .i64 (btwOut s.data.toList t.data.toList)) ∧ Below w.heap.size w w'))
    (a : Option Addr) (len cap : Nat) (zs : List Int) (w : World) (hr0 : IsRow .u8 w a len cap zs) :
    Calls Try.prog 8 #[.slice a len cap] w fun e w' => e = .returned (.bool true) ∧ Below w.heap.size w w' := by
  have hr := Lib.hid hr0
  clear hr0
  by_cases hbig : (1048576 : Int) < (len : Int)
  · go_enter Try.func8, Try.ntmps8
    go_wp2
    go_ret
    exact ⟨rfl, Below.refl _ _⟩
  · go_enter Try.func8, Try.ntmps8
    go_wp2_with fail
    refine (drawTurnsBetween a len cap zs w hr (by omega)).mono ?_
    rintro e w1 ⟨s, t, hs60, ht60, rfl, hb⟩
    have hsm : s.size ≤ maxLen := by unfold maxLen; omega
    have htm : t.size ≤ maxLen := by unfold maxLen; omega
    have B1 := Lib.hid hb
    clear hb hr
    have c1 := fun w => HB.out s t w hsm htm
    have c2 := fun w => specBetween_any s t w hsm htm
    obtain ⟨M, hM⟩ : ∃ M, M = s.size / 2 := ⟨_, rfl⟩
    have hM30 : M ≤ 30 := by omega
    have q2 : (s.size : Int) / 2 = (M : Int) := by omega
    have q3 : Int.tdiv (s.size : Int) 2 = (M : Int) := by rw [Int.tdiv_eq_ediv_of_nonneg (by omega)]; omega
    have c3 := fun w => HM.out (M : Int) w (by omega)
    rcases btw_cases s.data.toList t.data.toList with e1 | ⟨x, y, hx, hy, hxy, h6⟩
    · rw [e1] at c1 c2
      have C1 := Lib.hid c1
      have C2 := Lib.hid c2
      have C3 := Lib.hid c3
      clear c1 c2 c3 e1 hM
      go_wp2_with fail
      refine (C1.out _).mono ?_
      rintro e w2 ⟨rfl, hb⟩
      have B2 := Lib.hid (B1.out.trans (hb.mono B1.out.size))
      clear hb
      go_wp2_with fail
      refine (C2.out _).mono ?_
      rintro e w3 ⟨rfl, hb⟩
      have B3 := Lib.hid (B2.out.trans (hb.mono B2.out.size))
      clear hb
      go_wp2_with fail
      refine (C1.out _).mono ?_
      rintro e w4 ⟨rfl, hb⟩
      have B4 := Lib.hid (B3.out.trans (hb.mono B3.out.size))
      clear hb
      go_wp2_with fail
      refine (C3.out _).mono ?_
      rintro e w5 ⟨rfl, hb⟩
      have B5 := Lib.hid (B4.out.trans (hb.mono B4.out.size))
      clear hb
      go_wp2
      go_ret
      exact ⟨rfl, B5.out⟩
    · have e1 : btwOut s.data.toList t.data.toList = (dist x y : Nat) := by rw [hx, hy, btw_in hxy h6]
      rw [e1] at c1 c2
      have hl := Tw.lst_length x
      rw [← hx, size_list] at hl
      have hMx : M = x.size := by omega
      obtain ⟨P, hP⟩ : ∃ P : ByteArray, P = ⟨(timesL [40] M).toArray⟩ := ⟨_, rfl⟩
      obtain ⟨R, hR⟩ : ∃ R : ByteArray, R = ⟨(timesL [41] M).toArray⟩ := ⟨_, rfl⟩
      have c4 := fun w => times_any ⟨#[40]⟩ M (by omega) (by show 1 ≤ 100; omega) w
      have c5 := fun w => times_any ⟨#[41]⟩ M (by omega) (by show 1 ≤ 100; omega) w
      have e4 : timesL (ByteArray.mk #[40]).data.toList M = timesL [40] M := rfl
      have e5 : timesL (ByteArray.mk #[41]).data.toList M = timesL [41] M := rfl
      rw [e4, ← hP] at c4
      rw [e5, ← hR] at c5
      have hPR : (P ++ R).data.toList = (deepT M).lst := by rw [toList_append, hP, hR, deepT_lst]
      have hPRs : (P ++ R).size = 2 * M := by rw [← size_list, hPR, Tw.lst_length, deepT_size]
      have c6 := fun w => HB.out s (P ++ R) w hsm (by unfold maxLen; omega)
      have c7 := fun w => HB.out (P ++ R) t w (by unfold maxLen; omega) htm
      have z1 : x.size = (deepT M).size := by rw [deepT_size, hMx]
      have z2 : (deepT M).size = y.size := by rw [← z1, hxy]
      rw [hPR, hx, btw_in z1 h6] at c6
      rw [hPR, hy, btw_in z2 (by omega)] at c7
      have htri := Tw.far_three (far_dist z1 h6).1 (far_dist z2 (by omega)).1 (far_dist hxy h6).1
      have hmost : mostOut (M : Int) = -1 ∨ ∃ V : Nat, mostOut (M : Int) = V ∧ dist x y ≤ V := by
        by_cases h4 : M ≤ 4
        · refine .inr ⟨mostV M, by rw [mostOut, if_pos (by omega), Int.toNat_natCast], ?_⟩
          rw [hMx]
          exact dist_few hxy (by omega)
        · exact .inl (by rw [mostOut, if_neg (by omega)])
      have hd10 := (far_dist hxy h6).2
      have hi10 := (far_dist z1 h6).2
      have hj10 := (far_dist z2 (by omega)).2
      obtain ⟨d, hd⟩ : ∃ d, d = dist x y := ⟨_, rfl⟩
      obtain ⟨i, hi⟩ : ∃ i, i = dist x (deepT M) := ⟨_, rfl⟩
      obtain ⟨j, hj⟩ : ∃ j, j = dist (deepT M) y := ⟨_, rfl⟩
      rw [← hd] at c1 c2 htri hmost hd10
      rw [← hi] at c6 htri hi10
      rw [← hj] at c7 htri hj10
      obtain ⟨N, hN⟩ : ∃ N, N = mostOut (M : Int) := ⟨_, rfl⟩
      rw [← hN] at c3 hmost
      have hp : P.size ≤ 12 := by
        have : P.size = M := by rw [hP]; show (timesL [40] M).toArray.size = M; rw [List.size_toArray, timesL_length]; simp
        omega
      have hq : R.size ≤ 12 := by
        have : R.size = M := by rw [hR]; show (timesL [41] M).toArray.size = M; rw [List.size_toArray, timesL_length]; simp
        omega
      have q5 : (d : Int) ≤ (i : Int) + (j : Int) := by omega
      have q6 : (0 : Int) ≤ (d : Int) := by omega
      have C1 := Lib.hid c1
      have C2 := Lib.hid c2
      have C3 := Lib.hid c3
      have C4 := Lib.hid c4
      have C5 := Lib.hid c5
      have C6 := Lib.hid c6
      have C7 := Lib.hid c7
      clear c1 c2 c3 c4 c5 c6 c7 e1 hx hy hxy h6 hM hl hMx hP hR e4 e5 hPR hPRs z1 z2 htri hd hi hj hN
      go_wp2_with fail
      refine (C1.out _).mono ?_
      rintro e w2 ⟨rfl, hb⟩
      have B2 := Lib.hid (B1.out.trans (hb.mono B1.out.size))
      clear hb
      go_wp2_with fail
      refine (C2.out _).mono ?_
      rintro e w3 ⟨rfl, hb⟩
      have B3 := Lib.hid (B2.out.trans (hb.mono B2.out.size))
      clear hb
      go_wp2_with fail
      refine (C1.out _).mono ?_
      rintro e w4 ⟨rfl, hb⟩
      have B4 := Lib.hid (B3.out.trans (hb.mono B3.out.size))
      clear hb
      go_wp2_with fail
      refine (C3.out _).mono ?_
      rintro e w5 ⟨rfl, hb⟩
      have B5 := Lib.hid (B4.out.trans (hb.mono B4.out.size))
      clear hb
      go_wp2_with fail
      refine (C4.out _).mono ?_
      rintro e w6 ⟨rfl, rfl⟩
      go_wp2_with fail
      refine (C5.out _).mono ?_
      rintro e w7 ⟨rfl, rfl⟩
      rcases hmost with rfl | ⟨V, rfl, hV⟩
      case' inr =>
        have q7 : (d : Int) ≤ (V : Int) := by omega
        have q8 : (0 : Int) ≤ (V : Int) := by omega
      all_goals
        go_wp2_with fail
        refine (C6.out _).mono ?_
        rintro e w8 ⟨rfl, hb⟩
        have B8 := Lib.hid (B5.out.trans (hb.mono B5.out.size))
        clear hb
        go_wp2_with fail
        refine (C7.out _).mono ?_
        rintro e w9 ⟨rfl, hb⟩
        have B9 := Lib.hid (B8.out.trans (hb.mono B8.out.size))
        clear hb
        go_wp2
        go_ret
        exact ⟨rfl, B9.out⟩
end Go.Proofs.Ytddhiokpdhahbaa
