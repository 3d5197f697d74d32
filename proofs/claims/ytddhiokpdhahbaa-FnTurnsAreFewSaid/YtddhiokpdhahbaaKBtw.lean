/-
  The walks of the laws that turns are counted both ways and that no two words are farther, given the contracts of the program's functions on turns.
-/
import Derived.Test.YtddhiokpdhahbaaKFlat
import Derived.Test.YtddhiokpdhahbaaZE
namespace Go.Proofs.Ytddhiokpdhahbaa
open Go.RowKit

theorem btw_cases (a b : List UInt8) : btwOut a b = -1 ∨ ∃ x y : Tw, a = x.lst ∧ b = y.lst ∧ x.size = y.size ∧ x.size ≤ 6 := by
  by_cases h : valid a = true ∧ valid b = true ∧ a.length = b.length ∧ b.length ≤ 12
  · obtain ⟨h1, h2, h3, h4⟩ := h
    obtain ⟨x, rfl, _⟩ := valid_tree h1
    obtain ⟨y, rfl, _⟩ := valid_tree h2
    rw [Tw.lst_length] at h3 h4
    rw [Tw.lst_length] at h3
    exact .inr ⟨x, y, rfl, rfl, by omega, by omega⟩
  · exact .inl (by rw [btwOut, if_neg h])
theorem dist_back {x y : Tw} (hs : x.size = y.size) (h6 : x.size ≤ 6) : dist y x = dist x y := by
  obtain ⟨h1, h2⟩ := far_dist hs h6
  exact dist_far h1.back h2
theorem dist_sum {x y : Tw} (hs : x.size = y.size) (h6 : x.size ≤ 6) : dist x y ≤ (x.size - x.spine) + (y.size - y.spine) := by
  obtain ⟨k, hk, h⟩ := Tw.far_some hs
  obtain ⟨h1, h2⟩ := far_dist hs h6
  rw [h1.uniq h]
  exact hk
theorem dist_zero {x y : Tw} (hs : x.size = y.size) (h6 : x.size ≤ 6) : dist x y = 0 ↔ x = y := (far_dist hs h6).1.zero
theorem dist_one {x y : Tw} (hs : x.size = y.size) (h6 : x.size ≤ 6) : dist x y = 1 ↔ y.lst ∈ turnsOut x := by
  rw [(far_dist hs h6).1.one, mem_turnsOut]
  exact ⟨fun h => ⟨y, h, rfl⟩, fun ⟨u, hu, e⟩ => by rw [← Tw.lst_inj _ _ e]; exact hu⟩
def deepT : Nat → Tw
  | 0 => .e
  | k + 1 => .n (deepT k) .e
theorem deepT_size : ∀ k, (deepT k).size = k
  | 0 => rfl
  | k + 1 => by simp only [deepT, Tw.size, deepT_size k]
theorem deepT_lst : ∀ k, (deepT k).lst = timesL [40] k ++ timesL [41] k
  | 0 => rfl
  | k + 1 => by
    rw [times_cons [40], deepT, Tw.lst, deepT_lst k]
    simp [timesL, Tw.lst, List.append_assoc]

set_option maxHeartbeats 3200000 in
theorem between_walk (HF : Hid (∀ (s : ByteArray) (w : World), s.size ≤ maxLen → Calls Try.prog 19 #[.string s] w fun e w' => e = .returned (.int .i64 (flatTx s.data.toList)) ∧ Below w.heap.size w w'))
    (HB : Hid (∀ (s t : ByteArray) (w : World), s.size ≤ maxLen → t.size ≤ maxLen → Calls Try.prog 17 #[.string s, .string t] w fun e w' => e = .returned (.int .i64 (btwOut s.data.toList t.data.toList)) ∧ Below w.heap.size w w'))
    (HT : Hid (∀ (s : ByteArray) (w : World), s.size ≤ maxLen → Calls Try.prog 10 #[.string s] w (TextsOut (turnsTx s.data.toList) w)))
    (a : Option Addr) (len cap : Nat) (zs : List Int) (w : World) (hr0 : IsRow .u8 w a len cap zs) :
    Calls Try.prog 4 #[.slice a len cap] w fun e w' => e = .returned (.bool true) ∧ Below w.heap.size w w' := by
  have hr := Lib.hid hr0
  clear hr0
  by_cases hbig : (1048576 : Int) < (len : Int)
  · go_enter Try.func4, Try.ntmps4
    go_wp2
    go_ret
    exact ⟨rfl, Below.refl _ _⟩
  · go_enter Try.func4, Try.ntmps4
    go_wp2_with fail
    refine (drawTurnsBetween a len cap zs w hr (by omega)).mono ?_
    rintro e w1 ⟨s, t, hs60, ht60, rfl, hb⟩
    have hsm : s.size ≤ maxLen := by unfold maxLen; omega
    have htm : t.size ≤ maxLen := by unfold maxLen; omega
    have B1 := Lib.hid hb
    clear hb hr
    have c1 := fun w => HB.out s t w hsm htm
    have c2 := fun w => specBetween_any s t w hsm htm
    rcases btw_cases s.data.toList t.data.toList with e1 | ⟨x, y, hx, hy, hxy, h6⟩
    · rw [e1] at c1 c2
      have C1 := Lib.hid c1
      have C2 := Lib.hid c2
      clear c1 c2 e1
      go_wp2_with fail
      refine (C1.out _).mono ?_
      rintro e w2 ⟨rfl, hb⟩
      have B2 := Lib.hid (B1.out.trans (hb.mono B1.out.size))
      clear hb
      go_wp2_with fail
      refine (C2.out _).mono ?_
      rintro e w3 ⟨rfl, hb⟩
      have B3 := Lib.hid (B2.out.trans (hb.mono B2.out.size))
      clear hb
      go_wp2_with fail
      refine (C2.out _).mono ?_
      rintro e w4 ⟨rfl, hb⟩
      have B4 := Lib.hid (B3.out.trans (hb.mono B3.out.size))
      clear hb
      go_wp2
      go_ret
      exact ⟨rfl, B4.out⟩
    · have e1 : btwOut s.data.toList t.data.toList = (dist x y : Nat) := by rw [hx, hy, btw_in hxy h6]
      rw [e1] at c1 c2
      have c3 := fun w => HB.out t s w htm hsm
      rw [hx, hy, btw_in hxy.symm (by omega), dist_back hxy h6] at c3
      have c4 := fun w => HT.out s w hsm
      rw [hx, turnsTx_in (by omega)] at c4
      have c5 := fun w => HF.out s w hsm
      rw [hx, flatTx_in (by omega)] at c5
      have c6 := fun w => HF.out t w htm
      rw [hy, flatTx_in (by omega)] at c6
      have hz := dist_zero hxy h6
      have ho := dist_one hxy h6
      have hsum := dist_sum hxy h6
      have hlx := Tw.spine_le x
      have hly := Tw.spine_le y
      have hlo := turnsOut_length x
      obtain ⟨d, hd⟩ : ∃ d, d = dist x y := ⟨_, rfl⟩
      rw [← hd] at c1 c2 c3 hz ho hsum
      obtain ⟨p0, h0a, h0b⟩ : ∃ p0, ((d : Int) == 0) = p0 ∧ (s.toList == t.toList) = p0 := by
        refine ⟨_, rfl, ?_⟩
        rw [Bool.eq_iff_iff]
        rw [beq_iff_eq, beq_iff_eq, ByteArray.toList_eq, ByteArray.toList_eq, hx, hy]
        constructor
        · intro h
          have := hz.2 (Tw.lst_inj _ _ h)
          omega
        · intro h
          rw [hz.1 (by omega)]
      obtain ⟨p1, h1a, h1b⟩ : ∃ p1, ((d : Int) == 1) = p1 ∧ decide (t.data.toList ∈ turnsOut x) = p1 := by
        refine ⟨_, rfl, ?_⟩
        rw [Bool.eq_iff_iff]
        rw [decide_eq_true_eq, beq_iff_eq, hy, ← ho]
        omega
      obtain ⟨X, hX⟩ : ∃ X, X = x.size - x.spine := ⟨_, rfl⟩
      obtain ⟨Y, hY⟩ : ∃ Y, Y = y.size - y.spine := ⟨_, rfl⟩
      have eX : (x.size : Int) - x.spine = (X : Int) := by omega
      have eY : (y.size : Int) - y.spine = (Y : Int) := by omega
      rw [eX] at c5
      rw [eY] at c6
      have hX9 : X ≤ 9 := by omega
      have hY9 : Y ≤ 9 := by omega
      have q5 : (d : Int) ≤ (X : Int) + (Y : Int) := by omega
      obtain ⟨L, hL⟩ : ∃ L, L = turnsOut x := ⟨_, rfl⟩
      rw [← hL] at c4 h1b hlo
      have hL9 : L.length ≤ 68719476736 := by omega
      have C1 := Lib.hid c1
      have C2 := Lib.hid c2
      have C3 := Lib.hid c3
      have C4 := Lib.hid c4
      have C5 := Lib.hid c5
      have C6 := Lib.hid c6
      have P1 := Lib.hid h1b
      clear c1 c2 c3 c4 c5 c6 e1 hx hy hxy h6 hz ho hsum hlx hly hlo hd hX hY eX eY hL h1b
      go_wp2_with fail
      refine (C1.out _).mono ?_
      rintro e w2 ⟨rfl, hb⟩
      have B2 := Lib.hid (B1.out.trans (hb.mono B1.out.size))
      clear hb
      go_wp2_with fail
      refine (C2.out _).mono ?_
      rintro e w3 ⟨rfl, hb⟩
      have B3 := Lib.hid (B2.out.trans (hb.mono B2.out.size))
      clear hb
      go_wp2_with fail
      refine (C3.out _).mono ?_
      rintro e w4 ⟨rfl, hb⟩
      have B4 := Lib.hid (B3.out.trans (hb.mono B3.out.size))
      clear hb
      cases p0 <;> cases p1
      all_goals
        go_wp2_with fail
        refine (C4.out _).mono ?_
        rintro e w5 ⟨v, rfl, ho, hb⟩
        have B5 := Lib.hid (B4.out.trans (hb.mono B4.out.size))
        have HN := Lib.hid (inTexts_any L v t w5 ho hL9)
        rw [P1.out] at HN
        clear hb ho
        go_wp2_with fail
        refine HN.out.mono ?_
        rintro e w6 ⟨rfl, rfl⟩
        go_wp2_with fail
        refine (C5.out _).mono ?_
        rintro e w7 ⟨rfl, hb⟩
        have B7 := Lib.hid (B5.out.trans (hb.mono B5.out.size))
        clear hb
        go_wp2_with fail
        refine (C6.out _).mono ?_
        rintro e w8 ⟨rfl, hb⟩
        have B8 := Lib.hid (B7.out.trans (hb.mono B7.out.size))
        clear hb
        go_wp2
        go_ret
        exact ⟨rfl, B8.out⟩
end Go.Proofs.Ytddhiokpdhahbaa
