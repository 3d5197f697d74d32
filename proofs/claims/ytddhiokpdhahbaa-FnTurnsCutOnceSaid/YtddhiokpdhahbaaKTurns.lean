/-
  The walk of the law that each node but one turns, given the contracts of the program's functions.
-/
import Derived.Test.YtddhiokpdhahbaaKBtw
namespace Go.Proofs.Ytddhiokpdhahbaa
open Go.RowKit

theorem asc_ascB : ∀ (L : List (List UInt8)), Asc L → ascB L = true
  | [], _ => rfl
  | [_], _ => rfl
  | x :: y :: r, h => by
    have h1 := List.pairwise_cons.1 h
    rw [ascB, h1.1 y (by simp), asc_ascB (y :: r) h1.2]
    rfl

set_option maxHeartbeats 800000 in
theorem turnsOf_walk (HT : Hid (∀ (s : ByteArray) (w : World), s.size ≤ maxLen → Calls Try.prog 10 #[.string s] w (TextsOut (turnsTx s.data.toList) w)))
    (a : Option Addr) (len cap : Nat) (zs : List Int) (w : World) (hr0 : IsRow .u8 w a len cap zs) :
    Calls Try.prog 3 #[.slice a len cap] w fun e w' => e = .returned (.bool true) ∧ Below w.heap.size w w' := by
  have hr := Lib.hid hr0
  clear hr0
  by_cases hbig : (1048576 : Int) < (len : Int)
  · go_enter Try.func3, Try.ntmps3
    go_wp2
    go_ret
    exact ⟨rfl, Below.refl _ _⟩
  · go_enter Try.func3, Try.ntmps3
    go_wp2_with fail
    refine (drawTurnsOf a len cap zs w hr (by omega)).mono ?_
    rintro e w1 ⟨s, rfl, hs60, hb⟩
    have hsm : s.size ≤ maxLen := by unfold maxLen; omega
    have B1 := Lib.hid hb
    clear hb hr
    have c1 := fun w => HT.out s w hsm
    have c2 := fun w => specTurnsOf_any s w hsm
    have hlen := turnsTx_length s.data.toList
    obtain ⟨L, hL⟩ : ∃ L, L = turnsTx s.data.toList := ⟨_, rfl⟩
    rw [← hL] at c1 c2 hlen
    have C1 := Lib.hid c1
    have C2 := Lib.hid c2
    have HL := Lib.hid hL
    clear c1 c2 hL
    go_wp2_with fail
    refine (C1.out _).mono ?_
    rintro e w2 ⟨v2, rfl, o2, hb⟩
    have B2 := Lib.hid (B1.out.trans (hb.mono B1.out.size))
    have O2 := Lib.hid o2
    clear hb o2
    go_wp2_with fail
    refine (C2.out _).mono ?_
    rintro e w3 ⟨v3, rfl, o3, hb⟩
    have z23 := hb.size
    have O23 := Lib.hid (O2.out.below hb)
    have O3 := Lib.hid o3
    have B3 := Lib.hid (B2.out.trans (hb.mono B2.out.size))
    clear hb o3
    go_wp2_with fail
    refine (equalTexts_yes L _ _ _ O23 O3 (by omega)).mono ?_
    rintro e w5 ⟨rfl, hs⟩
    have B5 := Lib.hid (B3.out.trans (hs.below w.heap.size))
    have O5 := Lib.hid (O23.out.same hs.1)
    have hOs : w2.heap.size ≤ w5.heap.size := by rw [hs.1]; exact z23
    clear hs O2 O23 O3
    rcases Nat.eq_zero_or_pos s.size with h0 | h0
    · have q0 : ((s.size : Int) == 0) = true := by rw [h0]; rfl
      go_wp2_with fail
      refine (C2.out _).mono ?_
      rintro e w6 ⟨v6, rfl, o6, hb⟩
      have O6 := Lib.hid o6
      have O56 := Lib.hid (O5.out.below (hb.mono hOs))
      have B6 := Lib.hid (B5.out.trans (hb.mono B5.out.size))
      clear hb o6
      go_wp2_with fail
      refine (equalTexts_yes L _ _ _ O56 O6 (by omega)).mono ?_
      rintro e w7 ⟨rfl, hs⟩
      have B7 := Lib.hid (B6.out.trans (hs.below w.heap.size))
      clear hs
      go_wp2
      go_ret
      exact ⟨rfl, B7.out⟩
    · have q0 : ((s.size : Int) == 0) = false := beq_false_of_ne (by omega)
      cases hv : valid s.data.toList with
      | false =>
        have HV := Lib.hid hv
        clear hv
        go_wp2_with fail
        refine (implValid_is false _ _ hsm HV).mono ?_
        rintro e w8 ⟨rfl, hb⟩
        have O8 := Lib.hid (O5.out.below (hb.mono hOs))
        have B8 := Lib.hid (B5.out.trans (hb.mono B5.out.size))
        have hOs8 := Nat.le_trans hOs hb.size
        clear hb
        go_wp2_with fail
        refine (C2.out _).mono ?_
        rintro e w6 ⟨v6, rfl, o6, hb⟩
        have O6 := Lib.hid o6
        have O56 := Lib.hid (O8.out.below (hb.mono hOs8))
        have B6 := Lib.hid (B8.out.trans (hb.mono B8.out.size))
        clear hb o6
        go_wp2_with fail
        refine (equalTexts_yes L _ _ _ O56 O6 (by omega)).mono ?_
        rintro e w7 ⟨rfl, hs⟩
        have B7 := Lib.hid (B6.out.trans (hs.below w.heap.size))
        clear hs
        go_wp2
        go_ret
        exact ⟨rfl, B7.out⟩
      | true =>
        obtain ⟨t, ht, h9⟩ := valid_tree hv
        have hl := Tw.lst_length t
        rw [← ht, size_list] at hl
        have e1 : L = turnsOut t := by rw [HL.out, ht, turnsTx_in h9]
        have hll : L.length = t.size - 1 := by rw [e1, turnsOut_length]
        have hasc : ascB L = true := by rw [e1]; exact asc_ascB _ (asc_sortW _)
        have hin : ∀ (j : Nat) (h : j < L.length), ∃ u : Tw, u.lst = L[j] ∧ u.size ≤ 9 ∧ t.lst ∈ turnsOut u := fun j h => by
          have hm : L[j] ∈ turnsOut t := by rw [← e1]; exact List.getElem_mem h
          obtain ⟨u, hu, e⟩ := (mem_turnsOut t _).1 hm
          exact ⟨u, e, by rw [Tw.turns_size _ _ hu]; exact h9, (mem_turnsOut u _).2 ⟨t, Tw.turns_back _ _ hu, rfl⟩⟩
        have IN := Lib.hid hin
        have HA := Lib.hid hasc
        have HV := Lib.hid hv
        have HS := Lib.hid ht
        obtain ⟨M, hM⟩ : ∃ M, M = t.size := ⟨_, rfl⟩
        have hM1 : 0 < M := by omega
        have HLM := Lib.hid (show (L.length : Int) = (M : Int) - 1 by omega)
        have q2 : (s.size : Int) / 2 = (M : Int) := by omega
        have q3 : Int.tdiv (s.size : Int) 2 = (M : Int) := by rw [Int.tdiv_eq_ediv_of_nonneg (by omega)]; omega
        clear hv e1 hasc hin hl hM h9 HL C1 C2 hll
        go_wp2_with fail
        refine (implValid_is true _ _ hsm HV).mono ?_
        rintro e w8 ⟨rfl, hb⟩
        have O8 := Lib.hid (O5.out.below (hb.mono hOs))
        have B8 := Lib.hid (B5.out.trans (hb.mono B5.out.size))
        have hOs8 := Nat.le_trans hOs hb.size
        clear hb O5
        obtain ⟨ao, c, rfl, _, hcl, _, _⟩ := O8.out.slice
        rw [sv_length] at O8 hcl ⊢
        have K0 : Hid (Below w8.heap.size w8 w8) := Below.refl _ _
        go_wp2
        go_loopw [5] (fun y wr => ∃ j : Nat, j ≤ L.length ∧ y = .int .i64 j ∧ Hid (Below w8.heap.size w8 wr)) (fun y _ => L.length - (intOf y).toNat)
        case atStart => exact ⟨0, Nat.zero_le _, rfl, K0⟩
        case round =>
          clear K0
          obtain ⟨j, hj, rfl, K⟩ := hrel
          by_cases hlt : j < L.length
          · obtain ⟨g1, rfl, _, _, hc, _⟩ := (O8.out.below (K.out.mono hOs8)).at_ j (by rw [sv_length]; exact hlt)
            rw [sv_get L j hlt] at hc
            have b1 : (j : Int) < (L.length : Int) := by omega
            obtain ⟨u, hu, hu9, hm⟩ := IN.out j hlt
            obtain ⟨x, hx⟩ : ∃ x : ByteArray, x = ⟨L[j].toArray⟩ := ⟨_, rfl⟩
            have hxl : x.data.toList = u.lst := by rw [hx, hu]
            have hxs : x.size ≤ maxLen := by
              have := Tw.lst_length u
              rw [← hxl, size_list] at this
              unfold maxLen; omega
            rw [← hx] at hc
            have c1 := fun w => HT.out x w hxs
            rw [hxl, turnsTx_in hu9] at c1
            have hln : (turnsOut u).length ≤ 68719476736 := by rw [turnsOut_length]; omega
            have hdec : decide (s.data.toList ∈ turnsOut u) = true := by rw [HS.out]; exact decide_eq_true hm
            obtain ⟨U, hU⟩ : ∃ U, U = turnsOut u := ⟨_, rfl⟩
            rw [← hU] at c1 hln hdec
            have C1 := Lib.hid c1
            have HD := Lib.hid hdec
            clear c1 hdec hm hU hx hxl hxs hu hu9
            go_wp2_with fail
            refine (C1.out _).mono ?_
            rintro e w9 ⟨v9, rfl, o9, hb⟩
            have K9 := Lib.hid (K.out.trans (hb.mono K.out.size))
            have HN := Lib.hid (inTexts_any U v9 s w9 o9 hln)
            rw [HD.out] at HN
            clear hb o9 K hc C1
            go_wp2_with fail
            refine HN.out.mono ?_
            rintro e w10 ⟨rfl, rfl⟩
            go_wp2
            go_roundw
            case rel => exact ⟨j + 1, by omega, by go_num, K9⟩
            case measure => simp [intOf]; omega
          · obtain rfl : j = L.length := by omega
            have OE := Lib.hid (O8.out.below (K.out.mono hOs8))
            have BE := Lib.hid (B8.out.trans (K.out.mono B8.out.size))
            have q9 : ((L.length : Int) == (M : Int) - 1) = true := by rw [HLM.out]; simp
            clear O8 K IN
            go_wp2_with fail
            refine (ascend_yes L _ _ OE (by omega) HA.out).mono ?_
            rintro e w11 ⟨rfl, hs⟩
            have BF := Lib.hid (BE.out.trans (hs.below w.heap.size))
            clear hs
            go_wp2
            go_ret
            exact ⟨rfl, BF.out⟩
end Go.Proofs.Ytddhiokpdhahbaa
