/-
  The contract of the model's ParkTried.
-/
import Derived.Test.YtchfnbcpjiiphaaCSpecP
import Derived.Test.YtchfnbcpjiiphaaZW
namespace Go.Proofs.Ytchfnbcpjiiphaa
open Go.RowKit

set_option maxHeartbeats 6400000 in
set_option maxRecDepth 100000 in
theorem specParkTried_any (z : Int) (w : World) :
    Calls Try.prog 28 #[.int .i64 z] w fun e w' => e = .returned (.int .i64 (triedN z)) ∧ Below w.heap.size w w' := by
  by_cases hz : 0 ≤ z ∧ z ≤ 4
  · obtain ⟨n, rfl⟩ : ∃ n : Nat, z = (n : Int) := ⟨z.toNat, by omega⟩
    have hn : n ≤ 4 := by omega
    have hd := Lib.hid (show triedN (n : Int) = ((cntW n ((n + 1) ^ n) : Nat) : Int) by rw [triedN, if_pos hz, (try_few hn).2, Int.toNat_natCast])
    obtain ⟨i0, hi, hz0, hz1, hz2⟩ := info_parts Try.infoIntQ
    obtain ⟨M, hM⟩ : ∃ M, M = n + 1 := ⟨_, rfl⟩
    have hM5 : M ≤ 5 := by omega
    have hM1 : 1 ≤ M := by omega
    have hw1 : IntKind.i64.wrap ((n : Int) + 1) = (M : Int) := by rw [IntKind.wrap_i64]; omega
    have CW := Lib.hid (fun (i : Nat) (W : World) (hi : i ≤ 8) => power9_any M i W (by omega) hi)
    have CP := Lib.hid (fun (m : Nat) (y : Value) (W : World) (B H : Nat) (hy : Hid (Own W B H 3 y (iv (digL n m n)))) (hH : H ≤ W.heap.size) => parkM_any (digL n m n) (Lib.hid (digL_wish n m (by omega))) y W hy hH (by rw [digL_length]; omega))
    have CH := Lib.hid (fun (m : Nat) (y : Value) (W : World) (B H : Nat) (hy : Hid (Own W B H 3 y (iv (placesB (digL n m n))))) => hasInt_any (placesB (digL n m n)) y (-1) W hy (by rw [placesB_length, digL_length]; omega))
    have HPB := Lib.hid (fun m => show oneIf n m = if decide ((-1 : Int) ∈ placesB (digL n m n)) = true then 0 else 1 by
      rw [oneIf, parkB, digL_wish n m (by omega), Bool.true_and, show decide ((-1 : Int) ∈ placesB (digL n m n)) = (placesB (digL n m n)).contains (-1) from by rw [Bool.eq_iff_iff, decide_eq_true_eq, List.contains_iff_mem]]
      cases (placesB (digL n m n)).contains (-1) <;> rfl)
    have HDG := Lib.hid (fun m i => show digL n m (i + 1) = digL n m i ++ [((m / M ^ i % M : Nat) : Int)] by rw [hM]; exact digL_step n m i)
    have h625 := pow5_le hn
    obtain ⟨P0, hP0⟩ : ∃ P0, P0 = (n + 1) ^ n := ⟨_, rfl⟩
    have CW0 := Lib.hid (fun W => show Calls Try.prog 48 #[.int .i64 (M : Int), .int .i64 (n : Int)] W fun e w' => e = .returned (.int .i64 (P0 : Int)) ∧ W = w' by rw [hP0, ← hM]; exact CW.out n W (by omega))
    rw [← hP0] at h625 hd
    have HMn := Lib.hid hM
    have HZ := Lib.hid hz
    clear hz hP0 hM
    have CR := Lib.hid (inRange_yes (n : Int) 0 4 w (by omega) (by omega))
    go_enter Try.func28, Try.ntmps28
    go_wp2_with fail
    refine CR.out.mono ?_
    rintro e w' ⟨rfl, rfl⟩
    go_wp2
    obtain ⟨G, hG⟩ : ∃ G, G = w.heap.size := ⟨_, rfl⟩
    have HG := Lib.hid hG
    have HZ0 : Hid (G ≤ w.heap.size) := by show _ ≤ _; omega
    clear hG
    go_loopw [3, 4] (fun o c wr => ∃ m : Nat, m ≤ P0 ∧ c = .int .i64 m ∧ o = .int .i64 (cntW n m : Nat) ∧ Hid (Below G w wr) ∧ Hid (G ≤ wr.heap.size)) (fun _ c _ => P0 - (intOf c).toNat)
    case atStart => exact ⟨0, Nat.zero_le _, rfl, rfl, Below.refl _ _, HZ0⟩
    case round =>
      obtain ⟨m, hm, rfl, rfl, HB, HZZ⟩ := hrel
      have hcn := cntW_le n m
      have CW1 := Lib.hid (CW0.out wr)
      go_wp2_with fail
      refine CW1.out.mono ?_
      rintro e w' ⟨rfl, rfl⟩
      clear CW1
      by_cases hlt : m < P0
      · have b1 : (m : Int) < (P0 : Int) := by omega
        have hst : (wr.alloc (.cells #[] 3)).ownsRow G 3 1 (.slice (some ⟨wr.heap.size, 0, none⟩) 0 0) 0 (iv (digL n m 0)) := World.ownsRow_lit (base := G) (e := 3) (size := 1) wr #[] 0 HZZ.out (by decide) rfl
        have HST := Lib.hid hst
        have HB0 := Lib.hid (HB.out.alloc HZZ.out (.cells #[] 3))
        clear hst HB
        go_wp2
        go_loopw [5, 6] (fun s i wi => ∃ j : Nat, j ≤ n ∧ i = .int .i64 j ∧ s ≠ .slice none 0 0 ∧ Hid (wi.ownsRow G 3 1 s j (iv (digL n m j))) ∧ Hid (Below G w wi)) (fun _ i _ => n - (intOf i).toNat)
        case atStart => exact ⟨0, Nat.zero_le _, rfl, by simp, HST, HB0⟩
        case round =>
          clear HST HB0 HZZ
          obtain ⟨j, hj, rfl, hnil, HO, HB⟩ := hrel
          obtain ⟨g, cp, rfl⟩ := own_someQ HO.out hnil
          have hsz : G ≤ wr.heap.size := by have := (HO.out.lt g rfl).1; have := (HO.out.lt g rfl).2; omega
          by_cases hjlt : j < n
          · have b2 : (j : Int) < (n : Int) := by omega
            have CW1 := Lib.hid (CW.out j wr (by omega))
            have HSN := Lib.hid (HDG.out m j)
            have hpp : 1 ≤ M ^ j := Nat.one_le_pow _ _ hM1
            obtain ⟨p, hp⟩ : ∃ p, p = M ^ j := ⟨_, rfl⟩
            rw [← hp] at CW1 HSN hpp
            clear hp
            obtain ⟨d, hdd⟩ : ∃ d, d = m / p := ⟨_, rfl⟩
            have hdm : d ≤ m := by rw [hdd]; exact Nat.div_le_self m p
            have q0 : ((m : Int)).tdiv (p : Int) = (d : Int) := by rw [hdd]; exact (Int.ofNat_tdiv m p).symm
            have q0' : IntKind.i64.wrap (d : Int) = (d : Int) := by rw [IntKind.wrap_i64]; omega
            rw [← hdd] at HSN
            obtain ⟨z, hzz⟩ : ∃ z, z = d % M := ⟨_, rfl⟩
            have hzn : z ≤ d := by rw [hzz]; exact Nat.mod_le d M
            have q1 : ((d : Int)).tmod (M : Int) = (z : Int) := by rw [hzz]; exact (Int.ofNat_tmod d M).symm
            rw [← hzz] at HSN
            have hne : ¬ ((M : Int) = 0) := by omega
            have hne2 : ¬ ((p : Int) = 0) := by omega
            have HZ2 := Lib.hid (show ∀ o : Obj, G ≤ (wr.alloc o).heap.size by intro o; rw [World.size_alloc]; omega)
            clear hzz hdd
            go_wp2_with fail
            refine CW1.out.mono ?_
            rintro e w' ⟨rfl, rfl⟩
            go_wp2_with (at_builtin; refine wpList_append_own _ rfl _ _ 23 rfl G 3 i0 (.int .i64 0) 1 8 Try.underlying23 hi hz0 hz1 hz2 rfl (by decide) _ j (iv (digL n m j)) rfl (HO.out.alloc _) ⟨wr.heap.size, 0, none⟩ 1 1 [.int .i64 (z : Int)] rfl rfl (cell_one_new _ _ _) (by intro u hu; simp at hu; subst hu; rfl) (by unfold maxLen; omega) (by omega) (HZ2.out _) ?_)
            intro v' w7 hown7 hg7 hn7
            rw [iv_snoc, ← HSN.out] at hown7
            have HO7 := Lib.hid hown7
            have HB7 : Hid (Below G w w7) := HB.out.trans (((Below.refl _ _).alloc hsz _).grown hg7 (by simp; omega) (fun r hr => (HO.out.lt r hr).1))
            clear HO HB hown7 hg7 HZ2
            go_wp2
            go_roundw
            case rel => exact ⟨j + 1, by omega, by go_num, hn7, HO7, HB7⟩
            case measure => simp [intOf]; omega
          · have HJ := Lib.hid (show j = n by omega)
            have b2 : ¬ (j : Int) < (n : Int) := by omega
            have hsl : (iv (digL n m n)).length = j := by rw [iv_length, digL_length, HJ.out]
            have OS : Hid (Own wr G wr.heap.size 3 (.slice (some ⟨g, 0, none⟩) j cp) (iv (digL n m n))) := by
              have h := HO.out
              rw [show digL n m j = digL n m n by rw [HJ.out]] at h
              exact ⟨by rw [hsl]; exact h, fun g hg => (h.lt g hg).2⟩
            have CP1 := Lib.hid (CP.out m _ wr _ _ OS (Nat.le_refl _))
            clear HO hsl
            go_wp2_with fail
            refine CP1.out.mono ?_
            rintro e w8 ⟨y, rfl, hy, hb8⟩
            have HY := Lib.hid hy
            have HB8 := Lib.hid (HB.out.trans (hb8.mono hsz))
            have HZ8 : Hid (G ≤ w8.heap.size) := Nat.le_trans hsz hb8.size
            clear hy hb8 HB CP1
            have CH1 := Lib.hid (CH.out m y w8 _ _ HY)
            have hpk := HPB.out m
            have hcs : cntW n (m + 1) = cntW n m + oneIf n m := rfl
            obtain ⟨t, ht⟩ : ∃ t, t = decide ((-1 : Int) ∈ placesB (digL n m n)) := ⟨_, rfl⟩
            rw [← ht] at CH1 hpk
            rw [hpk] at hcs
            obtain ⟨C0, hC0⟩ : ∃ C0, C0 = cntW n m := ⟨_, rfl⟩
            rw [← hC0] at hcs hcn ⊢
            have HCS := Lib.hid hcs
            clear hpk ht hC0 hcs
            go_wp2_with fail
            refine CH1.out.mono ?_
            rintro e w9 ⟨rfl, rfl⟩
            cases t with
            | false =>
              go_wp2
              go_roundw
              case rel => exact ⟨m + 1, by omega, by go_num, by rw [HCS.out]; go_num, HB8, HZ8⟩
              case measure => simp [intOf]; omega
            | true =>
              go_wp2
              go_roundw
              case rel => exact ⟨m + 1, by omega, by go_num, by rw [HCS.out]; rfl, HB8, HZ8⟩
              case measure => simp [intOf]; omega
      · have b1 : ¬ (m : Int) < (P0 : Int) := by omega
        have HE := Lib.hid (show m = P0 by omega)
        go_wp2
        go_ret
        exact ⟨by rw [hd.out, ← HE.out]; rfl, by rw [← HG.out]; exact HB.out⟩
  · have hd := Lib.hid (show triedN z = -1 by rw [triedN, if_neg hz])
    have CR := Lib.hid (inRange_no z 0 4 w (by omega))
    clear hz
    go_enter Try.func28, Try.ntmps28
    go_wp2_with fail
    refine CR.out.mono ?_
    rintro e w' ⟨rfl, rfl⟩
    go_wp2
    go_ret
    exact ⟨by rw [hd.out]; rfl, Below.refl _ _⟩
end Go.Proofs.Ytchfnbcpjiiphaa
