/-
  The walk of the law that a turn moves one cut, given the contracts of the program's functions.
-/
import Derived.Test.YtddhiokpdhahbaaKTurns
import Derived.Test.YtddhiokpdhahbaaZE
import Derived.Test.YtddhiokpdhahbaaCFamB
import Derived.Test.YtddhiokpdhahbaaZW
namespace Go.Proofs.Ytddhiokpdhahbaa
open Go.RowKit

theorem fan_in {t : Tw} (h : t.size ≤ 9) : fanOut t.lst = (t.tri 0).map row3 := by rw [fanOut, if_pos (tree_valid h), fans_tri h]
theorem fan_small (l : List UInt8) : (fanOut l).length ≤ 9 ∧ ∀ r ∈ fanOut l, r.length = 3 := by
  cases hv : valid l with
  | false => rw [fanOut, if_neg (by rw [hv]; decide)]; simp
  | true =>
    obtain ⟨t, rfl, h9⟩ := valid_tree hv
    rw [fan_in h9, List.length_map, Tw.tri_length]
    refine ⟨h9, fun r hr => ?_⟩
    obtain ⟨x, _, rfl⟩ := List.mem_map.1 hr
    rfl
theorem cut_facts (l z : List UInt8) (h : z ∈ turnsTx l) : sameR (fanOut l) (fanOut z) + 2 = (fanOut l).length ∧ z.length ≤ 18 := by
  cases hv : valid l with
  | false =>
    have e : turnsTx l = [] := by rw [turnsTx, if_neg (by rw [hv]; decide)]
    rw [e] at h
    simp at h
  | true =>
    obtain ⟨t, rfl, h9⟩ := valid_tree hv
    rw [turnsTx_in h9] at h
    obtain ⟨u, hu, rfl⟩ := (mem_turnsOut t _).1 h
    have hs := Tw.turns_size _ _ hu
    rw [fan_in h9, fan_in (by omega), List.length_map, Tw.tri_length]
    exact ⟨cut_once hu, by rw [Tw.lst_length]; omega⟩

set_option maxHeartbeats 1600000 in
set_option maxRecDepth 100000 in
theorem cutOnce_walk (HT : Hid (∀ (s : ByteArray) (w : World), s.size ≤ maxLen → Calls Try.prog 10 #[.string s] w (TextsOut (turnsTx s.data.toList) w)))
    (HG : Hid (∀ (s : ByteArray) (w : World), s.size ≤ maxLen → Calls Try.prog 27 #[.string s] w (RowsOut (fanOut s.data.toList) w)))
    (a : Option Addr) (len cap : Nat) (zs : List Int) (w : World) (hr0 : IsRow .u8 w a len cap zs) :
    Calls Try.prog 7 #[.slice a len cap] w fun e w' => e = .returned (.bool true) ∧ Below w.heap.size w w' := by
  have hr := Lib.hid hr0
  clear hr0
  by_cases hbig : (1048576 : Int) < (len : Int)
  · go_enter Try.func7, Try.ntmps7
    go_wp2
    go_ret
    exact ⟨rfl, Below.refl _ _⟩
  · go_enter Try.func7, Try.ntmps7
    go_wp2_with fail
    refine (drawTurnsOf a len cap zs w hr (by omega)).mono ?_
    rintro e w1 ⟨s, rfl, hs60, hb⟩
    have hsm : s.size ≤ maxLen := by unfold maxLen; omega
    have B1 := Lib.hid hb
    clear hb hr
    have c1 := fun w => HT.out s w hsm
    have c2 := fun w => specTurnsOf_any s w hsm
    have c3 := fun w => HG.out s w hsm
    have hlen := turnsTx_length s.data.toList
    obtain ⟨hA9, hA3⟩ := fan_small s.data.toList
    have hcf := cut_facts s.data.toList
    obtain ⟨L, hL⟩ : ∃ L, L = turnsTx s.data.toList := ⟨_, rfl⟩
    obtain ⟨A, hA⟩ : ∃ A, A = fanOut s.data.toList := ⟨_, rfl⟩
    rw [← hA] at c3 hA9 hA3
    rw [← hL] at c1 c2 hlen hcf
    rw [← hA] at hcf
    have C1 := Lib.hid c1
    have C2 := Lib.hid c2
    have C3 := Lib.hid c3
    have CF := Lib.hid hcf
    have A3 := Lib.hid hA3
    clear c1 c2 c3 hL hA hcf hA3
    go_wp2_with fail
    refine (C1.out _).mono ?_
    rintro e w2 ⟨v2, rfl, o2, hb⟩
    have B2 := Lib.hid (B1.out.trans (hb.mono B1.out.size))
    have O2 := Lib.hid o2
    clear hb o2
    go_wp2_with fail
    refine (C2.out _).mono ?_
    rintro e w3 ⟨v3, rfl, o3, hb⟩
    have O23 := Lib.hid (O2.out.below hb)
    have O3 := Lib.hid o3
    have B3 := Lib.hid (B2.out.trans (hb.mono B2.out.size))
    clear hb o3
    go_wp2_with fail
    refine (equalTexts_yes L _ _ _ O23 O3 (by omega)).mono ?_
    rintro e w5 ⟨rfl, hs⟩
    have B5 := Lib.hid (B3.out.trans (hs.below w.heap.size))
    clear hs O2 O23 O3
    go_wp2_with fail
    refine (C1.out _).mono ?_
    rintro e w6 ⟨v6, rfl, o6, hb⟩
    have B6 := Lib.hid (B5.out.trans (hb.mono B5.out.size))
    have O6 := Lib.hid o6
    clear hb o6 C1 C2
    go_wp2_with fail
    refine (C3.out _).mono ?_
    rintro e w7 ⟨v7, RA, rfl, g7, hb⟩
    have B7 := Lib.hid (B6.out.trans (hb.mono B6.out.size))
    have O7 := Lib.hid ((O6.out.below hb).more hb.size)
    have G7 := Lib.hid g7
    clear hb g7 O6 C3
    obtain ⟨ao, c, rfl, _, hcl, _, _⟩ := O7.out.slice
    rw [sv_length] at O7 hcl ⊢
    obtain ⟨aa, ca, rfl, _⟩ := G7.out.1.slice
    have la := G7.out.2.1
    rw [la] at G7 ⊢
    have LA := Lib.hid la
    clear la
    have K0 : Hid (Below w7.heap.size w7 w7) := Below.refl _ _
    go_wp2
    go_loopw [6] (fun y wr => ∃ j : Nat, j ≤ L.length ∧ y = .int .i64 j ∧ Hid (Below w7.heap.size w7 wr)) (fun y _ => L.length - (intOf y).toNat)
    case atStart => exact ⟨0, Nat.zero_le _, rfl, K0⟩
    case round =>
      clear K0
      obtain ⟨j, hj, rfl, K⟩ := hrel
      by_cases hlt : j < L.length
      · obtain ⟨g1, rfl, _, _, hc, _⟩ := (O7.out.below K.out).at_ j (by rw [sv_length]; exact hlt)
        rw [sv_get L j hlt] at hc
        have b1 : (j : Int) < (L.length : Int) := by omega
        obtain ⟨f1, f2⟩ := CF.out L[j] (List.getElem_mem hlt)
        obtain ⟨x, hx⟩ : ∃ x : ByteArray, x = ⟨L[j].toArray⟩ := ⟨_, rfl⟩
        have hxl : x.data.toList = L[j] := by rw [hx]
        have hxs : x.size ≤ maxLen := by rw [← size_list, hxl]; unfold maxLen; omega
        have c1 := fun w => HG.out x w hxs
        rw [hxl] at c1
        obtain ⟨hD9, hD3⟩ := fan_small L[j]
        obtain ⟨D, hD⟩ : ∃ D, D = fanOut L[j] := ⟨_, rfl⟩
        rw [← hD] at c1 f1 hD9 hD3
        rw [← hx] at hc
        have C1 := Lib.hid c1
        have F1 := Lib.hid f1
        have D3 := Lib.hid hD3
        clear c1 f1 f2 hx hxl hxs hD hD3
        go_wp2_with fail
        refine (C1.out _).mono ?_
        rintro e w8 ⟨v8, RD, rfl, g8, hb⟩
        have K8 := Lib.hid (K.out.trans (hb.mono K.out.size))
        have G8 := Lib.hid g8
        have GA := Lib.hid (G7.out.below K8.out)
        clear hb g8 K hc C1
        obtain ⟨ad, cd, rfl, _⟩ := G8.out.1.slice
        have ld := G8.out.2.1
        rw [ld] at G8 ⊢
        have LD := Lib.hid ld
        clear ld
        have W0 : Hid (∃ q, w8 = w8.drewN q) := ⟨0, rfl⟩
        go_wp2
        go_loopw [8, 9] (fun m y wr => ∃ k n : Nat, k ≤ A.length ∧ n ≤ 9 * k ∧ m = .int .i64 n ∧ y = .int .i64 k ∧ Hid (n = sameR (A.take k) D) ∧ Hid (∃ q, wr = w8.drewN q)) (fun _ y _ => A.length - (intOf y).toNat)
        case atStart => exact ⟨0, 0, Nat.zero_le _, Nat.le_refl _, rfl, rfl, rfl, W0⟩
        case round =>
          clear W0
          obtain ⟨k, n, hk, hn, rfl, rfl, HN, HW⟩ := hrel
          by_cases hlk : k < A.length
          · have b2 : (k : Int) < (A.length : Int) := by omega
            have SS := sameR_step A D k hlk
            have hr3 := A3.out _ (List.getElem_mem hlk)
            obtain ⟨r, hr⟩ : ∃ r, r = A[k] := ⟨_, rfl⟩
            have HR0 : Hid (∃ rv, RA[k]? = some rv ∧ Own w8 w6.heap.size w7.heap.size 3 rv (iv r)) := by
              obtain ⟨rv, h1, h2⟩ := GA.out.2.at_ k hlk
              exact ⟨rv, h1, by rw [hr]; exact h2⟩
            rw [← hr, ← HN.out] at SS
            rw [← hr] at hr3
            have SS := Lib.hid SS
            have R3 := Lib.hid hr3
            have W1 : Hid (n + 0 = n + rowIn r (D.take 0)) := rfl
            clear hr hr3 HN
            go_wp2
            go_loopw [8, 10] (fun m y wr => ∃ q p : Nat, q ≤ D.length ∧ p ≤ q ∧ m = .int .i64 (n + p : Nat) ∧ y = .int .i64 q ∧ Hid (n + p = n + rowIn r (D.take q)) ∧ Hid (∃ z, wr = w8.drewN z)) (fun _ y _ => D.length - (intOf y).toNat)
            case atStart => exact ⟨0, 0, Nat.zero_le _, Nat.le_refl _, rfl, rfl, W1, HW⟩
            case round =>
              clear W1 HW
              obtain ⟨q, p, hq, hp, rfl, rfl, HP, HW⟩ := hrel
              by_cases hlq : q < D.length
              · have b3 : (q : Int) < (D.length : Int) := by omega
                have hheap : wr.heap = w8.heap := by obtain ⟨z, hz⟩ := HW.out; rw [hz]; rfl
                have HH := Lib.hid hheap
                clear hheap
                obtain ⟨rv, hrv, orv⟩ := HR0.out
                obtain ⟨g2, rfl, _, _, h2, _⟩ := (GA.out.1.same HH.out).at_ k (by rw [LA.out]; exact hlk)
                rw [hrv] at h2
                obtain ⟨g3, rfl, _, _, h3, _⟩ := (G8.out.1.same HH.out).at_ q (by rw [LD.out]; exact hlq)
                obtain ⟨dv, hdv, odv⟩ := G8.out.2.at_ q hlq
                rw [hdv] at h3
                have hd3 := D3.out _ (List.getElem_mem hlq)
                have RS := rowIn_step r D q hlq
                obtain ⟨y, hy⟩ : ∃ y, y = D[q] := ⟨_, rfl⟩
                rw [← hy] at odv hd3 RS
                have c1 : ∀ z, Calls Try.prog 28 #[rv, dv] (wr.drewN z) fun e w' => e = .returned (.bool (decide (r = y))) ∧ ∃ m, w' = (wr.drewN z).drewN m := fun z =>
                  equalInts_dec r y _ _ _ (Lib.hid ((orv.same HH.out).same (w' := wr.drewN z) rfl)) (Lib.hid ((odv.same HH.out).same (w' := wr.drewN z) rfl)) (by rw [R3.out]; omega) (by rw [R3.out, hd3])
                obtain ⟨ar, cr, rfl, _⟩ := orv.slice
                obtain ⟨ay, cy, rfl, _⟩ := odv.slice
                by_cases he : r = y
                · rw [decide_eq_true he] at c1
                  rw [if_pos he] at RS
                  have C1 := Lib.hid c1
                  have HP2 : Hid (n + (p + 1) = n + rowIn r (D.take (q + 1))) := by show _ = _; rw [RS]; have := HP.out; omega
                  clear c1 RS he hy hrv orv hdv odv hd3 HP
                  go_wp2
                  go_quiet ((go_at_call 28; exact Calls.quiet_of (C1.out _)))
                  go_wp2
                  go_roundw
                  case rel => exact ⟨q + 1, p + 1, by omega, by omega, by go_num, by go_num, HP2, by obtain ⟨z, hz⟩ := HW.out; exact ⟨z + nq, by rw [hz, World.drewN_drewN]⟩⟩
                  case measure => simp [intOf]; omega
                · rw [decide_eq_false he] at c1
                  rw [if_neg he] at RS
                  have C1 := Lib.hid c1
                  have HP2 : Hid (n + p = n + rowIn r (D.take (q + 1))) := by show _ = _; rw [RS]; have := HP.out; omega
                  clear c1 RS he hy hrv orv hdv odv hd3 HP
                  go_wp2
                  go_quiet ((go_at_call 28; exact Calls.quiet_of (C1.out _)))
                  go_wp2
                  go_roundw
                  case rel => exact ⟨q + 1, p, by omega, by omega, rfl, by go_num, HP2, by obtain ⟨z, hz⟩ := HW.out; exact ⟨z + nq, by rw [hz, World.drewN_drewN]⟩⟩
                  case measure => simp [intOf]; omega
              · obtain rfl : q = D.length := by omega
                have HP2 : Hid (n + p = sameR (A.take (k + 1)) D) := by
                  have h1 := HP.out
                  rw [List.take_of_length_le (Nat.le_refl _)] at h1
                  show _ = _
                  rw [h1, ← SS.out]
                clear HP
                go_wp2
                go_roundw
                case rel => exact ⟨k + 1, n + p, by omega, by omega, by go_num, by go_num, HP2, HW⟩
                case measure => simp [intOf]; omega
          · obtain rfl : k = A.length := by omega
            have hfin : (n : Int) = (A.length : Int) - 2 := by
              have h1 := HN.out
              rw [List.take_of_length_le (Nat.le_refl _)] at h1
              have h2 := F1.out
              omega
            have q9 : ((n : Int) == (A.length : Int) - 2) = true := by rw [hfin]; simp
            have KE : Hid (Below w7.heap.size w7 wr) := by
              obtain ⟨z, hz⟩ := HW.out
              rw [hz]
              exact below_drewN K8.out z
            clear hfin HN HW
            go_wp2
            go_roundw
            case rel => exact ⟨j + 1, by omega, by go_num, KE⟩
            case measure => simp [intOf]; omega
      · obtain rfl : j = L.length := by omega
        have BE := Lib.hid (B7.out.trans (K.out.mono B7.out.size))
        clear O7 K
        go_wp2
        go_ret
        exact ⟨rfl, BE.out⟩
end Go.Proofs.Ytddhiokpdhahbaa
