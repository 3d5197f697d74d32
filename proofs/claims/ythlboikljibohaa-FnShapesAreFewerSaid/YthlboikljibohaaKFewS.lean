/-
  The walk of the law that shapes have few trees.
-/
import Derived.Test.YthlboikljibohaaKFact
import Derived.Test.YthlboikljibohaaZQ
import Derived.Test.YthlboikljibohaaKShp
import Derived.Test.YthlboikljibohaaCCodeL
import Derived.Test.YthlboikljibohaaZU
import Derived.Test.YthlboikljibohaaWCodeF
import Derived.Test.YthlboikljibohaaCFreeM
import Derived.Test.YthlboikljibohaaZG
import Derived.Test.YthlboikljibohaaZK
import Derived.Test.YthlboikljibohaaCTreeQ
import Derived.Test.YthlboikljibohaaZPW
namespace Go.Proofs.Ythlboikljibohaa
open Go.RowKit

theorem few_facts {n : Int} {rows : List (List Int)} (h : freeOut n rows ≠ []) (h5 : n ≤ 5) : ∃ (N m : Nat) (T : List (List UInt8)), n = (N : Int) ∧ 1 ≤ N ∧ N ≤ 5 ∧ mapsOut n rows = (m : Int) ∧ m ≤ 5040 ∧ T.count (freeOut n rows) * m = fct N ∧ treesN n = (T.length : Int) ∧ T.length ≤ 125 ∧ ∀ (w : Nat) (hw : w < T.length), T[w] = freeOut n (treeOut n (intsB (codeD N w))) := by
  have ht : treeB n rows = true := by
    cases hb : treeB n rows with
    | true => rfl
    | false => exact absurd (by unfold freeOut; rw [hb]; rfl) h
  obtain ⟨hn, _, hv⟩ := treeB_iff.1 ht
  obtain ⟨k, rfl⟩ : ∃ k : Nat, n = (k : Int) := ⟨n.toNat, by omega⟩
  rw [Int.toNat_natCast] at hv
  have hk1 : 1 ≤ k := by omega
  have hk5 : k ≤ 5 := by omega
  have hp := maps_pos hv (by omega)
  refine ⟨k, mapsN k (edgesR rows), shapesT k, rfl, hk1, hk5, ?_, hp.2, ?_, ?_, ?_, fun w hw => shapesT_at hk1 (by omega) hw⟩
  · unfold mapsOut; rw [if_pos ht, Int.toNat_natCast, IntKind.wrap_i64]; omega
  · unfold freeOut; rw [if_pos ht, Int.toNat_natCast]
    exact few_shapes hv hk1 hk5
  · rw [treesN, if_pos hn, shapesT_len, Int.toNat_natCast]
  · rw [shapesT_len]
    obtain rfl | rfl | rfl | rfl | rfl : k = 1 ∨ k = 2 ∨ k = 3 ∨ k = 4 ∨ k = 5 := by omega
    all_goals decide
theorem count_next {L : List (List UInt8)} {w : Nat} (hw : w < L.length) (F : List UInt8) : (L.take (w + 1)).count F = (L.take w).count F + (if L[w] = F then 1 else 0) := by
  rw [List.take_succ_eq_append_getElem hw, List.count_append]
  congr 1
  rw [List.count_singleton]
  by_cases h : L[w] = F <;> simp [h]
theorem count_le (L : List (List UInt8)) (w : Nat) (F : List UInt8) : (L.take w).count F ≤ w := Nat.le_trans List.count_le_length (by rw [List.length_take]; omega)

set_option maxHeartbeats 3200000 in
set_option maxRecDepth 100000 in
theorem shapesFewer_law (a : Option Addr) (len cap : Nat) (zs : List Int) (w : World) (hr0 : IsRow .u8 w a len cap zs) :
    Calls Try.prog 7 #[.slice a len cap] w fun e w' => e = .returned (.bool true) ∧ Below w.heap.size w w' := by
  have hr := Lib.hid hr0
  clear hr0
  by_cases hbig : (1048576 : Int) < (len : Int)
  · go_enter Try.func7, Try.ntmps7
    go_wp2
    go_ret
    exact ⟨rfl, Below.refl _ _⟩
  · go_enter Try.func7, Try.ntmps7
    go_wp2_with fail
    refine (drawFreeText a len cap zs w hr (by omega)).mono ?_
    rintro e w1 ⟨n, rows, v, RV, rfl, g1, hn, hl, hr2, b1⟩
    have hn := hn
    have hwf : (Lit.int .i64 n).wf = true := wf_smallC n (by omega)
    have G1 := Lib.hid g1
    have B1 := Lib.hid b1
    have hrs : ∀ r ∈ rows, r.length ≤ 1048576 := fun r h => by rw [hr2 r h]; decide
    have hrl : rows.length ≤ 1048576 := by omega
    have CF := Lib.hid (fun (v : Value) (RV : List Value) (w : World) (B0 H0 : Nat) (hG : Hid (Grid w B0 H0 v RV rows)) hH => freeText_any n rows v RV w hG hH hrl hrs hwf)
    have CS := Lib.hid (fun (v : Value) (RV : List Value) (w : World) (B0 H0 : Nat) (hG : Hid (Grid w B0 H0 v RV rows)) hH => specFreeText_any n rows v RV w hG hH hrl)
    have CM := Lib.hid (fun (v : Value) (RV : List Value) (w : World) (B0 H0 : Nat) (hG : Hid (Grid w B0 H0 v RV rows)) hH => selfMaps_any n rows v RV w hG hH hrl hrs hwf)
    have CN := Lib.hid (fun w => countTrees_p n w hwf)
    have FF := Lib.hid (few_facts (n := n) (rows := rows))
    obtain ⟨F, hF⟩ : ∃ F, F = freeOut n rows := ⟨_, rfl⟩
    rw [← hF] at FF
    simp only [← hF] at CF CS
    obtain ⟨M, hM⟩ : ∃ M, M = mapsOut n rows := ⟨_, rfl⟩
    rw [← hM] at FF
    simp only [← hM] at CM
    obtain ⟨fo, hfo⟩ : ∃ fo : ByteArray, fo = ⟨F.toArray⟩ := ⟨_, rfl⟩
    have HFO : Hid (fo.data.toList = F) := by show _ = _; rw [hfo]
    simp only [← hfo] at CF CS
    obtain ⟨av, cv, rfl, _, _, _, _⟩ := g1.1.slice
    have s01 := b1.size
    have r0 : Hid (w1.heap.size ≤ w1.heap.size) := Nat.le_refl _
    have q1 : (fo.toList == fo.toList) = true := beq_self_eq_true _
    clear g1 b1 hr hrs hF hfo hM hr2
    go_wp2_with fail
    refine (CF.out _ RV w1 _ _ G1 r0.out).mono ?_
    rintro e w2 ⟨rfl, b2⟩
    have G2 := Lib.hid (G1.out.below b2)
    have B2 := Lib.hid (B1.out.trans (b2.mono s01))
    have S12 := Lib.hid b2.size
    clear b2
    go_wp2_with fail
    refine (CS.out _ RV w2 _ _ G2 S12.out).mono ?_
    rintro e w3 ⟨rfl, b3⟩
    have G3 := Lib.hid (G2.out.below (b3.mono S12.out))
    have B3 := Lib.hid (B2.out.trans (b3.mono (Nat.le_trans s01 S12.out)))
    have S13 := Lib.hid (Nat.le_trans S12.out b3.size)
    clear b3 G2 B2 S12 CS
    go_wp2_with fail
    refine (CF.out _ RV w3 _ _ G3 S13.out).mono ?_
    rintro e w4 ⟨rfl, b4⟩
    have G4 := Lib.hid (G3.out.below (b4.mono S13.out))
    have B4 := Lib.hid (B3.out.trans (b4.mono (Nat.le_trans s01 S13.out)))
    have S14 := Lib.hid (Nat.le_trans S13.out b4.size)
    clear b4 G3 B3 S13 CF
    by_cases h0 : F = []
    · have q0 : (fo.toList == []) = true := by rw [ByteArray.toList_eq, HFO.out, h0]; rfl
      clear h0 FF CM CN
      go_wp2
      go_ret
      exact ⟨rfl, B4.out⟩
    · have q0 : (fo.toList == []) = false := by rw [ByteArray.toList_eq, HFO.out, beq_eq_false_iff_ne]; exact h0
      by_cases h5 : n ≤ 5
      · obtain ⟨N, m, T, rfl, hN1, hN5, rfl, hm, hcm, htn, hTl, hat⟩ := FF.out h0 h5
        rw [htn] at CN
        have C8 := Lib.hid (fun w => factorial_any N w (by omega))
        have hfl : fct N ≤ 5040 := fct_le N (by omega)
        rw [← hcm] at C8 hfl
        have HAT := Lib.hid hat
        obtain ⟨t, ht⟩ : ∃ t, t = T.length := ⟨_, rfl⟩
        rw [← ht] at CN hTl
        have HT := Lib.hid ht
        have hfl2 := Lib.hid hfl
        have h5n : ¬ (5 : Int) < (N : Int) := by omega
        have K0 : Hid (0 = (T.take 0).count F) := by show _ = _; simp
        have RB : Hid (Below w4.heap.size w4 w4) := Below.refl _ _
        clear FF h0 h5 hcm htn ht hfl hn hat
        go_wp2_with fail
        go_loopw [6, 7] (fun e6 e7 wr => ∃ (j k : Nat), j ≤ t ∧ k ≤ j ∧ e7 = .int .i64 (j : Int) ∧ e6 = .int .i64 (k : Int) ∧ Hid (k = (T.take j).count F) ∧ Hid (Below w4.heap.size w4 wr)) (fun _ e7 _ => t - (intOf e7).toNat)
        case atStart => exact ⟨0, 0, Nat.zero_le _, Nat.le_refl _, rfl, rfl, K0, RB⟩
        case round =>
          clear K0 RB
          obtain ⟨j, k, hj, hkj, rfl, rfl, HK, HB⟩ := hrel
          by_cases hlt : j < t
          · have b1 : (j : Int) < (t : Int) := by omega
            have hjT : j < T.length := by rw [← HT.out]; exact hlt
            have hX := HAT.out j hjT
            have hcn := count_next hjT F
            obtain ⟨X, hXe⟩ : ∃ X, X = T[j] := ⟨_, rfl⟩
            rw [← hXe] at hX hcn
            obtain ⟨xo, hxo⟩ : ∃ xo : ByteArray, xo = ⟨X.toArray⟩ := ⟨_, rfl⟩
            have HXO : (xo.toList == fo.toList) = decide (X = F) := by rw [ByteArray.toList_eq, ByteArray.toList_eq, HFO.out, show xo.data.toList = X by rw [hxo], Bool.eq_iff_iff]; simp
            obtain ⟨p, hp⟩ : ∃ p, p = decide (X = F) := ⟨_, rfl⟩
            rw [← hp] at HXO
            have HCN := Lib.hid hcn
            have HP := Lib.hid hp
            have hbl : ((treeOut (N : Int) (intsB (codeD N j))).length ≤ 1048576) ∧ (∀ r ∈ treeOut (N : Int) (intsB (codeD N j)), r.length ≤ 1048576) := by
              have h := treeOut_le (N : Int) (intsB (codeD N j))
              exact ⟨by omega, h.2⟩
            have hcl : (intsB (codeD N j)).length ≤ 1048576 := by unfold intsB; rw [List.length_map, codeD, codeK_len]; omega
            have CT := Lib.hid (fun (v : Value) (w : World) (B0 H0 : Nat) (hv : Hid (Own w B0 H0 3 v (iv (intsB (codeD N j))))) hH => treeOf_p (N : Int) (intsB (codeD N j)) v w B0 H0 hv hH hcl hwf)
            have CX := Lib.hid (fun (v : Value) (RV : List Value) (w : World) (B0 H0 : Nat) (hG : Hid (Grid w B0 H0 v RV (treeOut (N : Int) (intsB (codeD N j))))) hH => freeText_any (N : Int) (treeOut (N : Int) (intsB (codeD N j))) v RV w hG hH hbl.1 hbl.2 hwf)
            simp only [← hX, ← hxo] at CX
            obtain ⟨TR, hTR⟩ : ∃ TR, TR = treeOut (N : Int) (intsB (codeD N j)) := ⟨_, rfl⟩
            simp only [← hTR] at CX CT
            have CC := Lib.hid (fun w => lawCodeAt_any N j hN1 (by omega) (by omega) w)
            clear hX hcn hXe hxo hp hbl hcl hTR hjT
            go_wp2_with fail
            refine (CN.out _).mono ?_
            rintro e w5 ⟨rfl, rfl⟩
            go_wp2_with fail
            refine (CC.out _).mono ?_
            rintro e w5 ⟨y5, rfl, o5, b5⟩
            have O5 := Lib.hid o5
            have B5 := Lib.hid (HB.out.trans (b5.mono HB.out.size))
            clear o5 b5 CC
            go_wp2_with fail
            refine (CT.out _ _ _ _ O5 (Nat.le_refl _)).mono ?_
            rintro e w6 ⟨y6, RV6, rfl, g6, b6⟩
            have G6 := Lib.hid g6.grid
            have B6 := Lib.hid (B5.out.trans (b6.mono B5.out.size))
            clear g6 b6 CT O5 B5
            go_wp2_with fail
            refine (CX.out _ RV6 _ _ _ G6 (Nat.le_refl _)).mono ?_
            rintro e w7 ⟨rfl, b7⟩
            have B7 := Lib.hid (B6.out.trans (b7.mono B6.out.size))
            clear b7 CX G6 B6 HB
            cases p with
            | true =>
              have HK2 : Hid (k + 1 = (T.take (j + 1)).count F) := by show _ = _; rw [HCN.out, ← HK.out, if_pos (of_decide_eq_true HP.out.symm)]
              clear HCN HP HK
              go_wp2
              go_roundw
              case rel => exact ⟨j + 1, k + 1, by omega, by omega, by go_num, by go_num, HK2, B7⟩
              case measure => simp [intOf]; omega
            | false =>
              have HK2 : Hid (k = (T.take (j + 1)).count F) := by show _ = _; rw [HCN.out, ← HK.out, if_neg (of_decide_eq_false HP.out.symm)]; rfl
              clear HCN HP HK
              go_wp2
              go_roundw
              case rel => exact ⟨j + 1, k, by omega, by omega, by go_num, rfl, HK2, B7⟩
              case measure => simp [intOf]; omega
          · obtain rfl : j = t := by omega
            have HK2 : Hid (k = T.count F) := by show _ = _; rw [HK.out, HT.out, List.take_length]
            have b1 : ¬ (j : Int) < (j : Int) := by omega
            have GG := Lib.hid (G4.out.below (HB.out.mono S14.out))
            have SS := Lib.hid (Nat.le_trans S14.out HB.out.size)
            have BB := Lib.hid (B4.out.trans (HB.out.mono B4.out.size))
            rw [← HK2.out] at C8
            have hkm : k * m ≤ 5040 := by rw [HK2.out]; exact hfl2.out
            have e1 : IntKind.i64.wrap ((k : Int) * (m : Int)) = ((k * m : Nat) : Int) := by rw [show (k : Int) * (m : Int) = ((k * m : Nat) : Int) by push_cast; rfl, IntKind.wrap_i64]; omega
            obtain ⟨P, hP⟩ : ∃ P, P = k * m := ⟨_, rfl⟩
            rw [← hP] at C8 e1
            clear HK HK2 HB hkm hP hfl2
            go_wp2_with fail
            refine (CN.out _).mono ?_
            rintro e w5 ⟨rfl, rfl⟩
            go_wp2_with fail
            refine (CM.out _ RV _ _ _ GG SS.out).mono ?_
            rintro e w6 ⟨rfl, b6⟩
            have B6 := Lib.hid (BB.out.trans (b6.mono BB.out.size))
            clear b6 CM
            go_wp2_with fail
            refine (C8.out _).mono ?_
            rintro e w7 ⟨rfl, rfl⟩
            go_wp2
            go_ret
            exact ⟨by first | rfl | simp, B6.out⟩
      · have h5n : (5 : Int) < n := by omega
        clear FF h0 h5 CM CN
        go_wp2
        go_ret
        exact ⟨rfl, B4.out⟩
end Go.Proofs.Ythlboikljibohaa
