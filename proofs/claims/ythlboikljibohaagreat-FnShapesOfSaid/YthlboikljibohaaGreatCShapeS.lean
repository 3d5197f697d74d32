/-
  The model's list of all shapes.
-/
import Derived.Test.YthlboikljibohaaGreatWShapeC
import Derived.Test.YthlboikljibohaaGreatCWFrom
import Derived.Test.YthlboikljibohaaGreatZT
import Derived.Test.YthlboikljibohaaGreatZPW
import Derived.Test.YthlboikljibohaaGreatZK
import Derived.Test.YthlboikljibohaaGreatZTS
namespace Go.Proofs.YthlboikljibohaaGreat
open Go.RowKit

theorem Tryz.infoIntM : (Tryz.prog.info? 3).map (fun i => (i.zero, i.size, i.bytes)) = some (some (.int .i64 0), 1, 8) := by kernel_rfl
theorem treeS_num {N : Nat} (h1 : 1 ≤ N) (h7 : N ≤ 7) (w : Nat) : ValidT N (treeN N (codeD N w)) := by
  by_cases h2 : 2 ≤ N
  · exact (code_tree (by rw [codeD, codeK_len]; omega) (codeD_lt (by omega))).1
  · obtain rfl : N = 1 := by omega
    have e : codeD 1 w = [] := List.eq_nil_of_length_eq_zero (codeK_len _ _ _)
    rw [e, show treeN 1 [] = [] by decide +kernel]
    refine ⟨rfl, (fun e he => by cases he), List.Pairwise.nil, fun v hv => ?_⟩
    obtain rfl : v = 0 := by omega
    exact Reach.refl 0
theorem shapesT_get {N w : Nat} (hw : w < (shapesT N).length) : (shapesT N)[w] = freeT N (treeN N (codeD N w)) := by simp [shapesT]
theorem iv_intsB (L : List Nat) : iv (intsB L) = ints L := by simp [iv, intsB, ints]
theorem one_intM (v : Value) (h : v.oneCell' = true) : ∀ u ∈ [v], u.oneCell' = true := by intro u hu; simp at hu; subst hu; exact h
theorem ownsRow_down {w : World} {B B' n : Nat} {t : TypeId} {v : Value} {xs : List Value} (h : w.ownsRow B' t 1 v n xs) (hB : B ≤ B') : w.ownsRow B t 1 v n xs := by
  refine ⟨h.1, ?_⟩
  rcases h.2 with h | ⟨g, cap, cur, a, b, c⟩
  · exact .inl h
  · exact .inr ⟨g, cap, cur, a, by omega, c⟩
set_option maxHeartbeats 6400000 in
set_option maxRecDepth 100000 in
theorem specShapes_yes (N : Nat) (h1 : 1 ≤ N) (h5 : N ≤ 5) (w : World) :
    Calls Tryz.prog 7 #[.int .i64 (N : Int)] w (TextsOut (sortW (shapesT N)) w) := by
  obtain ⟨i0, hi, hz0, hz1, hz2⟩ := info_parts Tryz.infoIntM
  obtain ⟨j0, hj, hy0, hy1, hy2⟩ := info_parts Tryz.infoStr
  have C0 := Lib.hid (inRange_yes (N : Int) 1 5 w (by omega) (by omega))
  have ew : IntKind.i64.wrap ((N : Int) - 2) = (N : Int) - 2 := by rw [IntKind.wrap_i64]; omega
  have C1 : Hid (∀ (w : World), Calls Tryz.prog 22 #[.int .i64 (N : Int), .int .i64 (max ((N : Int) - 2) 0)] w fun e w' => e = .returned (.int .i64 ((N ^ (N - 2) : Nat) : Int)) ∧ w = w') := by
    intro w
    rw [show max ((N : Int) - 2) 0 = ((N - 2 : Nat) : Int) by omega]
    exact power_any N (N - 2) w (by omega) (by omega)
  have htl : (shapesT N).length = N ^ (N - 2) := by simp [shapesT]
  have hTl := shapes_len h1 h5
  rw [← htl] at C1
  obtain ⟨t, ht⟩ : ∃ t, t = (shapesT N).length := ⟨_, rfl⟩
  rw [← ht] at C1 hTl
  have HT := Lib.hid ht
  obtain ⟨S, hS⟩ : ∃ S, S = sortW (shapesT N) := ⟨_, rfl⟩
  have hon := shapes_once h1 h5
  rw [← hS] at hon ⊢
  have HON := Lib.hid hon
  clear hon hS
  obtain ⟨C, hC⟩ : ∃ C, C = w.heap.size := ⟨_, rfl⟩
  have HC := Lib.hid hC
  have O0 : Hid ((w.alloc (.cells #[] 9)).ownsRow C 9 1 (.slice (some ⟨w.heap.size, 0, none⟩) 0 0) 0 (sv (onceW ((shapesT N).take 0)))) := World.ownsRow_lit (base := C) (e := 9) (size := 1) w #[] 0 (by omega) (by decide) rfl
  have B0 : Hid (Below C w (w.alloc (.cells #[] 9))) := by show Below _ _ _; rw [hC]; exact (Below.refl _ w).alloc (Nat.le_refl _) _
  clear hC htl ht
  go_enter Tryz.func7, Tryz.ntmps7
  go_wp2_with fail
  refine C0.out.mono ?_
  rintro e w1 ⟨rfl, rfl⟩
  clear C0
  go_wp2_with fail
  go_loopw [3, 4] (fun e3 e4 wr => ∃ (k m : Nat) (v : Value), k ≤ t ∧ m ≤ k ∧ e4 = .int .i64 (k : Int) ∧ e3 = v ∧ Hid (m = (onceW ((shapesT N).take k)).length) ∧ Hid (wr.ownsRow C 9 1 v m (sv (onceW ((shapesT N).take k)))) ∧ Hid (Below C w wr)) (fun _ e4 _ => t - (intOf e4).toNat)
  case atStart => exact ⟨0, 0, _, Nat.zero_le _, Nat.le_refl _, rfl, rfl, rfl, O0, B0⟩
  case round =>
    clear O0 B0
    obtain ⟨k, m, vv, hk, hmk, rfl, hvv, HM, HO, HB⟩ := hrel
    subst hvv
    have sC : Hid (C ≤ wr.heap.size) := by have := HB.out.size; show _ ≤ _; rw [HC.out]; rw [HC.out] at *; exact this
    go_wp2_with fail
    have PW := Lib.hid (C1.out wr)
    all_goals
      refine PW.out.mono ?_
      rintro e w1 ⟨rfl, rfl⟩
      clear PW
      by_cases hlt : k < t
      · have b1 : (k : Int) < (t : Int) := by omega
        have hkT : k < (shapesT N).length := by rw [← HT.out]; exact hlt
        have hX := shapesT_get hkT
        have TN := Lib.hid (onceW_snoc (shapesT N) k hkT)
        obtain ⟨X, hXe⟩ : ∃ X, X = (shapesT N)[k] := ⟨_, rfl⟩
        rw [← hXe] at hX TN
        obtain ⟨xo, hxo⟩ : ∃ xo : ByteArray, xo = ⟨X.toArray⟩ := ⟨_, rfl⟩
        have hxl : xo.data.toList = X := by rw [hxo]
        obtain ⟨L, hL⟩ : ∃ L, L = onceW ((shapesT N).take k) := ⟨_, rfl⟩
        rw [← hL] at HM HO TN
        obtain ⟨L2, hL2⟩ : ∃ L2, L2 = onceW ((shapesT N).take (k + 1)) := ⟨_, rfl⟩
        rw [← hL2] at TN
        have HL2 := Lib.hid hL2
        have hlen : (codeD N k).length = N - 2 := codeK_len _ _ _
        have CT := Lib.hid (fun (v : Value) (w : World) (B0 H0 : Nat) (hv : Hid (Own w B0 H0 3 v (ints (codeD N k)))) hH => treeOf_any N (codeD N k) v w hv hH ⟨h1, by omega, hlen⟩ (Lib.hid (codeD_lt (by omega))))
        have CX := Lib.hid (fun (v : Value) (RV : List Value) (w : World) (B0 H0 : Nat) (hG : Hid (Grid w B0 H0 v RV (rowsE (treeN N (codeD N k))))) hH => freeTextS_any N (treeN N (codeD N k)) (Lib.hid ⟨treeS_num h1 (show N ≤ 7 by omega) k, by omega⟩) v RV w hG hH)
        simp only [← hX, ← hxo] at CX
        obtain ⟨TR, hTR⟩ : ∃ TR, TR = rowsE (treeN N (codeD N k)) := ⟨_, rfl⟩
        simp only [← hTR] at CX CT
        have HXL := Lib.hid hxl
        have HLM : Hid (L.length = m) := by show _ = _; rw [HM.out]
        have m125 : m ≤ 125 := by omega
        have E0 : Hid ((wr.alloc (.cells #[] 3)).ownsRow wr.heap.size 3 1 (.slice (some ⟨wr.heap.size, 0, none⟩) 0 0) 0 (iv (intsB (codeK N k 0)))) := World.ownsRow_lit (base := wr.heap.size) (e := 3) (size := 1) wr #[] 0 (Nat.le_refl _) (by decide) rfl
        have F0 : Hid (Below wr.heap.size wr (wr.alloc (.cells #[] 3))) := (Below.refl _ wr).alloc (Nat.le_refl _) _
        obtain ⟨wo, hwo⟩ : ∃ wo, wo = wr := ⟨_, rfl⟩
        rw [← hwo] at HO HB
        obtain ⟨D, hD⟩ : ∃ D, D = wr.heap.size := ⟨_, rfl⟩
        have HD : Hid (D = wo.heap.size) := by show _ = _; rw [hD, hwo]
        rw [← hwo] at E0 F0
        rw [← hwo] at hD
        rw [← hD] at E0 F0
        have SC : Hid (C ≤ D) := by show _ ≤ _; rw [hD, hwo]; exact sC.out
        clear hX hXe hxo hxl hL hL2 hlen hTR hkT HM sC
        go_wp2_with fail
        rw [← hwo, ← hD]
        clear hwo hD
        go_loopw [5, 6] (fun e5 e6 wr => ∃ (i : Nat) (v : Value), i ≤ N - 2 ∧ e6 = .int .i64 (i : Int) ∧ e5 = v ∧ Hid (wr.ownsRow D 3 1 v i (iv (intsB (codeK N k i)))) ∧ Hid (Below D wo wr)) (fun _ e6 _ => N - 2 - (intOf e6).toNat)
        case atStart => exact ⟨0, _, Nat.zero_le _, rfl, rfl, E0, F0⟩
        case round =>
          clear E0 F0
          obtain ⟨i, vv, hi2, rfl, hvv, HE, HF⟩ := hrel
          subst hvv
          have sD : Hid (D ≤ wr.heap.size) := by have := HF.out.size; show _ ≤ _; rw [HD.out]; rw [HD.out] at *; exact this
          by_cases hli : i < N - 2
          · have b2 : (i : Int) < (N : Int) - 2 := by omega
            have z1 : i + 1 ≤ maxLen := by unfold maxLen; omega
            have z2 : (i + 1) * 8 ≤ 140737488355328 := by omega
            have Y3 : Hid (∀ o : Obj, D ≤ (wr.alloc o).heap.size) := fun o => by have := sD.out; rw [World.size_alloc]; omega
            have CP := Lib.hid (power_any N i wr (by omega) (by omega))
            obtain ⟨P, hP⟩ : ∃ P, P = N ^ i := ⟨_, rfl⟩
            have hP0 : 0 < P := by rw [hP]; exact Nat.pow_pos (by omega)
            rw [← hP] at CP
            have hmd : k / P ≤ 1000000 := Nat.le_trans (Nat.div_le_self _ _) (by omega)
            obtain ⟨q, hq⟩ : ∃ q, q = k / P := ⟨_, rfl⟩
            rw [← hq] at hmd
            have CN : Hid (iv (intsB (codeK N k (i + 1))) = iv (intsB (codeK N k i)) ++ [.int .i64 ((q : Int) % (N : Int))]) := by
              show _ = _
              rw [codeK_next, intsB_snoc, ← hP, ← hq, Int.natCast_emod]
            have t5 : IntKind.i64.wrap ((k : Int) / (P : Int)) = (q : Int) := by
              rw [show (k : Int) / (P : Int) = ((k / P : Nat) : Int) from rfl, ← hq, IntKind.wrap_i64]; omega
            have p0 : ((P : Int) == 0) = false := by rw [beq_eq_false_iff_ne]; omega
            have n0 : ((N : Int) == 0) = false := by rw [beq_eq_false_iff_ne]; omega
            clear hP hq
            go_wp2_with fail
            refine CP.out.mono ?_
            rintro e w4 ⟨rfl, rfl⟩
            clear CP
            go_wp2_with (at_builtin; refine wpList_append_lies _ rfl (.tmp 28) (.tmp 36) 30 rfl D 3 i0 (.int .i64 0) 1 8 Tryz.underlying30 hi hz0 hz1 hz2 rfl (Nat.succ_pos 0) _ i (iv (intsB (codeK N k i))) rfl (HE.out.alloc _) ⟨wr.heap.size, 0, none⟩ 1 1 [.int .i64 ((q : Int) % (N : Int))] rfl rfl (cell_one_new _ _ _) (one_intM _ rfl) (Nat.succ_pos 0) z1 z2 (Y3.out _) _ rfl ?_)
            intro g5 c5 w5 hv5 hg5 _ _
            have B5 : Hid (Below D wo w5) := (HF.out.alloc sD.out _).grown hg5 (Y3.out _) (fun q hq => (HE.out.lt q hq).1)
            have O5 : Hid (w5.ownsRow D 3 1 (.slice (some ⟨g5, 0, none⟩) (i + 1) c5) (i + 1) (iv (intsB (codeK N k (i + 1))))) := by
              show World.ownsRow _ _ _ _ _ _ _
              rw [CN.out]; exact hv5
            clear hv5 hg5 HE HF sD Y3 CN
            go_wp2
            go_roundw
            case rel => exact ⟨i + 1, _, by omega, by go_num, rfl, O5, B5⟩
            case measure => simp [intOf]; omega
          · have hiN : i = N - 2 := by omega
            have OF : Hid (Own wr D wr.heap.size 3 u5 (ints (codeD N k))) := by
              refine Own.of_own ?_
              have e : (iv (intsB (codeD N k))).length = i := by rw [intsB_len, codeD, codeK_len, hiN]
              rw [← iv_intsB, e, codeD, ← hiN]; exact HE.out
            have b2 : ¬ ((i : Int) < (N : Int) - 2) := by omega
            have R5 : Hid (wr.ownsRow C 9 1 u3 m (sv L)) := own_of_blocks HO.out (fun g hg => HF.out.block g (by have := (HO.out.lt g hg).2; rw [HD.out]; exact this))
            have B5 : Hid (Below C w wr) := HB.out.trans (HF.out.mono SC.out)
            have s5 : Hid (C ≤ wr.heap.size) := by have := sD.out; have := SC.out; show _ ≤ _; omega
            clear HE HF HO HB hiN sD
            go_wp2_with fail
            refine (CT.out _ _ _ _ OF (Nat.le_refl _)).mono ?_
            rintro e w6 ⟨y6, RV6, rfl, g6, b6⟩
            have G6 := Lib.hid g6
            have B6 := Lib.hid (B5.out.trans (b6.mono s5.out))
            have R6 := Lib.hid (own_of_blocks R5.out (fun g hg => b6.block g (R5.out.lt g hg).2))
            have s6 := Lib.hid (Nat.le_trans s5.out b6.size)
            clear g6 b6 CT OF B5 R5 s5
            go_wp2_with fail
            refine (CX.out _ RV6 _ _ _ G6 (Nat.le_refl _)).mono ?_
            rintro e w7 ⟨rfl, b7⟩
            have B7 := Lib.hid (B6.out.trans (b7.mono s6.out))
            have R7 := Lib.hid (own_of_blocks R6.out (fun g hg => b7.block g (R6.out.lt g hg).2))
            have s7 := Lib.hid (Nat.le_trans s6.out b7.size)
            have Y3 : Hid (∀ o : Obj, C ≤ (w7.alloc o).heap.size) := fun o => by have := s7.out; rw [World.size_alloc]; omega
            have OO : Hid (Own w7 C w7.heap.size 9 u3 (sv L)) := Own.of_own (by rw [sv_length, HLM.out]; exact R7.out)
            have HW := Lib.hid (hasWord_any L u3 xo w7 OO (by rw [HLM.out]; omega))
            clear b7 CX G6 B6 R6 s6
            by_cases hmem : xo.data.toList ∈ L
            · rw [decide_eq_true hmem] at HW
              have TN2 : Hid (L2 = L) := by show _ = _; rw [TN.out, addW, ← HXL.out, if_pos hmem]
              clear hmem OO
              go_wp2_with fail
              refine HW.out.mono ?_
              rintro e w8 ⟨rfl, rfl⟩
              clear HW
              go_wp2
              go_roundw
              case rel => exact ⟨k + 1, m, _, by omega, by omega, by go_num, rfl, by show _ = _; rw [← HL2.out, TN2.out, HLM.out], by rw [← HL2.out, TN2.out]; exact R7, B7⟩
              case measure => simp [intOf]; omega
            · rw [decide_eq_false hmem] at HW
              have TN2 : Hid (sv L2 = sv L ++ [.string xo]) := by
                show _ = _
                rw [TN.out, addW, ← HXL.out, if_neg hmem, ← sv_snoc]
              have TL2 : Hid (m + 1 = L2.length) := by show _ = _; rw [← sv_length L2, TN2.out, List.length_append, sv_length, HLM.out]; rfl
              have z1 : m + 1 ≤ maxLen := by unfold maxLen; omega
              have z2 : (m + 1) * 16 ≤ 140737488355328 := by omega
              clear hmem OO TN
              go_wp2_with fail
              refine HW.out.mono ?_
              rintro e w8 ⟨rfl, rfl⟩
              clear HW
              go_wp2_with (at_builtin; refine wpList_append_lies _ rfl (.tmp 47) (.tmp 49) 24 rfl C 9 j0 (.string ⟨#[]⟩) 1 16 Tryz.underlying24 hj hy0 hy1 hy2 rfl (by decide) _ m (sv L) rfl (R7.out.alloc _) ⟨w8.heap.size, 0, none⟩ 1 1 [.string xo] rfl rfl (cell_one_new _ _ _) (one_str _) (by decide) z1 z2 (Y3.out _) _ rfl ?_)
              intro g9 c9 w9 hv9 hg9 _ _
              have B9 : Hid (Below C w w9) := (B7.out.alloc s7.out _).grown hg9 (Y3.out _) (fun q hq => (R7.out.lt q hq).1)
              have O9 : Hid (w9.ownsRow C 9 1 (.slice (some ⟨g9, 0, none⟩) (m + 1) c9) (m + 1) (sv (onceW ((shapesT N).take (k + 1))))) := by
                show World.ownsRow _ _ _ _ _ _ _
                rw [← HL2.out, TN2.out]; exact hv9
              clear hv9 hg9 B7 R7 TN2 Y3
              go_wp2
              go_roundw
              case rel => exact ⟨k + 1, m + 1, _, by omega, by omega, by go_num, rfl, by rw [← HL2.out]; exact TL2, O9, B9⟩
              case measure => simp [intOf]; omega
      · obtain rfl : k = t := by omega
        have b1 : ¬ (k : Int) < (k : Int) := by omega
        have e9 : (shapesT N).take k = shapesT N := by rw [HT.out, List.take_length]
        rw [e9] at HM HO
        obtain ⟨L, hL⟩ : ∃ L, L = onceW (shapesT N) := ⟨_, rfl⟩
        have HONL := HON.out
        rw [← hL] at HM HO HONL
        have OO : Hid (Own wr C wr.heap.size 9 u3 (sv L)) := Own.of_own (by rw [sv_length, ← HM.out]; exact HO.out)
        have CS := Lib.hid (sorted_any L u3 wr OO (Nat.le_refl _) (by rw [← HM.out]; omega))
        rw [HONL] at CS
        clear e9 hL HONL HO OO HON HM C1
        go_wp2_with fail
        refine CS.out.mono ?_
        rintro e w9 ⟨v9, rfl, o9, b9⟩
        have O9 := Lib.hid o9
        have B9 := Lib.hid (HB.out.trans (b9.mono sC.out))
        have S9 := Lib.hid sC.out
        clear o9 b9
        go_wp2
        go_ret
        refine ⟨_, rfl, Own.of_own ?_, ?_⟩
        · rw [sv_length, ← HC.out]
          exact ownsRow_down O9.out S9.out
        · rw [← HC.out]; exact B9.out
set_option maxHeartbeats 800000 in
theorem specShapes_any (n : Int) (w : World) :
    Calls Tryz.prog 7 #[.int .i64 n] w (TextsOut (shapesW n) w) := by
  by_cases h : 1 ≤ n ∧ n ≤ 5
  · obtain ⟨k, rfl⟩ : ∃ k : Nat, n = (k : Int) := ⟨n.toNat, by omega⟩
    rw [shapesW, if_pos h]
    exact specShapes_yes k (by omega) (by omega) w
  · rw [shapesW, if_neg h]
    have C0 := Lib.hid (inRange_no n 1 5 w (by omega))
    clear h
    go_enter Tryz.func7, Tryz.ntmps7
    go_wp2_with fail
    refine C0.out.mono ?_
    rintro e w1 ⟨rfl, rfl⟩
    go_wp2
    go_ret
    exact noTexts _ _ (Below.refl _ _)
end Go.Proofs.YthlboikljibohaaGreat
