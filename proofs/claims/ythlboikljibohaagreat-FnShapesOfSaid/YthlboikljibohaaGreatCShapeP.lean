/-
  The program's list of all shapes.
-/
import Derived.Test.YthlboikljibohaaGreatWShapeC
import Derived.Test.YthlboikljibohaaGreatZSH
import Derived.Test.YthlboikljibohaaGreatZCA
import Derived.Test.YthlboikljibohaaGreatCWFrom
import Derived.Test.YthlboikljibohaaGreatZG
import Derived.Test.YthlboikljibohaaGreatZTQ
import Derived.Test.YthlboikljibohaaGreatZPW
import Derived.Test.YthlboikljibohaaGreatShelfS
import Derived.Sort.OwnSorted
namespace Go.Proofs.YthlboikljibohaaGreat
open Go.RowKit

theorem own_prefix {w : World} {B n g c : Nat} {t : TypeId} {xs : List Value} (h : w.ownsRow B t 1 (.slice (some ⟨g, 0, none⟩) n c) n xs) {k : Nat} (hk : k ≤ n) : w.ownsRow B t 1 (.slice (some ⟨g, 0, none⟩) k c) k (xs.take k) := by
  have hl := h.1
  refine ⟨by rw [List.length_take]; omega, ?_⟩
  rcases h.2 with ⟨h0, _⟩ | ⟨g', cap, cur, hv, h1, h2, h3, h4, h5, h6⟩
  · cases h0
  · simp only [Value.slice.injEq, Option.some.injEq, Addr.mk.injEq, and_true] at hv
    obtain ⟨rfl, _, rfl⟩ := hv
    refine .inr ⟨g, c, cur, rfl, h1, h2, by omega, h4, h5, ?_⟩
    rw [← h6, List.take_take]
    congr 1
    omega
theorem sv_takeP (L : List (List UInt8)) (k : Nat) : (sv L).take k = sv (L.take k) := by simp [sv, List.map_take]
set_option maxHeartbeats 3200000 in
set_option maxRecDepth 100000 in
theorem implShapes_yes (N : Nat) (h1 : 1 ≤ N) (h5 : N ≤ 5) (w : World) :
    Calls Tryz.prog 5 #[.int .i64 (N : Int)] w (TextsOut (sortW (shapesT N)) w) := by
  obtain ⟨i0, hi, hz0, hz1, hz2⟩ := info_parts Tryz.infoStr
  have hwf : (Lit.int .i64 (N : Int)).wf = true := wf_smallC (N : Int) (by omega)
  have CN := Lib.hid (fun w => countTrees_p (N : Int) w hwf)
  have htn : treesN (N : Int) = ((shapesT N).length : Int) := by rw [treesN, if_pos (by omega), shapesT_len, Int.toNat_natCast]
  rw [htn] at CN
  have HAT := Lib.hid (fun (w : Nat) (hw : w < (shapesT N).length) => shapesT_at h1 (show N ≤ 7 by omega) hw)
  have HCP := Lib.hid (shapes_compact h1 h5)
  have hTl := shapes_len h1 h5
  obtain ⟨C, hC⟩ : ∃ C, C = w.heap.size := ⟨_, rfl⟩
  have HC := Lib.hid hC
  have O0 : Hid (w.ownsRow C 9 1 (.slice none 0 0) 0 (sv ((shapesT N).take 0))) := ⟨rfl, .inl ⟨rfl, rfl⟩⟩
  have B0 : Hid (Below C w w) := Below.refl _ _
  obtain ⟨S, hS⟩ : ∃ S, S = sortW (shapesT N) := ⟨_, rfl⟩
  rw [← hS] at HCP ⊢
  obtain ⟨t, ht⟩ : ∃ t, t = (shapesT N).length := ⟨_, rfl⟩
  rw [← ht] at CN hTl
  have HT := Lib.hid ht
  clear hC htn hS ht
  go_enter Tryz.func5, Tryz.ntmps5
  go_wp2_with fail
  refine (CN.out _).mono ?_
  rintro e w1 ⟨rfl, rfl⟩
  go_wp2_with fail
  go_loopw [3, 13] (fun e3 e13 wr => ∃ (k : Nat) (v : Value), k ≤ t ∧ e13 = .int .i64 (k : Int) ∧ e3 = v ∧ Hid (wr.ownsRow C 9 1 v k (sv ((shapesT N).take k))) ∧ Hid (Below C w wr)) (fun _ e13 _ => t - (intOf e13).toNat)
  case atStart => exact ⟨0, _, Nat.zero_le _, rfl, rfl, O0, B0⟩
  case round =>
    clear O0 B0
    obtain ⟨k, vv, hk, rfl, hvv, HO, HB⟩ := hrel
    subst hvv
    have sC : Hid (C ≤ wr.heap.size) := by have := HB.out.size; show _ ≤ _; rw [HC.out]; rw [HC.out] at *; exact this
    by_cases hlt : k < t
    · have b1 : (k : Int) < (t : Int) := by omega
      have z1 : k + 1 ≤ maxLen := by unfold maxLen; omega
      have z2 : (k + 1) * 16 ≤ 140737488355328 := by omega
      have hkT : k < (shapesT N).length := by rw [← HT.out]; exact hlt
      have hX := HAT.out k hkT
      have TN : Hid (sv ((shapesT N).take (k + 1)) = sv ((shapesT N).take k) ++ [.string ⟨((shapesT N)[k]).toArray⟩]) := by
        show _ = _
        rw [List.take_succ_eq_append_getElem hkT, ← sv_snoc]
      obtain ⟨X, hXe⟩ : ∃ X, X = (shapesT N)[k] := ⟨_, rfl⟩
      rw [← hXe] at hX TN
      obtain ⟨xo, hxo⟩ : ∃ xo : ByteArray, xo = ⟨X.toArray⟩ := ⟨_, rfl⟩
      rw [← hxo] at TN
      have hbl : ((treeOut (N : Int) (intsB (codeD N k))).length ≤ 1048576) ∧ (∀ r ∈ treeOut (N : Int) (intsB (codeD N k)), r.length ≤ 1048576) := by
        have h := treeOut_le (N : Int) (intsB (codeD N k))
        exact ⟨by omega, h.2⟩
      have hcl : (intsB (codeD N k)).length ≤ 1048576 := by unfold intsB; rw [List.length_map, codeD, codeK_len]; omega
      have CT := Lib.hid (fun (v : Value) (w : World) (B0 H0 : Nat) (hv : Hid (Own w B0 H0 3 v (iv (intsB (codeD N k))))) hH => treeOf_p (N : Int) (intsB (codeD N k)) v w B0 H0 hv hH hcl hwf)
      have CX := Lib.hid (fun (v : Value) (RV : List Value) (w : World) (B0 H0 : Nat) (hG : Hid (Grid w B0 H0 v RV (treeOut (N : Int) (intsB (codeD N k))))) hH => freeText_any (N : Int) (treeOut (N : Int) (intsB (codeD N k))) v RV w hG hH hbl.1 hbl.2 hwf)
      simp only [← hX, ← hxo] at CX
      obtain ⟨TR, hTR⟩ : ∃ TR, TR = treeOut (N : Int) (intsB (codeD N k)) := ⟨_, rfl⟩
      simp only [← hTR] at CX CT
      have CC := Lib.hid (fun w => codeAt_p N k h1 (by omega) (by omega) w)
      clear hX hXe hxo hbl hcl hTR hkT
      go_wp2_with fail
      refine (CC.out _).mono ?_
      rintro e w5 ⟨y5, rfl, o5, b5⟩
      have O5 := Lib.hid o5
      have B5 := Lib.hid (HB.out.trans (b5.mono sC.out))
      have R5 := Lib.hid (own_of_blocks HO.out (fun g hg => b5.block g (HO.out.lt g hg).2))
      have s5 := Lib.hid (Nat.le_trans sC.out b5.size)
      clear o5 b5 CC HO HB
      go_wp2_with fail
      refine (CT.out _ _ _ _ O5 (Nat.le_refl _)).mono ?_
      rintro e w6 ⟨y6, RV6, rfl, g6, b6⟩
      have G6 := Lib.hid g6.grid
      have B6 := Lib.hid (B5.out.trans (b6.mono s5.out))
      have R6 := Lib.hid (own_of_blocks R5.out (fun g hg => b6.block g (R5.out.lt g hg).2))
      have s6 := Lib.hid (Nat.le_trans s5.out b6.size)
      clear g6 b6 CT O5 B5 R5
      go_wp2_with fail
      refine (CX.out _ RV6 _ _ _ G6 (Nat.le_refl _)).mono ?_
      rintro e w7 ⟨rfl, b7⟩
      have B7 := Lib.hid (B6.out.trans (b7.mono s6.out))
      have R7 := Lib.hid (own_of_blocks R6.out (fun g hg => b7.block g (R6.out.lt g hg).2))
      have s7 := Lib.hid (Nat.le_trans s6.out b7.size)
      have Y3 : Hid (∀ o : Obj, C ≤ (w7.alloc o).heap.size) := fun o => by have := s7.out; rw [World.size_alloc]; omega
      clear b7 CX G6 B6 R6
      go_wp2_with (at_builtin; refine wpList_append_lies _ rfl (.tmp 16) (.tmp 24) 24 rfl C 9 i0 (.string ⟨#[]⟩) 1 16 Tryz.underlying24 hi hz0 hz1 hz2 rfl (by decide) _ k (sv ((shapesT N).take k)) rfl (R7.out.alloc _) ⟨w7.heap.size, 0, none⟩ 1 1 [.string xo] rfl rfl (cell_one_new _ _ _) (one_str _) (by decide) z1 z2 (Y3.out _) _ rfl ?_)
      intro g8 c8 w8 hv8 hg8 _ _
      have B8 : Hid (Below C w w8) := (B7.out.alloc s7.out _).grown hg8 (Y3.out _) (fun q hq => (R7.out.lt q hq).1)
      have O8 : Hid (w8.ownsRow C 9 1 (.slice (some ⟨g8, 0, none⟩) (k + 1) c8) (k + 1) (sv ((shapesT N).take (k + 1)))) := by
        show World.ownsRow _ _ _ _ _ _ _
        rw [TN.out]; exact hv8
      clear hv8 hg8 B7 R7 TN Y3
      go_wp2
      go_roundw
      case rel => exact ⟨k + 1, _, by omega, by go_num, rfl, O8, B8⟩
      case measure => simp [intOf]; omega
    · obtain rfl : k = t := by omega
      have HL := Lib.hid (show ((shapesT N).take k) = shapesT N by rw [HT.out, List.take_length])
      rw [HL.out] at HO
      obtain ⟨L, hL⟩ : ∃ L, L = shapesT N := ⟨_, rfl⟩
      rw [← hL] at HO HCP
      have HLk : Hid (L.length = k) := by show _ = _; rw [hL, ← HT.out]
      obtain ⟨M, hM⟩ : ∃ M, M = L.mergeSort fun x y => decide (x ≤ y) := ⟨_, rfl⟩
      rw [← hM] at HCP
      have HMl : Hid (M.length = k) := by show _ = _; rw [hM, List.length_mergeSort, HLk.out]
      rcases HO.out.2 with ⟨hnil, h0⟩ | ⟨g, cap, cur, hsl, hbase, hb, q1, q2, q3, q4⟩
      · omega
      · obtain rfl := hsl
        have hsv : sv L = L.map Go.Proofs.encStr := rfl
        have HH := holds_of_block hb (ss := L) (by rw [HLk.out]; simpa [hsv] using q4)
        have hlt2 : g < wr.heap.size := (Array.getElem?_eq_some_iff.1 hb).1
        have CS := Tryz.slices_Sort_string g 0 cap L wr HH hlt2 (by rw [HLk.out]; omega)
        rw [← hM, HLk.out] at CS
        have CS := Lib.hid CS
        have HRS : Hid (∀ (n : Nat) (os : Array Obj), (Sort.grow (Sort.putRow Go.Proofs.encStr (Sort.ahead wr n) g 0 M.toArray) os).ownsRow C 9 1 (.slice (some ⟨g, 0, none⟩) k cap) k (sv M) ∧ Below C w (Sort.grow (Sort.putRow Go.Proofs.encStr (Sort.ahead wr n) g 0 M.toArray) os)) := by
          intro n os
          have hln : M.length = L.length := by rw [HMl.out, HLk.out]
          have r1 := ownsRow_sorted (n := n) (os := os) (base := C) (cap := cap) hln hbase hb (by rw [HLk.out]; exact q1) q2 q3
          rw [HLk.out] at r1
          exact ⟨r1, HB.out.grown (grownBy_sorted (n := n) (os := os) _) sC.out (fun q hq => by cases hq; exact hbase)⟩
        clear HH hlt2 hb q1 q2 q3 q4 hbase HO hsv HL hM hL CN HT HB
        go_wp2_with (go_at_call 19; refine CS.out.mono ?_; rintro e w7 ⟨rfl, n7, os7, rfl⟩)
        have RS := HRS.out n7 os7
        obtain ⟨w8, hw8⟩ : ∃ w8, w8 = Sort.grow (Sort.putRow Go.Proofs.encStr (Sort.ahead wr n7) g 0 M.toArray) os7 := ⟨_, rfl⟩
        rw [← hw8] at RS ⊢
        clear hw8 HRS CS
        rcases RS.1.2 with ⟨hnil, h0⟩ | ⟨g', cap', cur', hsl, hbase, hb, q1, q2, q3, q4⟩
        · cases hnil
        · simp only [Value.slice.injEq, Option.some.injEq, Addr.mk.injEq, and_true] at hsl
          obtain ⟨rfl, _, rfl⟩ := hsl
          have hsv : sv M = M.map Go.Proofs.encStr := rfl
          have HH := holds_of_block hb (ss := M) (by rw [HMl.out]; simpa [hsv] using q4)
          have CP := Tryz.slices_Compact_string g 0 cap M w8 HH (by rw [HMl.out]; omega) (by rw [HMl.out]; omega)
          rw [HCP.out, HMl.out] at CP
          have hsk : S.length ≤ k := by
            rw [← HCP.out, ← HMl.out]; exact Lib.compact_length_le M
          obtain ⟨Z, hZ⟩ : ∃ Z, Z = S ++ List.replicate (k - S.length) [] := ⟨_, rfl⟩
          rw [← hZ] at CP
          have HZl : Z.length = k := by rw [hZ, List.length_append, List.length_replicate]; omega
          have HZt : Z.take S.length = S := by rw [hZ, List.take_left']; rfl
          have CP := Lib.hid CP
          have HRS : Hid (∀ (n : Nat), (Sort.putRow Go.Proofs.encStr (Sort.ahead w8 n) g 0 Z.toArray).ownsRow C 9 1 (.slice (some ⟨g, 0, none⟩) S.length cap) S.length (sv S) ∧ Below C w (Sort.putRow Go.Proofs.encStr (Sort.ahead w8 n) g 0 Z.toArray)) := by
            intro n
            have e0 : Sort.grow (Sort.putRow Go.Proofs.encStr (Sort.ahead w8 n) g 0 Z.toArray) #[] = Sort.putRow Go.Proofs.encStr (Sort.ahead w8 n) g 0 Z.toArray := by simp [Sort.grow]; rfl
            have hln : Z.length = M.length := by rw [HMl.out, HZl]
            have r1 := ownsRow_sorted (n := n) (os := #[]) (base := C) (cap := cap) hln hbase hb (by rw [HMl.out]; exact q1) q2 q3
            have r2 := grownBy_sorted (w := w8) (g := g) (n := n) (os := #[]) Z.toArray
            rw [e0] at r1 r2
            rw [HMl.out] at r1
            have r3 := own_prefix r1 hsk
            rw [show (Z.map Go.Proofs.encStr) = sv Z from rfl, sv_takeP, HZt] at r3
            exact ⟨r3, RS.2.grown r2 (by have := RS.2.size; rw [HC.out]; exact this) (fun q hq => by cases hq; exact hbase)⟩
          clear HH hb q1 q2 q3 q4 hbase hsv RS hZ HZl HZt HCP HMl
          go_wp2_with (go_at_call 20; refine CP.out.mono ?_; rintro e w9 ⟨rfl, n9, rfl⟩)
          have RT := HRS.out n9
          obtain ⟨w10, hw10⟩ : ∃ w10, w10 = Sort.putRow Go.Proofs.encStr (Sort.ahead w8 n9) g 0 Z.toArray := ⟨_, rfl⟩
          rw [← hw10] at RT ⊢
          clear hw10 HRS CP
          go_wp2
          go_ret
          rw [HC.out] at RT
          refine ⟨_, rfl, Own.of_own ?_, RT.2⟩
          rw [sv_length]
          exact RT.1
set_option maxHeartbeats 800000 in
theorem implShapes_any (n : Int) (w : World) (_hwf : (Lit.int .i64 n).wf = true) :
    Calls Tryz.prog 5 #[.int .i64 n] w (TextsOut (shapesW n) w) := by
  by_cases h : 1 ≤ n ∧ n ≤ 5
  · obtain ⟨k, rfl⟩ : ∃ k : Nat, n = (k : Int) := ⟨n.toNat, by omega⟩
    rw [shapesW, if_pos h]
    exact implShapes_yes k (by omega) (by omega) w
  · rw [shapesW, if_neg h]
    go_enter Tryz.func5, Tryz.ntmps5
    go_wp2
    all_goals first
      | (exfalso; omega)
      | (go_ret; exact noTexts _ _ (Below.refl _ _))
end Go.Proofs.YthlboikljibohaaGreat
