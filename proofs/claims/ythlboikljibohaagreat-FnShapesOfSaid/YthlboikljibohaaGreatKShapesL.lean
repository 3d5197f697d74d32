/-
  The walk of the law that shapes are counted by maps.
-/
import Derived.Test.YthlboikljibohaaGreatCShapeP
import Derived.Test.YthlboikljibohaaGreatCShapeS
import Derived.Test.YthlboikljibohaaGreatZSH
import Derived.Test.YthlboikljibohaaGreatZCA
import Derived.Test.YthlboikljibohaaGreatCFreeM
import Derived.Test.YthlboikljibohaaGreatZE
import Derived.Test.YthlboikljibohaaGreatZD
import Derived.Test.YthlboikljibohaaGreatZW
namespace Go.Proofs.YthlboikljibohaaGreat
open Go.RowKit

set_option maxHeartbeats 800000 in
theorem drawShapesOf (a : Option Addr) (len cap : Nat) (zs : List Int) (w : World) (hr : Hid (IsRow .u8 w a len cap zs)) (hl : len ≤ 1048576) :
    Calls Tryz.prog 4 #[.slice a len cap] w fun e w' => ∃ n : Nat, n ≤ 6 ∧ e = .returned (.int .i64 (n : Int)) ∧ Below w.heap.size w w' := by
  go_enter Tryz.func4, Tryz.ntmps4
  go_wp2_with fail
  refine (newReader_any a len cap zs w hr.out hl).mono ?_
  rintro e w1 ⟨n, R, rfl, h, hb⟩
  have hlow := h.low
  have l9 := lit_own w1 #[.int .i64 4, .int .i64 3, .int .i64 5, .int .i64 2, .int .i64 1, .int .i64 0, .int .i64 6] 3 (by decide)
  have L9 : Hid (Own (w1.alloc (.cells #[.int .i64 4, .int .i64 3, .int .i64 5, .int .i64 2, .int .i64 1, .int .i64 0, .int .i64 6] 3)) w1.heap.size (w1.heap.size + 1) 3 (.slice (some ⟨w1.heap.size, 0, none⟩) 7 7) (iv [4, 3, 5, 2, 1, 0, 6])) := l9
  have hbW : Below w1.heap.size w1 (w1.alloc (.cells #[.int .i64 4, .int .i64 3, .int .i64 5, .int .i64 2, .int .i64 1, .int .i64 0, .int .i64 6] 3)) := (Below.refl _ _).alloc (Nat.le_refl _) _
  have R1 := Lib.hid (h.grow hbW)
  have B1 := Lib.hid (hb.trans (hbW.mono hb.size))
  have hRl := h.lt
  have NE : Hid ((Value.slice (some ⟨w1.heap.size, 0, none⟩) 7 7).ownBlock ≠ some R) := by show _ ≠ _; simp [Value.ownBlock]; omega
  have OA := Lib.hid (one_any [4, 3, 5, 2, 1, 0, 6] _ w.heap.size R a n cap 0 _ R1 (by omega) L9 NE.out (by decide) (by decide))
  clear l9 hbW h hb hr
  go_wp2_with fail
  refine OA.out.mono ?_
  rintro e w2 ⟨y, hy, rfl, hrd, honly⟩
  obtain ⟨N, rfl, hN⟩ : ∃ N : Nat, y = N ∧ N ≤ 6 := by
    simp only [List.mem_cons, List.not_mem_nil, or_false] at hy
    exact ⟨y.toNat, by omega, by omega⟩
  have B2 := Lib.hid (B1.out.trans (honly.below hlow))
  clear hy hrd honly
  go_wp2
  go_ret
  exact ⟨N, hN, rfl, B2.out⟩

def sumT (N k : Nat) : Nat := ((mapsT N).take k).sum
theorem mapsT_len (N : Nat) : (mapsT N).length = N ^ (N - 2) := by simp [mapsT]
theorem sumT_next {N k : Nat} (hk : k < N ^ (N - 2)) : sumT N (k + 1) = sumT N k + mapsN N (treeN N (codeD N k)) := by
  have h : k < (mapsT N).length := by rw [mapsT_len]; exact hk
  unfold sumT
  rw [List.take_succ_eq_append_getElem h, List.sum_append]
  simp [mapsT]
theorem sumT_all (N : Nat) : sumT N (N ^ (N - 2)) = (mapsT N).sum := by unfold sumT; rw [← mapsT_len, List.take_length]
theorem asc_ascB' : ∀ (L : List (List UInt8)), Asc L → ascB L = true
  | [], _ => rfl
  | [_], _ => rfl
  | x :: y :: r, h => by
    have h1 := List.pairwise_cons.1 h
    rw [ascB, h1.1 y (by simp), asc_ascB' (y :: r) h1.2]
    rfl
/-- what the law asks of n nodes -/
theorem shapes_facts (n : Nat) (h1 : 1 ≤ n) (h5 : n ≤ 5) : ∃ (L : List (List UInt8)) (t : Nat) (s : Nat → Nat) (x : Nat → List UInt8) (m : Nat → Nat),
    shapesW (n : Int) = L ∧ 0 < L.length ∧ L.length ≤ 3 ∧ ascB L = true ∧ treesN (n : Int) = (t : Int) ∧ t ≤ 125 ∧ s 0 = 0 ∧ (∀ k, k < t → s (k + 1) = s k + m k) ∧ (∀ k, m k ≤ 5040) ∧ (∀ k, k ≤ t → s k ≤ k * 5040) ∧ s t = fct n * L.length ∧ fct n * L.length ≤ 100000 ∧
    (∀ k, k < t → x k ∈ L) ∧ (∀ k, freeOut (n : Int) (treeOut (n : Int) (intsB (codeD n k))) = x k) ∧ (∀ k, mapsOut (n : Int) (treeOut (n : Int) (intsB (codeD n k))) = (m k : Int)) := by
  have hL : shapesW (n : Int) = sortW (shapesT n) := by rw [shapesW, if_pos (by omega)]; rfl
  have hsh := shp_short n h1 h5
  have hm : ∀ k, mapsN n (treeN n (codeD n k)) ≤ 5040 := fun k => by
    obtain ⟨a, b⟩ := shp_out h1 (show n ≤ 7 by omega) k
    obtain ⟨_, _, hv⟩ := treeB_iff.1 a
    rw [b, Int.toNat_natCast] at hv
    exact (maps_pos hv (by omega)).2
  have hs : ∀ k, k ≤ n ^ (n - 2) → sumT n k ≤ k * 5040 := by
    intro k
    induction k with
    | zero => intro _; simp [sumT]
    | succ k ih =>
      intro hk
      rw [sumT_next (by omega)]
      have := ih (by omega)
      have := hm k
      omega
  have hfl := fct_le n (by omega)
  have hl3 : (sortW (shapesT n)).length ≤ 3 ∧ 0 < (sortW (shapesT n)).length := by rw [(shp_lists h1 h5).1]; exact hsh
  have hmul : fct n * (sortW (shapesT n)).length ≤ 5040 * 3 := Nat.mul_le_mul hfl hl3.1
  refine ⟨sortW (shapesT n), n ^ (n - 2), sumT n, fun k => freeT n (treeN n (codeD n k)), fun k => mapsN n (treeN n (codeD n k)), hL, hl3.2, hl3.1, asc_ascB' _ (asc_sortW _), ?_, ?_, by simp [sumT], fun k hk => sumT_next hk, hm, hs, ?_, by omega, ?_, fun k => shp_free h1 (by omega) k, fun k => shp_maps h1 (by omega) k⟩
  · rw [treesN, if_pos (by omega), Int.toNat_natCast]
  · have := (shapes_len h1 h5).2
    rwa [shapesT_len] at this
  · rw [sumT_all, sum_shapes h1 h5]
  · intro k hk
    rw [mem_sortW]
    exact List.mem_map.2 ⟨k, List.mem_range.2 hk, rfl⟩
theorem shapes_none {n : Nat} (h : ¬ (1 ≤ n ∧ n ≤ 5)) : shapesW (n : Int) = [] := by rw [shapesW, if_neg (by omega)]

set_option maxHeartbeats 3200000 in
set_option maxRecDepth 100000 in
theorem shapesOf_law (a : Option Addr) (len cap : Nat) (zs : List Int) (w : World) (hr0 : IsRow .u8 w a len cap zs) :
    Calls Tryz.prog 3 #[.slice a len cap] w fun e w' => e = .returned (.bool true) ∧ Below w.heap.size w w' := by
  have hr := Lib.hid hr0
  clear hr0
  by_cases hbig : (1048576 : Int) < (len : Int)
  · go_enter Tryz.func3, Tryz.ntmps3
    go_wp2
    go_ret
    exact ⟨rfl, Below.refl _ _⟩
  · go_enter Tryz.func3, Tryz.ntmps3
    go_wp2_with fail
    refine (drawShapesOf a len cap zs w hr (by omega)).mono ?_
    rintro e w1 ⟨n, hn6, rfl, b1⟩
    have hwf : (Lit.int .i64 (n : Int)).wf = true := wf_smallC (n : Int) (by omega)
    have B1 := Lib.hid b1
    have s01 := b1.size
    have CP := Lib.hid (fun (w : World) => implShapes_any (n : Int) w hwf)
    have CS := Lib.hid (fun (w : World) => specShapes_any (n : Int) w)
    have hSl := shapesW_length (n : Int)
    have HF : Hid (shapesW (n : Int) = [] ∨ (1 ≤ n ∧ n ≤ 5)) := by
      show _ ∨ _
      by_cases h : 1 ≤ n ∧ n ≤ 5
      · exact .inr h
      · exact .inl (shapes_none h)
    have HFF := Lib.hid (shapes_facts n)
    obtain ⟨S, hS⟩ : ∃ S, S = shapesW (n : Int) := ⟨_, rfl⟩
    simp only [← hS] at CP CS hSl HF HFF
    have HSL := Lib.hid hSl
    clear hS b1 hr hSl
    go_wp2_with fail
    refine (CP.out _).mono ?_
    rintro e w2 ⟨v2, rfl, o2, b2⟩
    have O2 := Lib.hid o2
    have B2 := Lib.hid (B1.out.trans (b2.mono s01))
    clear o2 b2
    go_wp2_with fail
    refine (CS.out _).mono ?_
    rintro e w3 ⟨v3, rfl, o3, b3⟩
    have O23 := Lib.hid (O2.out.below b3)
    have O3 := Lib.hid o3
    have B3 := Lib.hid (B2.out.trans (b3.mono B2.out.size))
    have z23 := Lib.hid b3.size
    clear o3 b3
    go_wp2_with fail
    refine (equalTexts_yes S _ _ _ O23 O3 (by have := HSL.out; omega)).mono ?_
    rintro e w4 ⟨rfl, s4⟩
    have O4 := Lib.hid (O23.out.same s4.1)
    have B4 := Lib.hid (B3.out.trans (s4.below w.heap.size))
    have z24 := Lib.hid (show w2.heap.size ≤ w4.heap.size by rw [s4.1]; exact z23.out)
    clear s4 O2 O23 O3
    obtain ⟨a2, c2, rfl, _⟩ := O4.out.slice
    rw [sv_length] at O4 ⊢
    rcases HF.out with rfl | ⟨h1, h5⟩
    · clear HF HFF HSL
      go_wp2_with fail
      refine (CS.out _).mono ?_
      rintro e w5 ⟨v5, rfl, o5, b5⟩
      have O5 := Lib.hid o5
      have O45 := Lib.hid (O4.out.below (b5.mono z24.out))
      have B5 := Lib.hid (B4.out.trans (b5.mono B4.out.size))
      clear o5 b5
      go_wp2_with fail
      refine (equalTexts_yes [] _ _ _ O45 O5 (by simp)).mono ?_
      rintro e w6 ⟨rfl, s6⟩
      have B6 := Lib.hid (B5.out.trans (s6.below w.heap.size))
      clear s6
      go_wp2
      go_ret
      exact ⟨rfl, B6.out⟩
    · obtain ⟨L, t, s, x, m, rfl, hL0, hL3, hasc, htn, ht, hs0, hsn, hmx, hsk, hst, hfl, hmem, hfo, hmo⟩ := HFF.out h1 h5
      have CN := Lib.hid (fun w => countTrees_p (n : Int) w hwf)
      rw [htn] at CN
      have C8 := Lib.hid (fun w => factorial_any n w (by omega))
      have hl0 : ((S.length : Int) == 0) = false := by rw [beq_eq_false_iff_ne]; omega
      have HSN := Lib.hid hsn
      have HMX := Lib.hid hmx
      have HSK := Lib.hid hsk
      have HST := Lib.hid hst
      have HFL := Lib.hid hfl
      have HMEM := Lib.hid hmem
      have HFO := Lib.hid hfo
      have HMO := Lib.hid hmo
      have HAS := Lib.hid hasc
      have S0 : Hid (0 = s 0) := hs0.symm
      have RB : Hid (Below w4.heap.size w4 w4) := Below.refl _ _
      have z4 := Lib.hid B4.out.size
      clear HF HFF hsn hmx hsk hst hfl hmem hfo hmo htn hasc hs0 CS CP hL3
      go_wp2_with fail
      go_loopw [5, 6] (fun e5 e6 wr => ∃ (j q : Nat), j ≤ t ∧ e6 = .int .i64 (j : Int) ∧ e5 = .int .i64 (q : Int) ∧ Hid (q = s j) ∧ Hid (Below w4.heap.size w4 wr)) (fun _ e6 _ => t - (intOf e6).toNat)
      case atStart => exact ⟨0, 0, Nat.zero_le _, rfl, rfl, S0, RB⟩
      case round =>
        clear S0 RB
        obtain ⟨j, q, hj, rfl, rfl, HQ, HB⟩ := hrel
        have OW := Lib.hid (O4.out.below (HB.out.mono z24.out))
        go_wp2_with fail
        refine (CN.out _).mono ?_
        rintro e w5 ⟨rfl, rfl⟩
        by_cases hlt : j < t
        · have b1 : (j : Int) < (t : Int) := by omega
          have hX := HFO.out j
          have hM := HMO.out j
          have hm5 := HMX.out j
          have hq := HSK.out j hj
          rw [← HQ.out] at hq
          have hqm : q ≤ 125 * 5040 := Nat.le_trans hq (Nat.mul_le_mul_right _ (by omega))
          have HQ2 := HSN.out j hlt
          have HIN := HMEM.out j hlt
          rw [← HQ.out] at HQ2
          have HQ2 := Lib.hid HQ2
          obtain ⟨X, hXe⟩ : ∃ X, X = x j := ⟨_, rfl⟩
          obtain ⟨M, hMe⟩ : ∃ M, M = m j := ⟨_, rfl⟩
          rw [← hXe] at hX HIN
          rw [← hMe] at hM hm5 HQ2
          obtain ⟨xo, hxo⟩ : ∃ xo : ByteArray, xo = ⟨X.toArray⟩ := ⟨_, rfl⟩
          have hin : decide (xo.data.toList ∈ S) = true := by rw [show xo.data.toList = X by rw [hxo]]; exact decide_eq_true HIN
          have HIN := Lib.hid hin
          have hbl : ((treeOut (n : Int) (intsB (codeD n j))).length ≤ 1048576) ∧ (∀ r ∈ treeOut (n : Int) (intsB (codeD n j)), r.length ≤ 1048576) := by
            have h := treeOut_le (n : Int) (intsB (codeD n j))
            exact ⟨by omega, h.2⟩
          have hcl : (intsB (codeD n j)).length ≤ 1048576 := by unfold intsB; rw [List.length_map, codeD, codeK_len]; omega
          have CT := Lib.hid (fun (v : Value) (w : World) (B0 H0 : Nat) (hv : Hid (Own w B0 H0 3 v (iv (intsB (codeD n j))))) hH => treeOf_p (n : Int) (intsB (codeD n j)) v w B0 H0 hv hH hcl hwf)
          have CX := Lib.hid (fun (v : Value) (RV : List Value) (w : World) (B0 H0 : Nat) (hG : Hid (Grid w B0 H0 v RV (treeOut (n : Int) (intsB (codeD n j))))) hH => freeText_any (n : Int) (treeOut (n : Int) (intsB (codeD n j))) v RV w hG hH hbl.1 hbl.2 hwf)
          have CM := Lib.hid (fun (v : Value) (RV : List Value) (w : World) (B0 H0 : Nat) (hG : Hid (Grid w B0 H0 v RV (treeOut (n : Int) (intsB (codeD n j))))) hH => selfMaps_any (n : Int) (treeOut (n : Int) (intsB (codeD n j))) v RV w hG hH hbl.1 hbl.2 hwf)
          simp only [hX, ← hxo] at CX
          simp only [hM] at CM
          obtain ⟨TR, hTR⟩ : ∃ TR, TR = treeOut (n : Int) (intsB (codeD n j)) := ⟨_, rfl⟩
          simp only [← hTR] at CX CT CM
          have CC := Lib.hid (fun w => lawCodeAt_any n j h1 (by omega) (by omega) w)
          have e1 : IntKind.i64.wrap ((q : Int) + (M : Int)) = ((q + M : Nat) : Int) := by rw [IntKind.wrap_i64]; omega
          clear hX hXe hM hMe hxo hbl hcl hTR hin hq hqm hm5
          go_wp2_with fail
          refine (CC.out _).mono ?_
          rintro e w5 ⟨y5, rfl, o5, b5⟩
          have O5 := Lib.hid o5
          have B5 := Lib.hid (HB.out.trans (b5.mono HB.out.size))
          clear o5 b5 CC
          go_wp2_with fail
          refine (CT.out _ _ _ _ O5 (Nat.le_refl _)).mono ?_
          rintro e w6 ⟨y6, RV6, rfl, g6, b6⟩
          have G6 := Lib.hid g6.grid
          have B6 := Lib.hid (B5.out.trans (b6.mono B5.out.size))
          obtain ⟨a6, c6, rfl, _⟩ := g6.grid.1.slice
          clear g6 b6 CT O5 B5
          go_wp2_with fail
          refine (CM.out _ RV6 _ _ _ G6 (Nat.le_refl _)).mono ?_
          rintro e w7 ⟨rfl, b7⟩
          have G7 := Lib.hid (G6.out.below b7)
          have B7 := Lib.hid (B6.out.trans (b7.mono B6.out.size))
          have z67 := Lib.hid b7.size
          clear b7 CM G6 B6
          go_wp2_with fail
          refine (CX.out _ RV6 _ _ _ G7 z67.out).mono ?_
          rintro e w8 ⟨rfl, b8⟩
          have B8 := Lib.hid (B7.out.trans (b8.mono B7.out.size))
          have O8 := Lib.hid (O4.out.below (B8.out.mono z24.out))
          have CI := Lib.hid (inTexts_any S _ xo w8 O8 (by have := HSL.out; omega))
          rw [HIN.out] at CI
          clear b8 CX G7 B7 z67
          go_wp2_with fail
          refine CI.out.mono ?_
          rintro e w9 ⟨rfl, rfl⟩
          clear CI HB
          go_wp2
          go_roundw
          case rel => exact ⟨j + 1, q + M, by omega, by go_num, by first | rfl | rw [e1], by show _ = _; rw [HQ2.out], B8⟩
          case measure => simp [intOf]; omega
        · obtain rfl : j = t := by omega
          have b1 : ¬ (j : Int) < (j : Int) := by omega
          have hqf : q = fct n * S.length := by rw [HQ.out, HST.out]
          have hfl2 := HFL.out
          obtain ⟨f, hf⟩ : ∃ f, f = fct n := ⟨_, rfl⟩
          rw [← hf] at hqf hfl2
          simp only [← hf] at C8
          obtain ⟨sl, hsl⟩ : ∃ sl, sl = S.length := ⟨_, rfl⟩
          have e1 : IntKind.i64.wrap ((f : Int) * (S.length : Int)) = (q : Int) := by
            rw [show (f : Int) * (S.length : Int) = ((f * S.length : Nat) : Int) by push_cast; rfl, ← hqf, IntKind.wrap_i64]; omega
          have CA := Lib.hid (ascend_yes S _ wr OW (by have := HSL.out; omega) HAS.out)
          have BB := Lib.hid (B4.out.trans (HB.out.mono z4.out))
          clear hf hqf hfl2 hsl HB
          go_wp2_with fail
          refine (C8.out _).mono ?_
          rintro e w7 ⟨rfl, rfl⟩
          go_wp2_with fail
          refine CA.out.mono ?_
          rintro e w8 ⟨rfl, s8⟩
          have B8 := Lib.hid (BB.out.trans (s8.below w.heap.size))
          clear s8
          go_wp2
          go_ret
          exact ⟨by first | rfl | simp, B8.out⟩
end Go.Proofs.YthlboikljibohaaGreat
