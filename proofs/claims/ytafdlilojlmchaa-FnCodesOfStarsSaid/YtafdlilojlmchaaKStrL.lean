/-
  The walk of the law of codes of stars, with the program's functions as premises.
-/
import Derived.Test.YtafdlilojlmchaaKCodL
namespace Go.Proofs.Ytafdlilojlmchaa
open Go.RowKit

set_option maxHeartbeats 12800000 in
set_option maxRecDepth 100000 in
theorem fnCodesOfStars_law (HS : Hid (CodeFn 17)) (PM : TreeFn 21 (treeV leastN)) (PW : TreeFn 11 (treeV waysN)) (PS : TreeFn 10 mapsOut) (PC : TreesFn 19 centsOut) (PD : TreesFn 14 degOut) (a : Option Addr) (len cap : Nat) (zs : List Int) (w : World) (hr0 : IsRow .u8 w a len cap zs) :
    Calls Try.prog 4 #[.slice a len cap] w fun e w' => e = .returned (.bool true) ∧ Below w.heap.size w w' := by
  have hr := Lib.hid hr0
  clear hr0
  obtain ⟨i0, hI0, hz0, hz1, hz2⟩ := info_parts Try.infoIntR
  by_cases hbig : (1048576 : Int) < (len : Int)
  · go_enter Try.func4, Try.ntmps4
    go_wp2
    go_ret
    exact ⟨rfl, Below.refl _ _⟩
  · go_enter Try.func4, Try.ntmps4
    go_wp2_with fail
    refine (drawTreeOf a len cap zs w hr (by omega)).mono ?_
    rintro e w1 ⟨n, l, v, rfl, o1, hn, hl, b1⟩
    have hwf : (Lit.int .i64 n).wf = true := wf_smallC n (by omega)
    have O1 := Lib.hid o1
    have B1 := Lib.hid b1
    have CT := Lib.hid (fun (v : Value) (w : World) (B0 H0 : Nat) (hv : Hid (Own w B0 H0 3 v (iv l))) hH => HS.out n l v w B0 H0 hv hH (by omega) hwf)
    have CS := Lib.hid (fun (v : Value) (w : World) (B0 H0 : Nat) (hv : Hid (Own w B0 H0 3 v (iv l))) hH => specTreeOf_any n l v w hv hH (by omega))
    obtain ⟨hrl, hrs⟩ := treeOut_le n l
    have HRS := Lib.hid hrs
    have HTW := Lib.hid (treeOut_two (n := n) (l := l))
    obtain ⟨rows, hle⟩ : ∃ rows, rows = treeOut n l := ⟨_, rfl⟩
    rw [← hle] at hrl HRS HTW
    simp only [← hle] at CT CS
    obtain ⟨av, cv, rfl, _, _, _, _⟩ := o1.slice
    have HLL : Hid ((iv l).length = l.length) := iv_length l
    obtain ⟨m, hm⟩ : ∃ m, m = (iv l).length := ⟨_, rfl⟩
    rw [← hm] at O1 HLL ⊢
    have s01 := b1.size
    clear o1 b1 hr hrs hle hm
    go_wp2_with fail
    refine (CT.out _ w1 _ _ O1 (Nat.le_refl _)).mono ?_
    rintro e w2 ⟨v2, RV2, rfl, g2, b2⟩
    have O2 := Lib.hid (O1.out.below b2)
    have B2 := Lib.hid (B1.out.trans (b2.mono s01))
    have G2 := Lib.hid g2.grid
    have s12 := b2.size
    clear b2 g2
    go_wp2_with fail
    refine (CS.out _ w2 _ _ O2 s12).mono ?_
    rintro e w3 ⟨v3, RV3, rfl, g3, b3⟩
    have O3 := Lib.hid (O2.out.below (b3.mono s12))
    have B3 := Lib.hid (B2.out.trans (b3.mono (by omega)))
    have G23 := Lib.hid (G2.out.below b3)
    have G3 := Lib.hid g3
    have s23 := b3.size
    clear b3 g3 O2 B2 G2
    go_wp2_with fail
    refine (equalRows_yes rows v2 v3 w3 G23 G3 (by omega) HRS.out).mono ?_
    rintro e w4 ⟨rfl, t4⟩
    have z4 : w4.heap.size = w3.heap.size := by rw [t4.1]
    have B4 := Lib.hid (B3.out.trans (t4.below _))
    have O4 := Lib.hid (O3.out.same t4.1)
    have s14 : w1.heap.size ≤ w4.heap.size := by omega
    clear t4 z4 G3 B3 O3 G23 s23
    go_wp2_with fail
    refine (CT.out _ w4 _ _ O4 s14).mono ?_
    rintro e w5 ⟨v5, RV5, rfl, g5, b5⟩
    have O5 := Lib.hid (O4.out.below (b5.mono s14))
    have B5 := Lib.hid (B4.out.trans (b5.mono (by omega)))
    have s15 : w1.heap.size ≤ w5.heap.size := by have := b5.size; omega
    obtain ⟨a5, c5, rfl, h5⟩ := g5.shape
    obtain ⟨k5, hk5⟩ : ∃ k5, k5 = rows.length := ⟨_, rfl⟩
    rw [← hk5] at HTW hrl ⊢
    clear b5 g5 B4 O4 CS CT hk5 h5 RV5
    by_cases h2 : k5 < 2
    · have q0 : (k5 : Int) < 2 := by omega
      clear HTW
      go_wp2
      go_ret
      exact ⟨rfl, B5.out⟩
    · have q0 : ¬ (k5 : Int) < 2 := by omega
      obtain ⟨k, hk, hnk, hmem, hlen⟩ := HTW.out (by omega)
      obtain ⟨N, hN⟩ : ∃ N : Nat, N = k + 3 := ⟨_, rfl⟩
      rw [← hN] at hnk
      subst hnk
      have HN := Lib.hid hN
      have W0 : Hid (w1.heap.size ≤ w5.heap.size ∧ w.heap.size ≤ w5.heap.size) := ⟨s15, by omega⟩
      have HM : Hid (m = k + 1) := by show _ = _; rw [HLL.out, hlen]
      clear HTW h2 O1 HRS hrl
      have O5r := Lib.hid (fun (W : World) (hW : Below w5.heap.size w5 W) => O5.out.below (hW.mono s15))
      obtain ⟨c0, hc0, hcl⟩ : ∃ c0 : Nat, c0 < k + 3 ∧ l[0]? = some (c0 : Int) := by
        obtain ⟨x, r, hx⟩ : ∃ x r, l = x :: r := by
          cases l with
          | nil => simp at hlen
          | cons x r => exact ⟨x, r, rfl⟩
        have h1 := hmem x (by rw [hx]; simp)
        exact ⟨x.toNat, by omega, by rw [hx]; simp; omega⟩
      have hmk := HM.out
      have LC : Hid (∀ W, Below w5.heap.size w5 W → ∃ ga, av = some ⟨ga, 0, none⟩ ∧ W.cell? ⟨ga, 0, none⟩ = some (.int .i64 (c0 : Int))) := fun W hW => by
        obtain ⟨ga, e1, _, _, h1, _⟩ := (O5r.out W hW).at_ 0 (by rw [iv_length]; omega)
        refine ⟨ga, e1, ?_⟩
        rw [h1]
        show (l.map _)[0]? = _
        rw [List.getElem?_map, hcl]
        rfl
      have HWF := Lib.hid hwf
      clear hmem hlen HLL hcl hmk O5r hwf hn hl hN
      obtain ⟨B, hB⟩ : ∃ B, B = w5.heap.size := ⟨_, rfl⟩
      have I0 : Hid (Ils w5 (w5.alloc (.cells #[] 3)) B w5.heap.size 0 0 (List.replicate 0 c0)) := ⟨rfl, by rw [hB]; exact World.ownsRow_lit (base := w5.heap.size) (e := 3) (size := 1) w5 #[] 0 (Nat.le_refl _) (by unfold maxLen; omega) rfl, (Below.refl _ _).alloc (by omega) _⟩
      rw [← hB] at I0
      have SB : Hid (B = w5.heap.size) := hB
      go_wp2_with fail
      rw [← hB]
      clear hB
      go_loopw [6, 7] (fun rr ii wr => ∃ (i g c : Nat), i ≤ k + 1 ∧ ii = .int .i64 (i : Int) ∧ rr = .slice (some ⟨g, 0, none⟩) i c ∧ Hid (Ils w5 wr B g i c (List.replicate i c0))) (fun _ ii _ => k + 1 - (intOf ii).toNat)
      case atStart => exact ⟨0, B, 0, Nat.zero_le _, rfl, rfl, I0⟩
      case round =>
        clear I0
        obtain ⟨i, g, c, hi, rfl, rfl, HI⟩ := hrel
        have SI : Hid (B ≤ wr.heap.size) := by have := HI.out.below.size; show B ≤ _; rw [SB.out]; exact this
        have BWr : Hid (Below w5.heap.size w5 wr) := by have := HI.out.below; show Below _ _ _; rw [← SB.out]; exact this
        have hN3 := HN.out
        have e0 : IntKind.i64.wrap ((N : Int) - 2) = ((k + 1 : Nat) : Int) := by rw [IntKind.wrap_i64]; omega
        clear hN3
        by_cases hlt : i < k + 1
        · have b1 : (i : Int) < ((k + 1 : Nat) : Int) := by omega
          have y1 : i + 1 ≤ maxLen := by unfold maxLen; omega
          have y2 : (i + 1) * 8 ≤ 140737488355328 := by omega
          obtain ⟨ga, rfl, d0⟩ := LC.out wr BWr.out
          have hm1 : 0 < m := by have := HM.out; omega
          have OW := Lib.hid HI.out.own
          have ILN := Lib.hid (fun k => HI.out.drewN k)
          have CON := Lib.hid (cell_one_new wr (.int .i64 (c0 : Int)) 3)
          have RS : Hid (List.replicate (i + 1) c0 = List.replicate i c0 ++ [c0]) := by show _ = _; rw [List.replicate_succ']
          clear HI
          have Y3 := Lib.hid (show B ≤ (wr.alloc (.cells #[.int .i64 (c0 : Int)] 3)).heap.size by have := SI.out; rw [World.size_alloc]; omega)
          have OW2 := Lib.hid (OW.out.alloc (.cells #[.int .i64 (c0 : Int)] 3))
          go_wp2_with (at_builtin; refine wpList_append_lies _ rfl _ _ 30 rfl B 3 i0 (.int .i64 0) 1 8 Try.underlying30 hI0 hz0 hz1 hz2 rfl (Nat.succ_pos 0) (.slice (some ⟨g, 0, none⟩) i c) i (ints (List.replicate i c0)) rfl OW2.out ⟨wr.heap.size, 0, none⟩ 1 1 [.int .i64 (c0 : Int)] rfl rfl CON.out (one_intR _) (Nat.succ_pos 0) y1 y2 Y3.out _ rfl ?_)
          intro g5 c5 w7 hv7 hg7 _ _
          have I7 := Lib.hid (Ils.app (ILN.out 0) SI.out hv7 hg7)
          rw [← RS.out] at I7
          clear hv7 hg7 OW OW2 Y3 CON
          go_wp2
          go_roundw
          case rel => exact ⟨i + 1, g5, c5, by omega, by go_num, rfl, I7⟩
          case measure => simp [intOf]; omega
        · obtain rfl : i = k + 1 := by omega
          have hWF := HWF.out
          have hle := treeOut_le ((k + 3 : Nat) : Int) (starC (k + 3) c0)
          obtain ⟨f1, f2, f3⟩ := starC_tree k hk c0 hc0
          have f4 := starC_ways k hk c0 hc0
          have f5 := starC_least k hk c0 hc0
          have f6 := starC_maps k hk c0 hc0
          have e7 : ([2, 6, 24, 120, 720].getD k 0 : Nat) = fct (k + 2) := by
            rcases (show k = 0 ∨ k = 1 ∨ k = 2 ∨ k = 3 ∨ k = 4 by omega) with rfl | rfl | rfl | rfl | rfl <;> rfl
          rw [e7] at f6
          obtain ⟨R, hR⟩ : ∃ R, R = starR k c0 := ⟨_, rfl⟩
          have hR2 : R = treeOut ((k + 3 : Nat) : Int) (starC (k + 3) c0) := hR
          rw [← hR2] at hle
          rw [← hR] at f1 f2 f3 f4 f5 f6
          have hN3 : k + 3 = N := HN.out.symm
          rw [hN3] at hR2 f1 f2 f3 f4 f5 f6
          have OR : Hid (Own wr B wr.heap.size 3 (.slice (some ⟨g, 0, none⟩) (k + 1) c) (iv (starC N c0))) := by
            refine Own.of_own ?_
            rw [← hN3, show iv (starC (k + 3) c0) = ints (List.replicate (k + 1) c0) by simp [starC, iv, ints], show (ints (List.replicate (k + 1) c0)).length = k + 1 by simp [ints]]
            exact HI.out.own
          have CR := Lib.hid (HS.out (N : Int) (starC N c0) _ wr _ _ OR (Nat.le_refl _) (by simp [starC]; omega) hWF)
          rw [← hR2] at CR
          have CP := PM.at_ (n := (N : Int)) (rows := R) (Nat.le_trans hle.1 (by decide)) hle.2 hWF
          have CW := PW.at_ (n := (N : Int)) (rows := R) (Nat.le_trans hle.1 (by decide)) hle.2 hWF
          have CM := PS.at_ (n := (N : Int)) (rows := R) (Nat.le_trans hle.1 (by decide)) hle.2 hWF
          have CC := Lib.hid (fun (v : Value) (RV : List Value) (w : World) (B0 H0 : Nat) (hG : Hid (Grid w B0 H0 v RV R)) hH => PC (N : Int) R v RV w B0 H0 hG hH (Nat.le_trans hle.1 (by decide)) hle.2 hWF)
          have CD := Lib.hid (fun (v : Value) (RV : List Value) (w : World) (B0 H0 : Nat) (hG : Hid (Grid w B0 H0 v RV R)) hH => PD (N : Int) R v RV w B0 H0 hG hH (Nat.le_trans hle.1 (by decide)) hle.2 hWF)
          rw [f5] at CP
          rw [f4] at CW
          rw [f6] at CM
          simp only [f1] at CC
          obtain ⟨q, hq⟩ : ∃ q, q = (k + 2) * (k + 2) := ⟨_, rfl⟩
          rw [← hq] at CW
          obtain ⟨u, hu⟩ : ∃ u, u = k + 2 := ⟨_, rfl⟩
          rw [← hu] at CM f2
          have hu7 : u ≤ 6 := by omega
          have CF := Lib.hid (fun W => factorial_any u W (by omega))
          obtain ⟨ft, hft⟩ : ∃ ft, ft = fct u := ⟨_, rfl⟩
          rw [← hft] at CF CM
          obtain ⟨L, hL⟩ : ∃ L, L = degOut (N : Int) R := ⟨_, rfl⟩
          rw [← hL] at f2 f3
          simp only [← hL] at CD
          have F2 := Lib.hid f2
          have F3 := Lib.hid f3
          have e1 : IntKind.i64.wrap ((N : Int) - 1) = (u : Int) := by rw [IntKind.wrap_i64]; omega
          have e2 : IntKind.i64.wrap ((u : Int) * (u : Int)) = (q : Int) := by
            rcases (show k = 0 ∨ k = 1 ∨ k = 2 ∨ k = 3 ∨ k = 4 by omega) with h | h | h | h | h <;> (rw [hu, hq, h]; decide)
          have BW : Hid (Below w.heap.size w wr) := B5.out.trans (HI.out.below.mono (by have := W0.out.2; show w.heap.size ≤ B; rw [SB.out]; exact this))
          have SW : Hid (w.heap.size ≤ wr.heap.size) := by have := W0.out.2; have := SI.out; have := SB.out; show _ ≤ _; omega
          have HCN : Hid (c0 < N) := by show c0 < N; omega
          have LC2 : Hid (∀ W, Below wr.heap.size wr W → ∃ ga, av = some ⟨ga, 0, none⟩ ∧ W.cell? ⟨ga, 0, none⟩ = some (.int .i64 (c0 : Int))) := fun W hW => LC.out W (BWr.out.trans (hW.mono BWr.out.size))
          obtain ⟨ga, rfl, _⟩ := LC2.out wr (Below.refl _ _)
          have LC3 : Hid (∀ W, Below wr.heap.size wr W → W.cell? ⟨ga, 0, none⟩ = some (.int .i64 (c0 : Int))) := fun W hW => by
            obtain ⟨ga', e, h⟩ := LC2.out W hW
            simp only [Option.some.injEq, Addr.mk.injEq] at e
            rw [e.1]; exact h
          have hm1 : 0 < m := by have := HM.out; omega
          clear HI SI SB OR f1 f2 f3 f4 f5 f6 hle hR hR2 hN3 hk hq hu hft hL HN HM HWF hWF B5 W0 HS PM PW PS PC PD LC LC2 BWr hc0 e7
          go_wp2_with fail
          refine CR.out.mono ?_
          rintro e w6 ⟨v6, RV6, rfl, g6, b6⟩
          have G6 := Lib.hid g6.grid
          have B6 := Lib.hid (BW.out.trans (b6.mono SW.out))
          have S6 : Hid (w.heap.size ≤ w6.heap.size) := Nat.le_trans SW.out b6.size
          have LC6 : Hid (∀ W, Below w6.heap.size w6 W → W.cell? ⟨ga, 0, none⟩ = some (.int .i64 (c0 : Int))) := fun W hW => LC3.out W (b6.trans (hW.mono b6.size))
          have KS : Hid (∀ W, Below w6.heap.size w6 W → (Below w6.heap.size w6 W ∧ W.cell? ⟨ga, 0, none⟩ = some (.int .i64 (c0 : Int)))) := fun W h => ⟨h, LC6.out W h⟩
          have CC1 := Lib.hid (fun (W : World) (hW : Below w6.heap.size w6 W) => CC.out v6 RV6 W _ _ (Lib.hid (G6.out.below hW)) hW.size)
          clear g6 b6 CR BW SW LC3 CC
          have d0 := LC6.out w6 (Below.refl _ _)
          have hB0 : Below w6.heap.size w6 w6 := Below.refl _ _
          go_wp2_with fail
          have CP1 := Lib.hid (fun (W : World) (hW : Below w6.heap.size w6 W) => CP.out v6 RV6 W _ _ (Lib.hid (G6.out.below hW)) hW.size)
          have CW1 := Lib.hid (fun (W : World) (hW : Below w6.heap.size w6 W) => CW.out v6 RV6 W _ _ (Lib.hid (G6.out.below hW)) hW.size)
          have CM1 := Lib.hid (fun (W : World) (hW : Below w6.heap.size w6 W) => CM.out v6 RV6 W _ _ (Lib.hid (G6.out.below hW)) hW.size)
          have hcN := HCN.out
          have hF2 := F2.out
          have hF3 := F3.out
          have CD1 : Hid (∀ W : World, Below w6.heap.size w6 W → Calls Try.prog 14 #[.int .i64 (N : Int), v6] W fun e w' => ∃ g c, e = .returned (.slice (some ⟨g, 0, none⟩) N c) ∧ Below W.heap.size W w' ∧ w'.cell? ⟨g, c0, none⟩ = some (.int .i64 (u : Int))) := fun W hW => by
            refine (CD.out v6 RV6 W _ _ (Lib.hid (G6.out.below hW)) hW.size).mono ?_
            rintro e w' ⟨v, rfl, o, b⟩
            obtain ⟨av, cv, rfl, _, _, _, _⟩ := o.slice
            obtain ⟨g, e1, _, _, h1, _⟩ := o.at_ c0 (by rw [iv_length, hF3]; exact hcN)
            rw [iv_length, hF3]
            subst e1
            refine ⟨g, cv, rfl, b, ?_⟩
            rw [h1]
            show (L.map _)[c0]? = _
            rw [List.getElem?_map, hF2]
            rfl
          have z1 : ((c0 : Int) < (N : Int)) := by omega
          have z0 : (0 : Int) ≤ (c0 : Int) := by omega
          clear CP CW CM CD F2 F3 HCN O5 e0 hcN hF2 hF3 B1 s01 s12 s14 s15 i0 hI0 hz0 hz1 hz2 LC6 hu7 hlt hi
          rename_i kA aA kB aB
          clear aA
          refine wp_region_held_drew (S := fun w' => Below w6.heap.size w6 w' ∧ w'.cell? ⟨ga, 0, none⟩ = some (.int .i64 (c0 : Int))) (by kernel_rfl) (KS.out _ (Below.drew hB0)) (fun hHeld => ?_)
          refine wpAnyH_take (i := 0) (oi := _) (v := ?_) rfl (by kernel_rfl) (by kernel_rfl) (by kernel_rfl) (fun _ _ _ h => h) (Or.inl ⟨by rfl, ?_⟩) (by assumption) ?_
          rotate_left 1
          focus
            intro wq hSw
            (try dsimp only at hSw)
            obtain ⟨_, hSc⟩ := hSw
            go_simp
            try (with_reducible rfl)
          simp only [List.getElem_toArray, List.getElem_cons_zero, Act.put, List.setIfInBounds_toArray, List.set_cons_zero, List.set_cons_succ]
          refine wpAnyH_take (i := 1) (oi := _) (v := ?_) rfl (by kernel_rfl) (by kernel_rfl) (by kernel_rfl) (fun _ _ _ h => h) (Or.inl ⟨by rfl, ?_⟩) (by assumption) ?_
          rotate_left 1
          focus
            intro wq hSw
            (try dsimp only at hSw)
            obtain ⟨_, hSc⟩ := hSw
            go_simp
            try (with_reducible rfl)
          simp only [List.getElem_toArray, List.getElem_cons_succ, List.getElem_cons_zero, Act.put, List.setIfInBounds_toArray, List.set_cons_zero, List.set_cons_succ]
          refine wpAnyH_take (i := 3) (oi := _) (v := ?_) rfl (by kernel_rfl) (by kernel_rfl) (by kernel_rfl) (fun _ _ _ h => h) (Or.inl ⟨by rfl, ?_⟩) (by assumption) ?_
          rotate_left 1
          focus
            intro wq hSw
            (try dsimp only at hSw)
            obtain ⟨_, hSc⟩ := hSw
            go_simp
            try (with_reducible rfl)
          simp only [List.getElem_toArray, List.getElem_cons_succ, List.getElem_cons_zero, Act.put, List.setIfInBounds_toArray, List.set_cons_zero, List.set_cons_succ]
          refine wpAnyH_take (i := 4) (oi := _) (v := ?_) rfl (by kernel_rfl) (by kernel_rfl) (by kernel_rfl) (fun _ _ _ h => h) (Or.inl ⟨by rfl, ?_⟩) (by assumption) ?_
          rotate_left 1
          focus
            intro wq hSw
            (try dsimp only at hSw)
            obtain ⟨_, hSc⟩ := hSw
            go_simp
            try (with_reducible rfl)
          simp only [List.getElem_toArray, List.getElem_cons_succ, List.getElem_cons_zero, Act.put, List.setIfInBounds_toArray, List.set_cons_zero, List.set_cons_succ]
          refine wpAnyH_take (i := 5) (oi := _) (v := ?_) rfl (by kernel_rfl) (by kernel_rfl) (by kernel_rfl) (fun _ _ _ h => h) (Or.inl ⟨by rfl, ?_⟩) (by assumption) ?_
          rotate_left 1
          focus
            intro wq hSw
            (try dsimp only at hSw)
            obtain ⟨_, hSc⟩ := hSw
            go_simp
            try (with_reducible rfl)
          simp only [List.getElem_toArray, List.getElem_cons_succ, List.getElem_cons_zero, Act.put, List.setIfInBounds_toArray, List.set_cons_zero, List.set_cons_succ]
          refine wpAnyH_ready (rs := [2, 6]) (by kernel_rfl) (by simp) (AllReadyH.cons (o := _) rfl (fun K hK => ?brA) (AllReadyH.cons (o := _) rfl (fun K hK => ?brB) AllReadyH.nil))
          case brA =>
            go_simp
            go_at_call 19
            refine (CC1.out _ (Below.drew hB0)).mono ?_
            rintro e w7 ⟨v7, rfl, o7, b7⟩
            have hB7 : Below w6.heap.size w6 w7 := (Below.drew hB0).trans (b7.mono (Below.drew hB0).size)
            try go_wp2_with fail
            refine hK.out _ _ (KS.out _ hB7) (fun hHeld => ?_)
            clear hK K
            try simp only [List.getElem_toArray, List.getElem_cons_succ, List.getElem_cons_zero, Act.put, List.setIfInBounds_toArray, List.set_cons_zero, List.set_cons_succ]
            refine wpAnyH_ready (rs := [6]) (by kernel_rfl) (by simp) (AllReadyH.cons (o := _) rfl (fun K hK => ?_) AllReadyH.nil)
            go_simp
            have hB8 : Below w6.heap.size w6 (w7.alloc (.cells #[.int .i64 (c0 : Int)] 3)) := hB7.alloc hB7.size _
            refine hK.out _ _ (KS.out _ hB8) (fun hHeld => ?_)
            clear hK K
            try simp only [List.getElem_toArray, List.getElem_cons_succ, List.getElem_cons_zero, Act.put, List.setIfInBounds_toArray, List.set_cons_zero, List.set_cons_succ]
            refine wpAnyH_ready (rs := [7]) (by kernel_rfl) (by simp) (AllReadyH.cons (o := _) rfl (fun K hK => ?_) AllReadyH.nil)
            go_simp
            go_at_call 12
            refine (equalInts_yes [(c0 : Int)] _ _ (w7.alloc (.cells #[.int .i64 (c0 : Int)] 3)) (Lib.hid (o7.alloc _)) (Lib.hid (lit_own2T w7 #[.int .i64 (c0 : Int)] 3 (by show 1 ≤ maxLen; unfold maxLen; omega))) (by simp)).mono ?_
            rintro e w9 ⟨rfl, s9⟩
            have hB9 : Below w6.heap.size w6 w9 := Below.trans hB8 (s9.below _)
            try go_wp2_with fail
            refine hK.out _ _ (KS.out _ hB9) (fun hHeld => ?_)
            clear hK K
            try simp only [List.getElem_toArray, List.getElem_cons_succ, List.getElem_cons_zero, Act.put, List.setIfInBounds_toArray, List.set_cons_zero, List.set_cons_succ]
            clear hB8 s9
            refine wpAnyH_take (i := 8) (oi := _) (v := ?_) rfl (by kernel_rfl) (by kernel_rfl) (by kernel_rfl) (fun _ _ _ h => h) (Or.inl ⟨by rfl, ?_⟩) (by assumption) ?_
            rotate_left 1
            focus
              intro wq hSw
              (try dsimp only at hSw)
              obtain ⟨_, hSc⟩ := hSw
              go_simp
              try (with_reducible rfl)
            simp only [List.getElem_toArray, List.getElem_cons_succ, List.getElem_cons_zero, Act.put, List.setIfInBounds_toArray, List.set_cons_zero, List.set_cons_succ]
            refine wpAnyH_take (i := 9) (oi := _) (v := ?_) rfl (by kernel_rfl) (by kernel_rfl) (by kernel_rfl) (fun _ _ _ h => h) (Or.inl ⟨by rfl, ?_⟩) (by assumption) ?_
            rotate_left 1
            focus
              intro wq hSw
              (try dsimp only at hSw)
              obtain ⟨_, hSc⟩ := hSw
              go_simp
              try (with_reducible rfl)
            simp only [List.getElem_toArray, List.getElem_cons_succ, List.getElem_cons_zero, Act.put, List.setIfInBounds_toArray, List.set_cons_zero, List.set_cons_succ]
            refine wpAnyH_take (i := 10) (oi := _) (v := ?_) rfl (by kernel_rfl) (by kernel_rfl) (by kernel_rfl) (fun _ _ _ h => h) (Or.inl ⟨by rfl, ?_⟩) (by assumption) ?_
            rotate_left 1
            focus
              intro wq hSw
              (try dsimp only at hSw)
              obtain ⟨_, hSc⟩ := hSw
              go_simp
              try (with_reducible rfl)
            simp only [List.getElem_toArray, List.getElem_cons_succ, List.getElem_cons_zero, Act.put, List.setIfInBounds_toArray, List.set_cons_zero, List.set_cons_succ]
            refine wpAnyH_take (i := 12) (oi := _) (v := ?_) rfl (by kernel_rfl) (by kernel_rfl) (by kernel_rfl) (fun _ _ _ h => h) (Or.inl ⟨by rfl, ?_⟩) (by assumption) ?_
            rotate_left 1
            focus
              intro wq hSw
              (try dsimp only at hSw)
              obtain ⟨_, hSc⟩ := hSw
              go_simp
              try (with_reducible rfl)
            simp only [List.getElem_toArray, List.getElem_cons_succ, List.getElem_cons_zero, Act.put, List.setIfInBounds_toArray, List.set_cons_zero, List.set_cons_succ]
            refine wpAnyH_take (i := 13) (oi := _) (v := ?_) rfl (by kernel_rfl) (by kernel_rfl) (by kernel_rfl) (fun _ _ _ h => h) (Or.inl ⟨by rfl, ?_⟩) (by assumption) ?_
            rotate_left 1
            focus
              intro wq hSw
              (try dsimp only at hSw)
              obtain ⟨_, hSc⟩ := hSw
              go_simp
              try (with_reducible rfl)
            simp only [List.getElem_toArray, List.getElem_cons_succ, List.getElem_cons_zero, Act.put, List.setIfInBounds_toArray, List.set_cons_zero, List.set_cons_succ]
            refine wpAnyH_take (i := 14) (oi := _) (v := ?_) rfl (by kernel_rfl) (by kernel_rfl) (by kernel_rfl) (fun _ _ _ h => h) (Or.inl ⟨by rfl, ?_⟩) (by assumption) ?_
            rotate_left 1
            focus
              intro wq hSw
              (try dsimp only at hSw)
              obtain ⟨_, hSc⟩ := hSw
              go_simp
              try (with_reducible rfl)
            simp only [List.getElem_toArray, List.getElem_cons_succ, List.getElem_cons_zero, Act.put, List.setIfInBounds_toArray, List.set_cons_zero, List.set_cons_succ]
            refine wpAnyH_take (i := 17) (oi := _) (v := ?_) rfl (by kernel_rfl) (by kernel_rfl) (by kernel_rfl) (fun _ _ _ h => h) (Or.inl ⟨by rfl, ?_⟩) (by assumption) ?_
            rotate_left 1
            focus
              intro wq hSw
              (try dsimp only at hSw)
              obtain ⟨_, hSc⟩ := hSw
              go_simp
              try (with_reducible rfl)
            simp only [List.getElem_toArray, List.getElem_cons_succ, List.getElem_cons_zero, Act.put, List.setIfInBounds_toArray, List.set_cons_zero, List.set_cons_succ]
            refine wpAnyH_take (i := 18) (oi := _) (v := ?_) rfl (by kernel_rfl) (by kernel_rfl) (by kernel_rfl) (fun _ _ _ h => h) (Or.inl ⟨by rfl, ?_⟩) (by assumption) ?_
            rotate_left 1
            focus
              intro wq hSw
              (try dsimp only at hSw)
              obtain ⟨_, hSc⟩ := hSw
              go_simp
              try (with_reducible rfl)
            simp only [List.getElem_toArray, List.getElem_cons_succ, List.getElem_cons_zero, Act.put, List.setIfInBounds_toArray, List.set_cons_zero, List.set_cons_succ]
            refine wpAnyH_ready (rs := [11]) (by kernel_rfl) (by simp) (AllReadyH.cons (o := _) rfl (fun K hK => ?_) AllReadyH.nil)
            go_simp
            go_at_call 14
            refine (CD1.out _ hB9).mono ?_
            rintro e w10 ⟨g10, c10, rfl, b10, x10⟩
            have hB10 : Below w6.heap.size w6 w10 := hB9.trans (b10.mono hB9.size)
            try go_wp2_with fail
            refine hK.out _ _ (KS.out _ hB10) (fun hHeld => ?_)
            clear hK K
            try simp only [List.getElem_toArray, List.getElem_cons_succ, List.getElem_cons_zero, Act.put, List.setIfInBounds_toArray, List.set_cons_zero, List.set_cons_succ]
            clear hB9 b10
            refine wpAnyH_take (i := 15) (oi := _) (v := ?_) rfl (by kernel_rfl) (by kernel_rfl) (by kernel_rfl) (fun _ _ _ h => h) (Or.inl ⟨by rfl, ?_⟩) (by assumption) ?_
            rotate_left 1
            focus
              intro wq hSw
              (try dsimp only at hSw)
              obtain ⟨_, hSc⟩ := hSw
              go_simp
              try (with_reducible rfl)
            simp only [List.getElem_toArray, List.getElem_cons_succ, List.getElem_cons_zero, Act.put, List.setIfInBounds_toArray, List.set_cons_zero, List.set_cons_succ]
            refine wpAnyH_ready (rs := [16]) (by kernel_rfl) (by simp) (AllReadyH.cons (o := _) rfl (fun K hK => ?_) AllReadyH.nil)
            go_simp
            refine hK.out _ _ (KS.out _ hB10) (fun hHeld => ?_)
            clear hK K
            try simp only [List.getElem_toArray, List.getElem_cons_succ, List.getElem_cons_zero, Act.put, List.setIfInBounds_toArray, List.set_cons_zero, List.set_cons_succ]
            refine wpAnyH_take (i := 19) (oi := _) (v := ?_) rfl (by kernel_rfl) (by kernel_rfl) (by kernel_rfl) (fun _ _ _ h => h) (Or.inl ⟨by rfl, ?_⟩) (by assumption) ?_
            rotate_left 1
            focus
              intro wq hSw
              (try dsimp only at hSw)
              obtain ⟨_, hSc⟩ := hSw
              go_simp
              try (with_reducible rfl)
            simp only [List.getElem_toArray, List.getElem_cons_succ, List.getElem_cons_zero, Act.put, List.setIfInBounds_toArray, List.set_cons_zero, List.set_cons_succ]
            refine wpAnyH_take (i := 20) (oi := _) (v := ?_) rfl (by kernel_rfl) (by kernel_rfl) (by kernel_rfl) (fun _ _ _ h => h) (Or.inl ⟨by rfl, ?_⟩) (by assumption) ?_
            rotate_left 1
            focus
              intro wq hSw
              (try dsimp only at hSw)
              obtain ⟨_, hSc⟩ := hSw
              go_simp
              try (with_reducible rfl)
            simp only [List.getElem_toArray, List.getElem_cons_succ, List.getElem_cons_zero, Act.put, List.setIfInBounds_toArray, List.set_cons_zero, List.set_cons_succ]
            refine wpAnyH_take (i := 21) (oi := _) (v := ?_) rfl (by kernel_rfl) (by kernel_rfl) (by kernel_rfl) (fun _ _ _ h => h) (Or.inl ⟨by rfl, ?_⟩) (by assumption) ?_
            rotate_left 1
            focus
              intro wq hSw
              (try dsimp only at hSw)
              obtain ⟨_, hSc⟩ := hSw
              go_simp
              try (with_reducible rfl)
            simp only [List.getElem_toArray, List.getElem_cons_succ, List.getElem_cons_zero, Act.put, List.setIfInBounds_toArray, List.set_cons_zero, List.set_cons_succ]
            refine wpAnyH_take (i := 22) (oi := _) (v := ?_) rfl (by kernel_rfl) (by kernel_rfl) (by kernel_rfl) (fun _ _ _ h => h) (Or.inl ⟨by rfl, ?_⟩) (by assumption) ?_
            rotate_left 1
            focus
              intro wq hSw
              (try dsimp only at hSw)
              obtain ⟨_, hSc⟩ := hSw
              go_simp
              try (with_reducible rfl)
            simp only [List.getElem_toArray, List.getElem_cons_succ, List.getElem_cons_zero, Act.put, List.setIfInBounds_toArray, List.set_cons_zero, List.set_cons_succ]
            refine wpAnyH_take (i := 23) (oi := _) (v := ?_) rfl (by kernel_rfl) (by kernel_rfl) (by kernel_rfl) (fun _ _ _ h => h) (Or.inl ⟨by rfl, ?_⟩) (by assumption) ?_
            rotate_left 1
            focus
              intro wq hSw
              (try dsimp only at hSw)
              obtain ⟨_, hSc⟩ := hSw
              go_simp
              try (with_reducible rfl)
            simp only [List.getElem_toArray, List.getElem_cons_succ, List.getElem_cons_zero, Act.put, List.setIfInBounds_toArray, List.set_cons_zero, List.set_cons_succ]
            refine wpAnyH_take (i := 25) (oi := _) (v := ?_) rfl (by kernel_rfl) (by kernel_rfl) (by kernel_rfl) (fun _ _ _ h => h) (Or.inl ⟨by rfl, ?_⟩) (by assumption) ?_
            rotate_left 1
            focus
              intro wq hSw
              (try dsimp only at hSw)
              obtain ⟨_, hSc⟩ := hSw
              go_simp
              try (with_reducible rfl)
            simp only [List.getElem_toArray, List.getElem_cons_succ, List.getElem_cons_zero, Act.put, List.setIfInBounds_toArray, List.set_cons_zero, List.set_cons_succ]
            refine wpAnyH_take (i := 26) (oi := _) (v := ?_) rfl (by kernel_rfl) (by kernel_rfl) (by kernel_rfl) (fun _ _ _ h => h) (Or.inl ⟨by rfl, ?_⟩) (by assumption) ?_
            rotate_left 1
            focus
              intro wq hSw
              (try dsimp only at hSw)
              obtain ⟨_, hSc⟩ := hSw
              go_simp
              try (with_reducible rfl)
            simp only [List.getElem_toArray, List.getElem_cons_succ, List.getElem_cons_zero, Act.put, List.setIfInBounds_toArray, List.set_cons_zero, List.set_cons_succ]
            refine wpAnyH_ready (rs := [24]) (by kernel_rfl) (by simp) (AllReadyH.cons (o := _) rfl (fun K hK => ?_) AllReadyH.nil)
            go_simp
            go_at_call 10
            refine (CM1.out _ hB10).mono ?_
            rintro e w11 ⟨rfl, b11⟩
            have hB11 : Below w6.heap.size w6 w11 := hB10.trans (b11.mono hB10.size)
            try go_wp2_with fail
            refine hK.out _ _ (KS.out _ hB11) (fun hHeld => ?_)
            clear hK K
            try simp only [List.getElem_toArray, List.getElem_cons_succ, List.getElem_cons_zero, Act.put, List.setIfInBounds_toArray, List.set_cons_zero, List.set_cons_succ]
            clear hB10 b11 x10
            refine wpAnyH_ready (rs := [27]) (by kernel_rfl) (by simp) (AllReadyH.cons (o := _) rfl (fun K hK => ?_) AllReadyH.nil)
            go_simp
            go_at_call 20
            refine (CF.out _).mono ?_
            rintro e w12 ⟨rfl, rfl⟩
            skip
            try go_wp2_with fail
            refine hK.out _ _ (KS.out _ hB11) (fun hHeld => ?_)
            clear hK K
            try simp only [List.getElem_toArray, List.getElem_cons_succ, List.getElem_cons_zero, Act.put, List.setIfInBounds_toArray, List.set_cons_zero, List.set_cons_succ]
            refine wpAnyH_take (i := 28) (oi := _) (v := ?_) rfl (by kernel_rfl) (by kernel_rfl) (by kernel_rfl) (fun _ _ _ h => h) (Or.inl ⟨by rfl, ?_⟩) (by assumption) ?_
            rotate_left 1
            focus
              intro wq hSw
              (try dsimp only at hSw)
              obtain ⟨_, hSc⟩ := hSw
              go_simp
              try (with_reducible rfl)
            simp only [List.getElem_toArray, List.getElem_cons_succ, List.getElem_cons_zero, Act.put, List.setIfInBounds_toArray, List.set_cons_zero, List.set_cons_succ]
            refine wpAnyH_take (i := 29) (oi := _) (v := ?_) rfl (by kernel_rfl) (by kernel_rfl) (by kernel_rfl) (fun _ _ _ h => h) (Or.inl ⟨by rfl, ?_⟩) (by assumption) ?_
            rotate_left 1
            focus
              intro wq hSw
              (try dsimp only at hSw)
              obtain ⟨_, hSc⟩ := hSw
              go_simp
              try (with_reducible rfl)
            simp only [List.getElem_toArray, List.getElem_cons_succ, List.getElem_cons_zero, Act.put, List.setIfInBounds_toArray, List.set_cons_zero, List.set_cons_succ]
            refine wpAnyH_take (i := 30) (oi := _) (v := ?_) rfl (by kernel_rfl) (by kernel_rfl) (by kernel_rfl) (fun _ _ _ h => h) (Or.inl ⟨by rfl, ?_⟩) (by assumption) ?_
            rotate_left 1
            focus
              intro wq hSw
              (try dsimp only at hSw)
              obtain ⟨_, hSc⟩ := hSw
              go_simp
              try (with_reducible rfl)
            simp only [List.getElem_toArray, List.getElem_cons_succ, List.getElem_cons_zero, Act.put, List.setIfInBounds_toArray, List.set_cons_zero, List.set_cons_succ]
            refine wpAnyH_take (i := 31) (oi := _) (v := ?_) rfl (by kernel_rfl) (by kernel_rfl) (by kernel_rfl) (fun _ _ _ h => h) (Or.inl ⟨by rfl, ?_⟩) (by assumption) ?_
            rotate_left 1
            focus
              intro wq hSw
              (try dsimp only at hSw)
              obtain ⟨_, hSc⟩ := hSw
              go_simp
              try (with_reducible rfl)
            simp only [List.getElem_toArray, List.getElem_cons_succ, List.getElem_cons_zero, Act.put, List.setIfInBounds_toArray, List.set_cons_zero, List.set_cons_succ]
            refine wpAnyH_take (i := 32) (oi := _) (v := ?_) rfl (by kernel_rfl) (by kernel_rfl) (by kernel_rfl) (fun _ _ _ h => h) (Or.inl ⟨by rfl, ?_⟩) (by assumption) ?_
            rotate_left 1
            focus
              intro wq hSw
              (try dsimp only at hSw)
              obtain ⟨_, hSc⟩ := hSw
              go_simp
              try (with_reducible rfl)
            simp only [List.getElem_toArray, List.getElem_cons_succ, List.getElem_cons_zero, Act.put, List.setIfInBounds_toArray, List.set_cons_zero, List.set_cons_succ]
            refine wpAnyH_ready (rs := [33]) (by kernel_rfl) (by simp) (AllReadyH.cons (o := _) rfl (fun K hK => ?_) AllReadyH.nil)
            go_simp
            go_at_call 21
            refine (CP1.out _ hB11).mono ?_
            rintro e w13 ⟨rfl, b13⟩
            have hB13 : Below w6.heap.size w6 w13 := hB11.trans (b13.mono hB11.size)
            try go_wp2_with fail
            refine hK.out _ _ (KS.out _ hB13) (fun hHeld => ?_)
            clear hK K
            try simp only [List.getElem_toArray, List.getElem_cons_succ, List.getElem_cons_zero, Act.put, List.setIfInBounds_toArray, List.set_cons_zero, List.set_cons_succ]
            clear hB11 b13
            refine wpAnyH_take (i := 34) (oi := _) (v := ?_) rfl (by kernel_rfl) (by kernel_rfl) (by kernel_rfl) (fun _ _ _ h => h) (Or.inl ⟨by rfl, ?_⟩) (by assumption) ?_
            rotate_left 1
            focus
              intro wq hSw
              (try dsimp only at hSw)
              obtain ⟨_, hSc⟩ := hSw
              go_simp
              try (with_reducible rfl)
            simp only [List.getElem_toArray, List.getElem_cons_succ, List.getElem_cons_zero, Act.put, List.setIfInBounds_toArray, List.set_cons_zero, List.set_cons_succ]
            refine wpAnyH_take (i := 35) (oi := _) (v := ?_) rfl (by kernel_rfl) (by kernel_rfl) (by kernel_rfl) (fun _ _ _ h => h) (Or.inl ⟨by rfl, ?_⟩) (by assumption) ?_
            rotate_left 1
            focus
              intro wq hSw
              (try dsimp only at hSw)
              obtain ⟨_, hSc⟩ := hSw
              go_simp
              try (with_reducible rfl)
            simp only [List.getElem_toArray, List.getElem_cons_succ, List.getElem_cons_zero, Act.put, List.setIfInBounds_toArray, List.set_cons_zero, List.set_cons_succ]
            refine wpAnyH_take (i := 36) (oi := _) (v := ?_) rfl (by kernel_rfl) (by kernel_rfl) (by kernel_rfl) (fun _ _ _ h => h) (Or.inl ⟨by rfl, ?_⟩) (by assumption) ?_
            rotate_left 1
            focus
              intro wq hSw
              (try dsimp only at hSw)
              obtain ⟨_, hSc⟩ := hSw
              go_simp
              try (with_reducible rfl)
            simp only [List.getElem_toArray, List.getElem_cons_succ, List.getElem_cons_zero, Act.put, List.setIfInBounds_toArray, List.set_cons_zero, List.set_cons_succ]
            refine wpAnyH_take (i := 37) (oi := _) (v := ?_) rfl (by kernel_rfl) (by kernel_rfl) (by kernel_rfl) (fun _ _ _ h => h) (Or.inl ⟨by rfl, ?_⟩) (by assumption) ?_
            rotate_left 1
            focus
              intro wq hSw
              (try dsimp only at hSw)
              obtain ⟨_, hSc⟩ := hSw
              go_simp
              try (with_reducible rfl)
            simp only [List.getElem_toArray, List.getElem_cons_succ, List.getElem_cons_zero, Act.put, List.setIfInBounds_toArray, List.set_cons_zero, List.set_cons_succ]
            refine wpAnyH_take (i := 38) (oi := _) (v := ?_) rfl (by kernel_rfl) (by kernel_rfl) (by kernel_rfl) (fun _ _ _ h => h) (Or.inl ⟨by rfl, ?_⟩) (by assumption) ?_
            rotate_left 1
            focus
              intro wq hSw
              (try dsimp only at hSw)
              obtain ⟨_, hSc⟩ := hSw
              go_simp
              try (with_reducible rfl)
            simp only [List.getElem_toArray, List.getElem_cons_succ, List.getElem_cons_zero, Act.put, List.setIfInBounds_toArray, List.set_cons_zero, List.set_cons_succ]
            refine wpAnyH_take (i := 40) (oi := _) (v := ?_) rfl (by kernel_rfl) (by kernel_rfl) (by kernel_rfl) (fun _ _ _ h => h) (Or.inl ⟨by rfl, ?_⟩) (by assumption) ?_
            rotate_left 1
            focus
              intro wq hSw
              (try dsimp only at hSw)
              obtain ⟨_, hSc⟩ := hSw
              go_simp
              try (with_reducible rfl)
            simp only [List.getElem_toArray, List.getElem_cons_succ, List.getElem_cons_zero, Act.put, List.setIfInBounds_toArray, List.set_cons_zero, List.set_cons_succ]
            refine wpAnyH_take (i := 41) (oi := _) (v := ?_) rfl (by kernel_rfl) (by kernel_rfl) (by kernel_rfl) (fun _ _ _ h => h) (Or.inl ⟨by rfl, ?_⟩) (by assumption) ?_
            rotate_left 1
            focus
              intro wq hSw
              (try dsimp only at hSw)
              obtain ⟨_, hSc⟩ := hSw
              go_simp
              try (with_reducible rfl)
            simp only [List.getElem_toArray, List.getElem_cons_succ, List.getElem_cons_zero, Act.put, List.setIfInBounds_toArray, List.set_cons_zero, List.set_cons_succ]
            refine wpAnyH_take (i := 42) (oi := _) (v := ?_) rfl (by kernel_rfl) (by kernel_rfl) (by kernel_rfl) (fun _ _ _ h => h) (Or.inl ⟨by rfl, ?_⟩) (by assumption) ?_
            rotate_left 1
            focus
              intro wq hSw
              (try dsimp only at hSw)
              obtain ⟨_, hSc⟩ := hSw
              go_simp
              try (with_reducible rfl)
            simp only [List.getElem_toArray, List.getElem_cons_succ, List.getElem_cons_zero, Act.put, List.setIfInBounds_toArray, List.set_cons_zero, List.set_cons_succ]
            refine wpAnyH_take (i := 43) (oi := _) (v := ?_) rfl (by kernel_rfl) (by kernel_rfl) (by kernel_rfl) (fun _ _ _ h => h) (Or.inl ⟨by rfl, ?_⟩) (by assumption) ?_
            rotate_left 1
            focus
              intro wq hSw
              (try dsimp only at hSw)
              obtain ⟨_, hSc⟩ := hSw
              go_simp
              try (with_reducible rfl)
            simp only [List.getElem_toArray, List.getElem_cons_succ, List.getElem_cons_zero, Act.put, List.setIfInBounds_toArray, List.set_cons_zero, List.set_cons_succ]
            refine wpAnyH_take (i := 44) (oi := _) (v := ?_) rfl (by kernel_rfl) (by kernel_rfl) (by kernel_rfl) (fun _ _ _ h => h) (Or.inl ⟨by rfl, ?_⟩) (by assumption) ?_
            rotate_left 1
            focus
              intro wq hSw
              (try dsimp only at hSw)
              obtain ⟨_, hSc⟩ := hSw
              go_simp
              try (with_reducible rfl)
            simp only [List.getElem_toArray, List.getElem_cons_succ, List.getElem_cons_zero, Act.put, List.setIfInBounds_toArray, List.set_cons_zero, List.set_cons_succ]
            refine wpAnyH_ready (rs := [39]) (by kernel_rfl) (by simp) (AllReadyH.cons (o := _) rfl (fun K hK => ?_) AllReadyH.nil)
            go_simp
            go_at_call 11
            refine (CW1.out _ hB13).mono ?_
            rintro e w14 ⟨rfl, b14⟩
            have hB14 : Below w6.heap.size w6 w14 := hB13.trans (b14.mono hB13.size)
            try go_wp2_with fail
            refine hK.out _ _ (KS.out _ hB14) (fun hHeld => ?_)
            clear hK K
            try simp only [List.getElem_toArray, List.getElem_cons_succ, List.getElem_cons_zero, Act.put, List.setIfInBounds_toArray, List.set_cons_zero, List.set_cons_succ]
            clear hB13 b14
            refine wpAnyH_take (i := 45) (oi := _) (v := ?_) rfl (by kernel_rfl) (by kernel_rfl) (by kernel_rfl) (fun _ _ _ h => h) (Or.inl ⟨by rfl, ?_⟩) (by assumption) ?_
            rotate_left 1
            focus
              intro wq hSw
              (try dsimp only at hSw)
              obtain ⟨_, hSc⟩ := hSw
              go_simp
              try (with_reducible rfl)
            simp only [List.getElem_toArray, List.getElem_cons_succ, List.getElem_cons_zero, Act.put, List.setIfInBounds_toArray, List.set_cons_zero, List.set_cons_succ]
            refine wpAnyH_take (i := 46) (oi := _) (v := ?_) rfl (by kernel_rfl) (by kernel_rfl) (by kernel_rfl) (fun _ _ _ h => h) (Or.inl ⟨by rfl, ?_⟩) (by assumption) ?_
            rotate_left 1
            focus
              intro wq hSw
              (try dsimp only at hSw)
              obtain ⟨_, hSc⟩ := hSw
              go_simp
              try (with_reducible rfl)
            simp only [List.getElem_toArray, List.getElem_cons_succ, List.getElem_cons_zero, Act.put, List.setIfInBounds_toArray, List.set_cons_zero, List.set_cons_succ]
            refine wpAnyH_take (i := 47) (oi := _) (v := ?_) rfl (by kernel_rfl) (by kernel_rfl) (by kernel_rfl) (fun _ _ _ h => h) (Or.inl ⟨by rfl, ?_⟩) (by assumption) ?_
            rotate_left 1
            focus
              intro wq hSw
              (try dsimp only at hSw)
              obtain ⟨_, hSc⟩ := hSw
              go_simp
              try (with_reducible rfl)
            simp only [List.getElem_toArray, List.getElem_cons_succ, List.getElem_cons_zero, Act.put, List.setIfInBounds_toArray, List.set_cons_zero, List.set_cons_succ]
            refine wpAnyH_done (by kernel_rfl) ?_ _
            go_wp2
            go_ret
            exact ⟨rfl, B6.out.trans (hB14.mono S6.out)⟩
          case brB =>
            go_simp
            have hB7 : Below w6.heap.size w6 (w6.drew.alloc (.cells #[.int .i64 (c0 : Int)] 3)) := (Below.drew hB0).alloc (Below.drew hB0).size _
            refine hK.out _ _ (KS.out _ hB7) (fun hHeld => ?_)
            clear hK K
            try simp only [List.getElem_toArray, List.getElem_cons_succ, List.getElem_cons_zero, Act.put, List.setIfInBounds_toArray, List.set_cons_zero, List.set_cons_succ]
            refine wpAnyH_ready (rs := [2]) (by kernel_rfl) (by simp) (AllReadyH.cons (o := _) rfl (fun K hK => ?_) AllReadyH.nil)
            go_simp
            go_at_call 19
            refine (CC1.out _ hB7).mono ?_
            rintro e w7 ⟨v7, rfl, o7, b7⟩
            have hB8 : Below w6.heap.size w6 w7 := hB7.trans (b7.mono hB7.size)
            try go_wp2_with fail
            refine hK.out _ _ (KS.out _ hB8) (fun hHeld => ?_)
            clear hK K
            try simp only [List.getElem_toArray, List.getElem_cons_succ, List.getElem_cons_zero, Act.put, List.setIfInBounds_toArray, List.set_cons_zero, List.set_cons_succ]
            refine wpAnyH_ready (rs := [7]) (by kernel_rfl) (by simp) (AllReadyH.cons (o := _) rfl (fun K hK => ?_) AllReadyH.nil)
            go_simp
            go_at_call 12
            refine (equalInts_yes [(c0 : Int)] _ _ w7 (Lib.hid o7) (Lib.hid (Own.below (lit_own2T w6.drew #[.int .i64 (c0 : Int)] 3 (by show 1 ≤ maxLen; unfold maxLen; omega)) (b7.mono (by simp)))) (by simp)).mono ?_
            rintro e w9 ⟨rfl, s9⟩
            have hB9 : Below w6.heap.size w6 w9 := Below.trans hB8 (s9.below _)
            try go_wp2_with fail
            refine hK.out _ _ (KS.out _ hB9) (fun hHeld => ?_)
            clear hK K
            try simp only [List.getElem_toArray, List.getElem_cons_succ, List.getElem_cons_zero, Act.put, List.setIfInBounds_toArray, List.set_cons_zero, List.set_cons_succ]
            clear hB8 s9
            refine wpAnyH_take (i := 8) (oi := _) (v := ?_) rfl (by kernel_rfl) (by kernel_rfl) (by kernel_rfl) (fun _ _ _ h => h) (Or.inl ⟨by rfl, ?_⟩) (by assumption) ?_
            rotate_left 1
            focus
              intro wq hSw
              (try dsimp only at hSw)
              obtain ⟨_, hSc⟩ := hSw
              go_simp
              try (with_reducible rfl)
            simp only [List.getElem_toArray, List.getElem_cons_succ, List.getElem_cons_zero, Act.put, List.setIfInBounds_toArray, List.set_cons_zero, List.set_cons_succ]
            refine wpAnyH_take (i := 9) (oi := _) (v := ?_) rfl (by kernel_rfl) (by kernel_rfl) (by kernel_rfl) (fun _ _ _ h => h) (Or.inl ⟨by rfl, ?_⟩) (by assumption) ?_
            rotate_left 1
            focus
              intro wq hSw
              (try dsimp only at hSw)
              obtain ⟨_, hSc⟩ := hSw
              go_simp
              try (with_reducible rfl)
            simp only [List.getElem_toArray, List.getElem_cons_succ, List.getElem_cons_zero, Act.put, List.setIfInBounds_toArray, List.set_cons_zero, List.set_cons_succ]
            refine wpAnyH_take (i := 10) (oi := _) (v := ?_) rfl (by kernel_rfl) (by kernel_rfl) (by kernel_rfl) (fun _ _ _ h => h) (Or.inl ⟨by rfl, ?_⟩) (by assumption) ?_
            rotate_left 1
            focus
              intro wq hSw
              (try dsimp only at hSw)
              obtain ⟨_, hSc⟩ := hSw
              go_simp
              try (with_reducible rfl)
            simp only [List.getElem_toArray, List.getElem_cons_succ, List.getElem_cons_zero, Act.put, List.setIfInBounds_toArray, List.set_cons_zero, List.set_cons_succ]
            refine wpAnyH_take (i := 12) (oi := _) (v := ?_) rfl (by kernel_rfl) (by kernel_rfl) (by kernel_rfl) (fun _ _ _ h => h) (Or.inl ⟨by rfl, ?_⟩) (by assumption) ?_
            rotate_left 1
            focus
              intro wq hSw
              (try dsimp only at hSw)
              obtain ⟨_, hSc⟩ := hSw
              go_simp
              try (with_reducible rfl)
            simp only [List.getElem_toArray, List.getElem_cons_succ, List.getElem_cons_zero, Act.put, List.setIfInBounds_toArray, List.set_cons_zero, List.set_cons_succ]
            refine wpAnyH_take (i := 13) (oi := _) (v := ?_) rfl (by kernel_rfl) (by kernel_rfl) (by kernel_rfl) (fun _ _ _ h => h) (Or.inl ⟨by rfl, ?_⟩) (by assumption) ?_
            rotate_left 1
            focus
              intro wq hSw
              (try dsimp only at hSw)
              obtain ⟨_, hSc⟩ := hSw
              go_simp
              try (with_reducible rfl)
            simp only [List.getElem_toArray, List.getElem_cons_succ, List.getElem_cons_zero, Act.put, List.setIfInBounds_toArray, List.set_cons_zero, List.set_cons_succ]
            refine wpAnyH_take (i := 14) (oi := _) (v := ?_) rfl (by kernel_rfl) (by kernel_rfl) (by kernel_rfl) (fun _ _ _ h => h) (Or.inl ⟨by rfl, ?_⟩) (by assumption) ?_
            rotate_left 1
            focus
              intro wq hSw
              (try dsimp only at hSw)
              obtain ⟨_, hSc⟩ := hSw
              go_simp
              try (with_reducible rfl)
            simp only [List.getElem_toArray, List.getElem_cons_succ, List.getElem_cons_zero, Act.put, List.setIfInBounds_toArray, List.set_cons_zero, List.set_cons_succ]
            refine wpAnyH_take (i := 17) (oi := _) (v := ?_) rfl (by kernel_rfl) (by kernel_rfl) (by kernel_rfl) (fun _ _ _ h => h) (Or.inl ⟨by rfl, ?_⟩) (by assumption) ?_
            rotate_left 1
            focus
              intro wq hSw
              (try dsimp only at hSw)
              obtain ⟨_, hSc⟩ := hSw
              go_simp
              try (with_reducible rfl)
            simp only [List.getElem_toArray, List.getElem_cons_succ, List.getElem_cons_zero, Act.put, List.setIfInBounds_toArray, List.set_cons_zero, List.set_cons_succ]
            refine wpAnyH_take (i := 18) (oi := _) (v := ?_) rfl (by kernel_rfl) (by kernel_rfl) (by kernel_rfl) (fun _ _ _ h => h) (Or.inl ⟨by rfl, ?_⟩) (by assumption) ?_
            rotate_left 1
            focus
              intro wq hSw
              (try dsimp only at hSw)
              obtain ⟨_, hSc⟩ := hSw
              go_simp
              try (with_reducible rfl)
            simp only [List.getElem_toArray, List.getElem_cons_succ, List.getElem_cons_zero, Act.put, List.setIfInBounds_toArray, List.set_cons_zero, List.set_cons_succ]
            refine wpAnyH_ready (rs := [11]) (by kernel_rfl) (by simp) (AllReadyH.cons (o := _) rfl (fun K hK => ?_) AllReadyH.nil)
            go_simp
            go_at_call 14
            refine (CD1.out _ hB9).mono ?_
            rintro e w10 ⟨g10, c10, rfl, b10, x10⟩
            have hB10 : Below w6.heap.size w6 w10 := hB9.trans (b10.mono hB9.size)
            try go_wp2_with fail
            refine hK.out _ _ (KS.out _ hB10) (fun hHeld => ?_)
            clear hK K
            try simp only [List.getElem_toArray, List.getElem_cons_succ, List.getElem_cons_zero, Act.put, List.setIfInBounds_toArray, List.set_cons_zero, List.set_cons_succ]
            clear hB9 b10
            refine wpAnyH_take (i := 15) (oi := _) (v := ?_) rfl (by kernel_rfl) (by kernel_rfl) (by kernel_rfl) (fun _ _ _ h => h) (Or.inl ⟨by rfl, ?_⟩) (by assumption) ?_
            rotate_left 1
            focus
              intro wq hSw
              (try dsimp only at hSw)
              obtain ⟨_, hSc⟩ := hSw
              go_simp
              try (with_reducible rfl)
            simp only [List.getElem_toArray, List.getElem_cons_succ, List.getElem_cons_zero, Act.put, List.setIfInBounds_toArray, List.set_cons_zero, List.set_cons_succ]
            refine wpAnyH_ready (rs := [16]) (by kernel_rfl) (by simp) (AllReadyH.cons (o := _) rfl (fun K hK => ?_) AllReadyH.nil)
            go_simp
            refine hK.out _ _ (KS.out _ hB10) (fun hHeld => ?_)
            clear hK K
            try simp only [List.getElem_toArray, List.getElem_cons_succ, List.getElem_cons_zero, Act.put, List.setIfInBounds_toArray, List.set_cons_zero, List.set_cons_succ]
            refine wpAnyH_take (i := 19) (oi := _) (v := ?_) rfl (by kernel_rfl) (by kernel_rfl) (by kernel_rfl) (fun _ _ _ h => h) (Or.inl ⟨by rfl, ?_⟩) (by assumption) ?_
            rotate_left 1
            focus
              intro wq hSw
              (try dsimp only at hSw)
              obtain ⟨_, hSc⟩ := hSw
              go_simp
              try (with_reducible rfl)
            simp only [List.getElem_toArray, List.getElem_cons_succ, List.getElem_cons_zero, Act.put, List.setIfInBounds_toArray, List.set_cons_zero, List.set_cons_succ]
            refine wpAnyH_take (i := 20) (oi := _) (v := ?_) rfl (by kernel_rfl) (by kernel_rfl) (by kernel_rfl) (fun _ _ _ h => h) (Or.inl ⟨by rfl, ?_⟩) (by assumption) ?_
            rotate_left 1
            focus
              intro wq hSw
              (try dsimp only at hSw)
              obtain ⟨_, hSc⟩ := hSw
              go_simp
              try (with_reducible rfl)
            simp only [List.getElem_toArray, List.getElem_cons_succ, List.getElem_cons_zero, Act.put, List.setIfInBounds_toArray, List.set_cons_zero, List.set_cons_succ]
            refine wpAnyH_take (i := 21) (oi := _) (v := ?_) rfl (by kernel_rfl) (by kernel_rfl) (by kernel_rfl) (fun _ _ _ h => h) (Or.inl ⟨by rfl, ?_⟩) (by assumption) ?_
            rotate_left 1
            focus
              intro wq hSw
              (try dsimp only at hSw)
              obtain ⟨_, hSc⟩ := hSw
              go_simp
              try (with_reducible rfl)
            simp only [List.getElem_toArray, List.getElem_cons_succ, List.getElem_cons_zero, Act.put, List.setIfInBounds_toArray, List.set_cons_zero, List.set_cons_succ]
            refine wpAnyH_take (i := 22) (oi := _) (v := ?_) rfl (by kernel_rfl) (by kernel_rfl) (by kernel_rfl) (fun _ _ _ h => h) (Or.inl ⟨by rfl, ?_⟩) (by assumption) ?_
            rotate_left 1
            focus
              intro wq hSw
              (try dsimp only at hSw)
              obtain ⟨_, hSc⟩ := hSw
              go_simp
              try (with_reducible rfl)
            simp only [List.getElem_toArray, List.getElem_cons_succ, List.getElem_cons_zero, Act.put, List.setIfInBounds_toArray, List.set_cons_zero, List.set_cons_succ]
            refine wpAnyH_take (i := 23) (oi := _) (v := ?_) rfl (by kernel_rfl) (by kernel_rfl) (by kernel_rfl) (fun _ _ _ h => h) (Or.inl ⟨by rfl, ?_⟩) (by assumption) ?_
            rotate_left 1
            focus
              intro wq hSw
              (try dsimp only at hSw)
              obtain ⟨_, hSc⟩ := hSw
              go_simp
              try (with_reducible rfl)
            simp only [List.getElem_toArray, List.getElem_cons_succ, List.getElem_cons_zero, Act.put, List.setIfInBounds_toArray, List.set_cons_zero, List.set_cons_succ]
            refine wpAnyH_take (i := 25) (oi := _) (v := ?_) rfl (by kernel_rfl) (by kernel_rfl) (by kernel_rfl) (fun _ _ _ h => h) (Or.inl ⟨by rfl, ?_⟩) (by assumption) ?_
            rotate_left 1
            focus
              intro wq hSw
              (try dsimp only at hSw)
              obtain ⟨_, hSc⟩ := hSw
              go_simp
              try (with_reducible rfl)
            simp only [List.getElem_toArray, List.getElem_cons_succ, List.getElem_cons_zero, Act.put, List.setIfInBounds_toArray, List.set_cons_zero, List.set_cons_succ]
            refine wpAnyH_take (i := 26) (oi := _) (v := ?_) rfl (by kernel_rfl) (by kernel_rfl) (by kernel_rfl) (fun _ _ _ h => h) (Or.inl ⟨by rfl, ?_⟩) (by assumption) ?_
            rotate_left 1
            focus
              intro wq hSw
              (try dsimp only at hSw)
              obtain ⟨_, hSc⟩ := hSw
              go_simp
              try (with_reducible rfl)
            simp only [List.getElem_toArray, List.getElem_cons_succ, List.getElem_cons_zero, Act.put, List.setIfInBounds_toArray, List.set_cons_zero, List.set_cons_succ]
            refine wpAnyH_ready (rs := [24]) (by kernel_rfl) (by simp) (AllReadyH.cons (o := _) rfl (fun K hK => ?_) AllReadyH.nil)
            go_simp
            go_at_call 10
            refine (CM1.out _ hB10).mono ?_
            rintro e w11 ⟨rfl, b11⟩
            have hB11 : Below w6.heap.size w6 w11 := hB10.trans (b11.mono hB10.size)
            try go_wp2_with fail
            refine hK.out _ _ (KS.out _ hB11) (fun hHeld => ?_)
            clear hK K
            try simp only [List.getElem_toArray, List.getElem_cons_succ, List.getElem_cons_zero, Act.put, List.setIfInBounds_toArray, List.set_cons_zero, List.set_cons_succ]
            clear hB10 b11 x10
            refine wpAnyH_ready (rs := [27]) (by kernel_rfl) (by simp) (AllReadyH.cons (o := _) rfl (fun K hK => ?_) AllReadyH.nil)
            go_simp
            go_at_call 20
            refine (CF.out _).mono ?_
            rintro e w12 ⟨rfl, rfl⟩
            skip
            try go_wp2_with fail
            refine hK.out _ _ (KS.out _ hB11) (fun hHeld => ?_)
            clear hK K
            try simp only [List.getElem_toArray, List.getElem_cons_succ, List.getElem_cons_zero, Act.put, List.setIfInBounds_toArray, List.set_cons_zero, List.set_cons_succ]
            refine wpAnyH_take (i := 28) (oi := _) (v := ?_) rfl (by kernel_rfl) (by kernel_rfl) (by kernel_rfl) (fun _ _ _ h => h) (Or.inl ⟨by rfl, ?_⟩) (by assumption) ?_
            rotate_left 1
            focus
              intro wq hSw
              (try dsimp only at hSw)
              obtain ⟨_, hSc⟩ := hSw
              go_simp
              try (with_reducible rfl)
            simp only [List.getElem_toArray, List.getElem_cons_succ, List.getElem_cons_zero, Act.put, List.setIfInBounds_toArray, List.set_cons_zero, List.set_cons_succ]
            refine wpAnyH_take (i := 29) (oi := _) (v := ?_) rfl (by kernel_rfl) (by kernel_rfl) (by kernel_rfl) (fun _ _ _ h => h) (Or.inl ⟨by rfl, ?_⟩) (by assumption) ?_
            rotate_left 1
            focus
              intro wq hSw
              (try dsimp only at hSw)
              obtain ⟨_, hSc⟩ := hSw
              go_simp
              try (with_reducible rfl)
            simp only [List.getElem_toArray, List.getElem_cons_succ, List.getElem_cons_zero, Act.put, List.setIfInBounds_toArray, List.set_cons_zero, List.set_cons_succ]
            refine wpAnyH_take (i := 30) (oi := _) (v := ?_) rfl (by kernel_rfl) (by kernel_rfl) (by kernel_rfl) (fun _ _ _ h => h) (Or.inl ⟨by rfl, ?_⟩) (by assumption) ?_
            rotate_left 1
            focus
              intro wq hSw
              (try dsimp only at hSw)
              obtain ⟨_, hSc⟩ := hSw
              go_simp
              try (with_reducible rfl)
            simp only [List.getElem_toArray, List.getElem_cons_succ, List.getElem_cons_zero, Act.put, List.setIfInBounds_toArray, List.set_cons_zero, List.set_cons_succ]
            refine wpAnyH_take (i := 31) (oi := _) (v := ?_) rfl (by kernel_rfl) (by kernel_rfl) (by kernel_rfl) (fun _ _ _ h => h) (Or.inl ⟨by rfl, ?_⟩) (by assumption) ?_
            rotate_left 1
            focus
              intro wq hSw
              (try dsimp only at hSw)
              obtain ⟨_, hSc⟩ := hSw
              go_simp
              try (with_reducible rfl)
            simp only [List.getElem_toArray, List.getElem_cons_succ, List.getElem_cons_zero, Act.put, List.setIfInBounds_toArray, List.set_cons_zero, List.set_cons_succ]
            refine wpAnyH_take (i := 32) (oi := _) (v := ?_) rfl (by kernel_rfl) (by kernel_rfl) (by kernel_rfl) (fun _ _ _ h => h) (Or.inl ⟨by rfl, ?_⟩) (by assumption) ?_
            rotate_left 1
            focus
              intro wq hSw
              (try dsimp only at hSw)
              obtain ⟨_, hSc⟩ := hSw
              go_simp
              try (with_reducible rfl)
            simp only [List.getElem_toArray, List.getElem_cons_succ, List.getElem_cons_zero, Act.put, List.setIfInBounds_toArray, List.set_cons_zero, List.set_cons_succ]
            refine wpAnyH_ready (rs := [33]) (by kernel_rfl) (by simp) (AllReadyH.cons (o := _) rfl (fun K hK => ?_) AllReadyH.nil)
            go_simp
            go_at_call 21
            refine (CP1.out _ hB11).mono ?_
            rintro e w13 ⟨rfl, b13⟩
            have hB13 : Below w6.heap.size w6 w13 := hB11.trans (b13.mono hB11.size)
            try go_wp2_with fail
            refine hK.out _ _ (KS.out _ hB13) (fun hHeld => ?_)
            clear hK K
            try simp only [List.getElem_toArray, List.getElem_cons_succ, List.getElem_cons_zero, Act.put, List.setIfInBounds_toArray, List.set_cons_zero, List.set_cons_succ]
            clear hB11 b13
            refine wpAnyH_take (i := 34) (oi := _) (v := ?_) rfl (by kernel_rfl) (by kernel_rfl) (by kernel_rfl) (fun _ _ _ h => h) (Or.inl ⟨by rfl, ?_⟩) (by assumption) ?_
            rotate_left 1
            focus
              intro wq hSw
              (try dsimp only at hSw)
              obtain ⟨_, hSc⟩ := hSw
              go_simp
              try (with_reducible rfl)
            simp only [List.getElem_toArray, List.getElem_cons_succ, List.getElem_cons_zero, Act.put, List.setIfInBounds_toArray, List.set_cons_zero, List.set_cons_succ]
            refine wpAnyH_take (i := 35) (oi := _) (v := ?_) rfl (by kernel_rfl) (by kernel_rfl) (by kernel_rfl) (fun _ _ _ h => h) (Or.inl ⟨by rfl, ?_⟩) (by assumption) ?_
            rotate_left 1
            focus
              intro wq hSw
              (try dsimp only at hSw)
              obtain ⟨_, hSc⟩ := hSw
              go_simp
              try (with_reducible rfl)
            simp only [List.getElem_toArray, List.getElem_cons_succ, List.getElem_cons_zero, Act.put, List.setIfInBounds_toArray, List.set_cons_zero, List.set_cons_succ]
            refine wpAnyH_take (i := 36) (oi := _) (v := ?_) rfl (by kernel_rfl) (by kernel_rfl) (by kernel_rfl) (fun _ _ _ h => h) (Or.inl ⟨by rfl, ?_⟩) (by assumption) ?_
            rotate_left 1
            focus
              intro wq hSw
              (try dsimp only at hSw)
              obtain ⟨_, hSc⟩ := hSw
              go_simp
              try (with_reducible rfl)
            simp only [List.getElem_toArray, List.getElem_cons_succ, List.getElem_cons_zero, Act.put, List.setIfInBounds_toArray, List.set_cons_zero, List.set_cons_succ]
            refine wpAnyH_take (i := 37) (oi := _) (v := ?_) rfl (by kernel_rfl) (by kernel_rfl) (by kernel_rfl) (fun _ _ _ h => h) (Or.inl ⟨by rfl, ?_⟩) (by assumption) ?_
            rotate_left 1
            focus
              intro wq hSw
              (try dsimp only at hSw)
              obtain ⟨_, hSc⟩ := hSw
              go_simp
              try (with_reducible rfl)
            simp only [List.getElem_toArray, List.getElem_cons_succ, List.getElem_cons_zero, Act.put, List.setIfInBounds_toArray, List.set_cons_zero, List.set_cons_succ]
            refine wpAnyH_take (i := 38) (oi := _) (v := ?_) rfl (by kernel_rfl) (by kernel_rfl) (by kernel_rfl) (fun _ _ _ h => h) (Or.inl ⟨by rfl, ?_⟩) (by assumption) ?_
            rotate_left 1
            focus
              intro wq hSw
              (try dsimp only at hSw)
              obtain ⟨_, hSc⟩ := hSw
              go_simp
              try (with_reducible rfl)
            simp only [List.getElem_toArray, List.getElem_cons_succ, List.getElem_cons_zero, Act.put, List.setIfInBounds_toArray, List.set_cons_zero, List.set_cons_succ]
            refine wpAnyH_take (i := 40) (oi := _) (v := ?_) rfl (by kernel_rfl) (by kernel_rfl) (by kernel_rfl) (fun _ _ _ h => h) (Or.inl ⟨by rfl, ?_⟩) (by assumption) ?_
            rotate_left 1
            focus
              intro wq hSw
              (try dsimp only at hSw)
              obtain ⟨_, hSc⟩ := hSw
              go_simp
              try (with_reducible rfl)
            simp only [List.getElem_toArray, List.getElem_cons_succ, List.getElem_cons_zero, Act.put, List.setIfInBounds_toArray, List.set_cons_zero, List.set_cons_succ]
            refine wpAnyH_take (i := 41) (oi := _) (v := ?_) rfl (by kernel_rfl) (by kernel_rfl) (by kernel_rfl) (fun _ _ _ h => h) (Or.inl ⟨by rfl, ?_⟩) (by assumption) ?_
            rotate_left 1
            focus
              intro wq hSw
              (try dsimp only at hSw)
              obtain ⟨_, hSc⟩ := hSw
              go_simp
              try (with_reducible rfl)
            simp only [List.getElem_toArray, List.getElem_cons_succ, List.getElem_cons_zero, Act.put, List.setIfInBounds_toArray, List.set_cons_zero, List.set_cons_succ]
            refine wpAnyH_take (i := 42) (oi := _) (v := ?_) rfl (by kernel_rfl) (by kernel_rfl) (by kernel_rfl) (fun _ _ _ h => h) (Or.inl ⟨by rfl, ?_⟩) (by assumption) ?_
            rotate_left 1
            focus
              intro wq hSw
              (try dsimp only at hSw)
              obtain ⟨_, hSc⟩ := hSw
              go_simp
              try (with_reducible rfl)
            simp only [List.getElem_toArray, List.getElem_cons_succ, List.getElem_cons_zero, Act.put, List.setIfInBounds_toArray, List.set_cons_zero, List.set_cons_succ]
            refine wpAnyH_take (i := 43) (oi := _) (v := ?_) rfl (by kernel_rfl) (by kernel_rfl) (by kernel_rfl) (fun _ _ _ h => h) (Or.inl ⟨by rfl, ?_⟩) (by assumption) ?_
            rotate_left 1
            focus
              intro wq hSw
              (try dsimp only at hSw)
              obtain ⟨_, hSc⟩ := hSw
              go_simp
              try (with_reducible rfl)
            simp only [List.getElem_toArray, List.getElem_cons_succ, List.getElem_cons_zero, Act.put, List.setIfInBounds_toArray, List.set_cons_zero, List.set_cons_succ]
            refine wpAnyH_take (i := 44) (oi := _) (v := ?_) rfl (by kernel_rfl) (by kernel_rfl) (by kernel_rfl) (fun _ _ _ h => h) (Or.inl ⟨by rfl, ?_⟩) (by assumption) ?_
            rotate_left 1
            focus
              intro wq hSw
              (try dsimp only at hSw)
              obtain ⟨_, hSc⟩ := hSw
              go_simp
              try (with_reducible rfl)
            simp only [List.getElem_toArray, List.getElem_cons_succ, List.getElem_cons_zero, Act.put, List.setIfInBounds_toArray, List.set_cons_zero, List.set_cons_succ]
            refine wpAnyH_ready (rs := [39]) (by kernel_rfl) (by simp) (AllReadyH.cons (o := _) rfl (fun K hK => ?_) AllReadyH.nil)
            go_simp
            go_at_call 11
            refine (CW1.out _ hB13).mono ?_
            rintro e w14 ⟨rfl, b14⟩
            have hB14 : Below w6.heap.size w6 w14 := hB13.trans (b14.mono hB13.size)
            try go_wp2_with fail
            refine hK.out _ _ (KS.out _ hB14) (fun hHeld => ?_)
            clear hK K
            try simp only [List.getElem_toArray, List.getElem_cons_succ, List.getElem_cons_zero, Act.put, List.setIfInBounds_toArray, List.set_cons_zero, List.set_cons_succ]
            clear hB13 b14
            refine wpAnyH_take (i := 45) (oi := _) (v := ?_) rfl (by kernel_rfl) (by kernel_rfl) (by kernel_rfl) (fun _ _ _ h => h) (Or.inl ⟨by rfl, ?_⟩) (by assumption) ?_
            rotate_left 1
            focus
              intro wq hSw
              (try dsimp only at hSw)
              obtain ⟨_, hSc⟩ := hSw
              go_simp
              try (with_reducible rfl)
            simp only [List.getElem_toArray, List.getElem_cons_succ, List.getElem_cons_zero, Act.put, List.setIfInBounds_toArray, List.set_cons_zero, List.set_cons_succ]
            refine wpAnyH_take (i := 46) (oi := _) (v := ?_) rfl (by kernel_rfl) (by kernel_rfl) (by kernel_rfl) (fun _ _ _ h => h) (Or.inl ⟨by rfl, ?_⟩) (by assumption) ?_
            rotate_left 1
            focus
              intro wq hSw
              (try dsimp only at hSw)
              obtain ⟨_, hSc⟩ := hSw
              go_simp
              try (with_reducible rfl)
            simp only [List.getElem_toArray, List.getElem_cons_succ, List.getElem_cons_zero, Act.put, List.setIfInBounds_toArray, List.set_cons_zero, List.set_cons_succ]
            refine wpAnyH_take (i := 47) (oi := _) (v := ?_) rfl (by kernel_rfl) (by kernel_rfl) (by kernel_rfl) (fun _ _ _ h => h) (Or.inl ⟨by rfl, ?_⟩) (by assumption) ?_
            rotate_left 1
            focus
              intro wq hSw
              (try dsimp only at hSw)
              obtain ⟨_, hSc⟩ := hSw
              go_simp
              try (with_reducible rfl)
            simp only [List.getElem_toArray, List.getElem_cons_succ, List.getElem_cons_zero, Act.put, List.setIfInBounds_toArray, List.set_cons_zero, List.set_cons_succ]
            refine wpAnyH_done (by kernel_rfl) ?_ _
            go_wp2
            go_ret
            exact ⟨rfl, B6.out.trans (hB14.mono S6.out)⟩
end Go.Proofs.Ytafdlilojlmchaa
