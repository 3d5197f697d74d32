/-
  The model's count of the maps of a tree to itself, tried one by one.
-/
import Derived.Test.YthlboikljibohaaZK
import Derived.Test.YthlboikljibohaaZH
import Derived.Test.YthlboikljibohaaCAppRd
import Derived.Test.YthlboikljibohaaZQ
import Derived.Deep.RegionHeld3
import Derived.Deep.QuietTactic
import Derived.BigQuiet
namespace Go.Proofs.Ythlboikljibohaa
open Go.RowKit

theorem hasN_any (L : List Nat) (x : Nat) (y : Value) (w : World) {B H : Nat} (hv : Hid (Own w B H 3 y (iv (intsB L)))) (hl : L.length ≤ 64) :
    Calls Try.prog 78 #[y, .int .i64 (x : Int)] w fun e w' => e = .returned (.bool (decide (x ∈ L))) ∧ w = w' := by
  have := hasInt_any (intsB L) y (x : Int) w hv (by simp [intsB]; omega)
  have e : decide ((x : Int) ∈ intsB L) = decide (x ∈ L) := by
    rw [decide_eq_decide]
    unfold intsB
    exact mem_ints L x
  rwa [e] at this
set_option maxHeartbeats 6400000 in
set_option maxRecDepth 100000 in
theorem mapsFrom_any (n : Nat) (E : Edges) (hT : Hid (TreeS n E)) : ∀ (k : Nat) (im : List Nat), im.length + k = n → ∀ (v : Value) (RV : List Value) (g c : Nat) (w : World) (B0 H0 B1 H1 : Nat), Hid (Grid w B0 H0 v RV (rowsE E)) → H0 ≤ w.heap.size → Hid (Own w B1 H1 3 (.slice (some ⟨g, 0, none⟩) im.length c) (iv (intsB im))) → H1 ≤ w.heap.size →
    Calls Try.prog 47 #[.int .i64 (n : Int), v, .slice (some ⟨g, 0, none⟩) im.length c] w fun e w' => e = .returned (.int .i64 (tryM E n k im : Int)) ∧ Below w.heap.size w w' := by
  obtain ⟨i0, hi, hz0, hz1, hz2⟩ := info_parts Try.infoIntR
  intro k
  induction k with
  | zero =>
    intro im hl v RV g c w B0 H0 B1 H1 hG hH hI hH1
    obtain ⟨av, cv, rfl⟩ : ∃ a c, v = .slice a RV.length c := by
      obtain ⟨a, c, h, _⟩ := hG.out.1.slice; exact ⟨a, c, h⟩
    have hl' : im.length = n := by omega
    have TR : Hid (tryM E n 0 im = 1) := rfl
    obtain ⟨t, ht⟩ : ∃ t, t = tryM E n 0 im := ⟨_, rfl⟩
    rw [← ht] at TR ⊢
    rw [hl']
    clear hG hI hH hH1 hl hl' ht
    go_enter Try.func47, Try.ntmps47
    go_wp2
    go_ret
    rw [TR.out]
    exact ⟨rfl, Below.refl _ _⟩
  | succ k ih =>
    intro im hl v RV g c w B0 H0 B1 H1 hG hH hI hH1
    have hn7 := hT.out.h7
    have CB := Lib.hid (fun (u : Nat) (W : World) (hW : Below w.heap.size w W) => beside_nb n E hT u v RV W (Lib.hid (hG.out.below (hW.mono hH))) (Nat.le_trans hH hW.size))
    have HI : Hid (∀ W, Below w.heap.size w W → Own W B1 H1 3 (.slice (some ⟨g, 0, none⟩) im.length c) (iv (intsB im))) := fun W hW => hI.out.below (hW.mono hH1)
    have CH := Lib.hid (fun (x : Nat) (W : World) (hW : Below w.heap.size w W) => hasN_any im x _ W (Lib.hid (HI.out W hW)) (by omega))
    have CT := Lib.hid (fun (x g' c' : Nat) (W : World) (B2 : Nat) (hW : Below w.heap.size w W) (hy : Hid (Own W B2 W.heap.size 3 (.slice (some ⟨g', 0, none⟩) (im.length + 1) c') (iv (intsB (im ++ [x]))))) => by
      have := ih (im ++ [x]) (by rw [List.length_append, List.length_singleton]; omega) v RV g' c' W B0 H0 B2 W.heap.size (Lib.hid (hG.out.below (hW.mono hH))) (Nat.le_trans hH hW.size)
      rw [List.length_append, List.length_singleton] at this
      exact this hy (Nat.le_refl _))
    obtain ⟨av, cv, rfl⟩ : ∃ a c, v = .slice a RV.length c := by
      obtain ⟨a, c, h, _⟩ := hG.out.1.slice; exact ⟨a, c, h⟩
    have N12 := hT.out.nb12
    have GD : Hid (∀ x, goodK E im im.length x im.length = goodB E im x) := fun x => rfl
    have CE : Hid (∀ W, Below w.heap.size w W → ∀ j, j < im.length → W.cell? ⟨g, j, none⟩ = some (.int .i64 (im.getD j 0 : Int))) := fun W hW j hj => by
      obtain ⟨g', e, _, _, h, _⟩ := (HI.out W hW).at_ j (by rw [intsB_len]; exact hj)
      simp only [Option.some.injEq, Addr.mk.injEq] at e
      obtain ⟨rfl, _⟩ := e
      rw [h]
      simp [iv, intsB, hj]
    obtain ⟨l, hl'⟩ : ∃ l, l = im.length := ⟨_, rfl⟩
    have HL := Lib.hid hl'
    rw [← hl'] at CH CT HI hl GD CE ⊢
    have hln : ((l : Int) == (n : Int)) = false := by rw [beq_eq_false_iff_ne]; omega
    have TR : Hid (tryM E n (k + 1) im = sumM E n k im n) := rfl
    have hk6 : k ≤ 6 := by omega
    have hp7 : n ^ k ≤ 7 ^ 6 := Nat.le_trans (Nat.pow_le_pow_left hn7 k) (Nat.pow_le_pow_right (by decide) hk6)
    have S0 : Hid ((0 : Int) = (sumM E n k im 0 : Int)) := rfl
    have HB0 : Hid (Below w.heap.size w w) := Below.refl _ _
    clear hG hI hH hH1 ih hl'
    go_enter Try.func47, Try.ntmps47
    go_wp2_with fail
    go_loopw [7, 9] (fun e7 ii wr => ∃ (j : Nat) (z : Int), j ≤ n ∧ ii = .int .i64 (j : Int) ∧ e7 = .int .i64 z ∧ Hid (z = (sumM E n k im j : Int)) ∧ Hid (Below w.heap.size w wr)) (fun _ ii _ => n - (intOf ii).toNat)
    case atStart => exact ⟨0, 0, Nat.zero_le _, rfl, rfl, S0, HB0⟩
    case round =>
      clear S0 HB0
      obtain ⟨j, z, hj, rfl, rfl, HZ, HB⟩ := hrel
      by_cases hlt : j < n
      · have b1 : (j : Int) < (n : Int) := by omega
        have SN := sumM_next E n k im j
        have CH1 := Lib.hid (CH.out j wr HB.out)
        by_cases hm : j ∈ im
        · have SN2 : Hid (z = (sumM E n k im (j + 1) : Int)) := by show _ = _; rw [HZ.out, SN, if_pos hm]; rfl
          rw [decide_eq_true hm] at CH1
          clear SN HZ CT CB
          go_wp2_with fail
          refine CH1.out.mono ?_
          rintro e w2 ⟨rfl, rfl⟩
          clear CH1
          go_wp2
          go_roundw
          case rel => exact ⟨j + 1, z, by omega, by go_num, rfl, SN2, HB⟩
          case measure => simp [intOf]; omega
        · rw [decide_eq_false hm] at CH1
          rw [if_neg hm] at SN
          have HSN := Lib.hid SN
          have K0 : Hid (true = goodK E im l j 0) := rfl
          have GDJ := Lib.hid (GD.out j)
          clear SN hm
          go_wp2_with fail
          refine CH1.out.mono ?_
          rintro e w2 ⟨rfl, rfl⟩
          clear CH1
          go_wp2_with fail
          go_loopw [10, 11] (fun e10 uu w3 => ∃ (u : Nat) (t : Bool), u ≤ l ∧ uu = .int .i64 (u : Int) ∧ e10 = .bool t ∧ Hid (t = goodK E im l j u) ∧ Hid (Below w.heap.size w w3)) (fun _ uu _ => l - (intOf uu).toNat)
          case atStart => exact ⟨0, true, Nat.zero_le _, rfl, rfl, K0, HB⟩
          case round =>
            clear K0 HB
            obtain ⟨u, t, hu, rfl, rfl, HT, HB⟩ := hrel
            by_cases hlu : u < l
            · have b2 : (u : Int) < (l : Int) := by omega
              have GN := goodK_next E im l j u
              cases t with
              | false =>
                have TN : Hid (false = goodK E im l j (u + 1)) := by show _ = _; rw [GN, ← HT.out]; rfl
                clear GN HT CT CB
                go_wp2_with fail
                go_quiet (fail)
                all_goals
                  go_wp2
                  go_roundw
                  case rel => exact ⟨u + 1, false, by omega, by go_num, rfl, TN, HB.out.trans ⟨rfl, rfl, rfl, Nat.le_refl _, fun _ _ => rfl⟩⟩
                  case measure => simp [intOf]; omega
              | true =>
                have c0 := CE.out wr HB.out u hlu
                obtain ⟨iu, hiu⟩ : ∃ iu, iu = im.getD u 0 := ⟨_, rfl⟩
                rw [← hiu] at c0 GN
                have CB1 := Lib.hid (fun (W : World) (hW : Below wr.heap.size wr W) => CB.out u W (HB.out.trans (hW.mono HB.out.size)))
                have CB2 := Lib.hid (fun (W : World) (hW : Below wr.heap.size wr W) => CB.out iu W (HB.out.trans (hW.mono HB.out.size)))
                have n1 := N12 u
                have n2 := N12 iu
                have CI1 := Lib.hid (fun (y : Value) (W : World) (B H : Nat) (hy : Hid (Own W B H 3 y (iv (intsB (nb E u))))) => hasN_any (nb E u) l y W hy (by omega))
                have CI2 := Lib.hid (fun (y : Value) (W : World) (B H : Nat) (hy : Hid (Own W B H 3 y (iv (intsB (nb E iu))))) => hasN_any (nb E iu) j y W hy (by omega))
                obtain ⟨p, hp⟩ : ∃ p, p = decide (l ∈ nb E u) := ⟨_, rfl⟩
                obtain ⟨q, hq⟩ : ∃ q, q = decide (j ∈ nb E iu) := ⟨_, rfl⟩
                rw [← hp] at CI1
                rw [← hq] at CI2
                have TN : Hid ((p == q) = goodK E im l j (u + 1)) := by show _ = _; rw [GN, ← HT.out, hp, hq]; rfl
                obtain ⟨N1, hN1⟩ : ∃ N1, N1 = iv (intsB (nb E u)) := ⟨_, rfl⟩
                obtain ⟨N2, hN2⟩ : ∃ N2, N2 = iv (intsB (nb E iu)) := ⟨_, rfl⟩
                rw [← hN1] at CB1 CI1
                rw [← hN2] at CB2 CI2
                clear GN HT CT CB CE hp hq hN1 hN2 hiu n1 n2 N12
                have hB0 : Below wr.heap.size wr wr := Below.refl _ _
                have hgw := World.block_lt_of_cell? wr _ c0
                have KS : Hid (∀ W, Below wr.heap.size wr W → (Below wr.heap.size wr W ∧ W.cell? ⟨g, u, none⟩ = some (.int .i64 (iu : Int)))) := fun W h => ⟨h, (h.cell (p := ⟨g, u, none⟩) hgw).trans c0⟩
                clear hgw
                go_wp2_with fail
                go_region_held3 (fun w' => Below wr.heap.size wr w' ∧ w'.cell? ⟨g, u, none⟩ = some (.int .i64 (iu : Int)))
                  (first
                    | exact KS.out _ (by assumption)
                    | exact KS.out _ (Below.drew (by assumption)))
                  (first
                    | (go_at_call 79; have mk2 := mk1; go_split_ands; refine (CB2.out _ (by assumption)).mono ?_; rintro e w6 ⟨y2, rfl, hy2, hb6⟩
                       have O2 := Lib.hid hy2
                       have hB6 : Below wr.heap.size wr w6 := by
                         refine Below.trans (B := wr.heap.size) ?_ (hb6.mono (Below.size (B := wr.heap.size) ?_)) <;> assumption
                       clear hy2 hb6)
                    | (go_at_call 79; have mk1 : True := trivial; go_split_ands; refine (CB1.out _ (by assumption)).mono ?_; rintro e w4 ⟨y1, rfl, hy1, hb4⟩
                       have O1 := Lib.hid hy1
                       have hB4 : Below wr.heap.size wr w4 := by
                         refine Below.trans (B := wr.heap.size) ?_ (hb4.mono (Below.size (B := wr.heap.size) ?_)) <;> assumption
                       clear hy1 hb4)
                    | (go_at_call 78; have mk4 := mk2; go_split_ands; refine (CI2.out _ _ _ _ (by first | exact O2 | exact Lib.hid (O2.out.below (Below.drew (Below.refl _ _))))).mono ?_; rintro e w7 ⟨rfl, rfl⟩)
                    | (go_at_call 78; have mk3 := mk1; go_split_ands; refine (CI1.out _ _ _ _ (by first | exact O1 | exact Lib.hid (O1.out.below (Below.drew (Below.refl _ _))))).mono ?_; rintro e w5 ⟨rfl, rfl⟩))
                all_goals
                  have BF : Hid (Below w.heap.size w w6) := HB.out.trans (hB6.mono HB.out.size)
                  clear O1 O2 hB4 hB6 hB0 c0 KS CI1 CI2 CB1 CB2 HB
                  go_wp2
                  go_roundw
                  case rel => exact ⟨u + 1, _, by omega, by go_num, rfl, TN, BF⟩
                  case measure => simp [intOf]; omega
            · obtain rfl : u = l := by omega
              have HTG : Hid (t = goodB E im j) := by show _ = _; rw [HT.out]; exact GDJ.out
              clear HT GDJ GD CB N12
              cases t with
              | false =>
                have SN2 : Hid (z = (sumM E n k im (j + 1) : Int)) := by
                  show _ = _; rw [HZ.out, HSN.out, if_neg (by rw [← HTG.out]; decide)]; rfl
                clear HSN HTG HZ CT CE
                go_wp2
                go_roundw
                case rel => exact ⟨j + 1, z, by omega, by go_num, rfl, SN2, HB⟩
                case measure => simp [intOf]; omega
              | true =>
                have CT1 := CT.out j
                have hle1 := sumM_le E n k im j
                have hle2 := tryM_le E n k (im ++ [j])
                have SN := HSN.out
                rw [if_pos HTG.out.symm] at SN
                obtain ⟨y, hy⟩ : ∃ y, y = tryM E n k (im ++ [j]) := ⟨_, rfl⟩
                rw [← hy] at CT1 SN hle2
                have CT1 := Lib.hid CT1
                have hjn : j * n ^ k ≤ 7 * n ^ k := Nat.mul_le_mul_right _ (by omega)
                have SN2 : Hid (z + (y : Int) = (sumM E n k im (j + 1) : Int)) := by show _ = _; rw [HZ.out, SN]; omega
                have hzb : 0 ≤ z ∧ z ≤ 1000000 := by rw [HZ.out]; omega
                obtain ⟨hz0', hz1'⟩ := hzb
                have hyb : y ≤ 1000000 := by omega
                have ew : IntKind.i64.wrap (z + (y : Int)) = z + (y : Int) := by rw [IntKind.wrap_i64]; omega
                have RD : Hid (∀ W, Below w.heap.size w W → RdI W w.heap.size (some ⟨g, 0, none⟩) (intsB im)) := fun W hW i hi => by
                  have hi2 : i < im.length := by simpa [intsB] using hi
                  have h := CE.out w (Below.refl _ _) i (by rw [HL.out]; exact hi2)
                  refine ⟨g, 0, rfl, World.block_lt_of_cell? w _ h, ?_⟩
                  rw [Nat.zero_add, CE.out W hW i (by rw [HL.out]; exact hi2)]
                  simp [intsB, hi2]
                have ISN := Lib.hid (intsB_snoc im j)
                have LIM : Hid ((intsB im).length = u) := by show _ = _; simp [intsB]; exact HL.out.symm
                clear hy SN HSN HTG HZ hle1 hle2 hjn CT CE
                have O0 : Hid ((wr.alloc (.cells #[] 3)).ownsRow w.heap.size 3 1 (.slice (some ⟨wr.heap.size, 0, none⟩) 0 0) 0 []) :=
                  World.ownsRow_lit (base := w.heap.size) (e := 3) (size := 1) wr #[] 0 HB.out.size (by unfold maxLen; omega) rfl
                have B1 : Hid (Below w.heap.size w (wr.alloc (.cells #[] 3))) := HB.out.alloc HB.out.size _
                have z1 : u + 1 ≤ maxLen := by unfold maxLen; omega
                have z2 : (u + 1) * 8 ≤ 140737488355328 := by omega
                go_wp2_with (at_builtin; first
                  | (refine wpList_append_rd rfl (.tmp 54) (.tmp 55) rfl w.heap.size _ 0 [] rfl O0.out (some ⟨g, 0, none⟩) u c rfl LIM.out (RD.out _ B1.out) (by omega) (by omega) B1.out.size ?_
                     intro v4 w4 hv4 hg4
                     have B4 : Hid (Below w.heap.size w w4) := B1.out.grown hg4 B1.out.size (fun q hq => (O0.out.lt q hq).1)
                     rw [Nat.zero_add, List.nil_append] at hv4
                     have O4 := Lib.hid hv4
                     have Y4 : Hid (∀ o : Obj, w.heap.size ≤ (w4.alloc o).heap.size) := fun o => by have := B4.out.size; rw [World.size_alloc]; omega
                     clear hv4 hg4)
                  | (refine wpList_append_lies _ rfl (.tmp 56) (.tmp 58) 34 rfl w.heap.size 3 i0 (.int .i64 0) 1 8 Try.underlying34 hi hz0 hz1 hz2 rfl (Nat.succ_pos 0) _ u (iv (intsB im)) rfl (O4.out.alloc _) ⟨w4.heap.size, 0, none⟩ 1 1 [.int .i64 (j : Int)] rfl rfl (cell_one_new _ _ _) (one_intR _) (Nat.succ_pos 0) z1 z2 (Y4.out _) _ rfl ?_
                     intro g5 c5 w5 hv5 hg5 _ hgs5)
                  | fail)
                rw [← ISN.out] at hv5
                have B5 : Hid (Below w.heap.size w w5) := (B4.out.alloc B4.out.size _).grown hg5 (Y4.out _) (fun q hq => (O4.out.lt q hq).1)
                have O5 : Hid (Own w5 w.heap.size w5.heap.size 3 (.slice (some ⟨g5, 0, none⟩) (u + 1) c5) (iv (intsB (im ++ [j])))) := by
                  refine Own.of_own ?_
                  have e : (iv (intsB (im ++ [j]))).length = u + 1 := by rw [intsB_len, List.length_append, List.length_singleton, HL.out]
                  rw [e]; exact hv5
                clear hv5 hg5 hgs5 O4 Y4 B4 O0 B1 RD
                go_wp2_with fail
                refine (CT1.out _ _ _ _ B5.out O5).mono ?_
                rintro e w6 ⟨rfl, hb6⟩
                have BW6 : Hid (Below w.heap.size w w6) := B5.out.trans (hb6.mono B5.out.size)
                clear hb6 CT1 O5 B5 HB
                go_wp2
                go_roundw
                case rel => exact ⟨j + 1, _, by omega, by go_num, rfl, SN2, BW6⟩
                case measure => simp [intOf]; omega
      · obtain rfl : j = n := by omega
        have HF : Hid (z = (tryM E j (k + 1) im : Int)) := by show _ = _; rw [HZ.out, TR.out]
        clear HZ CT CB CH
        go_wp2
        go_ret
        rw [HF.out]
        exact ⟨rfl, HB.out⟩
set_option maxHeartbeats 800000 in
theorem specSelfMapsTried_any (n : Int) (rows : List (List Int)) (v : Value) (RV : List Value) (w : World) {B0 H0 : Nat} (hG : Hid (Grid w B0 H0 v RV rows)) (hH : H0 ≤ w.heap.size) (hrl : rows.length ≤ 1048576) :
    Calls Try.prog 19 #[.int .i64 n, v] w fun e w' => e = .returned (.int .i64 (triedOut n rows)) ∧ Below w.heap.size w w' := by
  have CV := Lib.hid (validTree_any n rows v RV w hG hH hrl)
  obtain ⟨av, cv, rfl⟩ : ∃ a c, v = .slice a RV.length c := by
    obtain ⟨a, c, h, _⟩ := hG.out.1.slice; exact ⟨a, c, h⟩
  cases ht : treeB n rows with
  | true =>
    rw [triedOut, if_pos ht]
    obtain ⟨h1, h2⟩ := rowsE_tree ht
    obtain ⟨N, rfl⟩ : ∃ N : Nat, n = N := ⟨n.toNat, by have := (treeB_iff.1 ht).1; omega⟩
    rw [Int.toNat_natCast] at h2 ⊢
    rw [tried_same h2.v]
    have CC := Lib.hid (fun (g c : Nat) (W : World) (B2 : Nat) (hW : Below w.heap.size w W) (hy : Hid (Own W B2 W.heap.size 3 (.slice (some ⟨g, 0, none⟩) 0 c) (iv (intsB [])))) => mapsFrom_any N (edgesR rows) h2 N [] (by simp) (.slice av RV.length cv) RV g c W B0 H0 B2 W.heap.size (Lib.hid (by rw [← h1]; exact hG.out.below (hW.mono hH))) (Nat.le_trans hH hW.size) hy (Nat.le_refl _))
    rw [ht] at CV
    clear hG hH hrl h1 h2 ht
    obtain ⟨Z, hZ⟩ : ∃ Z : Int, Z = (tryM (edgesR rows) N N [] : Int) := ⟨_, rfl⟩
    rw [← hZ] at CC ⊢
    clear hZ
    go_enter Try.func19, Try.ntmps19
    go_wp2_with fail
    refine CV.out.mono ?_
    rintro e w1 ⟨rfl, hb1⟩
    have HB1 := Lib.hid hb1
    clear hb1 CV
    have O1 : Hid (Own (w1.alloc (.cells #[] 3)) w1.heap.size (w1.alloc (.cells #[] 3)).heap.size 3 (.slice (some ⟨w1.heap.size, 0, none⟩) 0 0) (iv (intsB []))) :=
      Own.of_own (World.ownsRow_lit (base := w1.heap.size) (e := 3) (size := 1) w1 #[] 0 (Nat.le_refl _) (by unfold maxLen; omega) rfl)
    have B2 : Hid (Below w.heap.size w (w1.alloc (.cells #[] 3))) := HB1.out.alloc HB1.out.size _
    go_wp2_with fail
    refine (CC.out _ _ _ _ B2.out O1).mono ?_
    rintro e w2 ⟨rfl, hb2⟩
    have HB2 : Hid (Below w.heap.size w w2) := B2.out.trans (hb2.mono B2.out.size)
    clear hb2 CC
    go_wp2
    go_ret
    exact ⟨rfl, HB2.out⟩
  | false =>
    rw [triedOut, if_neg (by rw [ht]; decide)]
    rw [ht] at CV
    clear hG hH hrl ht
    go_enter Try.func19, Try.ntmps19
    go_wp2_with fail
    refine CV.out.mono ?_
    rintro e w1 ⟨rfl, hb1⟩
    have HB1 := Lib.hid hb1
    clear hb1 CV
    go_wp2
    go_ret
    exact ⟨rfl, HB1.out⟩
end Go.Proofs.Ythlboikljibohaa
