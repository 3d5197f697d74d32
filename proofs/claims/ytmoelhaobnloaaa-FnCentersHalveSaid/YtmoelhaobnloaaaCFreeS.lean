/-
  The model's centers, texts and shapes of any rows.
-/
import Derived.Test.YtmoelhaobnloaaaCTextS
import Derived.Test.YtmoelhaobnloaaaCFreeO
import Derived.Lib.MinMaxS
namespace Go.Proofs.Ytmoelhaobnloaaa
open Go.RowKit

theorem leastT_next {M : List (List UInt8)} {i : Nat} (h1 : 1 ≤ i) (hi : i < M.length) : leastT (M.take (i + 1)) = minT (leastT (M.take i)) M[i] := by
  rw [List.take_succ_eq_append_getElem hi]
  cases M with
  | nil => simp at hi
  | cons x r =>
    cases i with
    | zero => omega
    | succ i =>
      rw [List.take_succ_cons]
      show ((r.take i) ++ [(x :: r)[i + 1]]).foldl minT x = minT ((r.take i).foldl minT x) _
      rw [List.foldl_append]; rfl
theorem rowsE_tree {n : Int} {rows : List (List Int)} (h : treeB n rows = true) : rows = rowsE (edgesR rows) ∧ TreeS n.toNat (edgesR rows) := by
  obtain ⟨h1, h2, h3⟩ := treeB_iff.1 h
  exact ⟨h2, h3, by omega⟩
set_option maxHeartbeats 1600000 in
set_option maxRecDepth 100000 in
theorem freeTextS_any (n : Nat) (E : Edges) (hT : Hid (TreeS n E)) (v : Value) (RV : List Value) (w : World) {B0 H0 : Nat} (hG : Hid (Grid w B0 H0 v RV (rowsE E))) (hH : H0 ≤ w.heap.size) :
    Calls Try.prog 52 #[.int .i64 (n : Int), v] w fun e w' => e = .returned (.string ⟨(freeT n E).toArray⟩) ∧ Below w.heap.size w w' := by
  have hmin := fun (ts : Array TypeId) (t : TypeId) (x y : ByteArray) (W : World) => Lib.run_min_strs (P := Try.prog) W ts t x y
  have CC := Lib.hid (centersS_any n E hT v RV w hG hH)
  have hn7 := hT.out.h7
  have hc2 := cents_two hT.out.v hn7
  have CT := Lib.hid (fun (u : Nat) (hu : u < n) (W : World) (hW : Below w.heap.size w W) => rootTextS_any n E hT 14 u (-1) (by omega) (Lib.hid (valid_brn hT.out.v hn7 u (-1))) (by rw [nd_len hT.out.v hn7 hu]; omega) v RV W B0 H0 (Lib.hid (hG.out.below (hW.mono hH))) (Nat.le_trans hH hW.size))
  obtain ⟨av, cv, rfl⟩ : ∃ a c, v = .slice a RV.length c := by
    obtain ⟨a, c, h, _⟩ := hG.out.1.slice; exact ⟨a, c, h⟩
  have hLn : Hid (∀ c ∈ cents n E, c < n) := fun c hc => by
    rcases hc2 with ⟨a, h, h1⟩ | ⟨a, b, h, h1, h2, _⟩
    · rw [h] at hc; simp at hc; omega
    · rw [h] at hc; simp at hc; omega
  have hL2 : Hid (1 ≤ (cents n E).length ∧ (cents n E).length ≤ 2) := by
    rcases hc2 with ⟨a, h, h1⟩ | ⟨a, b, h, h1, h2, _⟩ <;> (rw [h]; exact ⟨by simp, by simp⟩)
  have FT := Lib.hid (freeT_eq n E)
  obtain ⟨L, hL⟩ : ∃ L, L = cents n E := ⟨_, rfl⟩
  rw [← hL] at hLn hL2 FT CC
  obtain ⟨M, hMt⟩ : ∃ M, M = L.map fun c => txt E 14 c (-1) := ⟨_, rfl⟩
  rw [← hMt] at FT
  have HMt := Lib.hid hMt
  clear hG hH hc2 hL hMt
  go_enter Try.func52, Try.ntmps52
  go_wp2_with fail
  refine CC.out.mono ?_
  rintro e w1 ⟨y, rfl, hy, hb1⟩
  have hiL := intsB_len L
  obtain ⟨ay, cy, rfl, _⟩ := hy.slice
  rw [hiL] at hy ⊢
  have HY := Lib.hid hy
  have HB1 := Lib.hid hb1
  obtain ⟨m, hm⟩ : ∃ m, m = L.length := ⟨_, rfl⟩
  have HM := Lib.hid hm
  rw [← hm] at HY hL2 ⊢
  obtain ⟨hm1, hm2⟩ := hL2.out
  have hML : M.length = m := by rw [HMt.out, List.length_map, hm]
  have h0L : 0 < L.length := by omega
  obtain ⟨g, rfl, _, hgl, c0, _⟩ := HY.out.at_ 0 (by rw [hiL]; omega)
  have e1 : (iv (intsB L))[0]? = some (.int .i64 ((L[0] : Nat) : Int)) := by simp [iv, intsB, h0L]
  rw [e1] at c0
  have HML := Lib.hid hML
  have M0 : Hid (leastT (M.take 1) = txt E 14 L[0] (-1)) := by
    show _ = _
    have h0M : 0 < M.length := by omega
    rw [show (1 : Nat) = 0 + 1 from rfl, List.take_succ_eq_append_getElem h0M]
    simp [leastT, HMt.out]
  have hu0 := hLn.out _ (List.getElem_mem h0L)
  obtain ⟨u, hu⟩ : ∃ u, u = L[0] := ⟨_, rfl⟩
  rw [← hu] at c0 M0 hu0
  have CT0 := Lib.hid (CT.out u hu0 w1 HB1.out)
  rw [← M0.out] at CT0
  clear hy hb1 CC hiL hm hML e1 hu hu0 M0 hgl
  have b0 : (0 : Int) < (m : Int) := by omega
  go_wp2_with fail
  refine CT0.out.mono ?_
  rintro e w2 ⟨rfl, hb2⟩
  have B2 : Hid (Below w1.heap.size w1 w2) := hb2
  clear hb2 CT0 c0
  go_wp2_with fail
  go_loopw [6, 7] (fun e6 ii wr => ∃ i : Nat, 1 ≤ i ∧ i ≤ m ∧ ii = .int .i64 (i : Int) ∧ e6 = .string (bs (leastT (M.take i))) ∧ Hid (Below w1.heap.size w1 wr)) (fun _ ii _ => m - (intOf ii).toNat)
  case atStart => exact ⟨1, Nat.le_refl _, hm1, rfl, rfl, B2⟩
  case round =>
    clear B2
    obtain ⟨i, hi1, him, rfl, rfl, HB⟩ := hrel
    by_cases hlt : i < m
    · have b1 : (i : Int) < (m : Int) := by omega
      have hiL : i < L.length := by rw [← HM.out]; exact hlt
      obtain ⟨g', e0, _, hgl, c0, _⟩ := HY.out.at_ i (by rw [intsB_len]; exact hiL)
      cases e0
      have c1 := (HB.out.cell (p := ⟨g, i, none⟩) hgl).trans c0
      have e1 : (iv (intsB L))[i]? = some (.int .i64 ((L[i] : Nat) : Int)) := by simp [iv, intsB, hiL]
      rw [e1] at c1
      have hiM : i < M.length := by rw [HML.out]; exact hlt
      have LN := leastT_next hi1 hiM
      have eM : M[i] = txt E 14 L[i] (-1) := by simp [HMt.out]
      have hu := hLn.out _ (List.getElem_mem hiL)
      obtain ⟨u, hue⟩ : ∃ u, u = L[i] := ⟨_, rfl⟩
      rw [← hue] at c1 eM hu
      obtain ⟨f, hf⟩ : ∃ f, f = M[i] := ⟨_, rfl⟩
      rw [← hf] at eM LN
      have BW : Hid (Below w.heap.size w wr) := HB1.out.trans (HB.out.mono HB1.out.size)
      have CX := CT.out u hu wr BW.out
      rw [← eM] at CX
      have CX := Lib.hid CX
      obtain ⟨A, hA⟩ : ∃ A, A = bs (leastT (M.take i)) := ⟨_, rfl⟩
      have HN : Hid (Lib.minS A ⟨f.toArray⟩ = bs (leastT (M.take (i + 1)))) := by
        show _ = _
        rw [LN, hA]
        exact minS_bs _ _
      rw [← hA]
      clear c0 e1 hiM LN eM hue hf hiL hgl CT hA
      go_wp2_with fail
      refine CX.out.mono ?_
      rintro e w3 ⟨rfl, hb3⟩
      have B3 : Hid (Below w1.heap.size w1 w3) := HB.out.trans (hb3.mono HB.out.size)
      clear hb3 CX HB BW c1
      go_wp2
      go_roundw
      case rel => exact ⟨i + 1, by omega, by omega, by go_num, by rw [HN.out], B3⟩
      case measure => simp [intOf]; omega
    · obtain rfl : i = m := by omega
      have HF : Hid (bs (leastT (M.take i)) = ⟨(freeT n E).toArray⟩) := by
        show _ = _
        rw [FT.out, ← HML.out, List.take_length]; rfl
      have BF : Hid (Below w.heap.size w wr) := HB1.out.trans (HB.out.mono HB1.out.size)
      clear CT hmin
      go_wp2
      go_ret
      rw [HF.out]
      exact ⟨rfl, BF.out⟩
/-! ### of any rows -/
set_option maxHeartbeats 800000 in
theorem specCentersOf_any (n : Int) (rows : List (List Int)) (v : Value) (RV : List Value) (w : World) {B0 H0 : Nat} (hG : Hid (Grid w B0 H0 v RV rows)) (hH : H0 ≤ w.heap.size) (hrl : rows.length ≤ 1048576) :
    Calls Try.prog 14 #[.int .i64 n, v] w fun e w' => ∃ y, e = .returned y ∧ Own w' w.heap.size w'.heap.size 3 y (iv (centsOut n rows)) ∧ Below w.heap.size w w' := by
  have CV := Lib.hid (validTree_any n rows v RV w hG hH hrl)
  obtain ⟨av, cv, rfl⟩ : ∃ a c, v = .slice a RV.length c := by
    obtain ⟨a, c, h, _⟩ := hG.out.1.slice; exact ⟨a, c, h⟩
  cases ht : treeB n rows with
  | true =>
    rw [centsOut, if_pos ht]
    obtain ⟨h1, h2⟩ := rowsE_tree ht
    obtain ⟨N, rfl⟩ : ∃ N : Nat, n = N := ⟨n.toNat, by have := (treeB_iff.1 ht).1; omega⟩
    rw [Int.toNat_natCast] at h2 ⊢
    have CC := Lib.hid (fun (W : World) (hW : Below w.heap.size w W) => centersS_any N (edgesR rows) h2 (.slice av RV.length cv) RV W (Lib.hid (by rw [← h1]; exact hG.out.below (hW.mono hH))) (Nat.le_trans hH hW.size))
    rw [ht] at CV
    clear hG hH hrl h1 h2 ht
    go_enter Try.func14, Try.ntmps14
    go_wp2_with fail
    refine CV.out.mono ?_
    rintro e w1 ⟨rfl, hb1⟩
    have HB1 := Lib.hid hb1
    clear hb1 CV
    go_wp2_with fail
    refine (CC.out _ HB1.out).mono ?_
    rintro e w2 ⟨y, rfl, hy, hb2⟩
    have HY := Lib.hid (own_lo hy HB1.out.size)
    have HB2 : Hid (Below w.heap.size w w2) := HB1.out.trans (hb2.mono HB1.out.size)
    clear hy hb2 CC
    go_wp2
    go_ret
    exact ⟨_, rfl, HY.out, HB2.out⟩
  | false =>
    rw [centsOut, if_neg (by rw [ht]; decide)]
    rw [ht] at CV
    clear hG hH hrl ht
    go_enter Try.func14, Try.ntmps14
    go_wp2_with fail
    refine CV.out.mono ?_
    rintro e w1 ⟨rfl, hb1⟩
    have HB1 := Lib.hid hb1
    clear hb1 CV
    go_wp2
    go_ret
    exact ⟨_, rfl, ⟨World.ownsRow_nil _ _ _ _, fun g hg => by simp [Value.ownBlock] at hg⟩, HB1.out⟩
set_option maxHeartbeats 800000 in
theorem specFreeText_any (n : Int) (rows : List (List Int)) (v : Value) (RV : List Value) (w : World) {B0 H0 : Nat} (hG : Hid (Grid w B0 H0 v RV rows)) (hH : H0 ≤ w.heap.size) (hrl : rows.length ≤ 1048576) :
    Calls Try.prog 23 #[.int .i64 n, v] w fun e w' => e = .returned (.string ⟨(freeOut n rows).toArray⟩) ∧ Below w.heap.size w w' := by
  have CV := Lib.hid (validTree_any n rows v RV w hG hH hrl)
  obtain ⟨av, cv, rfl⟩ : ∃ a c, v = .slice a RV.length c := by
    obtain ⟨a, c, h, _⟩ := hG.out.1.slice; exact ⟨a, c, h⟩
  cases ht : treeB n rows with
  | true =>
    rw [freeOut, if_pos ht]
    obtain ⟨h1, h2⟩ := rowsE_tree ht
    obtain ⟨N, rfl⟩ : ∃ N : Nat, n = N := ⟨n.toNat, by have := (treeB_iff.1 ht).1; omega⟩
    rw [Int.toNat_natCast] at h2 ⊢
    have CC := Lib.hid (fun (W : World) (hW : Below w.heap.size w W) => freeTextS_any N (edgesR rows) h2 (.slice av RV.length cv) RV W (Lib.hid (by rw [← h1]; exact hG.out.below (hW.mono hH))) (Nat.le_trans hH hW.size))
    rw [ht] at CV
    clear hG hH hrl h1 h2 ht
    go_enter Try.func23, Try.ntmps23
    go_wp2_with fail
    refine CV.out.mono ?_
    rintro e w1 ⟨rfl, hb1⟩
    have HB1 := Lib.hid hb1
    clear hb1 CV
    go_wp2_with fail
    refine (CC.out _ HB1.out).mono ?_
    rintro e w2 ⟨rfl, hb2⟩
    have HB2 : Hid (Below w.heap.size w w2) := HB1.out.trans (hb2.mono HB1.out.size)
    clear hb2 CC
    go_wp2
    go_ret
    exact ⟨rfl, HB2.out⟩
  | false =>
    rw [freeOut, if_neg (by rw [ht]; decide)]
    rw [ht] at CV
    clear hG hH hrl ht
    go_enter Try.func23, Try.ntmps23
    go_wp2_with fail
    refine CV.out.mono ?_
    rintro e w1 ⟨rfl, hb1⟩
    have HB1 := Lib.hid hb1
    clear hb1 CV
    go_wp2
    go_ret
    exact ⟨rfl, HB1.out⟩
set_option maxHeartbeats 800000 in
theorem specRootText_any (n r : Int) (rows : List (List Int)) (v : Value) (RV : List Value) (w : World) {B0 H0 : Nat} (hG : Hid (Grid w B0 H0 v RV rows)) (hH : H0 ≤ w.heap.size) (hrl : rows.length ≤ 1048576) :
    Calls Try.prog 17 #[.int .i64 n, v, .int .i64 r] w fun e w' => e = .returned (.string ⟨(rootOut n rows r).toArray⟩) ∧ Below w.heap.size w w' := by
  have CV := Lib.hid (validTree_any n rows v RV w hG hH hrl)
  obtain ⟨av, cv, rfl⟩ : ∃ a c, v = .slice a RV.length c := by
    obtain ⟨a, c, h, _⟩ := hG.out.1.slice; exact ⟨a, c, h⟩
  cases ht : treeB n rows with
  | true =>
    obtain ⟨h1, h2⟩ := rowsE_tree ht
    obtain ⟨N, rfl⟩ : ∃ N : Nat, n = N := ⟨n.toNat, by have := (treeB_iff.1 ht).1; omega⟩
    rw [Int.toNat_natCast] at h2
    have hN7 := h2.h7
    have hN1 : 1 ≤ N := by have := h2.v.len; omega
    have ew : IntKind.i64.wrap ((N : Int) - 1) = (N : Int) - 1 := by rw [IntKind.wrap_i64]; omega
    rw [ht] at CV
    by_cases hr : 0 ≤ r ∧ r < (N : Int)
    · rw [rootOut, if_pos ⟨ht, hr⟩]
      obtain ⟨u, rfl⟩ : ∃ u : Nat, r = u := ⟨r.toNat, by omega⟩
      rw [Int.toNat_natCast]
      have hu : u < N := by omega
      have CI := Lib.hid (fun (W : World) => inRange_yes (u : Int) 0 ((N : Int) - 1) W (by omega) (by omega))
      have CC := Lib.hid (fun (W : World) (hW : Below w.heap.size w W) => rootTextS_any N (edgesR rows) h2 14 u (-1) (by omega) (Lib.hid (valid_brn h2.v hN7 u (-1))) (by rw [nd_len h2.v hN7 hu]; omega) (.slice av RV.length cv) RV W B0 H0 (Lib.hid (by rw [← h1]; exact hG.out.below (hW.mono hH))) (Nat.le_trans hH hW.size))
      clear hG hH hrl h1 h2 ht hr
      go_enter Try.func17, Try.ntmps17
      go_wp2_with fail
      refine CV.out.mono ?_
      rintro e w1 ⟨rfl, hb1⟩
      have HB1 := Lib.hid hb1
      clear hb1 CV
      go_wp2_with fail
      refine (CI.out _).mono ?_
      rintro e w2 ⟨rfl, rfl⟩
      clear CI
      go_wp2_with fail
      refine (CC.out _ HB1.out).mono ?_
      rintro e w2 ⟨rfl, hb2⟩
      have HB2 : Hid (Below w.heap.size w w2) := HB1.out.trans (hb2.mono HB1.out.size)
      clear hb2 CC
      go_wp2
      go_ret
      exact ⟨rfl, HB2.out⟩
    · rw [rootOut, if_neg (fun h => hr h.2)]
      have CI := Lib.hid (fun (W : World) => inRange_no r 0 ((N : Int) - 1) W (by omega))
      clear hG hH hrl h1 h2 ht hr
      go_enter Try.func17, Try.ntmps17
      go_wp2_with fail
      refine CV.out.mono ?_
      rintro e w1 ⟨rfl, hb1⟩
      have HB1 := Lib.hid hb1
      clear hb1 CV
      go_wp2_with fail
      refine (CI.out _).mono ?_
      rintro e w2 ⟨rfl, rfl⟩
      clear CI
      go_wp2
      go_ret
      exact ⟨rfl, HB1.out⟩
  | false =>
    rw [rootOut, if_neg (fun h => by rw [ht] at h; cases h.1)]
    rw [ht] at CV
    clear hG hH hrl ht
    go_enter Try.func17, Try.ntmps17
    go_wp2_with fail
    refine CV.out.mono ?_
    rintro e w1 ⟨rfl, hb1⟩
    have HB1 := Lib.hid hb1
    clear hb1 CV
    go_wp2
    go_ret
    exact ⟨rfl, HB1.out⟩
end Go.Proofs.Ytmoelhaobnloaaa
