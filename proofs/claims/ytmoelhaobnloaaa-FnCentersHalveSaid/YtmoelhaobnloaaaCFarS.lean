/-
  The model's longest way into a branch, and its centers.
-/
import Derived.Test.YtmoelhaobnloaaaCBes
import Derived.Test.YtmoelhaobnloaaaWFreeC
namespace Go.Proofs.Ytmoelhaobnloaaa
open Go.RowKit

/-- the longest way, as far as k neighbours tell -/
def farS (E : Edges) (d u : Nat) (fr : Int) (k : Nat) : Nat := (((nb E u).take k).filter fun (x : Nat) => !decide ((x : Int) = fr)).foldl (fun m x => max m (1 + far E d x u)) 0
theorem farS_yes {E : Edges} {d u k : Nat} {fr : Int} (hk : k < (nb E u).length) (h : ((nb E u)[k] : Int) ≠ fr) : farS E d u fr (k + 1) = max (farS E d u fr k) (1 + far E d (nb E u)[k] u) := by
  unfold farS
  rw [List.take_succ_eq_append_getElem hk, List.filter_append, List.foldl_append, List.filter_cons_of_pos (by simpa using h)]; rfl
theorem farS_no {E : Edges} {d u k : Nat} {fr : Int} (hk : k < (nb E u).length) (h : ((nb E u)[k] : Int) = fr) : farS E d u fr (k + 1) = farS E d u fr k := by
  unfold farS
  rw [List.take_succ_eq_append_getElem hk, List.filter_append, List.foldl_append, List.filter_cons_of_neg (by simpa using h)]; rfl
theorem farS_all (E : Edges) (d u : Nat) (fr : Int) : farS E d u fr (nb E u).length = far E (d + 1) u fr := by unfold farS; rw [List.take_length]; rfl
theorem far_fuelS (E : Edges) : ∀ (d u : Nat) (fr : Int), far E d u fr ≤ d := by
  intro d
  induction d with
  | zero => intro u fr; exact Nat.le_refl _
  | succ d ih =>
    intro u fr
    rw [far, fold_max]
    exact ⟨by omega, fun x _ => by have := ih x u; omega⟩
theorem farS_le (E : Edges) (d u : Nat) (fr : Int) (k : Nat) : farS E d u fr k ≤ d + 1 := by
  unfold farS
  rw [fold_max]
  exact ⟨by omega, fun x _ => by have := far_fuelS E d x u; omega⟩
/-- what is known of the tree, for the model's functions -/
structure TreeS (n : Nat) (E : Edges) : Prop where
  v : ValidT n E
  h7 : n ≤ 7
theorem TreeS.ord {n : Nat} {E : Edges} (h : TreeS n E) : ∀ e ∈ E, e.1 < e.2 := fun e he => (h.v.ord e he).1
theorem TreeS.bes {n : Nat} {E : Edges} (h : TreeS n E) (u : Nat) : besN n E u = nb E u := bes_nb h.v.ord h.v.asc u
theorem TreeS.len {n : Nat} {E : Edges} (h : TreeS n E) : E.length ≤ 6 := by have := h.v.len; have := h.h7; omega
theorem TreeS.nb12 {n : Nat} {E : Edges} (h : TreeS n E) (u : Nat) : (nb E u).length ≤ 12 := by
  have key : ∀ E : Edges, (nb E u).length ≤ 2 * E.length := by
    intro E
    unfold nb
    induction E with
    | nil => exact Nat.le_refl _
    | cons e r ih =>
      rw [List.flatMap_cons, List.length_append, List.length_cons]
      have : (nb1 u e).length ≤ 2 := by unfold nb1; rw [List.length_append]; split <;> split <;> simp
      omega
  have := key E; have := h.len; omega
theorem beside_nb (n : Nat) (E : Edges) (hT : Hid (TreeS n E)) (u : Nat) (v : Value) (RV : List Value) (w : World) {B0 H0 : Nat} (hG : Hid (Grid w B0 H0 v RV (rowsE E))) (hH : H0 ≤ w.heap.size) :
    Calls Try.prog 75 #[.int .i64 (n : Int), v, .int .i64 (u : Int)] w fun e w' => ∃ y, e = .returned y ∧ Own w' w.heap.size w'.heap.size 3 y (iv (intsB (nb E u))) ∧ Below w.heap.size w w' := by
  have := beside_any n E (Lib.hid hT.out.ord) (by have := hT.out.h7; omega) (by have := hT.out.len; omega) u v RV w hG hH
  rwa [hT.out.bes] at this
set_option maxHeartbeats 3200000 in
set_option maxRecDepth 100000 in
theorem farthest_any (n : Nat) (E : Edges) (hT : Hid (TreeS n E)) : ∀ (d u : Nat) (fr : Int), d ≤ 64 → Hid (Brn E d u fr) → ∀ (v : Value) (RV : List Value) (w : World) (B0 H0 : Nat), Hid (Grid w B0 H0 v RV (rowsE E)) → H0 ≤ w.heap.size →
    Calls Try.prog 71 #[.int .i64 (n : Int), v, .int .i64 (u : Int), .int .i64 fr] w fun e w' => e = .returned (.int .i64 (far E d u fr : Int)) ∧ Below w.heap.size w w' := by
  intro d
  induction d with
  | zero => intro u fr _ h; exact h.out.elim
  | succ d ih =>
    intro u fr hd hB v RV w B0 H0 hG hH
    have CB := Lib.hid (beside_nb n E hT u v RV w hG hH)
    have CL := Lib.hid (fun (x : Nat) (hb : Hid (Brn E d x u)) (W : World) (hW : Below w.heap.size w W) => ih x u (by omega) hb v RV W B0 H0 (Lib.hid (hG.out.below (hW.mono hH))) (Nat.le_trans hH hW.size))
    obtain ⟨av, cv, rfl⟩ : ∃ a c, v = .slice a RV.length c := by
      obtain ⟨a, c, h, _⟩ := hG.out.1.slice; exact ⟨a, c, h⟩
    have FA := Lib.hid (farS_all E d u fr)
    have HBK : Hid (∀ x ∈ nb E u, (x : Int) ≠ fr → Brn E d x u) := fun x hx hf => hB.out x (mem_away.2 ⟨mem_nb.1 hx, hf⟩)
    have h12 := hT.out.nb12 u
    have hiL := intsB_len (nb E u)
    obtain ⟨m, hm⟩ : ∃ m, m = (nb E u).length := ⟨_, rfl⟩
    have HM := Lib.hid hm
    rw [← hm] at FA h12 hiL
    clear hG hH hB ih hm
    go_enter Try.func71, Try.ntmps71
    go_wp2_with fail
    refine CB.out.mono ?_
    rintro e w1 ⟨y, rfl, hy, hb1⟩
    obtain ⟨ay, cy, rfl, _⟩ := hy.slice
    rw [hiL] at hy ⊢
    have HY := Lib.hid hy
    have HB1 := Lib.hid hb1
    clear hy hb1 CB hiL
    go_wp2_with fail
    go_loopw [9, 11] (fun e9 ii wr => ∃ (k : Nat) (z : Int), k ≤ m ∧ ii = .int .i64 k ∧ e9 = .int .i64 z ∧ Hid (z = (farS E d u fr k : Int)) ∧ Hid (Below w1.heap.size w1 wr)) (fun _ ii _ => m - (intOf ii).toNat)
    case atStart => exact ⟨0, 0, Nat.zero_le _, rfl, rfl, rfl, Below.refl _ _⟩
    case round =>
      obtain ⟨k, z, hk, rfl, rfl, HZ, HB⟩ := hrel
      by_cases hlt : k < m
      · have b1 : (k : Int) < (m : Int) := by omega
        have hkn : k < (nb E u).length := by rw [← HM.out]; exact hlt
        obtain ⟨g, rfl, _, hgl, c0, _⟩ := HY.out.at_ k (by rw [intsB_len]; exact hkn)
        have c1 := (HB.out.cell (p := ⟨g, k, none⟩) hgl).trans c0
        have e1 : (iv (intsB (nb E u)))[k]? = some (.int .i64 (((nb E u)[k] : Nat) : Int)) := by simp [iv, intsB, hkn]
        rw [e1] at c1
        have FY := farS_yes (d := d) (fr := fr) hkn
        have FN := farS_no (d := d) (fr := fr) hkn
        have FL := farS_le E d u fr k
        have hmem := List.getElem_mem hkn
        obtain ⟨x, hx⟩ : ∃ x, x = (nb E u)[k] := ⟨_, rfl⟩
        rw [← hx] at c1 FY FN hmem
        have HBX := HBK.out x hmem
        clear hx hmem hkn c0 e1 hgl
        by_cases hxf : (x : Int) = fr
        · have q1 : ((x : Int) != fr) = false := by rw [hxf]; simp
          have ZN : Hid (z = (farS E d u fr (k + 1) : Int)) := by show _ = _; rw [FN hxf]; exact HZ.out
          clear FY FN HZ hxf CL HBX
          go_wp2
          go_roundw
          case rel => exact ⟨k + 1, z, by omega, by go_num, rfl, ZN, HB⟩
          case measure => simp [intOf]; omega
        · have q1 : ((x : Int) != fr) = true := by simpa using hxf
          have CX := CL.out x (Lib.hid (HBX hxf))
          have F2 := far_fuelS E d x u
          have FY := FY hxf
          obtain ⟨f, hf⟩ : ∃ f, f = far E d x u := ⟨_, rfl⟩
          rw [← hf] at FY F2 CX
          have CX := Lib.hid CX
          have ZN : Hid ((farS E d u fr (k + 1) : Int) = max z (1 + (f : Int))) := by show _ = _; rw [FY, HZ.out]; omega
          have hz1 : 0 ≤ z ∧ z ≤ 65 := by rw [HZ.out]; omega
          obtain ⟨hz0, hz2⟩ := hz1
          have ew : IntKind.i64.wrap (1 + (f : Int)) = 1 + (f : Int) := by rw [IntKind.wrap_i64]; omega
          have BW : Hid (Below w.heap.size w wr) := HB1.out.trans (HB.out.mono HB1.out.size)
          clear hf FY FN FL HZ hxf CL HBX
          go_wp2_with fail
          refine (CX.out _ BW.out).mono ?_
          rintro e w2 ⟨rfl, hb2⟩
          have B3 : Hid (Below w1.heap.size w1 w2) := HB.out.trans (hb2.mono HB.out.size)
          clear hb2 HB BW CX c1
          rcases Int.lt_trichotomy z (1 + (f : Int)) with hz | hz | hz
          · go_wp2
            go_roundw
            case rel => exact ⟨k + 1, _, by omega, by go_num, rfl, by show _ = _; rw [ZN.out]; omega, B3⟩
            case measure => simp [intOf]; omega
          · subst hz
            go_wp2
            go_roundw
            case rel => exact ⟨k + 1, _, by omega, by go_num, rfl, by show _ = _; rw [ZN.out]; omega, B3⟩
            case measure => simp [intOf]; omega
          · go_wp2
            go_roundw
            case rel => exact ⟨k + 1, _, by omega, by go_num, rfl, by show _ = _; rw [ZN.out]; omega, B3⟩
            case measure => simp [intOf]; omega
      · obtain rfl : k = m := by omega
        have HZ2 : Hid (z = (far E (d + 1) u fr : Int)) := by show _ = _; rw [HZ.out, FA.out]
        have BF : Hid (Below w.heap.size w wr) := HB1.out.trans (HB.out.mono HB1.out.size)
        clear HZ HB CL
        go_wp2
        go_ret
        rw [HZ2.out]
        exact ⟨rfl, BF.out⟩
set_option maxHeartbeats 3200000 in
set_option maxRecDepth 100000 in
theorem centersS_any (n : Nat) (E : Edges) (hT : Hid (TreeS n E)) (v : Value) (RV : List Value) (w : World) {B0 H0 : Nat} (hG : Hid (Grid w B0 H0 v RV (rowsE E))) (hH : H0 ≤ w.heap.size) :
    Calls Try.prog 41 #[.int .i64 (n : Int), v] w fun e w' => ∃ y, e = .returned y ∧ Own w' w.heap.size w'.heap.size 3 y (iv (intsB (cents n E))) ∧ Below w.heap.size w w' := by
  obtain ⟨i0, hi, hz0, hz1, hz2⟩ := info_parts Try.infoIntR
  have CL := Lib.hid (fun (u : Nat) (W : World) (hW : Below w.heap.size w W) => farthest_any n E hT 14 u (-1) (by omega) (Lib.hid (valid_brn hT.out.v hT.out.h7 u (-1))) v RV W B0 H0 (Lib.hid (hG.out.below (hW.mono hH))) (Nat.le_trans hH hW.size))
  obtain ⟨av, cv, rfl⟩ : ∃ a c, v = .slice a RV.length c := by
    obtain ⟨a, c, h, _⟩ := hG.out.1.slice; exact ⟨a, c, h⟩
  obtain ⟨SZ, hSZ⟩ : ∃ SZ, SZ = w.heap.size := ⟨_, rfl⟩
  have HSZ := Lib.hid hSZ
  rw [← hSZ] at CL
  have hn7 := hT.out.h7
  have O0 : Hid ((w.alloc (.cells #[] 3)).ownsRow SZ 3 1 (.slice (some ⟨w.heap.size, 0, none⟩) 0 0) 0 (iv (intsB (cfold E n 0).1))) :=
    World.ownsRow_lit (base := SZ) (e := 3) (size := 1) w #[] 0 (by omega) (by unfold maxLen; omega) rfl
  have B1 : Hid (Below SZ w (w.alloc (.cells #[] 3))) := by show Below _ _ _; rw [hSZ]; exact (Below.refl _ _).alloc (Nat.le_refl _) _
  clear hG hH hSZ
  go_enter Try.func41, Try.ntmps41
  go_wp2_with fail
  go_loopw [5, 6, 7, 8] (fun e5 e6 ii e8 wr => ∃ (k m c best : Nat) (a : Option Addr), k ≤ n ∧ ii = .int .i64 k ∧ e5 = .slice a m c ∧ e6 = .int .i64 (best : Int) ∧ best ≤ n ∧ m ≤ k ∧ Hid ((cfold E n k).2 = best ∧ (cfold E n k).1.length = m) ∧ Hid (wr.ownsRow SZ 3 1 (.slice a m c) m (iv (intsB (cfold E n k).1))) ∧ Hid (Below SZ w wr)) (fun _ _ ii _ _ => n - (intOf ii).toNat)
  case atStart => exact ⟨0, 0, 0, n, _, Nat.zero_le _, rfl, rfl, rfl, Nat.le_refl _, Nat.le_refl _, ⟨rfl, rfl⟩, O0, B1⟩
  case round =>
    clear O0 B1
    obtain ⟨k, m, c, best, a, hk, rfl, rfl, rfl, hbn, hmk, HF, HO, HB⟩ := hrel
    by_cases hlt : k < n
    · have b1 : (k : Int) < (n : Int) := by omega
      have CK := CL.out k
      obtain ⟨f, hf⟩ : ∃ f, f = far E 14 k (-1) := ⟨_, rfl⟩
      have hf7 : f ≤ 14 := by rw [hf]; exact far_fuelS E 14 k (-1)
      have CF := cfold_next E n k
      unfold cstep at CF
      rw [← hf, HF.out.1] at CF
      rw [← hf] at CK
      have CK := Lib.hid CK
      have CF := Lib.hid CF
      clear hf
      go_wp2_with fail
      refine (CK.out _ HB.out).mono ?_
      rintro e w2 ⟨rfl, hb2⟩
      have sR : SZ ≤ wr.heap.size := by have := HB.out.size; rw [HSZ.out]; rw [HSZ.out] at *; exact this
      have BW2 : Hid (Below SZ w w2) := HB.out.trans (hb2.mono sR)
      have HO2 : Hid (w2.ownsRow SZ 3 1 (.slice a m c) m (iv (intsB (cfold E n k).1))) := own_of_blocks HO.out fun q hq => hb2.block q (HO.out.lt q hq).2
      have S2 : Hid (SZ ≤ w2.heap.size) := Nat.le_trans sR hb2.size
      have z1 : m + 1 ≤ maxLen := by unfold maxLen; omega
      have z2 : (m + 1) * 8 ≤ 140737488355328 := by omega
      clear hb2 sR HO HB CK
      rcases Nat.lt_trichotomy f best with h1 | h1 | h1
      · have d1 : (f : Int) < (best : Int) := by omega
        have CF2 : Hid (cfold E n (k + 1) = ([k], f)) := by show _ = _; rw [CF.out, if_pos h1]
        have S3 : Hid (SZ ≤ ((w2.alloc (.cells #[] 3)).alloc (.cells #[.int .i64 (k : Int)] 3)).heap.size) := by have := S2.out; show _ ≤ _; rw [World.size_alloc, World.size_alloc]; omega
        have NN : Hid (((w2.alloc (.cells #[] 3)).alloc (.cells #[.int .i64 (k : Int)] 3)).ownsRow SZ 3 1 (.slice (some ⟨w2.heap.size, 0, none⟩) 0 0) 0 []) :=
          (World.ownsRow_lit (base := SZ) (e := 3) (size := 1) w2 #[] 0 S2.out (by unfold maxLen; omega) rfl).alloc _
        clear CF HF HO2
        go_wp2_with (at_builtin; refine wpList_append_lies _ rfl (.tmp 28) (.tmp 30) 26 rfl SZ 3 i0 (.int .i64 0) 1 8 Try.underlying26 hi hz0 hz1 hz2 rfl (Nat.succ_pos 0) _ 0 [] rfl NN.out ⟨(w2.alloc (.cells #[] 3)).heap.size, 0, none⟩ 1 1 [.int .i64 (k : Int)] (by simp; rfl) rfl (cell_one_new _ _ _) (one_intR _) (Nat.lt_succ_self 0) (by unfold maxLen; omega) (by omega) S3.out _ rfl ?_)
        intro g5 c5 w5 hv5 hg5 _ _
        have B5 : Hid (Below SZ w w5) := ((BW2.out.alloc S2.out _).alloc (by have := S2.out; rw [World.size_alloc]; omega) _).grown hg5 S3.out (fun q hq => by cases hq; exact S2.out)
        have O5 : Hid (w5.ownsRow SZ 3 1 (.slice (some ⟨g5, 0, none⟩) (0 + 1) c5) (0 + 1) (iv (intsB (cfold E n (k + 1)).1))) := by
          show World.ownsRow _ _ _ _ _ _ _
          rw [CF2.out]; exact hv5
        clear hv5 hg5 S2 BW2 S3 NN
        go_wp2
        go_roundw
        case rel => exact ⟨k + 1, 0 + 1, c5, f, _, by omega, by go_num, rfl, rfl, by omega, by omega, ⟨by rw [CF2.out], by rw [CF2.out]; rfl⟩, O5, B5⟩
        case measure => simp [intOf]; omega
      · subst h1
        have CF2 : Hid (cfold E n (k + 1) = ((cfold E n k).1 ++ [k], f)) := by show _ = _; rw [CF.out, if_neg (by omega), if_pos rfl]
        have S3 : Hid (SZ ≤ (w2.alloc (.cells #[.int .i64 (k : Int)] 3)).heap.size) := by have := S2.out; show _ ≤ _; rw [World.size_alloc]; omega
        have HM : Hid ((cfold E n k).1.length = m) := HF.out.2
        clear CF HF
        go_wp2_with (at_builtin; refine wpList_append_lies _ rfl (.tmp 28) (.tmp 30) 26 rfl SZ 3 i0 (.int .i64 0) 1 8 Try.underlying26 hi hz0 hz1 hz2 rfl (Nat.succ_pos 0) _ m (iv (intsB (cfold E n k).1)) rfl (HO2.out.alloc _) ⟨w2.heap.size, 0, none⟩ 1 1 [.int .i64 (k : Int)] rfl rfl (cell_one_new _ _ _) (one_intR _) (Nat.lt_succ_self 0) z1 z2 S3.out _ rfl ?_)
        intro g5 c5 w5 hv5 hg5 _ _
        have B5 : Hid (Below SZ w w5) := (BW2.out.alloc S2.out _).grown hg5 S3.out (fun q hq => (HO2.out.lt q hq).1)
        have O5 : Hid (w5.ownsRow SZ 3 1 (.slice (some ⟨g5, 0, none⟩) (m + 1) c5) (m + 1) (iv (intsB (cfold E n (k + 1)).1))) := by
          show World.ownsRow _ _ _ _ _ _ _
          rw [CF2.out, intsB_snoc]; exact hv5
        clear hv5 hg5 S2 BW2 S3 HO2
        go_wp2
        go_roundw
        case rel => exact ⟨k + 1, m + 1, c5, f, _, by omega, by go_num, rfl, rfl, by omega, by omega, ⟨by rw [CF2.out], by rw [CF2.out, List.length_append, HM.out]; rfl⟩, O5, B5⟩
        case measure => simp [intOf]; omega
      · have d1 : ¬ (f : Int) < (best : Int) := by omega
        have d2 : ((f : Int) == (best : Int)) = false := by rw [beq_eq_false_iff_ne]; omega
        have CF2 : Hid (cfold E n (k + 1) = cfold E n k) := by show _ = _; rw [CF.out, if_neg (by omega), if_neg (by omega)]
        clear CF h1
        go_wp2
        go_roundw
        case rel => exact ⟨k + 1, m, c, best, a, by omega, by go_num, rfl, rfl, by omega, by omega, by show _ ∧ _; rw [CF2.out]; exact HF.out, by show World.ownsRow _ _ _ _ _ _ _; rw [CF2.out]; exact HO2.out, BW2⟩
        case measure => simp [intOf]; omega
    · obtain rfl : k = n := by omega
      have HC : Hid ((cfold E k k).1 = cents k E) := rfl
      rw [HC.out] at HO
      have OF : Hid (Own wr SZ wr.heap.size 3 (.slice a m c) (iv (intsB (cents k E)))) := by
        refine Own.of_own ?_
        have e : (iv (intsB (cents k E))).length = m := by rw [intsB_len]; exact HF.out.2
        rw [e]; exact HO.out
      clear HO HF CL
      go_wp2
      go_ret
      exact ⟨_, rfl, by rw [← HSZ.out]; exact OF.out, by rw [← HSZ.out]; exact HB.out⟩
end Go.Proofs.Ytmoelhaobnloaaa
