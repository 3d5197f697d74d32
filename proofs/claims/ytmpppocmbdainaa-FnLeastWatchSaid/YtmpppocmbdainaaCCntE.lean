/-
  The program's count of the edges of each node, and its DegreesOf.
-/
import Derived.Test.YtmpppocmbdainaaCTreeE
import Derived.Test.YtmpppocmbdainaaZN
import Derived.Test.YtmpppocmbdainaaZPD
namespace Go.Proofs.Ytmpppocmbdainaa
open Go.RowKit

theorem Dg.over {w0 w w' : World} {B G n : Nat} {d : Nat → Nat} (h : Dg w0 w B G n d) (hb : Below w.heap.size w w') (hB : B ≤ w.heap.size) : Dg w0 w' B G n d :=
  ⟨own_of_blocks h.own fun g hg => hb.block g (h.own.lt g hg).2, h.below.trans (hb.mono hB), h.ge⟩
theorem Dg.blk {w0 w : World} {B G n : Nat} {d : Nat → Nat} (h : Dg w0 w B G n d) : G < w.heap.size := (h.own.lt G rfl).2
set_option maxHeartbeats 3200000 in
set_option maxRecDepth 100000 in
theorem countEnds_p (n : Nat) (E : Edges) (v : Value) (w : World) {B0 H0 : Nat} (hE : Hid (ERow w B0 H0 v E)) (hH : H0 ≤ w.heap.size) (ho : Hid (∀ e ∈ E, e.1 < n ∧ e.2 < n)) (hn : n ≤ 64) (hel : E.length ≤ 64) :
    Calls Try.prog 55 #[.int .i64 (n : Int), v] w fun e w' => ∃ g, e = .returned (.slice (some ⟨g, 0, none⟩) n n) ∧ Dg w w' w.heap.size g n (deg E) := by
  obtain ⟨i0, hi, hz0, hz1, hz2⟩ := info_parts Try.infoIntR
  obtain ⟨ao, cap, rfl, _, hcap, _, _⟩ := hE.out.slice
  go_enter Try.func55, Try.ntmps55
  go_wp2_with (at_make; refine wpList_make_full _ rfl _ _ 29 rfl w.heap.size 3 i0 (.int .i64 0) 1 Try.underlying29 hi hz0 hz1 _ _ _ _ n rfl rfl rfl rfl ?b2 ?b3 (Nat.le_refl _) ?_)
  case b2 => rw [hz2]; omega
  case b3 => unfold maxLen; omega
  intro w1 hown hgrow
  have hb1 : Below w.heap.size w w1 := (Below.refl _ _).grown hgrow (Nat.le_refl _) (fun k hk => by cases hk)
  rw [show (madeCells #[Value.int .i64 0] n).toList = List.replicate n (Value.int .i64 0) from toList_madeCells_one _ _, degV_zero] at hown
  obtain ⟨G, hGe⟩ : ∃ G, G = w.heap.size := ⟨_, rfl⟩
  rw [← hGe] at hown ⊢
  have D0 : Hid (Dg w w1 w.heap.size G n (deg [])) := ⟨hown, hb1, by omega⟩
  rw [← hGe] at D0
  have HGe := Lib.hid hGe
  have HE : Hid (∀ W, Below G w W → ERow W B0 H0 (.slice ao E.length cap) E) := fun W hW => hE.out.below (hW.mono (by rw [hGe]; exact hH))
  clear hown hgrow hb1 hGe hE
  go_wp2
  go_loopw [12] (fun ii wr => ∃ k : Nat, k ≤ E.length ∧ ii = .int .i64 k ∧ Hid (Dg w wr G G n (deg (E.take k)))) (fun ii _ => E.length - (intOf ii).toNat)
  case atStart => exact ⟨0, Nat.zero_le _, rfl, D0⟩
  case round =>
    clear D0
    obtain ⟨k, hk, rfl, D⟩ := hrel
    by_cases hlt : k < E.length
    · have b1 : (k : Int) < (E.length : Int) := by omega
      obtain ⟨g, c', e1, _, _, hg, c1, c2⟩ := (HE.out _ D.out.below).at_ k hlt
      simp only [Value.slice.injEq] at e1
      obtain ⟨rfl, _, rfl⟩ := e1
      obtain ⟨o1, o2⟩ := ho.out _ (List.getElem_mem hlt)
      have DT := Lib.hid (fun v => deg_take E k hlt v)
      have hds := fun v => deg_small E k v
      obtain ⟨x, hx⟩ : ∃ x, x = E[k] := ⟨_, rfl⟩
      rw [← hx] at c1 c2 o1 o2 DT
      obtain ⟨d, hd⟩ : ∃ d, d = deg (E.take k) := ⟨_, rfl⟩
      rw [← hd] at D hds DT
      have hGr := D.out.blk
      have h1 := hds x.1
      have h2 := hds x.2
      clear hx hd hds
      go_upto_region 5 with fail
      obtain ⟨W2, hW2⟩ : ∃ W2, W2 = wr.alloc (.cells #[.int .i64 (x.1 : Int), .int .i64 (x.2 : Int)] 87) := ⟨_, rfl⟩
      obtain ⟨GX, hGX⟩ : ∃ GX, GX = wr.heap.size := ⟨_, rfl⟩
      have a1 : W2.cell? ⟨GX, 0, none⟩ = some (.int .i64 (x.1 : Int)) := by rw [hW2, hGX]; simp
      have a2 : W2.cell? ⟨GX, 1, none⟩ = some (.int .i64 (x.2 : Int)) := by rw [hW2, hGX]; simp
      have D2 : Hid (Dg w W2 G G n d) := by rw [hW2]; exact D.out.over ((Below.refl _ _).alloc (Nat.le_refl _) _) (Nat.le_of_lt hGr)
      have GX2 : G ≠ GX := by omega
      rw [← hW2, ← hGX]
      clear c1 c2 hW2 hGX D hg hGr
      have z1 : (x.1 : Int) < (n : Int) := by omega
      have z2 : (x.2 : Int) < (n : Int) := by omega
      have hcell := (D2.out.own.cellAt x.1 (by omega)).trans (degV_at d o1)
      have hfr := D2.out.own.frozenAt x.1
      have ew : IntKind.i64.wrap ((d x.1 : Int) + 1) = (d x.1 : Int) + 1 := by rw [IntKind.wrap_i64]; omega
      have D3 := Lib.hid (D2.out.store (i := x.1) (x := d x.1 + 1))
      have ec : ((d x.1 + 1 : Nat) : Int) = (d x.1 : Int) + 1 := by omega
      rw [ec] at D3
      have a3 : (W2.setCell ⟨G, x.1, none⟩ (.int .i64 ((d x.1 : Int) + 1))).cell? ⟨GX, 1, none⟩ = some (.int .i64 (x.2 : Int)) := (World.cell?_setCell_other W2 ⟨G, x.1, none⟩ _ _ (fun e => GX2 (congrArg Addr.block e))).trans a2
      clear D2 a2
      go_upto_region 6 with fail
      obtain ⟨W3, hW3⟩ : ∃ W3, W3 = W2.setCell ⟨G, x.1, none⟩ (.int .i64 ((d x.1 : Int) + 1)) := ⟨_, rfl⟩
      rw [← hW3] at D3 a3 ⊢
      obtain ⟨d6, hd6⟩ : ∃ d6 : Nat → Nat, d6 = fun v => if v = x.1 then d x.1 + 1 else d v := ⟨_, rfl⟩
      rw [← hd6] at D3
      have DT6 : Hid (∀ v, deg (E.take (k + 1)) v = if v = x.2 then d6 x.2 + 1 else d6 v) := fun v => by
        rw [DT.out v, hd6]
        exact two_store d x.1 x.2 v
      have x2 : d6 x.2 ≤ 200 := by
        rw [hd6]
        show (if x.2 = x.1 then d x.1 + 1 else d x.2) ≤ 200
        split <;> omega
      clear hW3 hd6 hcell hfr ew ec h1 h2 DT a1 GX2
      have hcell := (D3.out.own.cellAt x.2 (by omega)).trans (degV_at d6 o2)
      have hfr := D3.out.own.frozenAt x.2
      have ew : IntKind.i64.wrap ((d6 x.2 : Int) + 1) = (d6 x.2 : Int) + 1 := by rw [IntKind.wrap_i64]; omega
      have D4 := Lib.hid (D3.out.store (i := x.2) (x := d6 x.2 + 1))
      have ec : ((d6 x.2 + 1 : Nat) : Int) = (d6 x.2 : Int) + 1 := by omega
      rw [ec] at D4
      clear D3
      go_wp2
      rw [← funext DT6.out] at D4
      go_roundw
      case rel => exact ⟨k + 1, by omega, by go_num, D4⟩
      case measure => simp [intOf]; omega
    · obtain rfl : k = E.length := by omega
      rw [List.take_length] at D
      go_wp2
      go_ret
      exact ⟨G, rfl, by rw [← HGe.out]; exact D.out⟩
set_option maxHeartbeats 800000 in
theorem degreesOf_p (n : Int) (rows : List (List Int)) (v : Value) (RV : List Value) (w : World) (B0 H0 : Nat) (hG : Hid (Grid w B0 H0 v RV rows)) (hH : H0 ≤ w.heap.size) (hrl : rows.length ≤ 1048576) (hrs : ∀ r ∈ rows, r.length ≤ 1048576) (hwf : (Lit.int .i64 n).wf = true) :
    Calls Try.prog 26 #[.int .i64 n, v] w (IntsOut (degOut n rows) w) := by
  have C := Lib.hid (treeEdges_p n rows v RV w hG hH hrl hrs hwf)
  obtain ⟨av, cv, rfl⟩ : ∃ a c, v = .slice a RV.length c := by
    obtain ⟨a, c, h, _⟩ := hG.out.1.slice; exact ⟨a, c, h⟩
  clear hG hrs
  cases ht : treeB n rows with
  | false =>
    rw [degOut, if_neg (by rw [ht]; decide)]
    rw [ht] at C
    go_enter Try.func26, Try.ntmps26
    go_wp2_with fail
    refine C.out.mono ?_
    rintro e w1 ⟨x, rfl, _, hb⟩
    have HB := Lib.hid hb
    clear hb C
    go_wp2
    go_ret
    exact nilOut _ _ HB.out
  | true =>
    rw [degOut, if_pos ht]
    rw [ht] at C
    obtain ⟨h1, h2, h3⟩ := treeB_iff.1 ht
    obtain ⟨N, rfl⟩ : ∃ N : Nat, n = N := ⟨n.toNat, by omega⟩
    rw [Int.toNat_natCast] at h3 ⊢
    obtain ⟨E, hE⟩ : ∃ E, E = edgesR rows := ⟨_, rfl⟩
    rw [← hE] at h3 C ⊢
    have hel := h3.len
    have CD := Lib.hid (fun (x : Value) (w1 : World) (B : Nat) (hx : Hid (ERow w1 B w1.heap.size x E)) => countEnds_p N E x w1 hx (Nat.le_refl _) (Lib.hid fun e he => by have := h3.ord e he; omega) (by omega) (by omega))
    clear hE h3 ht h2 hel
    go_enter Try.func26, Try.ntmps26
    go_wp2_with fail
    refine C.out.mono ?_
    rintro e w1 ⟨x, rfl, hx, hb⟩
    have HX := Lib.hid (hx (by first | exact rfl | trivial))
    have HB := Lib.hid hb
    clear hb C hx
    obtain ⟨ao, cap, rfl, _⟩ := HX.out.slice
    go_wp2_with fail
    refine (CD.out _ w1 _ HX).mono ?_
    rintro e w2 ⟨g, rfl, hD⟩
    have HD := Lib.hid hD
    clear hD CD
    go_wp2
    go_ret
    have hb2 := HB.out.trans (HD.out.below.mono HB.out.size)
    refine ⟨_, rfl, ?_, hb2⟩
    rw [← ints_iv2]
    have ho := HD.out.own
    refine Own.of_own ?_
    rw [show ints ((List.range N).map (deg E)) = degV N (deg E) from rfl, degV_length]
    refine own_baseR ho ?_
    have := HD.out.ge
    have := HB.out.size
    omega
end Go.Proofs.Ytmpppocmbdainaa
