/-
  The program's count of the edges of each node, and its DegreesOf.
  The parts of the program's CodeOf: which edge has a node, what is at its other end, the edges but one.
  The program's CodeOf.
  The program's CodeOf: the loop over leaves.
-/
import Derived.Test.YtohbkpccfhciaaaZO
import Derived.Test.YtohbkpccfhciaaaZN
import Derived.Test.YtohbkpccfhciaaaCCodeS
namespace Go.Proofs.Ytohbkpccfhciaaa
open Go.RowKit

theorem Dg.over {w0 w w' : World} {B G n : Nat} {d : Nat → Nat} (h : Dg w0 w B G n d) (hb : Below w.heap.size w w') (hB : B ≤ w.heap.size) : Dg w0 w' B G n d :=
  ⟨own_of_blocks h.own fun g hg => hb.block g (h.own.lt g hg).2, h.below.trans (hb.mono hB), h.ge⟩
theorem Dg.blk {w0 w : World} {B G n : Nat} {d : Nat → Nat} (h : Dg w0 w B G n d) : G < w.heap.size := (h.own.lt G rfl).2
set_option maxHeartbeats 3200000 in
set_option maxRecDepth 100000 in
theorem countEnds_p (n : Nat) (E : Edges) (v : Value) (w : World) {B0 H0 : Nat} (hE : Hid (ERow w B0 H0 v E)) (hH : H0 ≤ w.heap.size) (ho : Hid (∀ e ∈ E, e.1 < n ∧ e.2 < n)) (hn : n ≤ 64) (hel : E.length ≤ 64) :
    Calls Try.prog 28 #[.int .i64 (n : Int), v] w fun e w' => ∃ g, e = .returned (.slice (some ⟨g, 0, none⟩) n n) ∧ Dg w w' w.heap.size g n (deg E) := by
  obtain ⟨i0, hi, hz0, hz1, hz2⟩ := info_parts Try.infoIntR
  obtain ⟨ao, cap, rfl, _, hcap, _, _⟩ := hE.out.slice
  go_enter Try.func28, Try.ntmps28
  go_wp2_with (at_make; refine wpList_make_full _ rfl _ _ 32 rfl w.heap.size 3 i0 (.int .i64 0) 1 Try.underlying32 hi hz0 hz1 _ _ _ _ n rfl rfl rfl rfl ?b2 ?b3 (Nat.le_refl _) ?_)
  case b2 => rw [hz2]; omega
  case b3 => unfold maxLen; omega
  intro w1 hown hgrow
  have hb1 : Below w.heap.size w w1 := (Below.refl _ _).grown hgrow (Nat.le_refl _) (fun k hk => by cases hk)
  rw [show (madeCells #[Value.int .i64 0] n).toList = List.replicate n (Value.int .i64 0) from toList_madeCells_one _ _, degV_zero] at hown
  obtain ⟨G, hGe⟩ : ∃ G, G = w.heap.size := ⟨_, rfl⟩
  rw [← hGe] at hown ⊢
  have D0 : Hid (Dg w w1 w.heap.size G n (deg [])) := ⟨hown, hb1, by omega⟩
  rw [← hGe] at D0
  have HGe := Lib.hid hGe
  have HE : Hid (∀ W, Below G w W → ERow W B0 H0 (.slice ao E.length cap) E) := fun W hW => hE.out.below (hW.mono (by rw [hGe]; exact hH))
  clear hown hgrow hb1 hGe hE
  go_wp2
  go_loopw [12] (fun ii wr => ∃ k : Nat, k ≤ E.length ∧ ii = .int .i64 k ∧ Hid (Dg w wr G G n (deg (E.take k)))) (fun ii _ => E.length - (intOf ii).toNat)
  case atStart => exact ⟨0, Nat.zero_le _, rfl, D0⟩
  case round =>
    clear D0
    obtain ⟨k, hk, rfl, D⟩ := hrel
    by_cases hlt : k < E.length
    · have b1 : (k : Int) < (E.length : Int) := by omega
      obtain ⟨g, c', e1, _, _, hg, c1, c2⟩ := (HE.out _ D.out.below).at_ k hlt
      simp only [Value.slice.injEq] at e1
      obtain ⟨rfl, _, rfl⟩ := e1
      obtain ⟨o1, o2⟩ := ho.out _ (List.getElem_mem hlt)
      have DT := Lib.hid (fun v => deg_take E k hlt v)
      have hds := fun v => deg_small E k v
      obtain ⟨x, hx⟩ : ∃ x, x = E[k] := ⟨_, rfl⟩
      rw [← hx] at c1 c2 o1 o2 DT
      obtain ⟨d, hd⟩ : ∃ d, d = deg (E.take k) := ⟨_, rfl⟩
      rw [← hd] at D hds DT
      have hGr := D.out.blk
      have h1 := hds x.1
      have h2 := hds x.2
      clear hx hd hds
      go_upto_region 5 with fail
      obtain ⟨W2, hW2⟩ : ∃ W2, W2 = wr.alloc (.cells #[.int .i64 (x.1 : Int), .int .i64 (x.2 : Int)] 50) := ⟨_, rfl⟩
      obtain ⟨GX, hGX⟩ : ∃ GX, GX = wr.heap.size := ⟨_, rfl⟩
      have a1 : W2.cell? ⟨GX, 0, none⟩ = some (.int .i64 (x.1 : Int)) := by rw [hW2, hGX]; simp
      have a2 : W2.cell? ⟨GX, 1, none⟩ = some (.int .i64 (x.2 : Int)) := by rw [hW2, hGX]; simp
      have D2 : Hid (Dg w W2 G G n d) := by rw [hW2]; exact D.out.over ((Below.refl _ _).alloc (Nat.le_refl _) _) (Nat.le_of_lt hGr)
      have GX2 : G ≠ GX := by omega
      rw [← hW2, ← hGX]
      clear c1 c2 hW2 hGX D hg hGr
      have z1 : (x.1 : Int) < (n : Int) := by omega
      have z2 : (x.2 : Int) < (n : Int) := by omega
      have hcell := (D2.out.own.cellAt x.1 (by omega)).trans (degV_at d o1)
      have hfr := D2.out.own.frozenAt x.1
      have ew : IntKind.i64.wrap ((d x.1 : Int) + 1) = (d x.1 : Int) + 1 := by rw [IntKind.wrap_i64]; omega
      have D3 := Lib.hid (D2.out.store (i := x.1) (x := d x.1 + 1))
      have ec : ((d x.1 + 1 : Nat) : Int) = (d x.1 : Int) + 1 := by omega
      rw [ec] at D3
      have a3 : (W2.setCell ⟨G, x.1, none⟩ (.int .i64 ((d x.1 : Int) + 1))).cell? ⟨GX, 1, none⟩ = some (.int .i64 (x.2 : Int)) := (World.cell?_setCell_other W2 ⟨G, x.1, none⟩ _ _ (fun e => GX2 (congrArg Addr.block e))).trans a2
      clear D2 a2
      go_upto_region 6 with fail
      obtain ⟨W3, hW3⟩ : ∃ W3, W3 = W2.setCell ⟨G, x.1, none⟩ (.int .i64 ((d x.1 : Int) + 1)) := ⟨_, rfl⟩
      rw [← hW3] at D3 a3 ⊢
      obtain ⟨d6, hd6⟩ : ∃ d6 : Nat → Nat, d6 = fun v => if v = x.1 then d x.1 + 1 else d v := ⟨_, rfl⟩
      rw [← hd6] at D3
      have DT6 : Hid (∀ v, deg (E.take (k + 1)) v = if v = x.2 then d6 x.2 + 1 else d6 v) := fun v => by
        rw [DT.out v, hd6]
        exact two_store d x.1 x.2 v
      have x2 : d6 x.2 ≤ 200 := by
        rw [hd6]
        show (if x.2 = x.1 then d x.1 + 1 else d x.2) ≤ 200
        split <;> omega
      clear hW3 hd6 hcell hfr ew ec h1 h2 DT a1 GX2
      have hcell := (D3.out.own.cellAt x.2 (by omega)).trans (degV_at d6 o2)
      have hfr := D3.out.own.frozenAt x.2
      have ew : IntKind.i64.wrap ((d6 x.2 : Int) + 1) = (d6 x.2 : Int) + 1 := by rw [IntKind.wrap_i64]; omega
      have D4 := Lib.hid (D3.out.store (i := x.2) (x := d6 x.2 + 1))
      have ec : ((d6 x.2 + 1 : Nat) : Int) = (d6 x.2 : Int) + 1 := by omega
      rw [ec] at D4
      clear D3
      go_wp2
      rw [← funext DT6.out] at D4
      go_roundw
      case rel => exact ⟨k + 1, by omega, by go_num, D4⟩
      case measure => simp [intOf]; omega
    · obtain rfl : k = E.length := by omega
      rw [List.take_length] at D
      go_wp2
      go_ret
      exact ⟨G, rfl, by rw [← HGe.out]; exact D.out⟩
end Go.Proofs.Ytohbkpccfhciaaa

namespace Go.Proofs.Ytohbkpccfhciaaa
open Go.RowKit

def aggE (e : Nat × Nat) : Value := .agg #[.int .i64 (e.1 : Int), .int .i64 (e.2 : Int)]
set_option maxHeartbeats 400000 in
theorem has_p (e : Nat × Nat) (l : Nat) (w : World) :
    Calls Try.prog 47 #[.agg #[.int .i64 (e.1 : Int), .int .i64 (e.2 : Int)], .int .i64 (l : Int)] w fun r w' => r = .returned (.bool (touches l e)) ∧ Below w.heap.size w w' := by
  obtain ⟨a, b⟩ := e
  by_cases h1 : a = l
  · have q1 : ((a : Int) == (l : Int)) = true := by rw [h1]; simp
    have ht : touches l (a, b) = true := by simp [touches, h1]
    rw [ht]
    clear h1 ht
    go_enter Try.func47, Try.ntmps47
    go_wp2
    go_ret
    exact ⟨rfl, (Below.refl _ _).alloc (Nat.le_refl _) _⟩
  · have q1 : ((a : Int) == (l : Int)) = false := by rw [beq_eq_false_iff_ne]; omega
    by_cases h2 : b = l
    · have q2 : ((b : Int) == (l : Int)) = true := by rw [h2]; simp
      have ht : touches l (a, b) = true := by simp [touches, h2]
      rw [ht]
      clear h1 h2 ht
      go_enter Try.func47, Try.ntmps47
      go_wp2
      go_ret
      exact ⟨rfl, (Below.refl _ _).alloc (Nat.le_refl _) _⟩
    · have q2 : ((b : Int) == (l : Int)) = false := by rw [beq_eq_false_iff_ne]; omega
      have ht : touches l (a, b) = false := by simp [touches, h1, h2]
      rw [ht]
      clear h1 h2 ht
      go_enter Try.func47, Try.ntmps47
      go_wp2
      go_ret
      exact ⟨rfl, (Below.refl _ _).alloc (Nat.le_refl _) _⟩
set_option maxHeartbeats 400000 in
theorem across_p (e : Nat × Nat) (l : Nat) (w : World) (ht : touches l e = true) (ho : e.1 < 64 ∧ e.2 < 64) :
    Calls Try.prog 30 #[.agg #[.int .i64 (e.1 : Int), .int .i64 (e.2 : Int)], .int .i64 (l : Int)] w fun r w' => r = .returned (.int .i64 (other l e : Int)) ∧ Below w.heap.size w w' := by
  obtain ⟨a, b⟩ := e
  obtain ⟨h1, h2⟩ := ho
  have hv : ((other l (a, b) : Nat) : Int) = (a : Int) + b - l := by
    unfold other
    simp only [touches, Bool.or_eq_true, decide_eq_true_eq] at ht
    simp only
    split <;> omega
  rw [hv]
  have hl : l < 64 := by
    simp only [touches, Bool.or_eq_true, decide_eq_true_eq] at ht
    simp only at h1 h2
    omega
  simp only at h1 h2
  have w1 : IntKind.i64.wrap ((a : Int) + b) = (a : Int) + b := by rw [IntKind.wrap_i64]; omega
  have w2 : IntKind.i64.wrap ((a : Int) + b - l) = (a : Int) + b - l := by rw [IntKind.wrap_i64]; omega
  clear ht hv
  go_enter Try.func30, Try.ntmps30
  go_wp2
  go_ret
  exact ⟨rfl, (Below.refl _ _).alloc (Nat.le_refl _) _⟩

set_option maxHeartbeats 800000 in
theorem indexI_p (d : Nat → Nat) (n g c l : Nat) (w : World) (h : Hid (∀ v, v < n → w.cell? ⟨g, v, none⟩ = some (.int .i64 (d v : Int)))) (hn : n ≤ 64) (hl : Hid (leastL n d = some l)) :
    Calls Try.prog 27 #[.slice (some ⟨g, 0, none⟩) n c, .int .i64 1] w fun e w' => e = .returned (.int .i64 (l : Int)) ∧ w = w' := by
  obtain ⟨l1, l2, l3⟩ := least_some.1 hl.out
  have L2 := Lib.hid l2
  have L3 := Lib.hid l3
  clear l2 l3
  go_enter Try.func27, Try.ntmps27
  go_wp2
  go_loop [8] (fun i => ∃ k : Nat, k ≤ l ∧ i = .int .i64 (k : Int)) (fun i => l - (intOf i).toNat)
  case atStart => exact ⟨0, Nat.zero_le _, rfl⟩
  case round =>
    obtain ⟨k, hk, rfl⟩ := hrel
    have b1 : (k : Int) < (n : Int) := by omega
    have h1 := h.out k (by omega)
    by_cases hlt : k < l
    · have q1 : ((1 : Int) == (d k : Int)) = false := by rw [beq_eq_false_iff_ne]; have := L3.out k hlt; omega
      go_wp2
      go_round
      case rel => exact ⟨k + 1, by omega, by go_num⟩
      case measure => simp [intOf]; omega
    · obtain rfl : k = l := by omega
      have q1 : ((1 : Int) == (d k : Int)) = true := by rw [L2.out]; rfl
      go_wp2
      go_ret
      exact ⟨rfl, rfl⟩

set_option maxHeartbeats 1600000 in
theorem edgeAt_p (l : Nat) (E : Edges) (v : Value) (w : World) {B0 H0 : Nat} (hE : Hid (ERow w B0 H0 v E)) (hH : H0 ≤ w.heap.size) (hel : E.length ≤ 64) (x : Nat × Nat) (hx : Hid (E.find? (touches l) = some x)) :
    Calls Try.prog 29 #[.int .i64 (l : Int), v] w fun e w' => e = .returned (.agg #[.int .i64 (x.1 : Int), .int .i64 (x.2 : Int)]) ∧ Below w.heap.size w w' := by
  obtain ⟨ao, cap, rfl, _, hcap, _, _⟩ := hE.out.slice
  obtain ⟨G, hG⟩ : ∃ G, G = w.heap.size := ⟨_, rfl⟩
  have HE : Hid (∀ W, Below G w W → ERow W B0 H0 (.slice ao E.length cap) E) := fun W hW => hE.out.below (hW.mono (by rw [hG]; exact hH))
  have S0 : Hid ((w.alloc (.cells #[.int .i64 0, .int .i64 0] 50)).heap[G]? = some (.cells #[.int .i64 0, .int .i64 0] 50 (0, 0)) ∧ Below G w (w.alloc (.cells #[.int .i64 0, .int .i64 0] 50))) := by
    rw [hG]; exact ⟨heap_alloc_new w _, (Below.refl _ _).alloc (Nat.le_refl _) _⟩
  clear hE
  go_enter Try.func29, Try.ntmps29
  go_wp2_with fail
  rw [← hG]
  have HG := Lib.hid hG
  clear hG
  go_loopw [9] (fun i wr => ∃ k : Nat, k ≤ E.length ∧ i = .int .i64 (k : Int) ∧ Hid (∀ (j : Nat) (h : j < E.length), j < k → touches l E[j] = false) ∧ Hid (wr.heap[G]? = some (.cells #[.int .i64 0, .int .i64 0] 50 (0, 0)) ∧ Below G w wr)) (fun i _ => E.length - (intOf i).toNat)
  case atStart => exact ⟨0, Nat.zero_le _, rfl, fun j h hj => by omega, S0⟩
  case round =>
    clear S0
    obtain ⟨k, hk, rfl, HK, HS⟩ := hrel
    by_cases hlt : k < E.length
    · have b1 : (k : Int) < (E.length : Int) := by omega
      obtain ⟨g, c', e1, _, _, hg, c1, c2⟩ := (HE.out _ HS.out.2).at_ k hlt
      simp only [Value.slice.injEq] at e1
      obtain ⟨rfl, _, rfl⟩ := e1
      obtain ⟨y, hy⟩ : ∃ y, y = E[k] := ⟨_, rfl⟩
      rw [← hy] at c1 c2
      have HY := Lib.hid hy
      have hGr : G < wr.heap.size := (Array.getElem?_eq_some_iff.1 HS.out.1).1
      clear hy
      go_upto_region 4 with fail
      obtain ⟨W2, hW2⟩ : ∃ W2, W2 = wr.alloc (.cells #[.int .i64 (y.1 : Int), .int .i64 (y.2 : Int)] 50) := ⟨_, rfl⟩
      obtain ⟨GX, hGX⟩ : ∃ GX, GX = wr.heap.size := ⟨_, rfl⟩
      have a1 : W2.cell? ⟨GX, 0, none⟩ = some (.int .i64 (y.1 : Int)) := by rw [hW2, hGX]; simp
      have a2 : W2.cell? ⟨GX, 1, none⟩ = some (.int .i64 (y.2 : Int)) := by rw [hW2, hGX]; simp
      have hXr : GX < W2.heap.size := by rw [hW2, hGX, World.size_alloc]; omega
      have S2 : Hid (W2.heap[G]? = some (.cells #[.int .i64 0, .int .i64 0] 50 (0, 0)) ∧ Below G w W2) := by
        rw [hW2]; exact ⟨(heap_alloc_old _ _ hGr).trans HS.out.1, HS.out.2.alloc (Nat.le_of_lt hGr) _⟩
      have GX2 : G ≠ GX := by omega
      have hG2 : G < W2.heap.size := by omega
      rw [← hW2, ← hGX]
      have CH := Lib.hid (has_p y l W2)
      clear c1 c2 hW2 hGX HS hg hGr
      cases ht : touches l y with
      | false =>
        rw [ht] at CH
        have HK2 : Hid (∀ (j : Nat) (h : j < E.length), j < k + 1 → touches l E[j] = false) := fun j h hj => by
          by_cases e : j = k
          · subst e; rw [← HY.out]; exact ht
          · exact HK.out j h (by omega)
        clear ht HK
        go_wp2_with fail
        refine CH.out.mono ?_
        rintro e w3 ⟨rfl, hb⟩
        have S3 : Hid (w3.heap[G]? = some (.cells #[.int .i64 0, .int .i64 0] 50 (0, 0)) ∧ Below G w w3) := ⟨(hb.block G hG2).trans S2.out.1, S2.out.2.trans (hb.mono (Nat.le_of_lt hG2))⟩
        clear hb S2 a1 a2 CH
        go_wp2
        go_roundw
        case rel => exact ⟨k + 1, by omega, by go_num, HK2, S3⟩
        case measure => simp [intOf]; omega
      | true =>
        rw [ht] at CH
        have HX : Hid (x = y) := by
          have h1 : E.find? (touches l) = some E[k] := by
            rw [List.find?_eq_some_iff_getElem]
            refine ⟨by rw [← HY.out]; exact ht, k, hlt, rfl, fun j hj => ?_⟩
            rw [HK.out j (by omega) hj]; rfl
          rw [h1] at hx
          have := hx.out
          simp only [Option.some.injEq] at this
          show x = y
          rw [← this, HY.out]
        clear ht HK
        go_wp2_with fail
        refine CH.out.mono ?_
        rintro e w3 ⟨rfl, hb⟩
        have S3 : Hid (w3.heap[G]? = some (.cells #[.int .i64 0, .int .i64 0] 50 (0, 0)) ∧ Below G w w3) := ⟨(hb.block G hG2).trans S2.out.1, S2.out.2.trans (hb.mono (Nat.le_of_lt hG2))⟩
        have d1 : w3.cell? ⟨GX, 0, none⟩ = some (.int .i64 (y.1 : Int)) := (hb.cell (p := ⟨GX, 0, none⟩) hXr).trans a1
        have d2 : w3.cell? ⟨GX, 1, none⟩ = some (.int .i64 (y.2 : Int)) := (hb.cell (p := ⟨GX, 1, none⟩) hXr).trans a2
        have z1 : w3.cell? ⟨G, 0, none⟩ = some (.int .i64 0) := by simp [World.cell?, S3.out.1]
        have z2 : w3.cell? ⟨G, 1, none⟩ = some (.int .i64 0) := by simp [World.cell?, S3.out.1]
        have f1 := frozen_of_row w3 G 0 _ _ S3.out.1
        have f2 := frozen_of_row w3 G 1 _ _ S3.out.1
        have R1 := heap_setCell_same w3 G 0 _ _ (.int .i64 (y.1 : Int)) S3.out.1
        have R2 := Lib.hid (heap_setCell_same _ G 1 _ _ (.int .i64 (y.2 : Int)) R1)
        have B4 : Hid (Below G w ((w3.setCell ⟨G, 0, none⟩ (.int .i64 (y.1 : Int))).setCell ⟨G, 1, none⟩ (.int .i64 (y.2 : Int)))) := (S3.out.2.setCell (p := ⟨G, 0, none⟩) (Nat.le_refl _) _).setCell (p := ⟨G, 1, none⟩) (Nat.le_refl _) _
        clear hb S2 a1 a2 CH R1
        go_wp2
        refine bodyPost_ret (results_cell_row rfl _ _ G _ _ _ _ rfl R2.out Try.underlying50 rfl (by kernel_rfl)) rfl ?_
        exact ⟨by rw [HX.out]; rfl, by rw [← HG.out]; exact B4.out⟩
    · obtain rfl : k = E.length := by omega
      exfalso
      have h1 : E.find? (touches l) = none := List.find?_eq_none.2 fun y hy => by
        obtain ⟨j, hj, rfl⟩ := List.getElem_of_mem hy
        rw [HK.out j hj hj]; decide
      rw [h1] at hx
      cases hx.out
end Go.Proofs.Ytohbkpccfhciaaa

namespace Go.Proofs.Ytohbkpccfhciaaa
open Go.RowKit

theorem eq_edge (x y : Nat × Nat) (w : World) : (Op.equalIn 10000 50 (.agg #[.int .i64 (x.1 : Int), .int .i64 (x.2 : Int)]) (.agg #[.int .i64 (y.1 : Int), .int .i64 (y.2 : Int)])).run Try.prog w = .ok (decide (x = y)) w := by
  have hu := Try.underlying50
  have hi0 := Try.infoIntR
  rw [show (10000 : Nat) = 9999 + 1 from rfl]
  obtain ⟨i, hi, _, _, _⟩ := info_parts hi0
  have hc : Try.prog.cellsOf 3 = 1 := by kernel_rfl
  rw [run_equalIn_array w 9999 _ _ hu hi, hc]
  have e2 : List.range 2 = [0, 1] := rfl
  rw [e2, show (9999 : Nat) = 9998 + 1 from rfl]
  have hp : ∀ (z : Nat × Nat) (i : Nat) (v : Nat), (i = 0 ∧ v = z.1) ∨ (i = 1 ∧ v = z.2) → (part 3 #[.int .i64 (z.1 : Int), .int .i64 (z.2 : Int)] i).run Try.prog w = .ok (.int .i64 (v : Int)) w := fun z i v h => by
    rcases h with ⟨rfl, rfl⟩ | ⟨rfl, rfl⟩ <;> simp [part, isAgg, run_underlying Try.underlying3]
  have p1 := hp x 0 x.1 (.inl ⟨rfl, rfl⟩)
  have p2 := hp y 0 y.1 (.inl ⟨rfl, rfl⟩)
  have p3 := hp x 1 x.2 (.inr ⟨rfl, rfl⟩)
  have p4 := hp y 1 y.2 (.inr ⟨rfl, rfl⟩)
  have q := fun a b => run_equalIn_int (P := Try.prog) w 9998 3 .i64 _ a b Try.underlying3
  obtain ⟨a, b⟩ := x
  obtain ⟨c, d⟩ := y
  simp only at p1 p2 p3 p4
  by_cases h1 : a = c
  · by_cases h2 : b = d
    · subst h1; subst h2
      simp [Op.eqItems, p1, p3, q]
    · have q1 : ((b : Int) == (d : Int)) = false := by rw [beq_eq_false_iff_ne]; omega
      subst h1
      simp [Op.eqItems, p1, p2, p3, p4, q, h2, q1]
  · have q1 : ((a : Int) == (c : Int)) = false := by rw [beq_eq_false_iff_ne]; omega
    simp [Op.eqItems, p1, p2, q, q1, h1]
theorem ERow.lo {w : World} {B B' H : Nat} {v : Value} {E : Edges} (h : ERow w B H v E) (hB : B' ≤ B) : ERow w B' H v E :=
  ⟨⟨h.1.1, h.1.2.imp id (fun ⟨g, cap, cur, a, b, c⟩ => ⟨g, cap, cur, a, by omega, c⟩)⟩, h.2⟩
/-- edges but one -/
def butE (x : Nat × Nat) (E : Edges) : Edges := E.filter fun y => decide (y ≠ x)
theorem butE_step (x : Nat × Nat) (E : Edges) (k : Nat) (h : k < E.length) : butE x (E.take (k + 1)) = if decide (E[k] ≠ x) then butE x (E.take k) ++ [E[k]] else butE x (E.take k) := by
  unfold butE
  rw [List.take_succ_eq_append_getElem h, List.filter_append]
  by_cases e : E[k] = x
  · rw [if_neg (by simp [e]), List.filter_cons_of_neg (by simp [e])]; simp
  · rw [if_pos (by simp [e]), List.filter_cons_of_pos (by simp [e])]; simp

set_option maxHeartbeats 3200000 in
set_option maxRecDepth 100000 in
theorem without_p (x : Nat × Nat) (E : Edges) (v : Value) (w : World) {B0 H0 : Nat} (hE : Hid (ERow w B0 H0 v E)) (hH : H0 ≤ w.heap.size) (hel : E.length ≤ 64) :
    Calls Try.prog 31 #[.agg #[.int .i64 (x.1 : Int), .int .i64 (x.2 : Int)], v] w fun e w' => ∃ u, e = .returned u ∧ ERow w' w.heap.size w'.heap.size u (butE x E) ∧ Below w.heap.size w w' := by
  obtain ⟨i0, hi0, hz0, hz1, hz2⟩ := info_parts Try.infoEdge
  obtain ⟨ao, cap, rfl, _, hcap, _, _⟩ := hE.out.slice
  obtain ⟨G, hG⟩ : ∃ G, G = w.heap.size := ⟨_, rfl⟩
  have HE : Hid (∀ W, Below G w W → ERow W B0 H0 (.slice ao E.length cap) E) := fun W hW => hE.out.below (hW.mono (by rw [hG]; exact hH))
  have HB0 : Hid (Below G w (w.alloc (.cells #[.int .i64 (x.1 : Int), .int .i64 (x.2 : Int)] 50))) := (Below.refl _ _).alloc (by omega) _
  have A1 : Hid (∀ W, Below (G + 1) (w.alloc (.cells #[.int .i64 (x.1 : Int), .int .i64 (x.2 : Int)] 50)) W → W.cell? ⟨G, 0, none⟩ = some (.int .i64 (x.1 : Int)) ∧ W.cell? ⟨G, 1, none⟩ = some (.int .i64 (x.2 : Int))) := fun W hW => by
    refine ⟨(hW.cell (p := ⟨G, 0, none⟩) (Nat.lt_succ_self _)).trans ?_, (hW.cell (p := ⟨G, 1, none⟩) (Nat.lt_succ_self _)).trans ?_⟩ <;> rw [hG] <;> simp
  obtain ⟨w1, hw1⟩ : ∃ w1, w1 = w.alloc (.cells #[.int .i64 (x.1 : Int), .int .i64 (x.2 : Int)] 50) := ⟨_, rfl⟩
  have hs1 : Hid (w1.heap.size = G + 1) := by show _ = _; rw [hw1, hG, World.size_alloc]
  rw [← hw1] at HB0 A1
  clear hE
  go_enter Try.func31, Try.ntmps31
  go_wp2_with fail
  rw [← hG, ← hw1]
  have HG := Lib.hid hG
  clear hG hw1
  go_loopw [5, 10] (fun u i wr => ∃ k : Nat, k ≤ E.length ∧ i = .int .i64 (k : Int) ∧ Hid (ERow wr (G + 1) wr.heap.size u (butE x (E.take k))) ∧ Hid (Below (G + 1) w1 wr)) (fun _ i _ => E.length - (intOf i).toNat)
  case atStart => exact ⟨0, Nat.zero_le _, rfl, ERow.nil _ _ _, Below.refl _ _⟩
  case round =>
    obtain ⟨k, hk, rfl, HU, HB⟩ := hrel
    have HBw : Hid (Below G w wr) := HB0.out.trans (HB.out.mono (by omega))
    have hsr : Hid (G + 1 ≤ wr.heap.size) := by have := HB.out.size; rw [hs1.out] at this; exact this
    obtain ⟨x1, x2⟩ := A1.out wr HB.out
    by_cases hlt : k < E.length
    · have b1 : (k : Int) < (E.length : Int) := by omega
      obtain ⟨g, c', e1, _, _, hg, c1, c2⟩ := (HE.out _ HBw.out).at_ k hlt
      simp only [Value.slice.injEq] at e1
      obtain ⟨rfl, _, rfl⟩ := e1
      have BS := butE_step x E k hlt
      have hkl : (butE x (E.take k)).length ≤ k := by
        unfold butE
        have := List.length_filter_le (fun y => decide (y ≠ x)) (E.take k)
        rw [List.length_take] at this; omega
      obtain ⟨y, hy⟩ : ∃ y, y = E[k] := ⟨_, rfl⟩
      rw [← hy] at c1 c2 BS
      clear hy
      go_upto_region 5 with fail
      obtain ⟨W2, hW2⟩ : ∃ W2, W2 = wr.alloc (.cells #[.int .i64 (y.1 : Int), .int .i64 (y.2 : Int)] 50) := ⟨_, rfl⟩
      obtain ⟨GX, hGX⟩ : ∃ GX, GX = wr.heap.size := ⟨_, rfl⟩
      have a1 : W2.cell? ⟨GX, 0, none⟩ = some (.int .i64 (y.1 : Int)) := by rw [hW2, hGX]; simp
      have a2 : W2.cell? ⟨GX, 1, none⟩ = some (.int .i64 (y.2 : Int)) := by rw [hW2, hGX]; simp
      have hb2 : Below wr.heap.size wr W2 := by rw [hW2]; exact (Below.refl _ _).alloc (Nat.le_refl _) _
      have x3 : W2.cell? ⟨G, 0, none⟩ = some (.int .i64 (x.1 : Int)) := (hb2.cell (p := ⟨G, 0, none⟩) hsr.out).trans x1
      have x4 : W2.cell? ⟨G, 1, none⟩ = some (.int .i64 (x.2 : Int)) := (hb2.cell (p := ⟨G, 1, none⟩) hsr.out).trans x2
      have U2 : Hid (ERow W2 (G + 1) W2.heap.size u5 (butE x (E.take k))) := (HU.out.below hb2).more hb2.size
      have B2 : Hid (Below (G + 1) w1 W2) := HB.out.trans (hb2.mono hsr.out)
      have NQ := eq_edge y x W2
      rw [← hW2, ← hGX]
      clear c1 c2 hW2 hGX hg hb2 HU HB x1 x2 HBw
      by_cases hxy : y = x
      · rw [if_neg (by simp [hxy])] at BS
        have BS := Lib.hid BS
        rw [show decide (y = x) = true by simp [hxy]] at NQ
        clear hxy
        go_wp2
        go_roundw
        case rel => exact ⟨k + 1, by omega, by go_num, by rw [BS.out]; exact U2, B2⟩
        case measure => simp [intOf]; omega
      · rw [if_pos (by simp [hxy])] at BS
        have BS := Lib.hid BS
        rw [show decide (y = x) = false by simp [hxy]] at NQ
        clear hxy
        obtain ⟨m, hm⟩ : ∃ m, m = (butE x (E.take k)).length := ⟨_, rfl⟩
        have HM := Lib.hid hm
        obtain ⟨ao, c6, he6, _⟩ := U2.out.slice
        rw [← hm] at he6 hkl
        subst he6
        have OW : Hid (W2.ownsRow (G + 1) 50 2 (.slice ao m c6) m (flatE (butE x (E.take k)))) := by
          have := U2.out.1
          rwa [← hm] at this
        have NW := Lib.hid (World.news_of_block (heap_alloc_new W2 (.cells #[.int .i64 (y.1 : Int), .int .i64 (y.2 : Int)] 50)))
        have ON : Hid (∀ u ∈ [Value.int .i64 (y.1 : Int), Value.int .i64 (y.2 : Int)], u.oneCell' = true) := by intro u hu; simp at hu; rcases hu with rfl | rfl <;> rfl
        have z1 : m + 1 ≤ maxLen := by unfold maxLen; omega
        have z2 : (m + 1) * 16 ≤ 140737488355328 := by omega
        have hsW : Hid (G + 1 ≤ W2.heap.size) := by have := B2.out.size; rw [hs1.out] at this; exact this
        have HSb : Hid (G + 1 ≤ (W2.alloc (.cells #[.int .i64 (y.1 : Int), .int .i64 (y.2 : Int)] 50)).heap.size) := by
          have := hsW.out; show _ ≤ _; rw [World.size_alloc]; omega
        clear hm U2
        go_wp2_with (at_builtin; refine wpList_append_lies _ rfl (.tmp 17) (.tmp 19) 40 rfl (G + 1) 50 i0 (.agg #[.int .i64 0, .int .i64 0]) 2 16 Try.underlying40 hi0 hz0 hz1 hz2 rfl (Nat.succ_pos 1) _ m (flatE (butE x (E.take k))) rfl (OW.out.alloc _) ⟨W2.heap.size, 0, none⟩ 1 1 [.int .i64 (y.1 : Int), .int .i64 (y.2 : Int)] rfl rfl NW.out ON.out (Nat.lt_succ_self 0) z1 z2 HSb.out _ rfl ?_)
        intro g2 c2 w2 hv2 hg2 _ _
        have BA2 : Hid (Below (G + 1) w1 w2) := (B2.out.alloc hsW.out _).grown hg2 HSb.out (fun q hq => (OW.out.lt q hq).1)
        have EA2 : Hid (ERow w2 (G + 1) w2.heap.size (.slice (some ⟨g2, 0, none⟩) (m + 1) c2) (butE x (E.take (k + 1)))) := by
          show ERow _ _ _ _ _
          rw [BS.out]
          exact ERow.push HM.out.symm hv2
        clear hv2 hg2 OW NW ON HSb B2 x3 x4 a1 a2 NQ hsW hsr
        go_wp2
        go_roundw
        case rel => exact ⟨k + 1, by omega, by go_num, EA2, BA2⟩
        case measure => simp [intOf]; omega
    · obtain rfl : k = E.length := by omega
      rw [List.take_length] at HU
      obtain ⟨ao', c6, he6, _⟩ := HU.out.slice
      subst he6
      clear x1 x2
      go_wp2
      go_ret
      exact ⟨_, rfl, by rw [← HG.out]; exact HU.out.lo (by omega), by rw [← HG.out]; exact HBw.out⟩
end Go.Proofs.Ytohbkpccfhciaaa

namespace Go.Proofs.Ytohbkpccfhciaaa
open Go.RowKit

/-- one round, as the program goes it -/
theorem Pl.round2 {n x : Nat} {es : Edges} {c : List Nat} (h : Pl n es (x :: c)) {F : Edges} (hF : SameE F es) :
    ∃ l e es', leastL n (deg F) = some l ∧ F.find? (touches l) = some e ∧ touches l e = true ∧ other l e = x ∧ (e.1 < n ∧ e.2 < n) ∧ Pl n es' c ∧ SameE (butE e F) es' := by
  obtain ⟨l, es', h1, h2, h3, h4⟩ := h.round hF
  obtain ⟨e, he, hx⟩ : ∃ e, F.filter (touches l) = [e] ∧ other l e = x := by
    match hf : F.filter (touches l) with
    | [] => rw [hf] at h2; simp at h2
    | [e] => rw [hf] at h2; simp at h2; exact ⟨e, rfl, h2⟩
    | a :: b :: r => rw [hf] at h2; simp at h2
  have hm : e ∈ F.filter (touches l) := by rw [he]; simp
  obtain ⟨hm1, hm2⟩ := List.mem_filter.1 hm
  refine ⟨l, e, es', h1, ?_, hm2, hx, ?_, h3, ?_⟩
  · rw [← List.head?_filter, he]; rfl
  · rcases (hF.ends e.1 e.2).1 (.inl hm1) with h5 | h5
    · have := h.lt _ h5; exact ⟨this.1, this.2.1⟩
    · have := h.lt _ h5; exact ⟨this.2.1, this.1⟩
  · have : butE e F = F.filter fun y => !touches l y := by
      unfold butE
      refine List.filter_congr fun y hy => ?_
      cases ht : touches l y with
      | true =>
        have : y ∈ F.filter (touches l) := List.mem_filter.2 ⟨hy, ht⟩
        rw [he, List.mem_singleton] at this
        simp [this]
      | false =>
        have : y ≠ e := fun e1 => by rw [e1, hm2] at ht; cases ht
        simp [this]
    rw [this]
    exact h4
theorem ERow.ne {w : World} {B H B' H' : Nat} {v v' : Value} {E : Edges} {xs : List Value} (h : ERow w B H v E) (h' : Own w B' H' 3 v' xs) : v.ownBlock = none ∨ v.ownBlock ≠ v'.ownBlock := by
  rcases h.1.2 with ⟨rfl, _⟩ | ⟨g, cap, cur, rfl, _, h2, _⟩
  · exact .inl rfl
  · rcases h'.1.2 with ⟨rfl, _⟩ | ⟨g', cap', cur', rfl, _, h4, _⟩
    · right; intro e; cases e
    · right
      intro e
      simp only [Value.ownBlock, Option.some.injEq] at e
      subst e
      rw [h2] at h4
      simp only [Option.some.injEq, Obj.cells.injEq] at h4
      exact absurd h4.2.1 (by decide)
theorem ERow.grown {w w' : World} {B H : Nat} {v v' : Value} {E : Edges} (h : ERow w B H v E) (hg : w.grownBy w' v'.ownBlock) (hne : v.ownBlock = none ∨ v.ownBlock ≠ v'.ownBlock) : ERow w' B H v E := by
  refine ⟨own_blocks2 h.1 fun g hgv => hg.block g (h.1.lt g hgv).2 fun e => ?_, h.2⟩
  rcases hne with h0 | h0
  · rw [h0] at hgv; cases hgv
  · exact h0 (hgv.trans e)
theorem ERow.alloc {w : World} {B H : Nat} {v : Value} {E : Edges} (h : ERow w B H v E) (o : Obj) : ERow (w.alloc o) B H v E := ⟨h.1.alloc o, h.2⟩

set_option maxHeartbeats 3200000 in
set_option maxRecDepth 100000 in
theorem codeOf_p (n : Int) (rows : List (List Int)) (v : Value) (RV : List Value) (w : World) (B0 H0 : Nat) (hG : Hid (Grid w B0 H0 v RV rows)) (hH : H0 ≤ w.heap.size) (hrl : rows.length ≤ 1048576) (hrs : ∀ r ∈ rows, r.length ≤ 1048576) (hwf : (Lit.int .i64 n).wf = true) :
    Calls Try.prog 12 #[.int .i64 n, v] w (IntsOut (codeOut n rows) w) := by
  obtain ⟨i0, hi, hz0, hz1, hz2⟩ := info_parts Try.infoIntR
  have C := Lib.hid (treeEdges_p n rows v RV w hG hH hrl hrs hwf)
  obtain ⟨av, cv, rfl⟩ : ∃ a c, v = .slice a RV.length c := by
    obtain ⟨a, c, h, _⟩ := hG.out.1.slice; exact ⟨a, c, h⟩
  clear hG hrs
  cases ht : treeB n rows with
  | false =>
    rw [codeOut, if_neg (by rw [ht]; decide)]
    rw [ht] at C
    go_enter Try.func12, Try.ntmps12
    go_wp2_with fail
    refine C.out.mono ?_
    rintro e w1 ⟨x, rfl, _, hb⟩
    have HB := Lib.hid hb
    clear hb C
    go_wp2
    go_ret
    exact nilOut _ _ HB.out
  | true =>
    rw [codeOut, if_pos ht]
    rw [ht] at C
    obtain ⟨h1, h2, h3⟩ := treeB_iff.1 ht
    obtain ⟨N, rfl⟩ : ∃ N : Nat, n = N := ⟨n.toNat, by omega⟩
    rw [Int.toNat_natCast] at h3 ⊢
    obtain ⟨E, hE⟩ : ∃ E, E = edgesR rows := ⟨_, rfl⟩
    rw [← hE] at h3 C ⊢
    obtain ⟨cd, hcd, HP⟩ : ∃ cd, codeN N E = cd ∧ Hid ((∃ es, Pl N es cd ∧ SameE E es) ∨ (E.length = 0 ∧ cd = [])) := by
      by_cases hN : 2 ≤ N
      · obtain ⟨es, c, hp, hs, _, hc⟩ := valid_peel h3 hN
        exact ⟨c, hc, .inl ⟨es, hp, hs⟩⟩
      · obtain rfl : N = 1 := by omega
        have := valid_one h3
        subst this
        exact ⟨[], rfl, .inr ⟨rfl, rfl⟩⟩
    rw [hcd]
    have hN7 : N ≤ 7 := by omega
    have hel := h3.len
    have hE6 : Hid (E.length ≤ 6) := by show _ ≤ _; omega
    obtain ⟨B, hB⟩ : ∃ B, B = w.heap.size := ⟨_, rfl⟩
    rw [← hB] at C
    have HBE := Lib.hid hB
    clear hE h3 ht h2 hel h1 hcd hB
    go_enter Try.func12, Try.ntmps12
    go_wp2_with fail
    refine C.out.mono ?_
    rintro e w1 ⟨x, rfl, hx, hb⟩
    have HX := Lib.hid (hx (by first | exact rfl | trivial))
    have HB := Lib.hid hb
    clear hb C hx
    obtain ⟨ao, cap, rfl, _⟩ := HX.out.slice
    go_wp2_with fail
    go_loopw [5, 7, 8] (fun left code _ wr => ∃ (ao : Option Addr) (q cl : Nat) (ac : Option Addr) (m cc : Nat) (F : Edges) (L r : List Nat), left = .slice ao q cl ∧ code = .slice ac m cc ∧ F.length = q ∧ L.length = m ∧ q ≤ 6 ∧ m + q ≤ 12 ∧ Hid (ERow wr B wr.heap.size (.slice ao q cl) F) ∧ Hid (Own wr B wr.heap.size 3 (.slice ac m cc) (ints L)) ∧ Hid (L ++ r = cd) ∧ Hid (Below B w wr) ∧ Hid ((∃ es, Pl N es r ∧ SameE F es) ∨ (F.length = 0 ∧ r = []))) (fun left _ _ _ => match left with | .slice _ q _ => q | _ => 0)
    case atStart => exact ⟨ao, E.length, cap, none, 0, 0, E, [], cd, rfl, rfl, rfl, rfl, hE6.out, by have := hE6.out; omega, HX, ⟨⟨rfl, .inl ⟨rfl, rfl⟩⟩, fun g hg => by cases hg⟩, rfl, HB, HP⟩
    case round =>
      clear HX HB HP hE6
      obtain ⟨ao, q, cl, ac, m, cc, F, L, r, rfl, rfl, hFq, hLm, hq6, hmq, HE, HC, HL, HB, HP⟩ := hrel
      have hBs : Hid (B ≤ wr.heap.size) := by have := HB.out.size; rw [HBE.out]; exact this
      by_cases hgt : 1 < q
      · obtain ⟨x, r', rfl, es, hp, hs⟩ : ∃ x r', r = x :: r' ∧ ∃ es, Pl N es (x :: r') ∧ SameE F es := by
          rcases HP.out with ⟨es, hp, hs⟩ | ⟨h0, _⟩
          · have h5 := hp.length
            have h6 := hs.length
            cases r with
            | nil => simp only [List.length_nil] at h5; omega
            | cons x r' => exact ⟨x, r', rfl, es, hp, hs⟩
          · omega
        have b1 : (1 : Int) < (q : Int) := by omega
        obtain ⟨l, e, es', hl1, hl2, hl3, hl4, hl5, hp', hs'⟩ := hp.round2 hs
        have hlen' : (butE e F).length < q := by
          have a1 := hs'.length
          have a2 := hp'.length
          have a3 := hs.length
          have a4 := hp.length
          simp only [List.length_cons] at a4
          omega
        have HP' : Hid ((∃ es, Pl N es r' ∧ SameE (butE e F) es) ∨ ((butE e F).length = 0 ∧ r' = [])) := .inl ⟨es', hp', hs'⟩
        have hFe : Hid (∀ e ∈ F, e.1 < N ∧ e.2 < N) := fun e he => by
          rcases (hs.ends e.1 e.2).1 (.inl he) with h | h
          · have := hp.lt _ h; exact ⟨this.1, this.2.1⟩
          · have := hp.lt _ h; exact ⟨this.2.1, this.1⟩
        have hFq64 : F.length ≤ 64 := by omega
        have CD := Lib.hid (countEnds_p N F (.slice ao q cl) wr HE (Nat.le_refl _) hFe (by omega) hFq64)
        have HL1 := Lib.hid hl1
        have HL2 := Lib.hid hl2
        have HL3 := Lib.hid hl3
        have HL5 : Hid (e.1 < 64 ∧ e.2 < 64) := by show _ ∧ _; omega
        have HLEN := Lib.hid hlen'
        clear hp hs hp' hs' hFe HP hl1 hl2 hl3 hl5 hlen'
        subst hl4
        go_wp2_with fail
        refine CD.out.mono ?_
        rintro e' w2 ⟨g, rfl, hD⟩
        have CI := Lib.hid (indexI_p (deg F) N g N l w2 (Lib.hid fun v hv => (hD.own.cellAt v (by omega)).trans (degV_at (deg F) hv)) (by omega) HL1)
        have E2 := Lib.hid ((HE.out.below hD.below).more hD.below.size)
        have C2 := Lib.hid ((HC.out.below hD.below).more hD.below.size)
        have B2 := Lib.hid (HB.out.trans (hD.below.mono hBs.out))
        clear hD CD HE HC HB
        go_wp2_with fail
        refine CI.out.mono ?_
        rintro e' w3 ⟨rfl, rfl⟩
        have CE := Lib.hid (edgeAt_p l F (.slice ao q cl) w2 E2 (Nat.le_refl _) hFq64 e HL2)
        clear CI
        go_wp2_with fail
        refine CE.out.mono ?_
        rintro e' w3 ⟨rfl, hb3⟩
        have hBs2 : B ≤ w2.heap.size := by have := B2.out.size; rw [HBE.out]; exact this
        have E3 := Lib.hid ((E2.out.below hb3).more hb3.size)
        have C3 := Lib.hid ((C2.out.below hb3).more hb3.size)
        have B3 := Lib.hid (B2.out.trans (hb3.mono hBs2))
        clear hb3 CE E2 C2 B2 hBs2
        go_upto_region 8 with fail
        obtain ⟨W4, hW4⟩ : ∃ W4, W4 = w3.alloc (.cells #[.int .i64 (e.1 : Int), .int .i64 (e.2 : Int)] 50) := ⟨_, rfl⟩
        obtain ⟨GX, hGX⟩ : ∃ GX, GX = w3.heap.size := ⟨_, rfl⟩
        have a1 : W4.cell? ⟨GX, 0, none⟩ = some (.int .i64 (e.1 : Int)) := by rw [hW4, hGX]; simp
        have a2 : W4.cell? ⟨GX, 1, none⟩ = some (.int .i64 (e.2 : Int)) := by rw [hW4, hGX]; simp
        have hb4 : Below w3.heap.size w3 W4 := by rw [hW4]; exact (Below.refl _ _).alloc (Nat.le_refl _) _
        have hXlt : GX < W4.heap.size := by rw [hW4, hGX, World.size_alloc]; omega
        have hBs3 : B ≤ w3.heap.size := by have := B3.out.size; rw [HBE.out]; exact this
        have E4 := Lib.hid (E3.out.below hb4)
        have C4 := Lib.hid (C3.out.below hb4)
        have B4 := Lib.hid (B3.out.trans (hb4.mono hBs3))
        rw [← hGX] at E4 C4
        have hBX : B ≤ GX := by rw [hGX]; exact hBs3
        rw [← hW4, ← hGX]
        clear hW4 hGX hb4 E3 C3 B3 hBs3
        have CA := Lib.hid (across_p e l W4 HL3.out HL5.out)
        go_wp2_with fail
        refine CA.out.mono ?_
        rintro e' w5 ⟨rfl, hb5⟩
        have a3 : w5.cell? ⟨GX, 0, none⟩ = some (.int .i64 (e.1 : Int)) := (hb5.cell (p := ⟨GX, 0, none⟩) hXlt).trans a1
        have a4 : w5.cell? ⟨GX, 1, none⟩ = some (.int .i64 (e.2 : Int)) := (hb5.cell (p := ⟨GX, 1, none⟩) hXlt).trans a2
        have hX5 : GX < w5.heap.size := Nat.lt_of_lt_of_le hXlt hb5.size
        have E5 := Lib.hid (E4.out.below (hb5.mono (Nat.le_of_lt hXlt)))
        have C5 := Lib.hid (C4.out.below (hb5.mono (Nat.le_of_lt hXlt)))
        have B5 := Lib.hid (B4.out.trans (hb5.mono (by omega)))
        have OC : Hid (w5.ownsRow B 3 1 (.slice ac m cc) m (ints L)) := by
          have := C5.out.1
          rwa [ints_length, hLm] at this
        obtain ⟨x, hx⟩ : ∃ x, x = other l e := ⟨_, rfl⟩
        rw [← hx] at HL ⊢
        clear hb5 a1 a2 hXlt CA E4 C4 B4 hx
        have y1 : m + 1 ≤ maxLen := by unfold maxLen; omega
        have y2 : (m + 1) * 8 ≤ 140737488355328 := by omega
        have Y3 := Lib.hid (show ∀ o : Obj, B ≤ (w5.alloc o).heap.size by intro o; simp; omega)
        go_wp2_with (at_builtin; refine wpList_append_lies _ rfl (.tmp 28) (.tmp 32) 32 rfl B 3 i0 (.int .i64 0) 1 8 Try.underlying32 hi hz0 hz1 hz2 rfl (Nat.succ_pos 0) _ m (ints L) rfl (OC.out.alloc _) ⟨w5.heap.size, 0, none⟩ 1 1 [.int .i64 (x : Int)] rfl rfl (cell_one_new _ _ _) (one_intR _) (Nat.succ_pos 0) y1 y2 (Y3.out _) _ rfl ?_)
        intro g7 c7 w7 hv7 hg7 _ _
        have hal : Below w5.heap.size w5 (w5.alloc (.cells #[.int .i64 (x : Int)] 3)) := (Below.refl _ _).alloc (Nat.le_refl _) _
        have hfar : ∀ i : Nat, w7.cell? ⟨GX, i, none⟩ = w5.cell? ⟨GX, i, none⟩ := fun i => by
          refine (hg7.cell_far ⟨GX, i, none⟩ (by rw [World.size_alloc]; show GX < _; omega) fun h => ?_).trans (hal.cell (p := ⟨GX, i, none⟩) hX5)
          have := C5.out.2 GX h.symm
          omega
        have a5 : w7.cell? ⟨GX, 0, none⟩ = some (.int .i64 (e.1 : Int)) := (hfar 0).trans a3
        have a6 : w7.cell? ⟨GX, 1, none⟩ = some (.int .i64 (e.2 : Int)) := (hfar 1).trans a4
        have E7 : Hid (ERow w7 B w7.heap.size (.slice ao q cl) F) := ((E5.out.alloc _).grown hg7 (E5.out.ne C5.out)).more (by have := hg7.size; rw [World.size_alloc] at this; omega)
        have B7 : Hid (Below B w w7) := (B5.out.alloc (by omega) _).grown hg7 (Y3.out _) (fun k hk => (OC.out.lt k hk).1)
        have C7 : Hid (Own w7 B w7.heap.size 3 (.slice (some ⟨g7, 0, none⟩) (m + 1) c7) (ints (L ++ [x]))) := by
          refine ⟨?_, fun k hk => (hv7.lt k hk).2⟩
          have e1 : ints (L ++ [x]) = ints L ++ [.int .i64 (x : Int)] := by simp [ints]
          rw [e1, List.length_append, ints_length, hLm]
          exact hv7
        have LX : Hid ((L ++ [x]) ++ r' = cd) := by show _ = _; rw [← HL.out]; simp
        have hlx : (L ++ [x]).length = m + 1 := by rw [List.length_append, hLm]; rfl
        clear hv7 hg7 hal hfar a3 a4 hX5 E5 C5 B5 OC Y3 HL
        have CW := Lib.hid (without_p e F (.slice ao q cl) w7 E7 (Nat.le_refl _) hFq64)
        have hB7 : B ≤ w7.heap.size := by have := B7.out.size; rw [HBE.out]; exact this
        go_wp2_with fail
        refine CW.out.mono ?_
        rintro e' w8 ⟨u, rfl, hu8, hb8⟩
        have E8 := Lib.hid (hu8.lo hB7)
        have C8 := Lib.hid ((C7.out.below hb8).more hb8.size)
        have B8 := Lib.hid (B7.out.trans (hb8.mono hB7))
        obtain ⟨ao8, c8, rfl, _⟩ := hu8.slice
        have hq8' := HLEN.out
        clear hu8 hb8 C7 B7 E7 CW
        go_wp2
        go_roundw
        case rel => exact ⟨ao8, _, c8, some ⟨g7, 0, none⟩, m + 1, c7, butE e F, L ++ [x], r', rfl, rfl, rfl, hlx, by omega, by omega, E8, C8, LX, B8, HP'⟩
        case measure => exact hq8'
      · obtain rfl : r = [] := by
          rcases HP.out with ⟨es, hp, hs⟩ | ⟨_, h0⟩
          · have h5 := hp.length
            have h6 := hs.length
            exact List.eq_nil_of_length_eq_zero (by omega)
          · exact h0
        have hl := HL.out
        rw [List.append_nil] at hl
        have HL := Lib.hid hl
        clear hl
        go_wp2
        go_ret
        refine ⟨_, rfl, ?_, by rw [← HBE.out]; exact HB.out⟩
        rw [← ints_iv2, ← HL.out, ← HBE.out]
        exact HC.out
end Go.Proofs.Ytohbkpccfhciaaa
