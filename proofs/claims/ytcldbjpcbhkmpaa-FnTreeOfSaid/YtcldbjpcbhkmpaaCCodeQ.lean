/-
  The program's CodeOf.
-/
import Derived.Test.YtcldbjpcbhkmpaaCCodeP
namespace Go.Proofs.Ytcldbjpcbhkmpaa
open Go.RowKit

theorem eq_edge (x y : Nat × Nat) (w : World) : (Op.equalIn 10000 48 (.agg #[.int .i64 (x.1 : Int), .int .i64 (x.2 : Int)]) (.agg #[.int .i64 (y.1 : Int), .int .i64 (y.2 : Int)])).run Try.prog w = .ok (decide (x = y)) w := by
  have hu := Try.underlying48
  have hi0 := Try.infoIntR
  rw [show (10000 : Nat) = 9999 + 1 from rfl]
  obtain ⟨i, hi, _, _, _⟩ := info_parts hi0
  have hc : Try.prog.cellsOf 3 = 1 := by kernel_rfl
  rw [run_equalIn_array w 9999 _ _ hu hi, hc]
  have e2 : List.range 2 = [0, 1] := rfl
  rw [e2, show (9999 : Nat) = 9998 + 1 from rfl]
  have hp : ∀ (z : Nat × Nat) (i : Nat) (v : Nat), (i = 0 ∧ v = z.1) ∨ (i = 1 ∧ v = z.2) → (part 3 #[.int .i64 (z.1 : Int), .int .i64 (z.2 : Int)] i).run Try.prog w = .ok (.int .i64 (v : Int)) w := fun z i v h => by
    rcases h with ⟨rfl, rfl⟩ | ⟨rfl, rfl⟩ <;> simp [part, isAgg, run_underlying Try.underlying3]
  have p1 := hp x 0 x.1 (.inl ⟨rfl, rfl⟩)
  have p2 := hp y 0 y.1 (.inl ⟨rfl, rfl⟩)
  have p3 := hp x 1 x.2 (.inr ⟨rfl, rfl⟩)
  have p4 := hp y 1 y.2 (.inr ⟨rfl, rfl⟩)
  have q := fun a b => run_equalIn_int (P := Try.prog) w 9998 3 .i64 _ a b Try.underlying3
  obtain ⟨a, b⟩ := x
  obtain ⟨c, d⟩ := y
  simp only at p1 p2 p3 p4
  by_cases h1 : a = c
  · by_cases h2 : b = d
    · subst h1; subst h2
      simp [Op.eqItems, p1, p3, q]
    · have q1 : ((b : Int) == (d : Int)) = false := by rw [beq_eq_false_iff_ne]; omega
      subst h1
      simp [Op.eqItems, p1, p2, p3, p4, q, h2, q1]
  · have q1 : ((a : Int) == (c : Int)) = false := by rw [beq_eq_false_iff_ne]; omega
    simp [Op.eqItems, p1, p2, q, q1, h1]
theorem ERow.lo {w : World} {B B' H : Nat} {v : Value} {E : Edges} (h : ERow w B H v E) (hB : B' ≤ B) : ERow w B' H v E :=
  ⟨⟨h.1.1, h.1.2.imp id (fun ⟨g, cap, cur, a, b, c⟩ => ⟨g, cap, cur, a, by omega, c⟩)⟩, h.2⟩
/-- edges but one -/
def butE (x : Nat × Nat) (E : Edges) : Edges := E.filter fun y => decide (y ≠ x)
theorem butE_step (x : Nat × Nat) (E : Edges) (k : Nat) (h : k < E.length) : butE x (E.take (k + 1)) = if decide (E[k] ≠ x) then butE x (E.take k) ++ [E[k]] else butE x (E.take k) := by
  unfold butE
  rw [List.take_succ_eq_append_getElem h, List.filter_append]
  by_cases e : E[k] = x
  · rw [if_neg (by simp [e]), List.filter_cons_of_neg (by simp [e])]; simp
  · rw [if_pos (by simp [e]), List.filter_cons_of_pos (by simp [e])]; simp

set_option maxHeartbeats 3200000 in
set_option maxRecDepth 100000 in
theorem without_p (x : Nat × Nat) (E : Edges) (v : Value) (w : World) {B0 H0 : Nat} (hE : Hid (ERow w B0 H0 v E)) (hH : H0 ≤ w.heap.size) (hel : E.length ≤ 64) :
    Calls Try.prog 46 #[.agg #[.int .i64 (x.1 : Int), .int .i64 (x.2 : Int)], v] w fun e w' => ∃ u, e = .returned u ∧ ERow w' w.heap.size w'.heap.size u (butE x E) ∧ Below w.heap.size w w' := by
  obtain ⟨i0, hi0, hz0, hz1, hz2⟩ := info_parts Try.infoEdge
  obtain ⟨ao, cap, rfl, _, hcap, _, _⟩ := hE.out.slice
  obtain ⟨G, hG⟩ : ∃ G, G = w.heap.size := ⟨_, rfl⟩
  have HE : Hid (∀ W, Below G w W → ERow W B0 H0 (.slice ao E.length cap) E) := fun W hW => hE.out.below (hW.mono (by rw [hG]; exact hH))
  have HB0 : Hid (Below G w (w.alloc (.cells #[.int .i64 (x.1 : Int), .int .i64 (x.2 : Int)] 48))) := (Below.refl _ _).alloc (by omega) _
  have A1 : Hid (∀ W, Below (G + 1) (w.alloc (.cells #[.int .i64 (x.1 : Int), .int .i64 (x.2 : Int)] 48)) W → W.cell? ⟨G, 0, none⟩ = some (.int .i64 (x.1 : Int)) ∧ W.cell? ⟨G, 1, none⟩ = some (.int .i64 (x.2 : Int))) := fun W hW => by
    refine ⟨(hW.cell (p := ⟨G, 0, none⟩) (Nat.lt_succ_self _)).trans ?_, (hW.cell (p := ⟨G, 1, none⟩) (Nat.lt_succ_self _)).trans ?_⟩ <;> rw [hG] <;> simp
  obtain ⟨w1, hw1⟩ : ∃ w1, w1 = w.alloc (.cells #[.int .i64 (x.1 : Int), .int .i64 (x.2 : Int)] 48) := ⟨_, rfl⟩
  have hs1 : Hid (w1.heap.size = G + 1) := by show _ = _; rw [hw1, hG, World.size_alloc]
  rw [← hw1] at HB0 A1
  clear hE
  go_enter Try.func46, Try.ntmps46
  go_wp2_with fail
  rw [← hG, ← hw1]
  have HG := Lib.hid hG
  clear hG hw1
  go_loopw [5, 10] (fun u i wr => ∃ k : Nat, k ≤ E.length ∧ i = .int .i64 (k : Int) ∧ Hid (ERow wr (G + 1) wr.heap.size u (butE x (E.take k))) ∧ Hid (Below (G + 1) w1 wr)) (fun _ i _ => E.length - (intOf i).toNat)
  case atStart => exact ⟨0, Nat.zero_le _, rfl, ERow.nil _ _ _, Below.refl _ _⟩
  case round =>
    obtain ⟨k, hk, rfl, HU, HB⟩ := hrel
    have HBw : Hid (Below G w wr) := HB0.out.trans (HB.out.mono (by omega))
    have hsr : Hid (G + 1 ≤ wr.heap.size) := by have := HB.out.size; rw [hs1.out] at this; exact this
    obtain ⟨x1, x2⟩ := A1.out wr HB.out
    by_cases hlt : k < E.length
    · have b1 : (k : Int) < (E.length : Int) := by omega
      obtain ⟨g, c', e1, _, _, hg, c1, c2⟩ := (HE.out _ HBw.out).at_ k hlt
      simp only [Value.slice.injEq] at e1
      obtain ⟨rfl, _, rfl⟩ := e1
      have BS := butE_step x E k hlt
      have hkl : (butE x (E.take k)).length ≤ k := by
        unfold butE
        have := List.length_filter_le (fun y => decide (y ≠ x)) (E.take k)
        rw [List.length_take] at this; omega
      obtain ⟨y, hy⟩ : ∃ y, y = E[k] := ⟨_, rfl⟩
      rw [← hy] at c1 c2 BS
      clear hy
      go_upto_region 5 with fail
      obtain ⟨W2, hW2⟩ : ∃ W2, W2 = wr.alloc (.cells #[.int .i64 (y.1 : Int), .int .i64 (y.2 : Int)] 48) := ⟨_, rfl⟩
      obtain ⟨GX, hGX⟩ : ∃ GX, GX = wr.heap.size := ⟨_, rfl⟩
      have a1 : W2.cell? ⟨GX, 0, none⟩ = some (.int .i64 (y.1 : Int)) := by rw [hW2, hGX]; simp
      have a2 : W2.cell? ⟨GX, 1, none⟩ = some (.int .i64 (y.2 : Int)) := by rw [hW2, hGX]; simp
      have hb2 : Below wr.heap.size wr W2 := by rw [hW2]; exact (Below.refl _ _).alloc (Nat.le_refl _) _
      have x3 : W2.cell? ⟨G, 0, none⟩ = some (.int .i64 (x.1 : Int)) := (hb2.cell (p := ⟨G, 0, none⟩) hsr.out).trans x1
      have x4 : W2.cell? ⟨G, 1, none⟩ = some (.int .i64 (x.2 : Int)) := (hb2.cell (p := ⟨G, 1, none⟩) hsr.out).trans x2
      have U2 : Hid (ERow W2 (G + 1) W2.heap.size u5 (butE x (E.take k))) := (HU.out.below hb2).more hb2.size
      have B2 : Hid (Below (G + 1) w1 W2) := HB.out.trans (hb2.mono hsr.out)
      have NQ := eq_edge y x W2
      rw [← hW2, ← hGX]
      clear c1 c2 hW2 hGX hg hb2 HU HB x1 x2 HBw
      by_cases hxy : y = x
      · rw [if_neg (by simp [hxy])] at BS
        have BS := Lib.hid BS
        rw [show decide (y = x) = true by simp [hxy]] at NQ
        clear hxy
        go_wp2
        go_roundw
        case rel => exact ⟨k + 1, by omega, by go_num, by rw [BS.out]; exact U2, B2⟩
        case measure => simp [intOf]; omega
      · rw [if_pos (by simp [hxy])] at BS
        have BS := Lib.hid BS
        rw [show decide (y = x) = false by simp [hxy]] at NQ
        clear hxy
        obtain ⟨m, hm⟩ : ∃ m, m = (butE x (E.take k)).length := ⟨_, rfl⟩
        have HM := Lib.hid hm
        obtain ⟨ao, c6, he6, _⟩ := U2.out.slice
        rw [← hm] at he6 hkl
        subst he6
        have OW : Hid (W2.ownsRow (G + 1) 48 2 (.slice ao m c6) m (flatE (butE x (E.take k)))) := by
          have := U2.out.1
          rwa [← hm] at this
        have NW := Lib.hid (World.news_of_block (heap_alloc_new W2 (.cells #[.int .i64 (y.1 : Int), .int .i64 (y.2 : Int)] 48)))
        have ON : Hid (∀ u ∈ [Value.int .i64 (y.1 : Int), Value.int .i64 (y.2 : Int)], u.oneCell' = true) := by intro u hu; simp at hu; rcases hu with rfl | rfl <;> rfl
        have z1 : m + 1 ≤ maxLen := by unfold maxLen; omega
        have z2 : (m + 1) * 16 ≤ 140737488355328 := by omega
        have hsW : Hid (G + 1 ≤ W2.heap.size) := by have := B2.out.size; rw [hs1.out] at this; exact this
        have HSb : Hid (G + 1 ≤ (W2.alloc (.cells #[.int .i64 (y.1 : Int), .int .i64 (y.2 : Int)] 48)).heap.size) := by
          have := hsW.out; show _ ≤ _; rw [World.size_alloc]; omega
        clear hm U2
        go_wp2_with (at_builtin; refine wpList_append_lies _ rfl (.tmp 17) (.tmp 19) 42 rfl (G + 1) 48 i0 (.agg #[.int .i64 0, .int .i64 0]) 2 16 Try.underlying42 hi0 hz0 hz1 hz2 rfl (Nat.succ_pos 1) _ m (flatE (butE x (E.take k))) rfl (OW.out.alloc _) ⟨W2.heap.size, 0, none⟩ 1 1 [.int .i64 (y.1 : Int), .int .i64 (y.2 : Int)] rfl rfl NW.out ON.out (Nat.lt_succ_self 0) z1 z2 HSb.out _ rfl ?_)
        intro g2 c2 w2 hv2 hg2 _ _
        have BA2 : Hid (Below (G + 1) w1 w2) := (B2.out.alloc hsW.out _).grown hg2 HSb.out (fun q hq => (OW.out.lt q hq).1)
        have EA2 : Hid (ERow w2 (G + 1) w2.heap.size (.slice (some ⟨g2, 0, none⟩) (m + 1) c2) (butE x (E.take (k + 1)))) := by
          show ERow _ _ _ _ _
          rw [BS.out]
          exact ERow.push HM.out.symm hv2
        clear hv2 hg2 OW NW ON HSb B2 x3 x4 a1 a2 NQ hsW hsr
        go_wp2
        go_roundw
        case rel => exact ⟨k + 1, by omega, by go_num, EA2, BA2⟩
        case measure => simp [intOf]; omega
    · obtain rfl : k = E.length := by omega
      rw [List.take_length] at HU
      obtain ⟨ao', c6, he6, _⟩ := HU.out.slice
      subst he6
      clear x1 x2
      go_wp2
      go_ret
      exact ⟨_, rfl, by rw [← HG.out]; exact HU.out.lo (by omega), by rw [← HG.out]; exact HBw.out⟩
end Go.Proofs.Ytcldbjpcbhkmpaa
