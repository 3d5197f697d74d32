/-
  The program's parts of a web: one node each, whether an edge lies within one, and joined by an edge.
-/
import Derived.Test.YtohbkpccfhciaaaCEdgeTwo
import Derived.Test.YtohbkpccfhciaaaZW
namespace Go.Proofs.Ytohbkpccfhciaaa
open Go.RowKit

/-- five numbers -/
def pvL (p : Nat → Nat) : List Value := [.int .i64 (p 0 : Int), .int .i64 (p 1 : Int), .int .i64 (p 2 : Int), .int .i64 (p 3 : Int), .int .i64 (p 4 : Int)]
theorem pvL_at (p : Nat → Nat) {v : Nat} (h : v < 5) : (pvL p)[v]? = some (.int .i64 (p v : Int)) := by
  match v, h with
  | 0, _ => rfl
  | 1, _ => rfl
  | 2, _ => rfl
  | 3, _ => rfl
  | 4, _ => rfl
theorem pvL_set (p : Nat → Nat) (x : Nat) {v : Nat} (h : v < 5) : (pvL p).set v (.int .i64 (x : Int)) = pvL (fun u => if u = v then x else p u) := by
  match v, h with
  | 0, _ => rfl
  | 1, _ => rfl
  | 2, _ => rfl
  | 3, _ => rfl
  | 4, _ => rfl
theorem pvL_congr {p q : Nat → Nat} (h : ∀ v, v < 5 → p v = q v) : pvL p = pvL q := by
  unfold pvL
  rw [h 0 (by omega), h 1 (by omega), h 2 (by omega), h 3 (by omega), h 4 (by omega)]
def partsV (p : Nat → Nat) : Value := .agg (pvL p).toArray

set_option maxHeartbeats 3200000 in
theorem oneEach_p (w : World) :
    Calls Try.prog 35 #[] w fun e w' => e = .returned (partsV fun v => v) ∧ Below w.heap.size w w' := by
  go_enter Try.func35, Try.ntmps35
  go_wp2
  refine wp_loop_rounds 6 ?_
  iterate 6
    rw [rounds_succ]
    go_wp2
  refine bodyPost_ret (results_cell_row rfl _ _ w.heap.size _ _ _ _ rfl (heap_alloc2_old w _ _) Try.underlying56 rfl (by kernel_rfl)) rfl ?_
  exact ⟨rfl, ((Below.refl _ w).alloc (Nat.le_refl _) _).alloc (by rw [World.size_alloc]; omega) _⟩

theorem pv_cell {w : World} {G v : Nat} {p : Nat → Nat} {t : TypeId} {fr : Nat × Nat} (h : w.heap[G]? = some (.cells (pvL p).toArray t fr)) (hv : v < 5) : w.cell? ⟨G, v, none⟩ = some (.int .i64 (p v : Int)) := by
  have := pvL_at p hv
  simp [World.cell?, h, this]
set_option maxHeartbeats 800000 in
theorem holds_p (p : Nat → Nat) (e : Nat × Nat) (w : World) (he : e.1 < 5 ∧ e.2 < 5) :
    Calls Try.prog 37 #[partsV p, .agg #[.int .i64 (e.1 : Int), .int .i64 (e.2 : Int)]] w fun r w' => r = .returned (.bool (decide (p e.1 = p e.2))) ∧ Below w.heap.size w w' := by
  obtain ⟨h1, h2⟩ := he
  have g1 : (e.1 : Int) < 5 := by omega
  have g2 : (e.2 : Int) < 5 := by omega
  obtain ⟨G, hG⟩ : ∃ G, G = w.heap.size := ⟨_, rfl⟩
  obtain ⟨W, hW⟩ : ∃ W, W = (w.alloc (.cells (pvL p).toArray 56)).alloc (.cells #[.int .i64 (e.1 : Int), .int .i64 (e.2 : Int)] 50) := ⟨_, rfl⟩
  have r1 : W.heap[G]? = some (.cells (pvL p).toArray 56 (0, 0)) := by rw [hW, hG]; exact heap_alloc2_old w _ _
  have k1 := pv_cell r1 h1
  have k2 := pv_cell r1 h2
  have a1 : W.cell? ⟨G + 1, 0, none⟩ = some (.int .i64 (e.1 : Int)) := by rw [hW, hG]; simp
  have a2 : W.cell? ⟨G + 1, 1, none⟩ = some (.int .i64 (e.2 : Int)) := by rw [hW, hG]; simp
  have HB : Hid (Below w.heap.size w W) := by show Below _ _ _; rw [hW]; exact ((Below.refl _ w).alloc (Nat.le_refl _) _).alloc (by rw [World.size_alloc]; omega) _
  have q : ((p e.1 : Int) == (p e.2 : Int)) = decide (p e.1 = p e.2) := by
    by_cases h : p e.1 = p e.2
    · rw [h]; simp
    · rw [decide_eq_false h, beq_eq_false_iff_ne]; omega
  obtain ⟨x, hx⟩ : ∃ x : Int, x = (p e.1 : Int) := ⟨_, rfl⟩
  obtain ⟨y, hy⟩ : ∃ y : Int, y = (p e.2 : Int) := ⟨_, rfl⟩
  obtain ⟨b, hb⟩ : ∃ b, b = decide (p e.1 = p e.2) := ⟨_, rfl⟩
  rw [← hx] at k1
  rw [← hy] at k2
  rw [← hx, ← hy, ← hb] at q
  rw [← hb]
  clear r1 hx hy hb
  go_enter Try.func37, Try.ntmps37
  simp only [partsV]
  go_wp2_with fail
  simp only [← hG, ← hW]
  clear hG hW
  go_quiet (fail)
  go_wp2
  go_ret
  exact ⟨by first | rw [q] | (rw [← q]; rfl), below_draw HB.out _⟩
/-- parts joined up to a node -/
def joinK (p : Nat → Nat) (e : Nat × Nat) (k : Nat) : Nat → Nat := fun v => if v < k ∧ p v = p e.2 then p e.1 else p v
theorem joinK_zero (p : Nat → Nat) (e : Nat × Nat) : joinK p e 0 = p := by funext v; unfold joinK; rw [if_neg (by omega)]
theorem joinK_full (p : Nat → Nat) (e : Nat × Nat) : pvL (joinK p e 5) = pvL (joinP p e) := pvL_congr fun v hv => by
  unfold joinK joinP
  by_cases h : p v = p e.2
  · rw [if_pos ⟨hv, h⟩, if_pos h]
  · rw [if_neg (fun hh => h hh.2), if_neg h]
theorem joinK_same (p : Nat → Nat) (e : Nat × Nat) (k : Nat) (h : p k ≠ p e.2) : joinK p e (k + 1) = joinK p e k := by
  funext v
  unfold joinK
  by_cases h1 : v < k + 1 ∧ p v = p e.2
  · have : v < k ∧ p v = p e.2 := ⟨by
      rcases Nat.lt_or_ge v k with h2 | h2
      · exact h2
      · obtain rfl : v = k := by omega
        exact absurd h1.2 h, h1.2⟩
    rw [if_pos h1, if_pos this]
  · rw [if_neg h1, if_neg (fun h2 => h1 ⟨by omega, h2.2⟩)]
theorem joinK_step (p : Nat → Nat) (e : Nat × Nat) (k : Nat) (h : p k = p e.2) : (fun u => if u = k then p e.1 else joinK p e k u) = joinK p e (k + 1) := by
  funext v
  unfold joinK
  by_cases h1 : v = k
  · subst h1
    rw [if_pos rfl, if_pos ⟨by omega, h⟩]
  · rw [if_neg h1]
    by_cases h2 : v < k ∧ p v = p e.2
    · rw [if_pos h2, if_pos ⟨by omega, h2.2⟩]
    · rw [if_neg h2, if_neg (fun h3 => h2 ⟨by omega, h3.2⟩)]
theorem index_pv (p : Nat → Nat) {k : Nat} (h : k < 5) (W : World) : (Instr.index 56 (.agg #[.int .i64 (p 0 : Int), .int .i64 (p 1 : Int), .int .i64 (p 2 : Int), .int .i64 (p 3 : Int), .int .i64 (p 4 : Int)]) (.int .i64 (k : Int))).run Try.prog W = .ok (.int .i64 (p k : Int)) W := by
  have hn : (0 : Int) ≤ (k : Int) ∧ (k : Int) < 5 := by omega
  have hp : (part 3 (pvL p).toArray k).run Try.prog W = .ok (.int .i64 (p k : Int)) W := by
    have := pvL_at p h
    simp [part, isAgg, run_underlying Try.underlying3, this]
  have hc : (sizeOf 3).run Try.prog W = .ok 1 W := Try.sizeOf3 W
  simp [Instr.index, run_underlying Try.underlying56, asIntOf, hn, hc]
  rw [if_pos h]
  exact hp
set_option maxHeartbeats 3200000 in
theorem joined_p (p : Nat → Nat) (e : Nat × Nat) (w : World) (he : e.1 < 5 ∧ e.2 < 5) :
    Calls Try.prog 38 #[partsV p, .agg #[.int .i64 (e.1 : Int), .int .i64 (e.2 : Int)]] w fun r w' => r = .returned (partsV (joinP p e)) ∧ Below w.heap.size w w' := by
  obtain ⟨h1, h2⟩ := he
  obtain ⟨q, hq⟩ : ∃ q, q = joinP p e := ⟨_, rfl⟩
  rw [← hq]
  have HQ := Lib.hid hq
  clear hq
  have g1 : (e.1 : Int) < 5 := by omega
  have g2 : (e.2 : Int) < 5 := by omega
  obtain ⟨G, hG⟩ : ∃ G, G = w.heap.size := ⟨_, rfl⟩
  obtain ⟨W, hW⟩ : ∃ W, W = ((w.alloc (.cells (pvL p).toArray 56)).alloc (.cells #[.int .i64 (e.1 : Int), .int .i64 (e.2 : Int)] 50)).alloc (.cells #[.int .i64 0, .int .i64 0, .int .i64 0, .int .i64 0, .int .i64 0] 56) := ⟨_, rfl⟩
  have s2 : ((w.alloc (.cells (pvL p).toArray 56)).alloc (.cells #[.int .i64 (e.1 : Int), .int .i64 (e.2 : Int)] 50)).heap.size = G + 2 := by rw [World.size_alloc, World.size_alloc, hG]
  have r1 : W.heap[G]? = some (.cells (pvL p).toArray 56 (0, 0)) := by rw [hW]; refine (heap_alloc_old _ _ ?_).trans (by rw [hG]; exact heap_alloc2_old w _ _); rw [s2]; omega
  have r3 : W.heap[G + 2]? = some (.cells #[.int .i64 0, .int .i64 0, .int .i64 0, .int .i64 0, .int .i64 0] 56 (0, 0)) := by rw [hW, ← s2]; exact heap_alloc_new _ _
  have k1 := pv_cell r1 h1
  have k2 := pv_cell r1 h2
  have r2 : W.heap[G + 1]? = some (.cells #[.int .i64 (e.1 : Int), .int .i64 (e.2 : Int)] 50 (0, 0)) := by rw [hW]; refine (heap_alloc_old _ _ ?_).trans (by rw [hG]; exact heap_alloc2_new w _ _); rw [s2]; omega
  have a1 : W.cell? ⟨G + 1, 0, none⟩ = some (.int .i64 (e.1 : Int)) := by simp [World.cell?, r2]
  have a2 : W.cell? ⟨G + 1, 1, none⟩ = some (.int .i64 (e.2 : Int)) := by simp [World.cell?, r2]
  clear r2
  have HB : Hid (Below w.heap.size w W) := by show Below _ _ _; rw [hW]; exact (((Below.refl _ w).alloc (Nat.le_refl _) _).alloc (by rw [World.size_alloc]; omega) _).alloc (by rw [s2]; omega) _
  have R1 := Lib.hid r1
  have R3 := Lib.hid r3
  have c0 := pv_cell r1 (show 0 < 5 by omega)
  have c1 := pv_cell r1 (show 1 < 5 by omega)
  have c2 := pv_cell r1 (show 2 < 5 by omega)
  have c3 := pv_cell r1 (show 3 < 5 by omega)
  have c4 := pv_cell r1 (show 4 < 5 by omega)
  have C0 := Lib.hid c0
  have C1 := Lib.hid c1
  have C2 := Lib.hid c2
  have C3 := Lib.hid c3
  have C4 := Lib.hid c4
  clear r1 r3 s2 c0 c1 c2 c3 c4
  go_enter Try.func38, Try.ntmps38
  simp only [partsV]
  go_wp2_with fail
  simp only [← hG, ← hW]
  have HGs := Lib.hid hG
  clear hG hW
  go_quiet (fail)
  obtain ⟨w1, hw1⟩ : ∃ w1, w1 = W.drewN nq := ⟨_, rfl⟩
  have c0 : w1.cell? ⟨G, 0, none⟩ = some (.int .i64 (p 0 : Int)) := by rw [hw1]; exact C0.out
  have c1 : w1.cell? ⟨G, 1, none⟩ = some (.int .i64 (p 1 : Int)) := by rw [hw1]; exact C1.out
  have c2 : w1.cell? ⟨G, 2, none⟩ = some (.int .i64 (p 2 : Int)) := by rw [hw1]; exact C2.out
  have c3 : w1.cell? ⟨G, 3, none⟩ = some (.int .i64 (p 3 : Int)) := by rw [hw1]; exact C3.out
  have c4 : w1.cell? ⟨G, 4, none⟩ = some (.int .i64 (p 4 : Int)) := by rw [hw1]; exact C4.out
  have S0 : Hid (w1.heap[G]? = some (.cells (pvL (joinK p e 0)).toArray 56 (0, 0)) ∧ w1.heap[G + 2]? = some (.cells #[.int .i64 0, .int .i64 0, .int .i64 0, .int .i64 0, .int .i64 0] 56 (0, 0)) ∧ Below w.heap.size w w1) := by
    rw [hw1, joinK_zero]; exact ⟨R1.out, R3.out, below_draw HB.out _⟩
  obtain ⟨GR, hGR⟩ : ∃ GR, GR = G + 2 := ⟨_, rfl⟩
  rw [← hGR] at S0
  have hGR2 : G + 1 + 1 = GR := by omega
  rw [hGR2, ← hw1]
  have HGR := Lib.hid hGR
  clear C0 C1 C2 C3 C4 R1 R3 hw1 hGR hGR2 k1 k2 a1 a2 HB
  go_wp2_with fail
  go_loopw [7, 8, 18] (fun e7 e8 ii wr => ∃ k : Nat, k ≤ 5 ∧ ii = .int .i64 (k : Int) ∧ Hid (wr.heap[G]? = some (.cells (pvL (joinK p e k)).toArray 56 (0, 0)) ∧ wr.heap[GR]? = some (.cells #[.int .i64 0, .int .i64 0, .int .i64 0, .int .i64 0, .int .i64 0] 56 (0, 0)) ∧ Below w.heap.size w wr)) (fun _ _ ii _ => 5 - (intOf ii).toNat)
  case atStart => exact ⟨0, by omega, rfl, S0⟩
  case round =>
    clear S0 c0 c1 c2 c3 c4
    obtain ⟨k, hk, rfl, HS⟩ := hrel
    by_cases hlt : k < 5
    · have hrow := HS.out.1
      have cc := (pv_cell hrow hlt)
      have cf := frozen_of_row wr G k _ _ hrow
      have hjk : joinK p e k k = p k := by unfold joinK; rw [if_neg (by omega)]
      rw [hjk] at cc
      have hset := fun v => heap_setCell_same wr G k _ _ v hrow
      have HSET := Lib.hid hset
      have hix := index_pv p hlt wr
      have b1 : (k : Int) < 5 := by omega
      by_cases hpk : p k = p e.2
      · have q1 : ((p k : Int) == (p e.2 : Int)) = true := by rw [hpk]; simp
        have HJ := Lib.hid (joinK_step p e k hpk)
        have HK := Lib.hid hpk
        have S2 : Hid ((wr.setCell ⟨G, k, none⟩ (.int .i64 (p e.1 : Int))).heap[G]? = some (.cells (pvL (joinK p e (k + 1))).toArray 56 (0, 0)) ∧ (wr.setCell ⟨G, k, none⟩ (.int .i64 (p e.1 : Int))).heap[GR]? = some (.cells #[.int .i64 0, .int .i64 0, .int .i64 0, .int .i64 0, .int .i64 0] 56 (0, 0)) ∧ Below w.heap.size w (wr.setCell ⟨G, k, none⟩ (.int .i64 (p e.1 : Int)))) := by
          refine ⟨?_, ?_, HS.out.2.2.setCell (p := ⟨G, k, none⟩) (by rw [HGs.out]; exact Nat.le_refl _) _⟩
          · rw [HSET.out, ← HJ.out, ← pvL_set _ _ hlt]; simp
          · rw [Below.heap_setCell _ _ _ _ (by have := HGR.out; simp; omega)]; exact HS.out.2.1
        clear hrow hset hpk HS hjk
        go_wp2
        go_roundw
        case rel => exact ⟨k + 1, by omega, by go_num, S2⟩
        case measure => simp [intOf]; omega
      · have q1 : ((p k : Int) == (p e.2 : Int)) = false := by rw [beq_eq_false_iff_ne]; omega
        have S2 := HS
        rw [← joinK_same p e k hpk] at S2
        clear hrow hset hpk HS hjk
        go_wp2
        go_roundw
        case rel => exact ⟨k + 1, by omega, by go_num, S2⟩
        case measure => simp [intOf]; omega
    · obtain rfl : k = 5 := by omega
      rw [joinK_full, ← HQ.out] at HS
      have hrow := HS.out.1
      have hrz := HS.out.2.1
      have c0 := pv_cell hrow (show 0 < 5 by omega)
      have z0 : wr.cell? ⟨GR, 0, none⟩ = some (.int .i64 0) := by simp [World.cell?, hrz]
      have f0 := frozen_of_row wr GR 0 _ _ hrz
      have c1 := pv_cell hrow (show 1 < 5 by omega)
      have z1 : wr.cell? ⟨GR, 1, none⟩ = some (.int .i64 0) := by simp [World.cell?, hrz]
      have f1 := frozen_of_row wr GR 1 _ _ hrz
      have c2 := pv_cell hrow (show 2 < 5 by omega)
      have z2 : wr.cell? ⟨GR, 2, none⟩ = some (.int .i64 0) := by simp [World.cell?, hrz]
      have f2 := frozen_of_row wr GR 2 _ _ hrz
      have c3 := pv_cell hrow (show 3 < 5 by omega)
      have z3 : wr.cell? ⟨GR, 3, none⟩ = some (.int .i64 0) := by simp [World.cell?, hrz]
      have f3 := frozen_of_row wr GR 3 _ _ hrz
      have c4 := pv_cell hrow (show 4 < 5 by omega)
      have z4 : wr.cell? ⟨GR, 4, none⟩ = some (.int .i64 0) := by simp [World.cell?, hrz]
      have f4 := frozen_of_row wr GR 4 _ _ hrz
      have r0 := heap_setCell_same _ GR 0 _ _ (.int .i64 (q 0 : Int)) hrz
      have r1 := heap_setCell_same _ GR 1 _ _ (.int .i64 (q 1 : Int)) r0
      have r2 := heap_setCell_same _ GR 2 _ _ (.int .i64 (q 2 : Int)) r1
      have r3 := heap_setCell_same _ GR 3 _ _ (.int .i64 (q 3 : Int)) r2
      have r4 := heap_setCell_same _ GR 4 _ _ (.int .i64 (q 4 : Int)) r3
      have R4 := Lib.hid r4
      have B0 := HS.out.2.2
      have hge : w.heap.size ≤ GR := by have := HGR.out; have := HGs.out; omega
      have B1 := B0.setCell (p := ⟨GR, 0, none⟩) hge (.int .i64 (q 0 : Int))
      have B2 := B1.setCell (p := ⟨GR, 1, none⟩) hge (.int .i64 (q 1 : Int))
      have B3 := B2.setCell (p := ⟨GR, 2, none⟩) hge (.int .i64 (q 2 : Int))
      have B4 := B3.setCell (p := ⟨GR, 3, none⟩) hge (.int .i64 (q 3 : Int))
      have B5 := B4.setCell (p := ⟨GR, 4, none⟩) hge (.int .i64 (q 4 : Int))
      have BB := Lib.hid B5
      clear hrow hrz r0 r1 r2 r3 r4 B0 B1 B2 B3 B4 B5 hge HS
      go_wp2
      refine bodyPost_ret (results_cell_row rfl _ _ GR _ _ _ _ rfl R4.out Try.underlying56 rfl (by kernel_rfl)) rfl ?_
      exact ⟨rfl, BB.out⟩
end Go.Proofs.Ytohbkpccfhciaaa
