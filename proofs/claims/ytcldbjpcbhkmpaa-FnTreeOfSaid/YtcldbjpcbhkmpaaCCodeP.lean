/-
  The parts of the program's CodeOf: which edge has a node, what is at its other end, the edges but one.
-/
import Derived.Test.YtcldbjpcbhkmpaaCCntE
namespace Go.Proofs.Ytcldbjpcbhkmpaa
open Go.RowKit

def aggE (e : Nat × Nat) : Value := .agg #[.int .i64 (e.1 : Int), .int .i64 (e.2 : Int)]
set_option maxHeartbeats 400000 in
theorem has_p (e : Nat × Nat) (l : Nat) (w : World) :
    Calls Try.prog 64 #[.agg #[.int .i64 (e.1 : Int), .int .i64 (e.2 : Int)], .int .i64 (l : Int)] w fun r w' => r = .returned (.bool (touches l e)) ∧ Below w.heap.size w w' := by
  obtain ⟨a, b⟩ := e
  by_cases h1 : a = l
  · have q1 : ((a : Int) == (l : Int)) = true := by rw [h1]; simp
    have ht : touches l (a, b) = true := by simp [touches, h1]
    rw [ht]
    clear h1 ht
    go_enter Try.func64, Try.ntmps64
    go_wp2
    go_ret
    exact ⟨rfl, (Below.refl _ _).alloc (Nat.le_refl _) _⟩
  · have q1 : ((a : Int) == (l : Int)) = false := by rw [beq_eq_false_iff_ne]; omega
    by_cases h2 : b = l
    · have q2 : ((b : Int) == (l : Int)) = true := by rw [h2]; simp
      have ht : touches l (a, b) = true := by simp [touches, h2]
      rw [ht]
      clear h1 h2 ht
      go_enter Try.func64, Try.ntmps64
      go_wp2
      go_ret
      exact ⟨rfl, (Below.refl _ _).alloc (Nat.le_refl _) _⟩
    · have q2 : ((b : Int) == (l : Int)) = false := by rw [beq_eq_false_iff_ne]; omega
      have ht : touches l (a, b) = false := by simp [touches, h1, h2]
      rw [ht]
      clear h1 h2 ht
      go_enter Try.func64, Try.ntmps64
      go_wp2
      go_ret
      exact ⟨rfl, (Below.refl _ _).alloc (Nat.le_refl _) _⟩
set_option maxHeartbeats 400000 in
theorem across_p (e : Nat × Nat) (l : Nat) (w : World) (ht : touches l e = true) (ho : e.1 < 64 ∧ e.2 < 64) :
    Calls Try.prog 45 #[.agg #[.int .i64 (e.1 : Int), .int .i64 (e.2 : Int)], .int .i64 (l : Int)] w fun r w' => r = .returned (.int .i64 (other l e : Int)) ∧ Below w.heap.size w w' := by
  obtain ⟨a, b⟩ := e
  obtain ⟨h1, h2⟩ := ho
  have hv : ((other l (a, b) : Nat) : Int) = (a : Int) + b - l := by
    unfold other
    simp only [touches, Bool.or_eq_true, decide_eq_true_eq] at ht
    simp only
    split <;> omega
  rw [hv]
  have hl : l < 64 := by
    simp only [touches, Bool.or_eq_true, decide_eq_true_eq] at ht
    simp only at h1 h2
    omega
  simp only at h1 h2
  have w1 : IntKind.i64.wrap ((a : Int) + b) = (a : Int) + b := by rw [IntKind.wrap_i64]; omega
  have w2 : IntKind.i64.wrap ((a : Int) + b - l) = (a : Int) + b - l := by rw [IntKind.wrap_i64]; omega
  clear ht hv
  go_enter Try.func45, Try.ntmps45
  go_wp2
  go_ret
  exact ⟨rfl, (Below.refl _ _).alloc (Nat.le_refl _) _⟩

set_option maxHeartbeats 800000 in
theorem indexI_p (d : Nat → Nat) (n g c l : Nat) (w : World) (h : Hid (∀ v, v < n → w.cell? ⟨g, v, none⟩ = some (.int .i64 (d v : Int)))) (hn : n ≤ 64) (hl : Hid (leastL n d = some l)) :
    Calls Try.prog 38 #[.slice (some ⟨g, 0, none⟩) n c, .int .i64 1] w fun e w' => e = .returned (.int .i64 (l : Int)) ∧ w = w' := by
  obtain ⟨l1, l2, l3⟩ := least_some.1 hl.out
  have L2 := Lib.hid l2
  have L3 := Lib.hid l3
  clear l2 l3
  go_enter Try.func38, Try.ntmps38
  go_wp2
  go_loop [8] (fun i => ∃ k : Nat, k ≤ l ∧ i = .int .i64 (k : Int)) (fun i => l - (intOf i).toNat)
  case atStart => exact ⟨0, Nat.zero_le _, rfl⟩
  case round =>
    obtain ⟨k, hk, rfl⟩ := hrel
    have b1 : (k : Int) < (n : Int) := by omega
    have h1 := h.out k (by omega)
    by_cases hlt : k < l
    · have q1 : ((1 : Int) == (d k : Int)) = false := by rw [beq_eq_false_iff_ne]; have := L3.out k hlt; omega
      go_wp2
      go_round
      case rel => exact ⟨k + 1, by omega, by go_num⟩
      case measure => simp [intOf]; omega
    · obtain rfl : k = l := by omega
      have q1 : ((1 : Int) == (d k : Int)) = true := by rw [L2.out]; rfl
      go_wp2
      go_ret
      exact ⟨rfl, rfl⟩

set_option maxHeartbeats 1600000 in
theorem edgeAt_p (l : Nat) (E : Edges) (v : Value) (w : World) {B0 H0 : Nat} (hE : Hid (ERow w B0 H0 v E)) (hH : H0 ≤ w.heap.size) (hel : E.length ≤ 64) (x : Nat × Nat) (hx : Hid (E.find? (touches l) = some x)) :
    Calls Try.prog 44 #[.int .i64 (l : Int), v] w fun e w' => e = .returned (.agg #[.int .i64 (x.1 : Int), .int .i64 (x.2 : Int)]) ∧ Below w.heap.size w w' := by
  obtain ⟨ao, cap, rfl, _, hcap, _, _⟩ := hE.out.slice
  obtain ⟨G, hG⟩ : ∃ G, G = w.heap.size := ⟨_, rfl⟩
  have HE : Hid (∀ W, Below G w W → ERow W B0 H0 (.slice ao E.length cap) E) := fun W hW => hE.out.below (hW.mono (by rw [hG]; exact hH))
  have S0 : Hid ((w.alloc (.cells #[.int .i64 0, .int .i64 0] 48)).heap[G]? = some (.cells #[.int .i64 0, .int .i64 0] 48 (0, 0)) ∧ Below G w (w.alloc (.cells #[.int .i64 0, .int .i64 0] 48))) := by
    rw [hG]; exact ⟨heap_alloc_new w _, (Below.refl _ _).alloc (Nat.le_refl _) _⟩
  clear hE
  go_enter Try.func44, Try.ntmps44
  go_wp2_with fail
  rw [← hG]
  have HG := Lib.hid hG
  clear hG
  go_loopw [9] (fun i wr => ∃ k : Nat, k ≤ E.length ∧ i = .int .i64 (k : Int) ∧ Hid (∀ (j : Nat) (h : j < E.length), j < k → touches l E[j] = false) ∧ Hid (wr.heap[G]? = some (.cells #[.int .i64 0, .int .i64 0] 48 (0, 0)) ∧ Below G w wr)) (fun i _ => E.length - (intOf i).toNat)
  case atStart => exact ⟨0, Nat.zero_le _, rfl, fun j h hj => by omega, S0⟩
  case round =>
    clear S0
    obtain ⟨k, hk, rfl, HK, HS⟩ := hrel
    by_cases hlt : k < E.length
    · have b1 : (k : Int) < (E.length : Int) := by omega
      obtain ⟨g, c', e1, _, _, hg, c1, c2⟩ := (HE.out _ HS.out.2).at_ k hlt
      simp only [Value.slice.injEq] at e1
      obtain ⟨rfl, _, rfl⟩ := e1
      obtain ⟨y, hy⟩ : ∃ y, y = E[k] := ⟨_, rfl⟩
      rw [← hy] at c1 c2
      have HY := Lib.hid hy
      have hGr : G < wr.heap.size := (Array.getElem?_eq_some_iff.1 HS.out.1).1
      clear hy
      go_upto_region 4 with fail
      obtain ⟨W2, hW2⟩ : ∃ W2, W2 = wr.alloc (.cells #[.int .i64 (y.1 : Int), .int .i64 (y.2 : Int)] 48) := ⟨_, rfl⟩
      obtain ⟨GX, hGX⟩ : ∃ GX, GX = wr.heap.size := ⟨_, rfl⟩
      have a1 : W2.cell? ⟨GX, 0, none⟩ = some (.int .i64 (y.1 : Int)) := by rw [hW2, hGX]; simp
      have a2 : W2.cell? ⟨GX, 1, none⟩ = some (.int .i64 (y.2 : Int)) := by rw [hW2, hGX]; simp
      have hXr : GX < W2.heap.size := by rw [hW2, hGX, World.size_alloc]; omega
      have S2 : Hid (W2.heap[G]? = some (.cells #[.int .i64 0, .int .i64 0] 48 (0, 0)) ∧ Below G w W2) := by
        rw [hW2]; exact ⟨(heap_alloc_old _ _ hGr).trans HS.out.1, HS.out.2.alloc (Nat.le_of_lt hGr) _⟩
      have GX2 : G ≠ GX := by omega
      have hG2 : G < W2.heap.size := by omega
      rw [← hW2, ← hGX]
      have CH := Lib.hid (has_p y l W2)
      clear c1 c2 hW2 hGX HS hg hGr
      cases ht : touches l y with
      | false =>
        rw [ht] at CH
        have HK2 : Hid (∀ (j : Nat) (h : j < E.length), j < k + 1 → touches l E[j] = false) := fun j h hj => by
          by_cases e : j = k
          · subst e; rw [← HY.out]; exact ht
          · exact HK.out j h (by omega)
        clear ht HK
        go_wp2_with fail
        refine CH.out.mono ?_
        rintro e w3 ⟨rfl, hb⟩
        have S3 : Hid (w3.heap[G]? = some (.cells #[.int .i64 0, .int .i64 0] 48 (0, 0)) ∧ Below G w w3) := ⟨(hb.block G hG2).trans S2.out.1, S2.out.2.trans (hb.mono (Nat.le_of_lt hG2))⟩
        clear hb S2 a1 a2 CH
        go_wp2
        go_roundw
        case rel => exact ⟨k + 1, by omega, by go_num, HK2, S3⟩
        case measure => simp [intOf]; omega
      | true =>
        rw [ht] at CH
        have HX : Hid (x = y) := by
          have h1 : E.find? (touches l) = some E[k] := by
            rw [List.find?_eq_some_iff_getElem]
            refine ⟨by rw [← HY.out]; exact ht, k, hlt, rfl, fun j hj => ?_⟩
            rw [HK.out j (by omega) hj]; rfl
          rw [h1] at hx
          have := hx.out
          simp only [Option.some.injEq] at this
          show x = y
          rw [← this, HY.out]
        clear ht HK
        go_wp2_with fail
        refine CH.out.mono ?_
        rintro e w3 ⟨rfl, hb⟩
        have S3 : Hid (w3.heap[G]? = some (.cells #[.int .i64 0, .int .i64 0] 48 (0, 0)) ∧ Below G w w3) := ⟨(hb.block G hG2).trans S2.out.1, S2.out.2.trans (hb.mono (Nat.le_of_lt hG2))⟩
        have d1 : w3.cell? ⟨GX, 0, none⟩ = some (.int .i64 (y.1 : Int)) := (hb.cell (p := ⟨GX, 0, none⟩) hXr).trans a1
        have d2 : w3.cell? ⟨GX, 1, none⟩ = some (.int .i64 (y.2 : Int)) := (hb.cell (p := ⟨GX, 1, none⟩) hXr).trans a2
        have z1 : w3.cell? ⟨G, 0, none⟩ = some (.int .i64 0) := by simp [World.cell?, S3.out.1]
        have z2 : w3.cell? ⟨G, 1, none⟩ = some (.int .i64 0) := by simp [World.cell?, S3.out.1]
        have f1 := frozen_of_row w3 G 0 _ _ S3.out.1
        have f2 := frozen_of_row w3 G 1 _ _ S3.out.1
        have R1 := heap_setCell_same w3 G 0 _ _ (.int .i64 (y.1 : Int)) S3.out.1
        have R2 := Lib.hid (heap_setCell_same _ G 1 _ _ (.int .i64 (y.2 : Int)) R1)
        have B4 : Hid (Below G w ((w3.setCell ⟨G, 0, none⟩ (.int .i64 (y.1 : Int))).setCell ⟨G, 1, none⟩ (.int .i64 (y.2 : Int)))) := (S3.out.2.setCell (p := ⟨G, 0, none⟩) (Nat.le_refl _) _).setCell (p := ⟨G, 1, none⟩) (Nat.le_refl _) _
        clear hb S2 a1 a2 CH R1
        go_wp2
        refine bodyPost_ret (results_cell_row rfl _ _ G _ _ _ _ rfl R2.out Try.underlying48 rfl (by kernel_rfl)) rfl ?_
        exact ⟨by rw [HX.out]; rfl, by rw [← HG.out]; exact B4.out⟩
    · obtain rfl : k = E.length := by omega
      exfalso
      have h1 : E.find? (touches l) = none := List.find?_eq_none.2 fun y hy => by
        obtain ⟨j, hj, rfl⟩ := List.getElem_of_mem hy
        rw [HK.out j hj hj]; decide
      rw [h1] at hx
      cases hx.out
end Go.Proofs.Ytcldbjpcbhkmpaa
