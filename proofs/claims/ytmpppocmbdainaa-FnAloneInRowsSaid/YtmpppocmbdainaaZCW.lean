/-
  The contract of the model's test of a web.
  The program's edge of two nodes, whichever is the lesser, and its reading of a row as an edge.
-/
import Derived.Test.YtmpppocmbdainaaCVTree
import Derived.Test.YtmpppocmbdainaaZT
import Derived.Test.YtmpppocmbdainaaZEG
import Derived.StillTailTactics
import Derived.Laws.ResultCell
namespace Go.Proofs.Ytmpppocmbdainaa
open Go.RowKit

def rowW (n : Int) (r : List Int) : Prop := r.length = 2 ∧ (0 ≤ r.getD 0 0 ∧ r.getD 0 0 ≤ n - 1) ∧ (0 ≤ r.getD 1 0 ∧ r.getD 1 0 ≤ n - 1)
instance (n : Int) (r : List Int) : Decidable (rowW n r) := by unfold rowW; infer_instance
def webB (n : Int) (rows : List (List Int)) : Bool := decide ((∀ r ∈ rows, rowW n r) ∧ (1 ≤ n ∧ n ≤ 5) ∧ rows.length ≤ 8)
theorem webB_iff {n : Int} {rows : List (List Int)} : webB n rows = true ↔ (∀ r ∈ rows, rowW n r) ∧ (1 ≤ n ∧ n ≤ 5) ∧ rows.length ≤ 8 := by unfold webB; exact decide_eq_true_iff
theorem webB_no {n m : Int} {rows : List (List Int)} {k : Nat} (hk : k < rows.length) (hm : m = IntKind.i64.wrap (n - 1)) (h : ¬ (rows[k].length = 2 ∧ (0 ≤ rows[k].getD 0 0 ∧ rows[k].getD 0 0 ≤ m) ∧ (0 ≤ rows[k].getD 1 0 ∧ rows[k].getD 1 0 ≤ m))) : webB n rows = false := by
  cases hb : webB n rows with
  | false => rfl
  | true =>
    exfalso
    obtain ⟨h1, h2, _⟩ := webB_iff.1 hb
    have e : m = n - 1 := by rw [hm, IntKind.wrap_i64]; omega
    rw [e] at h
    exact h (h1 _ (List.getElem_mem hk))
end Go.Proofs.Ytmpppocmbdainaa

namespace Go.Proofs.Ytmpppocmbdainaa
open Go.RowKit

set_option maxHeartbeats 400000 in
theorem edgeOf_any (a b : Nat) (w : World) :
    Calls Try.prog 79 #[.int .i64 (a : Int), .int .i64 (b : Int)] w fun e w' => e = .returned (.agg #[.int .i64 ((norm (a, b)).1 : Int), .int .i64 ((norm (a, b)).2 : Int)]) ∧ Below w.heap.size w w' := by
  rcases Nat.lt_trichotomy a b with h | h | h
  · have hn : norm (a, b) = (a, b) := by unfold norm; simp only [Prod.mk.injEq]; omega
    rw [hn]
    have d1 : (a : Int) < (b : Int) := by omega
    clear hn h
    go_enter Try.func79, Try.ntmps79
    go_wp2
    refine bodyPost_ret (results_cell_row rfl _ _ w.heap.size _ _ _ _ rfl (heap_alloc_new w _) Try.underlying87 rfl (by kernel_rfl)) rfl ?_
    exact ⟨rfl, (Below.refl _ _).alloc (Nat.le_refl _) _⟩
  · subst h
    have hn : norm (a, a) = (a, a) := by unfold norm; simp only [Prod.mk.injEq]; omega
    rw [hn]
    have d1 : ¬ (a : Int) < (a : Int) := by omega
    clear hn
    go_enter Try.func79, Try.ntmps79
    go_wp2
    refine bodyPost_ret (results_cell_row rfl _ _ w.heap.size _ _ _ _ rfl (heap_alloc_new w _) Try.underlying87 rfl (by kernel_rfl)) rfl ?_
    exact ⟨rfl, (Below.refl _ _).alloc (Nat.le_refl _) _⟩
  · have hn : norm (a, b) = (b, a) := by unfold norm; simp only [Prod.mk.injEq]; omega
    rw [hn]
    have d1 : (b : Int) < (a : Int) := by omega
    clear hn h
    go_enter Try.func79, Try.ntmps79
    go_wp2
    refine bodyPost_ret (results_cell_row rfl _ _ w.heap.size _ _ _ _ rfl (heap_alloc_new w _) Try.underlying87 rfl (by kernel_rfl)) rfl ?_
    exact ⟨rfl, (Below.refl _ _).alloc (Nat.le_refl _) _⟩
/-- the edge of a row, or two zeros -/
def rowEdge (n : Int) (r : List Int) : Nat × Nat := if rowW n r then norm ((r.getD 0 0).toNat, (r.getD 1 0).toNat) else (0, 0)

theorem below_draw {B : Nat} {w w1 : World} (h : Below B w w1) (z : Nat) : Below B w (w1.drewN z) := h.trans ⟨rfl, rfl, rfl, Nat.le_refl _, fun _ _ => rfl⟩
theorem results_row_tmp {P : Program} {fn : Func} {p u : Tmp} {ty : TypeId} (h : fn.results = #[.cell p ty, .tmp u]) (tmps : Array Value) (w : World) (g : Nat) (t : TypeId) (cs : Array Value) (fr : Nat × Nat) (d : TypeDesc)
    (hp : tmps.getD p undef = .pointer (some ⟨g, 0, none⟩)) (hg : w.heap[g]? = some (.cells cs t fr))
    (hu : P.underlying ty = some d) (hd : (match d with | .struct _ | .array _ _ => true | _ => false) = true) (hi : (P.info? ty).map (·.size) = some cs.size) :
    (results fn tmps).run P w = .ok (.tuple #[.agg cs, tmps.getD u undef]) w := by
  rw [results_cell_tmp h, hp]
  simp [asAddr, Result.andThen, run_loadVar_row w g t ty cs fr d hg hu hd hi]
set_option maxRecDepth 100000 in
set_option maxHeartbeats 3200000 in
theorem edgeOfRow_two (n x y : Int) (gr cr : Nat) (w : World) (h0 : w.cell? ⟨gr, 0, none⟩ = some (.int .i64 x)) (h1 : w.cell? ⟨gr, 1, none⟩ = some (.int .i64 y)) :
    Calls Try.prog 71 #[.int .i64 n, .slice (some ⟨gr, 0, none⟩) 2 cr] w fun e w' => e = .returned (.tuple #[.agg #[.int .i64 ((rowEdge n [x, y]).1 : Int), .int .i64 ((rowEdge n [x, y]).2 : Int)], .bool (decide (rowW n [x, y]))]) ∧ Below w.heap.size w w' := by
  obtain ⟨G, hG⟩ : ∃ G, G = w.heap.size := ⟨_, rfl⟩
  have hgr : gr < w.heap.size := World.block_lt_of_cell? w _ h0
  have HG := Lib.hid hG
  have RA := Lib.hid (heap_alloc_new w (.cells #[.int .i64 0, .int .i64 0] 87))
  have k1 : ∀ z : Nat, ((w.alloc (.cells #[.int .i64 0, .int .i64 0] 87)).drewN z).heap[w.heap.size]? = some (.cells #[.int .i64 0, .int .i64 0] 87 (0, 0)) := fun _ => RA.out
  have RZ : Hid (∀ z : Nat, ((((w.alloc (.cells #[.int .i64 0, .int .i64 0] 87)).drewN z).setCell ⟨w.heap.size, 0, none⟩ (.int .i64 0)).setCell ⟨w.heap.size, 1, none⟩ (.int .i64 0)).heap[w.heap.size]? = some (.cells #[.int .i64 0, .int .i64 0] 87 (0, 0))) := fun z =>
    heap_setCell_same _ w.heap.size 1 _ _ (.int .i64 0) (heap_setCell_same _ w.heap.size 0 _ _ (.int .i64 0) (k1 z))
  have BZ : Hid (∀ z : Nat, Below w.heap.size w ((((w.alloc (.cells #[.int .i64 0, .int .i64 0] 87)).drewN z).setCell ⟨w.heap.size, 0, none⟩ (.int .i64 0)).setCell ⟨w.heap.size, 1, none⟩ (.int .i64 0))) := fun z =>
    ((below_draw ((Below.refl _ w).alloc (Nat.le_refl _) _) z).setCell (p := ⟨w.heap.size, 0, none⟩) (Nat.le_refl _) _).setCell (p := ⟨w.heap.size, 1, none⟩) (Nat.le_refl _) _
  have q2 : ((2 : Int) != 2) = false := rfl
  clear k1 hG
  by_cases hbad : min x y < 0 ∨ n ≤ max x y
  · have hW : ¬ rowW n [x, y] := by rintro ⟨_, ⟨h1, h2⟩, h3, h4⟩; simp only [List.getD_cons_zero, List.getD_cons_succ] at h1 h2 h3 h4; omega
    rw [rowEdge, if_neg hW, decide_eq_false hW]
    clear hW
    rcases Int.lt_trichotomy x y with d | d | d
    · by_cases hlow : x < 0
      · clear hbad
        go_enter Try.func71, Try.ntmps71
        go_wp2_with fail
        go_quiet (fail)
        go_wp2
        refine bodyPost_ret (results_row_tmp rfl _ _ w.heap.size _ _ _ _ rfl (RZ.out nq) Try.underlying87 rfl (by kernel_rfl)) rfl ?_
        exact ⟨rfl, BZ.out nq⟩
      · have hhigh : decide (n ≤ y) = true := decide_eq_true (by omega)
        have hlo : decide (x < 0) = false := decide_eq_false hlow
        clear hbad hlow
        go_enter Try.func71, Try.ntmps71
        go_wp2_with fail
        go_quiet (fail)
        go_wp2
        refine bodyPost_ret (results_row_tmp rfl _ _ w.heap.size _ _ _ _ rfl (RZ.out nq) Try.underlying87 rfl (by kernel_rfl)) rfl ?_
        exact ⟨rfl, BZ.out nq⟩
    · subst d
      have d : ¬ x < x := by omega
      by_cases hlow : x < 0
      · clear hbad
        go_enter Try.func71, Try.ntmps71
        go_wp2_with fail
        go_quiet (fail)
        go_wp2
        refine bodyPost_ret (results_row_tmp rfl _ _ w.heap.size _ _ _ _ rfl (RZ.out nq) Try.underlying87 rfl (by kernel_rfl)) rfl ?_
        exact ⟨rfl, BZ.out nq⟩
      · have hhigh : decide (n ≤ x) = true := decide_eq_true (by omega)
        have hlo : decide (x < 0) = false := decide_eq_false hlow
        clear hbad hlow
        go_enter Try.func71, Try.ntmps71
        go_wp2_with fail
        go_quiet (fail)
        go_wp2
        refine bodyPost_ret (results_row_tmp rfl _ _ w.heap.size _ _ _ _ rfl (RZ.out nq) Try.underlying87 rfl (by kernel_rfl)) rfl ?_
        exact ⟨rfl, BZ.out nq⟩
    · by_cases hlow : y < 0
      · clear hbad
        go_enter Try.func71, Try.ntmps71
        go_wp2_with fail
        go_quiet (fail)
        go_wp2
        refine bodyPost_ret (results_row_tmp rfl _ _ w.heap.size _ _ _ _ rfl (RZ.out nq) Try.underlying87 rfl (by kernel_rfl)) rfl ?_
        exact ⟨rfl, BZ.out nq⟩
      · have hhigh : decide (n ≤ x) = true := decide_eq_true (by omega)
        have hlo : decide (y < 0) = false := decide_eq_false hlow
        clear hbad hlow
        go_enter Try.func71, Try.ntmps71
        go_wp2_with fail
        go_quiet (fail)
        go_wp2
        refine bodyPost_ret (results_row_tmp rfl _ _ w.heap.size _ _ _ _ rfl (RZ.out nq) Try.underlying87 rfl (by kernel_rfl)) rfl ?_
        exact ⟨rfl, BZ.out nq⟩
  · have hW : rowW n [x, y] := ⟨rfl, by simp only [List.getD_cons_zero]; omega, by simp only [List.getD_cons_succ, List.getD_cons_zero]; omega⟩
    rw [rowEdge, if_pos hW, decide_eq_true hW]
    simp only [List.getD_cons_zero, List.getD_cons_succ]
    have CE : Hid (∀ W, Calls Try.prog 79 #[.int .i64 x, .int .i64 y] W fun e w' => e = .returned (.agg #[.int .i64 ((norm (x.toNat, y.toNat)).1 : Int), .int .i64 ((norm (x.toNat, y.toNat)).2 : Int)]) ∧ Below W.heap.size W w') := fun W => by
      have := edgeOf_any x.toNat y.toNat W
      rwa [Int.toNat_of_nonneg (by omega), Int.toNat_of_nonneg (by omega)] at this
    obtain ⟨z, hz⟩ : ∃ z, z = norm (x.toNat, y.toNat) := ⟨_, rfl⟩
    simp only [← hz] at CE ⊢
    clear hW hz RZ BZ
    rcases Int.lt_trichotomy x y with d0 | d0 | d0
    · have d : x < y := d0
      have l0 : decide (x < 0) = false := decide_eq_false (by omega)
      have l1 : decide (n ≤ y) = false := decide_eq_false (by omega)
      clear hbad d0
      go_enter Try.func71, Try.ntmps71
      go_wp2_with fail
      go_quiet (fail)
      go_wp2_with fail
      obtain ⟨w1, hw1⟩ : ∃ w1, w1 = (w.alloc (.cells #[.int .i64 0, .int .i64 0] 87)).drewN nq := ⟨_, rfl⟩
      have hb1 : Below w.heap.size w w1 := by rw [hw1]; exact below_draw ((Below.refl _ w).alloc (Nat.le_refl _) _) _
      have hr1 : w1.heap[w.heap.size]? = some (.cells #[.int .i64 0, .int .i64 0] 87 (0, 0)) := by rw [hw1]; exact RA.out
      have c0 := (hb1.cell (p := ⟨gr, 0, none⟩) hgr).trans h0
      have c1 := (hb1.cell (p := ⟨gr, 1, none⟩) hgr).trans h1
      have hz1 : w.heap.size < w1.heap.size := by rw [hw1]; show _ < (w.alloc _).heap.size; rw [World.size_alloc]; omega
      rw [← hw1]
      have HB1 := Lib.hid hb1
      have HR1 := Lib.hid hr1
      have HZ1 := Lib.hid hz1
      clear h0 h1 RA hw1 hb1 hr1 hz1
      go_still_tail 6, (by kernel_rfl)
      change wpList _ _ _ _ _ w1.drew
      obtain ⟨w2, hw2⟩ : ∃ w2, w2 = w1.drew := ⟨_, rfl⟩
      have HB2 : Hid (Below w.heap.size w w2) := by show Below _ _ _; rw [hw2]; exact HB1.out.trans ⟨rfl, rfl, rfl, Nat.le_refl _, fun _ _ => rfl⟩
      have HR2 : Hid (w2.heap[w.heap.size]? = some (.cells #[.int .i64 0, .int .i64 0] 87 (0, 0))) := by show _ = _; rw [hw2]; exact HR1.out
      have HZ2 : Hid (w.heap.size < w2.heap.size) := by show _ < _; rw [hw2]; exact HZ1.out
      rw [← hw2]
      clear hw2 HB1 HR1 HZ1 c0 c1
      go_wp2_with fail
      refine (CE.out w2).mono ?_
      rintro e w3 ⟨rfl, b3⟩
      have hr3 : w3.heap[w.heap.size]? = some (.cells #[.int .i64 0, .int .i64 0] 87 (0, 0)) := (b3.block _ HZ2.out).trans HR2.out
      have B3 := Lib.hid (HB2.out.trans (b3.mono (Nat.le_of_lt HZ2.out)))
      have z1 : w3.cell? ⟨w.heap.size, 0, none⟩ = some (.int .i64 0) := by simp [World.cell?, hr3]
      have z2 : w3.cell? ⟨w.heap.size, 1, none⟩ = some (.int .i64 0) := by simp [World.cell?, hr3]
      have f1 := frozen_of_row w3 w.heap.size 0 _ _ hr3
      have f2 := frozen_of_row w3 w.heap.size 1 _ _ hr3
      have R1 := heap_setCell_same w3 w.heap.size 0 _ _ (.int .i64 (z.1 : Int)) hr3
      have R2 := Lib.hid (heap_setCell_same _ w.heap.size 1 _ _ (.int .i64 (z.2 : Int)) R1)
      have B4 : Hid (Below w.heap.size w ((w3.setCell ⟨w.heap.size, 0, none⟩ (.int .i64 (z.1 : Int))).setCell ⟨w.heap.size, 1, none⟩ (.int .i64 (z.2 : Int)))) := (B3.out.setCell (p := ⟨w.heap.size, 0, none⟩) (Nat.le_refl _) _).setCell (p := ⟨w.heap.size, 1, none⟩) (Nat.le_refl _) _
      clear hr3 b3 R1 CE
      go_wp2
      refine bodyPost_ret (results_row_tmp rfl _ _ w.heap.size _ _ _ _ rfl R2.out Try.underlying87 rfl (by kernel_rfl)) rfl ?_
      exact ⟨rfl, B4.out⟩
    · subst d0
      have d : ¬ x < x := by omega
      have l0 : decide (x < 0) = false := decide_eq_false (by omega)
      have l1 : decide (n ≤ x) = false := decide_eq_false (by omega)
      clear hbad
      go_enter Try.func71, Try.ntmps71
      go_wp2_with fail
      go_quiet (fail)
      go_wp2_with fail
      obtain ⟨w1, hw1⟩ : ∃ w1, w1 = (w.alloc (.cells #[.int .i64 0, .int .i64 0] 87)).drewN nq := ⟨_, rfl⟩
      have hb1 : Below w.heap.size w w1 := by rw [hw1]; exact below_draw ((Below.refl _ w).alloc (Nat.le_refl _) _) _
      have hr1 : w1.heap[w.heap.size]? = some (.cells #[.int .i64 0, .int .i64 0] 87 (0, 0)) := by rw [hw1]; exact RA.out
      have c0 := (hb1.cell (p := ⟨gr, 0, none⟩) hgr).trans h0
      have c1 := (hb1.cell (p := ⟨gr, 1, none⟩) hgr).trans h1
      have hz1 : w.heap.size < w1.heap.size := by rw [hw1]; show _ < (w.alloc _).heap.size; rw [World.size_alloc]; omega
      rw [← hw1]
      have HB1 := Lib.hid hb1
      have HR1 := Lib.hid hr1
      have HZ1 := Lib.hid hz1
      clear h0 h1 RA hw1 hb1 hr1 hz1
      go_still_tail 6, (by kernel_rfl)
      change wpList _ _ _ _ _ w1.drew
      obtain ⟨w2, hw2⟩ : ∃ w2, w2 = w1.drew := ⟨_, rfl⟩
      have HB2 : Hid (Below w.heap.size w w2) := by show Below _ _ _; rw [hw2]; exact HB1.out.trans ⟨rfl, rfl, rfl, Nat.le_refl _, fun _ _ => rfl⟩
      have HR2 : Hid (w2.heap[w.heap.size]? = some (.cells #[.int .i64 0, .int .i64 0] 87 (0, 0))) := by show _ = _; rw [hw2]; exact HR1.out
      have HZ2 : Hid (w.heap.size < w2.heap.size) := by show _ < _; rw [hw2]; exact HZ1.out
      rw [← hw2]
      clear hw2 HB1 HR1 HZ1 c0 c1
      go_wp2_with fail
      refine (CE.out w2).mono ?_
      rintro e w3 ⟨rfl, b3⟩
      have hr3 : w3.heap[w.heap.size]? = some (.cells #[.int .i64 0, .int .i64 0] 87 (0, 0)) := (b3.block _ HZ2.out).trans HR2.out
      have B3 := Lib.hid (HB2.out.trans (b3.mono (Nat.le_of_lt HZ2.out)))
      have z1 : w3.cell? ⟨w.heap.size, 0, none⟩ = some (.int .i64 0) := by simp [World.cell?, hr3]
      have z2 : w3.cell? ⟨w.heap.size, 1, none⟩ = some (.int .i64 0) := by simp [World.cell?, hr3]
      have f1 := frozen_of_row w3 w.heap.size 0 _ _ hr3
      have f2 := frozen_of_row w3 w.heap.size 1 _ _ hr3
      have R1 := heap_setCell_same w3 w.heap.size 0 _ _ (.int .i64 (z.1 : Int)) hr3
      have R2 := Lib.hid (heap_setCell_same _ w.heap.size 1 _ _ (.int .i64 (z.2 : Int)) R1)
      have B4 : Hid (Below w.heap.size w ((w3.setCell ⟨w.heap.size, 0, none⟩ (.int .i64 (z.1 : Int))).setCell ⟨w.heap.size, 1, none⟩ (.int .i64 (z.2 : Int)))) := (B3.out.setCell (p := ⟨w.heap.size, 0, none⟩) (Nat.le_refl _) _).setCell (p := ⟨w.heap.size, 1, none⟩) (Nat.le_refl _) _
      clear hr3 b3 R1 CE
      go_wp2
      refine bodyPost_ret (results_row_tmp rfl _ _ w.heap.size _ _ _ _ rfl R2.out Try.underlying87 rfl (by kernel_rfl)) rfl ?_
      exact ⟨rfl, B4.out⟩
    · have d : y < x := d0
      have l0 : decide (y < 0) = false := decide_eq_false (by omega)
      have l1 : decide (n ≤ x) = false := decide_eq_false (by omega)
      clear hbad d0
      go_enter Try.func71, Try.ntmps71
      go_wp2_with fail
      go_quiet (fail)
      go_wp2_with fail
      obtain ⟨w1, hw1⟩ : ∃ w1, w1 = (w.alloc (.cells #[.int .i64 0, .int .i64 0] 87)).drewN nq := ⟨_, rfl⟩
      have hb1 : Below w.heap.size w w1 := by rw [hw1]; exact below_draw ((Below.refl _ w).alloc (Nat.le_refl _) _) _
      have hr1 : w1.heap[w.heap.size]? = some (.cells #[.int .i64 0, .int .i64 0] 87 (0, 0)) := by rw [hw1]; exact RA.out
      have c0 := (hb1.cell (p := ⟨gr, 0, none⟩) hgr).trans h0
      have c1 := (hb1.cell (p := ⟨gr, 1, none⟩) hgr).trans h1
      have hz1 : w.heap.size < w1.heap.size := by rw [hw1]; show _ < (w.alloc _).heap.size; rw [World.size_alloc]; omega
      rw [← hw1]
      have HB1 := Lib.hid hb1
      have HR1 := Lib.hid hr1
      have HZ1 := Lib.hid hz1
      clear h0 h1 RA hw1 hb1 hr1 hz1
      go_still_tail 6, (by kernel_rfl)
      change wpList _ _ _ _ _ w1.drew
      obtain ⟨w2, hw2⟩ : ∃ w2, w2 = w1.drew := ⟨_, rfl⟩
      have HB2 : Hid (Below w.heap.size w w2) := by show Below _ _ _; rw [hw2]; exact HB1.out.trans ⟨rfl, rfl, rfl, Nat.le_refl _, fun _ _ => rfl⟩
      have HR2 : Hid (w2.heap[w.heap.size]? = some (.cells #[.int .i64 0, .int .i64 0] 87 (0, 0))) := by show _ = _; rw [hw2]; exact HR1.out
      have HZ2 : Hid (w.heap.size < w2.heap.size) := by show _ < _; rw [hw2]; exact HZ1.out
      rw [← hw2]
      clear hw2 HB1 HR1 HZ1 c0 c1
      go_wp2_with fail
      refine (CE.out w2).mono ?_
      rintro e w3 ⟨rfl, b3⟩
      have hr3 : w3.heap[w.heap.size]? = some (.cells #[.int .i64 0, .int .i64 0] 87 (0, 0)) := (b3.block _ HZ2.out).trans HR2.out
      have B3 := Lib.hid (HB2.out.trans (b3.mono (Nat.le_of_lt HZ2.out)))
      have z1 : w3.cell? ⟨w.heap.size, 0, none⟩ = some (.int .i64 0) := by simp [World.cell?, hr3]
      have z2 : w3.cell? ⟨w.heap.size, 1, none⟩ = some (.int .i64 0) := by simp [World.cell?, hr3]
      have f1 := frozen_of_row w3 w.heap.size 0 _ _ hr3
      have f2 := frozen_of_row w3 w.heap.size 1 _ _ hr3
      have R1 := heap_setCell_same w3 w.heap.size 0 _ _ (.int .i64 (z.1 : Int)) hr3
      have R2 := Lib.hid (heap_setCell_same _ w.heap.size 1 _ _ (.int .i64 (z.2 : Int)) R1)
      have B4 : Hid (Below w.heap.size w ((w3.setCell ⟨w.heap.size, 0, none⟩ (.int .i64 (z.1 : Int))).setCell ⟨w.heap.size, 1, none⟩ (.int .i64 (z.2 : Int)))) := (B3.out.setCell (p := ⟨w.heap.size, 0, none⟩) (Nat.le_refl _) _).setCell (p := ⟨w.heap.size, 1, none⟩) (Nat.le_refl _) _
      clear hr3 b3 R1 CE
      go_wp2
      refine bodyPost_ret (results_row_tmp rfl _ _ w.heap.size _ _ _ _ rfl R2.out Try.underlying87 rfl (by kernel_rfl)) rfl ?_
      exact ⟨rfl, B4.out⟩
set_option maxRecDepth 100000 in
set_option maxHeartbeats 800000 in
theorem edgeOfRow_len (n : Int) (au : Option Addr) (m c : Nat) (w : World) (hm : m ≠ 2) :
    Calls Try.prog 71 #[.int .i64 n, .slice au m c] w fun e w' => e = .returned (.tuple #[.agg #[.int .i64 0, .int .i64 0], .bool false]) ∧ Below w.heap.size w w' := by
  have RA := Lib.hid (heap_alloc_new w (.cells #[.int .i64 0, .int .i64 0] 87))
  have RZ : Hid (∀ z : Nat, ((((w.alloc (.cells #[.int .i64 0, .int .i64 0] 87)).drewN z).setCell ⟨w.heap.size, 0, none⟩ (.int .i64 0)).setCell ⟨w.heap.size, 1, none⟩ (.int .i64 0)).heap[w.heap.size]? = some (.cells #[.int .i64 0, .int .i64 0] 87 (0, 0))) := fun z =>
    heap_setCell_same _ w.heap.size 1 _ _ (.int .i64 0) (heap_setCell_same _ w.heap.size 0 _ _ (.int .i64 0) RA.out)
  have BZ : Hid (∀ z : Nat, Below w.heap.size w ((((w.alloc (.cells #[.int .i64 0, .int .i64 0] 87)).drewN z).setCell ⟨w.heap.size, 0, none⟩ (.int .i64 0)).setCell ⟨w.heap.size, 1, none⟩ (.int .i64 0))) := fun z =>
    ((below_draw ((Below.refl _ w).alloc (Nat.le_refl _) _) z).setCell (p := ⟨w.heap.size, 0, none⟩) (Nat.le_refl _) _).setCell (p := ⟨w.heap.size, 1, none⟩) (Nat.le_refl _) _
  have q1 : ((m : Int) == 2) = false := by rw [beq_eq_false_iff_ne]; omega
  have q2 : ((m : Int) != 2) = true := by rw [bne, q1]; rfl
  clear hm
  go_enter Try.func71, Try.ntmps71
  go_wp2_with fail
  go_quiet (fail)
  go_wp2
  refine bodyPost_ret (results_row_tmp rfl _ _ w.heap.size _ _ _ _ rfl (RZ.out nq) Try.underlying87 rfl (by kernel_rfl)) rfl ?_
  exact ⟨rfl, BZ.out nq⟩
end Go.Proofs.Ytmpppocmbdainaa
