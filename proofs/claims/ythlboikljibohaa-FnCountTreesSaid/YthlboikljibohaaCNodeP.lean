/-
  The program's rows of all nodes.
-/
import Derived.Test.YthlboikljibohaaCGridSet
import Derived.StillTailTactics
namespace Go.Proofs.Ythlboikljibohaa
open Go.RowKit

set_option maxHeartbeats 400000 in
/-- what is left of both nodes' sum -/
theorem across_any (a b l : Nat) (w : World) (hl : l ≤ a + b) (hs : a + b ≤ 1000) :
    Calls Try.prog 66 #[.agg #[.int .i64 (a : Int), .int .i64 (b : Int)], .int .i64 (l : Int)] w fun r w' => r = .returned (.int .i64 ((a + b - l : Nat) : Int)) ∧ Below w.heap.size w w' := by
  have w1 : IntKind.i64.wrap ((a : Int) + b) = (a : Int) + b := by rw [IntKind.wrap_i64]; omega
  have w2 : IntKind.i64.wrap ((a : Int) + b - l) = (a : Int) + b - l := by rw [IntKind.wrap_i64]; omega
  have e : ((a + b - l : Nat) : Int) = (a : Int) + b - l := by omega
  rw [e]
  clear e
  go_enter Try.func66, Try.ntmps66
  go_wp2
  go_ret
  exact ⟨rfl, (Below.refl _ _).alloc (Nat.le_refl _) _⟩
theorem index_ed (e : Nat × Nat) (W : World) : (Instr.index 79 (.agg #[.int .i64 (e.1 : Int), .int .i64 (e.2 : Int)]) (.int .i64 0)).run Try.prog W = .ok (.int .i64 (e.1 : Int)) W ∧ (Instr.index 79 (.agg #[.int .i64 (e.1 : Int), .int .i64 (e.2 : Int)]) (.int .i64 1)).run Try.prog W = .ok (.int .i64 (e.2 : Int)) W := by
  have hc : (sizeOf 3).run Try.prog W = .ok 1 W := Try.sizeOf3 W
  refine ⟨?_, ?_⟩
  · simp [Instr.index, run_underlying Try.underlying79, asIntOf, hc, part, isAgg, run_underlying Try.underlying3]
  · simp [Instr.index, run_underlying Try.underlying79, asIntOf, hc, part, isAgg, run_underlying Try.underlying3]
/-- rows of which the first ones are filled with zeros -/
def zrows (n k : Nat) : List (List Int) := (List.range n).map fun i => if i < k then List.replicate n 0 else []
theorem zrows_length (n k : Nat) : (zrows n k).length = n := by simp [zrows]
theorem zrows_at {n i : Nat} (k : Nat) (h : i < n) : (zrows n k)[i]? = some (if i < k then List.replicate n 0 else []) := by simp [zrows, h]
theorem zrows_set {n k : Nat} (_h : k < n) : (zrows n k).set k (List.replicate n 0) = zrows n (k + 1) := by
  apply List.ext_getElem?
  intro i
  by_cases hi : i < n
  · rw [zrows_at _ hi]
    by_cases e : k = i
    · subst e
      rw [List.getElem?_set_self (by rw [zrows_length]; exact hi), if_pos (by omega)]
    · rw [List.getElem?_set_ne e, zrows_at _ hi]
      by_cases h2 : i < k
      · rw [if_pos h2, if_pos (by omega)]
      · rw [if_neg h2, if_neg (by omega)]
  · rw [List.getElem?_eq_none (by rw [List.length_set, zrows_length]; omega), List.getElem?_eq_none (by rw [zrows_length]; omega)]
theorem zrows_full (n : Nat) : zrows n n = gridM n n fun _ _ => 0 := by
  unfold zrows gridM
  refine List.map_congr_left fun i hi => ?_
  rw [if_pos (List.mem_range.1 hi)]
  apply List.ext_getElem?
  intro j
  by_cases hj : j < n <;> simp [hj]
theorem zrows_nil (n : Nat) (w : World) (B H : Nat) : RowsI w B H (List.replicate n (Value.slice none 0 0)) (zrows n 0) := by
  refine ⟨by rw [List.length_replicate, zrows_length], fun i v r h1 h2 => ?_⟩
  have hi : i < n := by have := (List.getElem?_eq_some_iff.1 h1).1; rwa [List.length_replicate] at this
  rw [List.getElem?_replicate, if_pos hi] at h1
  rw [zrows_at _ hi, if_neg (by omega)] at h2
  cases h1; cases h2
  exact ⟨World.ownsRow_nil _ _ _ _, fun g hg => by simp [Value.ownBlock] at hg⟩
theorem nil_dist (n : Nat) : Dist (List.replicate n (Value.slice none 0 0)) := fun i j u v _ h1 _ => by
  have hi : i < n := by have := (List.getElem?_eq_some_iff.1 h1).1; rwa [List.length_replicate] at this
  rw [List.getElem?_replicate, if_pos hi] at h1
  cases h1; exact .inl rfl

/-- no number of so many rows is larger than c, nor less than -c -/
def BdM (N : Nat) (c : Int) (M : Nat → Nat → Int) : Prop := ∀ i j, i < N → -c ≤ M i j ∧ M i j ≤ c
theorem BdM.set {N a b : Nat} {c x : Int} {M : Nat → Nat → Int} (h : BdM N c M) (hx : -(c + 1) ≤ x ∧ x ≤ c + 1) : BdM N (c + 1) (setM M a b x) := fun i j hi => by
  unfold setM
  have := h i j hi
  split <;> omega
/-- both nodes of an edge visited -/
def visitM (M : Nat → Nat → Int) (p q : Nat) : Nat → Nat → Int := setM (setM M p p (M p p + 1)) p q (setM M p p (M p p + 1) p q - 1)
theorem visit_two {M : Nat → Nat → Int} {a b : Nat} (i j : Nat) : visitM (visitM M a b) b a i j = M i j + cE (a, b) i j := by
  unfold visitM setM cE isE ind
  simp only
  by_cases hab : a = b
  · subst hab
    simp only [and_self, if_true]
    by_cases h : i = a ∧ j = a
    · obtain ⟨rfl, rfl⟩ := h
      simp
    · simp [h]
  · have hba : ¬ b = a := Ne.symm hab
    rw [if_neg hab]
    by_cases h1 : i = a <;> by_cases h2 : j = a <;> by_cases h3 : i = b <;> by_cases h4 : j = b <;> subst_vars <;> simp_all <;> (try split) <;> omega

/-- the rows while an edge is visited -/
structure NodeS (w W : World) (B G GE n : Nat) (RV : List Value) (y : Nat × Nat) (M : Nat → Nat → Int) : Prop where
  grid : GridA W B (.slice (some ⟨G, 0, none⟩) n n) RV (gridM n n M)
  below : Below B w W
  ge : B ≤ W.heap.size
  ed : W.heap[GE]? = some (.cells #[.int .i64 (y.1 : Int), .int .i64 (y.2 : Int)] 79 (0, 0))
  lt : ∀ (i : Nat) (u : Value) (g : Nat), RV[i]? = some u → u.ownBlock = some g → g < GE
theorem NodeS.up {w W W' : World} {B G GE n : Nat} {RV : List Value} {y : Nat × Nat} {M : Nat → Nat → Int} (h : NodeS w W B G GE n RV y M) (hb : Below W.heap.size W W') : NodeS w W' B G GE n RV y M :=
  ⟨h.grid.below hb, h.below.trans (hb.mono h.ge), Nat.le_trans h.ge hb.size, (hb.block GE (Array.getElem?_eq_some_iff.1 h.ed).1).trans h.ed, h.lt⟩
theorem NodeS.drew {w W : World} {B G GE n : Nat} {RV : List Value} {y : Nat × Nat} {M : Nat → Nat → Int} (h : NodeS w W B G GE n RV y M) : NodeS w W.drew B G GE n RV y M := h.up ⟨rfl, rfl, rfl, Nat.le_refl _, fun _ _ => rfl⟩
theorem NodeS.set {w W : World} {B G GE n p j gp l c : Nat} {RV : List Value} {y : Nat × Nat} {M : Nat → Nat → Int} {x : Int} (h : NodeS w W B G GE n RV y M) (hu : RV[p]? = some (.slice (some ⟨gp, 0, none⟩) l c)) (hp : p < n) (hB : B ≤ gp) : NodeS w (W.setCell ⟨gp, j, none⟩ (.int .i64 x)) B G GE n RV y (setM M p j x) := by
  have hl := h.lt p _ gp hu rfl
  exact ⟨h.grid.set2 hu hp, h.below.setCell (p := ⟨gp, j, none⟩) hB _, by have := h.ge; simpa [World.setCell] using this, (Below.heap_setCell _ _ _ _ (by show GE ≠ gp; omega)).trans h.ed, h.lt⟩
theorem NodeS.ends {w W : World} {B G GE n : Nat} {RV : List Value} {y : Nat × Nat} {M : Nat → Nat → Int} (h : NodeS w W B G GE n RV y M) : W.cell? ⟨GE, 0, none⟩ = some (.int .i64 (y.1 : Int)) ∧ W.cell? ⟨GE, 1, none⟩ = some (.int .i64 (y.2 : Int)) := by
  refine ⟨?_, ?_⟩ <;> simp [World.cell?, h.ed]
/-- one of the numbers, where it lies -/
theorem NodeS.at2 {w W : World} {B G GE n i j : Nat} {RV : List Value} {y : Nat × Nat} {M : Nat → Nat → Int} (h : NodeS w W B G GE n RV y M) (hi : i < n) (hj : j < n) {gi l ci : Nat} (hu : RV[i]? = some (.slice (some ⟨gi, 0, none⟩) l ci)) :
    l = n ∧ B ≤ gi ∧ W.cell? ⟨G, i, none⟩ = some (.slice (some ⟨gi, 0, none⟩) n ci) ∧ W.cell? ⟨gi, j, none⟩ = some (.int .i64 (M i j)) ∧ W.frozen? ⟨gi, j, none⟩ = false := by
  obtain ⟨G', c, gi', ci', e1, e2, c1, c2, f2, hB, _⟩ := h.grid.at2 hi hj
  rw [hu] at e2
  simp only [Option.some.injEq, Value.slice.injEq, Addr.mk.injEq] at e2
  obtain ⟨⟨rfl, _⟩, rfl, rfl⟩ := e2
  simp only [Value.slice.injEq, Option.some.injEq, Addr.mk.injEq] at e1
  obtain ⟨⟨rfl, _⟩, _, _⟩ := e1
  exact ⟨rfl, hB, c1, c2, f2⟩
theorem NodeS.row {w W : World} {B G GE n i : Nat} {RV : List Value} {y : Nat × Nat} {M : Nat → Nat → Int} (h : NodeS w W B G GE n RV y M) (hi : i < n) : ∃ gi ci, RV[i]? = some (.slice (some ⟨gi, 0, none⟩) n ci) := by
  obtain ⟨_, _, gi, ci, _, e2, _⟩ := h.grid.at2 hi hi
  exact ⟨gi, ci, e2⟩

set_option maxHeartbeats 6400000 in
set_option maxRecDepth 100000 in
theorem nodeRows_p (N : Nat) (E : Edges) (v : Value) (w : World) {B0 H0 : Nat} (hE : Hid (ERow w B0 H0 v E)) (hH : H0 ≤ w.heap.size) (hN : 1 ≤ N ∧ N ≤ 5) (hlt : Hid (∀ e ∈ E, e.1 < N ∧ e.2 < N)) (h8 : E.length ≤ 8) :
    Calls Try.prog 35 #[.int .i64 (N : Int), v] w fun e w' => ∃ u RV, e = .returned u ∧ GridA w' w.heap.size u RV (gridM N N (lapE N E)) ∧ Below w.heap.size w w' := by
  obtain ⟨i0, hi, hz0, hz1, hz2⟩ := info_parts Try.infoIntR
  obtain ⟨j0, hj, hy0, hy1, hy2⟩ := info_parts Try.infoRowR
  obtain ⟨ax, cx, rfl, _, hcx, _, _⟩ := hE.out.slice
  obtain ⟨hN1, hN5⟩ := hN
  obtain ⟨M, hM⟩ : ∃ M, M = E.length := ⟨_, rfl⟩
  have HM := Lib.hid hM
  rw [← hM] at hE hcx h8 ⊢
  obtain ⟨B, hB⟩ : ∃ B, B = w.heap.size := ⟨_, rfl⟩
  have HB0 := Lib.hid hB
  clear hM
  go_enter Try.func35, Try.ntmps35
  go_wp2_with (at_make; refine wpList_make_full _ rfl _ _ 26 rfl w.heap.size 34 j0 (.slice none 0 0) 1 Try.underlying26 hj hy0 hy1 _ _ _ _ N rfl rfl rfl rfl ?b2 ?b3 (Nat.le_refl _) ?_)
  case b2 => rw [hy2]; omega
  case b3 => unfold maxLen; omega
  intro w1 hown hgrow
  have hb1 : Below w.heap.size w w1 := (Below.refl _ _).grown hgrow (Nat.le_refl _) (fun k hk => by cases hk)
  rw [show (madeCells #[Value.slice none 0 0] N).toList = List.replicate N (Value.slice none 0 0) from toList_madeCells_one _ _] at hown
  obtain ⟨G, hGe⟩ : ∃ G, G = w.heap.size := ⟨_, rfl⟩
  rw [← hGe] at hown ⊢
  have hG0 : GridA w1 B (.slice (some ⟨G, 0, none⟩) N N) (List.replicate N (.slice none 0 0)) (zrows N 0) := by
    refine ⟨⟨Own.of_own ?_, zrows_nil _ _ _ _⟩, nil_dist N⟩
    rw [List.length_replicate, hB, ← hGe]
    exact hown
  have HG0 := Lib.hid hG0
  have HB1 : Hid (Below B w w1) := by show Below _ _ _; rw [hB]; exact hb1
  have sB1 : Hid (B ≤ w1.heap.size) := by show _ ≤ _; rw [hB]; exact hb1.size
  clear hown hgrow hb1 hG0 hB hGe
  go_wp2
  go_loopw [6, 15] (fun e6 ii wr => ∃ (k : Nat) (RV : List Value), k ≤ N ∧ ii = .int .i64 (k : Int) ∧ Hid (GridA wr B (.slice (some ⟨G, 0, none⟩) N N) RV (zrows N k)) ∧ Hid (Below B w wr) ∧ Hid (B ≤ wr.heap.size)) (fun _ ii _ => N - (intOf ii).toNat)
  case atStart => exact ⟨0, _, Nat.zero_le _, rfl, HG0, HB1, sB1⟩
  case round =>
    clear HG0 HB1 sB1
    obtain ⟨k, RV, hk, rfl, HG, HB, sB⟩ := hrel
    by_cases hlt2 : k < N
    · have b1 : (k : Int) < (N : Int) := by omega
      have hRVl : RV.length = N := by have := HG.out.grid.2.1; rwa [zrows_length] at this
      obtain ⟨cG, fG⟩ : (∃ x, wr.cell? ⟨G, k, none⟩ = some x) ∧ wr.frozen? ⟨G, k, none⟩ = false := by
        obtain ⟨g', c', e1, _, _, c1, f1⟩ := HG.out.grid.1.cell k (by omega)
        simp only [Value.slice.injEq, Option.some.injEq, Addr.mk.injEq] at e1
        obtain ⟨⟨rfl, _, _⟩, _, _⟩ := e1
        exact ⟨⟨_, c1.trans (List.getElem?_eq_getElem (by omega))⟩, f1⟩
      obtain ⟨xk, hxk⟩ := cG
      have hGw : G < wr.heap.size := World.block_lt_of_cell? wr _ hxk
      go_wp2_with (at_make; refine wpList_make_full _ rfl _ _ 34 rfl wr.heap.size 3 i0 (.int .i64 0) 1 Try.underlying34 hi hz0 hz1 _ _ _ _ N rfl rfl rfl rfl ?b2 ?b3 (Nat.le_refl _) ?_)
      case b2 => rw [hz2]; omega
      case b3 => unfold maxLen; omega
      intro w2 hown hgrow
      have hb2 : Below wr.heap.size wr w2 := (Below.refl _ _).grown hgrow (Nat.le_refl _) (fun k hk => by cases hk)
      rw [show (madeCells #[Value.int .i64 0] N).toList = List.replicate N (Value.int .i64 0) from toList_madeCells_one _ _] at hown
      obtain ⟨gk, hgk⟩ : ∃ gk, gk = wr.heap.size := ⟨_, rfl⟩
      have hO2 : Own w2 wr.heap.size w2.heap.size 3 (.slice (some ⟨gk, 0, none⟩) N N) (iv (List.replicate N 0)) := by
        have e : iv (List.replicate N 0) = List.replicate N (Value.int .i64 0) := by simp [iv]
        rw [e]
        refine own_lo (B := wr.heap.size) (Own.of_own ?_) (Nat.le_refl _)
        rw [List.length_replicate, hgk]
        exact hown
      have hP := GridA.putAt (g := G) (c0 := N) (k := k) (rows := zrows N k) (by rw [zrows_length]; exact HG.out) hb2 (by rw [zrows_length]; exact hlt2) sB.out hO2
      rw [zrows_set hlt2, zrows_length] at hP
      have HP := Lib.hid hP
      have hx2 := (hb2.cell (p := ⟨G, k, none⟩) hGw).trans hxk
      have hf2 : w2.frozen? ⟨G, k, none⟩ = false := (hb2.frozen (p := ⟨G, k, none⟩) hGw).trans fG
      have HB2 := Lib.hid (HB.out.trans (hb2.mono sB.out))
      have sB2 : Hid (B ≤ w2.heap.size) := Nat.le_trans sB.out hb2.size
      have hBG : B ≤ G := by
        obtain ⟨g', c', e1, hB', _⟩ := HG.out.grid.1.cell k (by omega)
        simp only [Value.slice.injEq, Option.some.injEq, Addr.mk.injEq] at e1
        obtain ⟨⟨rfl, _, _⟩, _, _⟩ := e1
        exact hB'
      have HB3 : Hid (Below B w (w2.setCell ⟨G, k, none⟩ (.slice (some ⟨gk, 0, none⟩) N N))) := HB2.out.setCell (p := ⟨G, k, none⟩) hBG _
      have sB3 : Hid (B ≤ (w2.setCell ⟨G, k, none⟩ (.slice (some ⟨gk, 0, none⟩) N N)).heap.size) := by have := sB2.out; show _ ≤ _; simpa [World.setCell] using this
      rw [← hgk]
      clear hown hgrow hb2 hO2 hP hxk fG hRVl HG HB sB hgk HB2 sB2 hBG
      go_wp2
      go_roundw
      case rel => exact ⟨k + 1, _, by omega, by go_num, HP, HB3, sB3⟩
      case measure => simp [intOf]; omega
    · obtain rfl : k = N := by omega
      rw [zrows_full, gridM_congr (n := k) (m := k) (M' := lapE k (E.take 0)) (fun i j _ _ => by rw [List.take_zero, lap_nil])] at HG
      have LT := Lib.hid (fun (j : Nat) (hj : j < E.length) (i i' : Nat) (hi : i < k) => lap_take (j := i') E hN5 hlt.out hj hi)
      have LS := Lib.hid (fun (j : Nat) (hj : j ≤ E.length) (i i' : Nat) (hi : i < k) => lap_small (j := i') E hN5 hlt.out hi j hj)
      go_wp2
      go_loopw [8, 10, 26, 31] (fun e8 e10 ii e31 W => ∃ q : Nat, q ≤ M ∧ ii = .int .i64 (q : Int) ∧ Hid (GridA W B (.slice (some ⟨G, 0, none⟩) k k) RV (gridM k k (lapE k (E.take q)))) ∧ Hid (Below B w W) ∧ Hid (B ≤ W.heap.size)) (fun _ _ ii _ _ => M - (intOf ii).toNat)
      case atStart => exact ⟨0, Nat.zero_le _, rfl, HG, HB, sB⟩
      case round =>
        clear HG HB sB
        obtain ⟨q, hq, rfl, HG, HB, sB⟩ := hrel
        by_cases hlt3 : q < M
        · have b1 : (q : Int) < (M : Int) := by omega
          have hqE : q < E.length := by rw [← HM.out]; exact hlt3
          have HEx := hE.out.below (HB.out.mono (by rw [HB0.out]; exact hH))
          obtain ⟨gx, c', e1, _, _, hgx, c1, c2⟩ := HEx.at_ q hqE
          simp only [Value.slice.injEq] at e1
          obtain ⟨hax, hme, hcx'⟩ := e1
          subst hax
          subst hcx'
          obtain ⟨l1, l2⟩ := hlt.out _ (List.getElem_mem hqE)
          have LT1 := Lib.hid (LT.out q hqE)
          have LS1 : Hid (BdM k 8 (lapE k (E.take q))) := fun i j hi => by have := LS.out q (by omega) i j hi; omega
          obtain ⟨y, hy⟩ : ∃ y, y = E[q] := ⟨_, rfl⟩
          rw [← hy] at c1 c2 l1 l2 LT1
          obtain ⟨M0, hM0⟩ : ∃ M0, M0 = lapE k (E.take q) := ⟨_, rfl⟩
          rw [← hM0] at HG LS1 LT1
          have GT : Hid (gridM k k (visitM (visitM M0 y.1 y.2) y.2 y.1) = gridM k k (lapE k (E.take (q + 1)))) := gridM_congr fun i j hi _ => by
            rw [visit_two, LT1.out i j hi]
          clear HEx hme hy hM0 LT1
          go_upto_region 10 with fail
          obtain ⟨GE, hGE⟩ : ∃ GE, GE = wr.heap.size := ⟨_, rfl⟩
          obtain ⟨w1', hw1'⟩ : ∃ w1', w1' = wr.alloc (.cells #[.int .i64 (y.1 : Int), .int .i64 (y.2 : Int)] 79) := ⟨_, rfl⟩
          have S1 : Hid (NodeS w w1' B G GE k RV y M0) := by
            show NodeS _ _ _ _ _ _ _ _ _
            rw [hw1', hGE]
            refine ⟨HG.out.below ((Below.refl _ _).alloc (Nat.le_refl _) _), HB.out.alloc sB.out _, by rw [World.size_alloc]; have := sB.out; omega, heap_alloc_new _ _, fun i u g h1 h2 => ?_⟩
            have hi : i < (gridM k k M0).length := by have := (List.getElem?_eq_some_iff.1 h1).1; rw [HG.out.grid.2.1] at this; exact this
            exact (HG.out.grid.2.2 i u _ h1 (List.getElem?_eq_getElem hi)).2 g h2
          have D1 := LS1
          rw [← hGE, ← hw1']
          clear hGE hw1' HG HB sB c1 c2 hgx LS1
          -- node 1
          obtain ⟨g1, c1, hu1⟩ := S1.out.row l1
          obtain ⟨_, hB1, cr1, cm1, f1⟩ := S1.out.at2 l1 l1 hu1
          have bd1 := D1.out y.1 y.1 l1
          have HU1 := Lib.hid hu1
          have S1a := fun x => Lib.hid (S1.out.set (j := y.1) (x := x) hu1 l1 hB1)
          obtain ⟨x1, hx1⟩ : ∃ x, x = M0 y.1 y.1 := ⟨_, rfl⟩
          have D1a : Hid (BdM k (8 + 1) (setM M0 y.1 y.1 (x1 + 1))) := D1.out.set (by omega)
          rw [← hx1] at cm1
          have ew1 : IntKind.i64.wrap (x1 + 1) = x1 + 1 := by rw [IntKind.wrap_i64]; omega
          have S1b := S1a (x1 + 1)
          have HX1 := Lib.hid hx1
          have nq1 := (index_ed y w1').1
          obtain ⟨ce1, ce2⟩ := S1.out.ends
          clear S1 S1a hx1 bd1 D1 hu1
          go_wp2_with fail
          refine wp_loop_rounds 3 ?_
          rw [rounds_succ]
          go_upto_region 14 with fail
          obtain ⟨W1, hW1⟩ : ∃ W', W' = w1'.setCell ⟨g1, y.1, none⟩ (.int .i64 (x1 + 1)) := ⟨_, rfl⟩
          rw [← hW1] at S1b ⊢
          obtain ⟨M1, hM1⟩ : ∃ M', M' = setM M0 y.1 y.1 (x1 + 1) := ⟨_, rfl⟩
          rw [← hM1] at S1b D1a
          have HM1 := Lib.hid hM1
          clear hW1 hM1 cr1 cm1 f1 ew1 nq1 ce1 ce2
          obtain ⟨_, _, cr1, cm1, f1⟩ := S1b.out.at2 l1 l2 HU1.out
          obtain ⟨ce1, ce2⟩ := S1b.out.ends
          have bd1 := D1a.out y.1 y.2 l1
          obtain ⟨z1, hz1⟩ : ∃ z, z = M1 y.1 y.2 := ⟨_, rfl⟩
          rw [← hz1] at cm1
          have D1c : Hid (BdM k (8 + 1 + 1) (setM M1 y.1 y.2 (z1 - 1))) := D1a.out.set (by omega)
          have ez1 : IntKind.i64.wrap (z1 - 1) = z1 - 1 := by rw [IntKind.wrap_i64]; omega
          have HZ1 := Lib.hid hz1
          have CA1 : Hid (∀ W' : World, Calls Try.prog 66 #[.agg #[.int .i64 (y.1 : Int), .int .i64 (y.2 : Int)], .int .i64 (y.1 : Int)] W' fun r w' => r = .returned (.int .i64 (y.2 : Int)) ∧ Below W'.heap.size W' w') := fun W' => by
            have := across_any y.1 y.2 y.1 W' (by omega) (by omega)
            rwa [show y.1 + y.2 - y.1 = y.2 by omega] at this
          clear hz1 bd1 D1a
          go_region_law (first
            | ((try go_simp); go_at_call 66; refine (CA1.out _).mono ?_
               rintro e W1c ⟨rfl, hbc1⟩
               have S1c : Hid (NodeS w W1c B G GE k RV y M1) := S1b.out.drew.up hbc1
               obtain ⟨_, _, dr1, dm1, df1⟩ := S1c.out.at2 l1 l2 HU1.out
               rw [← HZ1.out] at dm1))
          all_goals
            go_simp
            obtain ⟨w2', hw2'⟩ : ∃ w', w' = W1c.setCell ⟨g1, y.2, none⟩ (.int .i64 (z1 - 1)) := ⟨_, rfl⟩
            obtain ⟨V1, hV1⟩ : ∃ V, V = visitM M0 y.1 y.2 := ⟨_, rfl⟩
            have hVe : setM M1 y.1 y.2 (z1 - 1) = V1 := by rw [hV1, HZ1.out, HM1.out, HX1.out]; rfl
            have S2 : Hid (NodeS w w2' B G GE k RV y V1) := by
              show NodeS _ _ _ _ _ _ _ _ _
              rw [hw2', ← hVe]
              exact S1c.out.set HU1.out l1 hB1
            have D2 := D1c
            rw [hVe] at D2
            have HV1 := Lib.hid hV1
            rw [← hw2']
            clear hVe hV1 hw2' D1c S1c S1b dr1 dm1 df1 hbc1 cr1 cm1 f1 ez1 HZ1 HM1 HX1 CA1 ce1 ce2 HU1
            -- node 2
            obtain ⟨g2, c2, hu2⟩ := S2.out.row l2
            obtain ⟨_, hB2, cr2, cm2, f2⟩ := S2.out.at2 l2 l2 hu2
            have bd2 := D2.out y.2 y.2 l2
            have HU2 := Lib.hid hu2
            have S2a := fun x => Lib.hid (S2.out.set (j := y.2) (x := x) hu2 l2 hB2)
            obtain ⟨x2, hx2⟩ : ∃ x, x = V1 y.2 y.2 := ⟨_, rfl⟩
            have D2a : Hid (BdM k (8 + 1 + 1 + 1) (setM V1 y.2 y.2 (x2 + 1))) := D2.out.set (by omega)
            rw [← hx2] at cm2
            have ew2 : IntKind.i64.wrap (x2 + 1) = x2 + 1 := by rw [IntKind.wrap_i64]; omega
            have S2b := S2a (x2 + 1)
            have HX2 := Lib.hid hx2
            have nq2 := (index_ed y w2').2
            obtain ⟨ce1, ce2⟩ := S2.out.ends
            clear S2 S2a hx2 bd2 D2 hu2
            go_wp2_with fail
            rw [rounds_succ]
            go_upto_region 14 with fail
            obtain ⟨W2, hW2⟩ : ∃ W', W' = w2'.setCell ⟨g2, y.2, none⟩ (.int .i64 (x2 + 1)) := ⟨_, rfl⟩
            rw [← hW2] at S2b ⊢
            obtain ⟨M2, hM2⟩ : ∃ M', M' = setM V1 y.2 y.2 (x2 + 1) := ⟨_, rfl⟩
            rw [← hM2] at S2b D2a
            have HM2 := Lib.hid hM2
            clear hW2 hM2 cr2 cm2 f2 ew2 nq2 ce1 ce2
            obtain ⟨_, _, cr2, cm2, f2⟩ := S2b.out.at2 l2 l1 HU2.out
            obtain ⟨ce1, ce2⟩ := S2b.out.ends
            have bd2 := D2a.out y.2 y.1 l2
            obtain ⟨z2, hz2⟩ : ∃ z, z = M2 y.2 y.1 := ⟨_, rfl⟩
            rw [← hz2] at cm2
            have D2c : Hid (BdM k (8 + 1 + 1 + 1 + 1) (setM M2 y.2 y.1 (z2 - 1))) := D2a.out.set (by omega)
            have ez2 : IntKind.i64.wrap (z2 - 1) = z2 - 1 := by rw [IntKind.wrap_i64]; omega
            have HZ2 := Lib.hid hz2
            have CA2 : Hid (∀ W' : World, Calls Try.prog 66 #[.agg #[.int .i64 (y.1 : Int), .int .i64 (y.2 : Int)], .int .i64 (y.2 : Int)] W' fun r w' => r = .returned (.int .i64 (y.1 : Int)) ∧ Below W'.heap.size W' w') := fun W' => by
              have := across_any y.1 y.2 y.2 W' (by omega) (by omega)
              rwa [show y.1 + y.2 - y.2 = y.1 by omega] at this
            clear hz2 bd2 D2a
            go_region_law (first
              | ((try go_simp); go_at_call 66; refine (CA2.out _).mono ?_
                 rintro e W2c ⟨rfl, hbc2⟩
                 have S2c : Hid (NodeS w W2c B G GE k RV y M2) := S2b.out.drew.up hbc2
                 obtain ⟨_, _, dr2, dm2, df2⟩ := S2c.out.at2 l2 l1 HU2.out
                 rw [← HZ2.out] at dm2))
            all_goals
              go_simp
              obtain ⟨w3', hw3'⟩ : ∃ w', w' = W2c.setCell ⟨g2, y.1, none⟩ (.int .i64 (z2 - 1)) := ⟨_, rfl⟩
              obtain ⟨V2, hV2⟩ : ∃ V, V = visitM V1 y.2 y.1 := ⟨_, rfl⟩
              have hVe : setM M2 y.2 y.1 (z2 - 1) = V2 := by rw [hV2, HZ2.out, HM2.out, HX2.out]; rfl
              have S3 : Hid (NodeS w w3' B G GE k RV y V2) := by
                show NodeS _ _ _ _ _ _ _ _ _
                rw [hw3', ← hVe]
                exact S2c.out.set HU2.out l2 hB2
              have D3 := D2c
              rw [hVe] at D3
              have HV2 := Lib.hid hV2
              rw [← hw3']
              clear hVe hV2 hw3' D2c S2c S2b dr2 dm2 df2 hbc2 cr2 cm2 f2 ez2 HZ2 HM2 HX2 CA2 ce1 ce2 HU2
              have GF : Hid (GridA w3' B (.slice (some ⟨G, 0, none⟩) k k) RV (gridM k k (lapE k (E.take (q + 1))))) := by
                have := S3.out.grid
                rw [HV2.out, HV1.out, GT.out] at this
                exact this
              have BF := Lib.hid S3.out.below
              have sF := Lib.hid S3.out.ge
              clear S3 D3 HV1 HV2 GT
              go_wp2_with fail
              rw [rounds_succ]
              go_wp2
              go_roundw
              case rel => exact ⟨q + 1, by omega, by go_num, GF, BF, sF⟩
              case measure => simp [intOf]; omega
        · obtain rfl : q = M := by omega
          have hfull : E.take q = E := by rw [HM.out, List.take_length]
          rw [hfull] at HG
          clear hfull
          go_wp2
          go_ret
          exact ⟨_, RV, rfl, by rw [← HB0.out]; exact HG.out, by rw [← HB0.out]; exact HB.out⟩
end Go.Proofs.Ythlboikljibohaa
