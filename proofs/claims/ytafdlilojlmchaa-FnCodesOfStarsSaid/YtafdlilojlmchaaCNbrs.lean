/-
  The program's rows of neighbours of a tree.
-/
import Derived.Test.YtafdlilojlmchaaZBP
import Derived.Test.YtafdlilojlmchaaZ6
import Derived.Test.YtafdlilojlmchaaCGridA
import Derived.StillTailTactics
namespace Go.Proofs.Ytafdlilojlmchaa
open Go.RowKit

set_option maxHeartbeats 400000 in
/-- what is left of both nodes' sum -/
theorem across7 (a b l : Nat) (w : World) (hl : l ≤ a + b) (hs : a + b ≤ 1000) :
    Calls Try.prog 65 #[.agg #[.int .i64 (a : Int), .int .i64 (b : Int)], .int .i64 (l : Int)] w fun r w' => r = .returned (.int .i64 ((a + b - l : Nat) : Int)) ∧ Below w.heap.size w w' := by
  have w1 : IntKind.i64.wrap ((a : Int) + b) = (a : Int) + b := by rw [IntKind.wrap_i64]; omega
  have w2 : IntKind.i64.wrap ((a : Int) + b - l) = (a : Int) + b - l := by rw [IntKind.wrap_i64]; omega
  have e : ((a + b - l : Nat) : Int) = (a : Int) + b - l := by omega
  rw [e]
  clear e
  go_enter Try.func65, Try.ntmps65
  go_wp2
  go_ret
  exact ⟨rfl, (Below.refl _ _).alloc (Nat.le_refl _) _⟩
theorem index_ed7 (e : Nat × Nat) (W : World) : (Instr.index 66 (.agg #[.int .i64 (e.1 : Int), .int .i64 (e.2 : Int)]) (.int .i64 0)).run Try.prog W = .ok (.int .i64 (e.1 : Int)) W ∧ (Instr.index 66 (.agg #[.int .i64 (e.1 : Int), .int .i64 (e.2 : Int)]) (.int .i64 1)).run Try.prog W = .ok (.int .i64 (e.2 : Int)) W := by
  have hc : (sizeOf 3).run Try.prog W = .ok 1 W := Try.sizeOf3 W
  refine ⟨?_, ?_⟩
  · simp [Instr.index, run_underlying Try.underlying66, asIntOf, hc, part, isAgg, run_underlying Try.underlying3]
  · simp [Instr.index, run_underlying Try.underlying66, asIntOf, hc, part, isAgg, run_underlying Try.underlying3]
theorem nil_dist7 (n : Nat) : Dist (List.replicate n (Value.slice none 0 0)) := fun i j u v _ h1 _ => by
  have hi : i < n := by have := (List.getElem?_eq_some_iff.1 h1).1; rwa [List.length_replicate] at this
  rw [List.getElem?_replicate, if_pos hi] at h1
  cases h1; exact .inl rfl
/-- a number is appended to a row, and the row put back in its place -/
theorem GridA.appAt {w w2 : World} {B g c0 k m cu g2 c2 : Nat} {au : Option Addr} {x : Int} {RV : List Value} {rows : List (List Int)} (h : GridA w B (.slice (some ⟨g, 0, none⟩) rows.length c0) RV rows) (hk : k < rows.length) (hB : B ≤ w.heap.size)
    (hu : RV[k]? = some (.slice au m cu)) (hv : w2.ownsRow B 3 1 (.slice (some ⟨g2, 0, none⟩) (m + 1) c2) (m + 1) (iv rows[k] ++ [.int .i64 x])) {o : Obj} (hg : (w.alloc o).grownBy w2 (Value.slice au m cu).ownBlock) (hw : (Value.slice au m cu).ownBlock = some g2 ∨ g2 = (w.alloc o).heap.size) :
    GridA (w2.setCell ⟨g, k, none⟩ (.slice (some ⟨g2, 0, none⟩) (m + 1) c2)) B (.slice (some ⟨g, 0, none⟩) rows.length c0) (RV.set k (.slice (some ⟨g2, 0, none⟩) (m + 1) c2)) (rows.set k (rows[k] ++ [x])) ∧ Below B w (w2.setCell ⟨g, k, none⟩ (.slice (some ⟨g2, 0, none⟩) (m + 1) c2)) := by
  have hz : (w2.setCell ⟨g, k, none⟩ (.slice (some ⟨g2, 0, none⟩) (m + 1) c2)).heap.size = w2.heap.size := by simp [World.setCell]
  have hl := h.grid.2.1
  have hza : (w.alloc o).heap.size = w.heap.size + 1 := by simp
  have hsz := hg.size
  rw [hza] at hsz
  have G1 := h.below ((Below.refl _ w).alloc (Nat.le_refl _) o)
  have hrow : ∀ (i : Nat) (y : Value) (r : List Int), RV[i]? = some y → rows[i]? = some r → Own w B w.heap.size 3 y (iv r) := fun i y r h1 h2 => h.grid.2.2 i y r h1 h2
  have hku := hrow k _ _ hu (List.getElem?_eq_getElem hk)
  have hne : (Value.slice (some ⟨g, 0, none⟩) rows.length c0).ownBlock = none ∨ (Value.slice (some ⟨g, 0, none⟩) rows.length c0).ownBlock ≠ (Value.slice au m cu).ownBlock := h.grid.1.ne hku (by decide)
  have hO : Own w2 B w2.heap.size 30 (.slice (some ⟨g, 0, none⟩) rows.length c0) RV := ((h.grid.1.alloc o).grown hg hne).more (by omega)
  have hoth : ∀ (i : Nat) (y : Value) (r : List Int), i ≠ k → RV[i]? = some y → rows[i]? = some r → Own w2 B w2.heap.size 3 y (iv r) := fun i y r hi h1 h2 => by
    refine (((hrow i y r h1 h2).alloc o).grown hg ?_).more (by omega)
    rcases Nat.lt_or_gt_of_ne hi with q | q
    · exact h.dist i k _ _ q h1 hu
    · rcases h.dist k i _ _ q hu h1 with q1 | q1
      · rw [q1]
        cases y.ownBlock with
        | none => exact .inl rfl
        | some z => right; simp
      · exact .inr (Ne.symm q1)
  have hu2 : Own w2 B w2.heap.size 3 (.slice (some ⟨g2, 0, none⟩) (m + 1) c2) (iv (rows[k] ++ [x])) := by
    rw [← iv_snoc]
    have hlen : (iv rows[k] ++ [Value.int .i64 x]).length = m + 1 := by
      obtain ⟨_, _, e, _⟩ := hku.slice
      simp only [Value.slice.injEq] at e
      rw [List.length_append, e.2.1]; rfl
    refine Own.of_own ?_
    rw [hlen]; exact hv
  have P : Grid (w2.setCell ⟨g, k, none⟩ (.slice (some ⟨g2, 0, none⟩) (m + 1) c2)) B w2.heap.size (.slice (some ⟨g, 0, none⟩) rows.length c0) (RV.set k (.slice (some ⟨g2, 0, none⟩) (m + 1) c2)) (rows.set k (rows[k] ++ [x])) := by
    have ho1 := hO.1
    rw [hl] at ho1
    have st := ho1.stored k (.slice (some ⟨g2, 0, none⟩) (m + 1) c2)
    have far : ∀ {v : Value} {xs : List Value}, Own w2 B w2.heap.size 3 v xs → Own (w2.setCell ⟨g, k, none⟩ (.slice (some ⟨g2, 0, none⟩) (m + 1) c2)) B w2.heap.size 3 v xs := fun {v xs} hx => by
      have hn := hx.ne hO (by decide)
      exact ⟨own_of_blocks hx.1 (fun q hq => Below.heap_setCell _ _ _ _ (fun e => by
        rcases hn with h0 | h0
        · rw [h0] at hq; cases hq
        · apply h0; rw [hq, e]; rfl)), hx.2⟩
    refine ⟨⟨by rw [List.length_set, hl]; exact st.1, hO.2⟩, by rw [List.length_set, List.length_set]; exact hl, fun i v r h1 h2 => ?_⟩
    by_cases e : i = k
    · subst e
      rw [List.getElem?_set_self (by omega)] at h1 h2
      cases h1; cases h2
      exact far hu2
    · rw [List.getElem?_set_ne (Ne.symm e)] at h1 h2
      exact far (hoth i v r e h1 h2)
  have hB2 : Below B w w2 := ((Below.refl B w).alloc hB o).grown hg (by rw [hza]; omega) (fun q hq => (hku.1.lt q hq).1)
  have hgB : B ≤ g := by
    obtain ⟨_, _, e, _, _, _, hp⟩ := h.grid.1.slice
    simp only [Value.slice.injEq] at e
    obtain ⟨g', e2, h2, _⟩ := hp _ e.1.symm
    cases e2; exact h2
  refine ⟨⟨by rw [hz]; exact P, fun i j u v hij h1 h2 => ?_⟩, hB2.setCell (p := ⟨g, k, none⟩) hgB _⟩
  have old : ∀ (i : Nat) (y : Value) (q : Nat), RV[i]? = some y → y.ownBlock = some q → q < w.heap.size := fun i y q h1 hq => by
    have hi : i < rows.length := by have := (List.getElem?_eq_some_iff.1 h1).1; omega
    exact (hrow i y _ h1 (List.getElem?_eq_getElem hi)).2 q hq
  by_cases ej : j = k
  · subst ej
    rw [List.getElem?_set_self (by omega)] at h2
    cases h2
    rw [List.getElem?_set_ne (by omega)] at h1
    rcases hw with q | q
    · have := h.dist i j _ _ hij h1 hu
      rw [q] at this; exact this
    · cases hq : u.ownBlock with
      | none => exact .inl rfl
      | some z =>
        right
        have := old i u z h1 hq
        simp only [Value.ownBlock, ne_eq, Option.some.injEq]
        omega
  · rw [List.getElem?_set_ne (Ne.symm ej)] at h2
    by_cases ei : i = k
    · subst ei
      rw [List.getElem?_set_self (by omega)] at h1
      cases h1
      right
      rcases hw with q | q
      · have := h.dist i j _ _ hij hu h2
        rw [q] at this
        rcases this with h0 | h0
        · cases h0
        · exact h0
      · intro e
        have e2 : v.ownBlock = some g2 := e.symm
        have := old j v g2 h2 e2
        omega
    · rw [List.getElem?_set_ne (Ne.symm ei)] at h1
      exact h.dist i j u v hij h1 h2

/-! ### rows of neighbours -/
theorem Try.infoNb : (Try.prog.info? 30).map (fun i => (i.zero, i.size, i.bytes)) = some (some (.slice none 0 0), 1, 24) := by kernel_rfl
theorem nbR_snoc {n : Nat} {E : Edges} {a b : Nat} (ha : a < n) (hb : b < n) (hab : a < b) : ((nbR n E).set a (nbI E a ++ [(b : Int)])).set b (nbI E b ++ [(a : Int)]) = nbR n (E ++ [(a, b)]) := by
  apply List.ext_getElem?
  intro i
  by_cases hi : i < n
  · have e0 : (nbR n (E ++ [(a, b)]))[i]? = some ((nb E i ++ nb1 i (a, b)).map fun (x : Nat) => (x : Int)) := by
      simp [nbR, nbI, hi, nb]
    rw [e0]
    by_cases e : i = b
    · subst e
      rw [List.getElem?_set_self (by rw [List.length_set, nbR_length]; exact hi)]
      simp only [nbI, nb1, if_neg (show ¬ a = i by omega), if_pos, List.nil_append, List.map_append, List.map_cons, List.map_nil]
    · rw [List.getElem?_set_ne (Ne.symm e)]
      by_cases e2 : i = a
      · subst e2
        rw [List.getElem?_set_self (by rw [nbR_length]; exact hi)]
        simp only [nbI, nb1, if_neg (show ¬ b = i by omega), if_pos, List.append_nil, List.map_append, List.map_cons, List.map_nil]
      · rw [List.getElem?_set_ne (Ne.symm e2)]
        simp [nbR, nbI, hi, nb1, Ne.symm e, Ne.symm e2]
  · rw [List.getElem?_eq_none (by rw [List.length_set, List.length_set, nbR_length]; omega), List.getElem?_eq_none (by rw [nbR_length]; omega)]
theorem nbR_none (n : Nat) (w : World) (B H : Nat) : RowsI w B H (List.replicate n (Value.slice none 0 0)) (nbR n []) := by
  refine ⟨by rw [List.length_replicate, nbR_length], fun i v r h1 h2 => ?_⟩
  have hi : i < n := by have := (List.getElem?_eq_some_iff.1 h1).1; rwa [List.length_replicate] at this
  rw [List.getElem?_replicate, if_pos hi] at h1
  have e : (nbR n [])[i]? = some [] := by simp [nbR, nbI, hi, nb]
  rw [e] at h2
  cases h1; cases h2
  exact ⟨World.ownsRow_nil _ _ _ _, fun g hg => by simp [Value.ownBlock] at hg⟩
/-- the rows while both ends of an edge are told -/
def nbJ (n : Nat) (F : Edges) (a b : Nat) : Nat → List (List Int)
  | 0 => nbR n F
  | 1 => (nbR n F).set a (nbI F a ++ [(b : Int)])
  | _ => ((nbR n F).set a (nbI F a ++ [(b : Int)])).set b (nbI F b ++ [(a : Int)])
theorem nbJ_length (n : Nat) (F : Edges) (a b j : Nat) : (nbJ n F a b j).length = n := by
  match j with
  | 0 => exact nbR_length n F
  | 1 => show ((nbR n F).set a _).length = n; rw [List.length_set]; exact nbR_length n F
  | _ + 2 => show (((nbR n F).set a _).set b _).length = n; rw [List.length_set, List.length_set]; exact nbR_length n F
theorem nbJ_step {n : Nat} {F : Edges} {a b j : Nat} (ha : a < n) (hb : b < n) (hab : a < b) (hj : j < 2) : ∃ p x : Nat, p < n ∧ x < n ∧ p + x = a + b ∧ (p = if j = 0 then a else b) ∧ (∀ h : p < (nbJ n F a b j).length, (nbJ n F a b j)[p] = nbI F p) ∧ nbJ n F a b (j + 1) = (nbJ n F a b j).set p (nbI F p ++ [(x : Int)]) := by
  match j, hj with
  | 0, _ => exact ⟨a, b, ha, hb, rfl, rfl, fun h => nbR_at n F a h, rfl⟩
  | 1, _ =>
    refine ⟨b, a, hb, ha, Nat.add_comm _ _, rfl, fun h => ?_, rfl⟩
    have e : (nbJ n F a b 1)[b]? = some (nbI F b) := by
      show ((nbR n F).set a (nbI F a ++ [(b : Int)]))[b]? = some (nbI F b)
      rw [List.getElem?_set_ne (by omega), List.getElem?_eq_getElem (by rw [nbR_length]; exact hb), nbR_at]
    rw [List.getElem?_eq_getElem h] at e
    exact Option.some.inj e
structure NbS (w W : World) (B G GE n : Nat) (RV : List Value) (y : Nat × Nat) (rows : List (List Int)) : Prop where
  grid : GridA W B (.slice (some ⟨G, 0, none⟩) n n) RV rows
  len : rows.length = n
  below : Below B w W
  ge : B ≤ W.heap.size
  ed : W.heap[GE]? = some (.cells #[.int .i64 (y.1 : Int), .int .i64 (y.2 : Int)] 66 (0, 0))
  lt : B ≤ GE
section
variable {w W W' : World} {B G GE n : Nat} {RV : List Value} {y : Nat × Nat} {rows : List (List Int)}
theorem NbS.up (h : NbS w W B G GE n RV y rows) (hb : Below W.heap.size W W') : NbS w W' B G GE n RV y rows :=
  ⟨h.grid.below hb, h.len, h.below.trans (hb.mono h.ge), Nat.le_trans h.ge hb.size, (hb.block GE (Array.getElem?_eq_some_iff.1 h.ed).1).trans h.ed, h.lt⟩
theorem NbS.drew (h : NbS w W B G GE n RV y rows) : NbS w W.drew B G GE n RV y rows := h.up ⟨rfl, rfl, rfl, Nat.le_refl _, fun _ _ => rfl⟩
theorem NbS.ends (h : NbS w W B G GE n RV y rows) : W.cell? ⟨GE, 0, none⟩ = some (.int .i64 (y.1 : Int)) ∧ W.cell? ⟨GE, 1, none⟩ = some (.int .i64 (y.2 : Int)) := by
  refine ⟨?_, ?_⟩ <;> simp [World.cell?, h.ed]
/-- a row, where it lies -/
theorem NbS.row (h : NbS w W B G GE n RV y rows) {k : Nat} (hk : k < n) (hk' : k < rows.length) : ∃ au cu, RV[k]? = some (.slice au rows[k].length cu) ∧ W.cell? ⟨G, k, none⟩ = some (.slice au rows[k].length cu) ∧ W.frozen? ⟨G, k, none⟩ = false ∧ W.ownsRow B 3 1 (.slice au rows[k].length cu) rows[k].length (iv rows[k]) := by
  have hl := h.grid.grid.2.1
  have hk2 : k < RV.length := by have := h.len; omega
  obtain ⟨u, hu, ho⟩ := h.grid.grid.2.at_ k hk'
  obtain ⟨au, cu, rfl, _⟩ := ho.slice
  have ho1 := ho.1
  rw [iv_length] at hu ho1
  obtain ⟨g', c', e1, _, _, c1, f1⟩ := h.grid.grid.1.cell k hk2
  simp only [Value.slice.injEq, Option.some.injEq, Addr.mk.injEq] at e1
  obtain ⟨⟨rfl, _, _⟩, _, _⟩ := e1
  exact ⟨au, cu, hu, by rw [c1]; exact hu, f1, ho1⟩
/-- the list's own cells stand while a row grows -/
theorem NbS.keep {k m cu : Nat} {au : Option Addr} {w2 : World} {o : Obj} (h : NbS w W B G GE n RV y rows) (hk : k < n) (hk' : k < rows.length) (hu : RV[k]? = some (.slice au m cu)) (hg : (W.alloc o).grownBy w2 (Value.slice au m cu).ownBlock) :
    (∃ x, w2.cell? ⟨G, k, none⟩ = some x) ∧ w2.frozen? ⟨G, k, none⟩ = false := by
  obtain ⟨au', cu', q1, q2, q3, _⟩ := h.row hk hk'
  have hG := World.block_lt_of_cell? W _ q2
  have ho := h.grid.grid.2.2 k _ _ hu (List.getElem?_eq_getElem hk')
  have hne := h.grid.grid.1.ne ho (by decide)
  have ne1 : some G ≠ (Value.slice au m cu).ownBlock := fun e => by
    rcases hne with h0 | h0
    · cases h0
    · exact h0 e
  have hG2 : G < (W.alloc o).heap.size := by rw [World.size_alloc]; exact Nat.lt_succ_of_lt hG
  have hb : (W.alloc o).heap[G]? = W.heap[G]? := Below.heap_alloc _ _ _ hG
  refine ⟨⟨_, (hg.cell_far ⟨G, k, none⟩ hG2 ne1).trans ((World.cell?_of_block (a := ⟨G, k, none⟩) hb).trans q2)⟩, (hg.frozen_far ⟨G, k, none⟩ hG2 ne1).trans ((World.frozen?_of_block (a := ⟨G, k, none⟩) hb).trans q3)⟩
theorem NbS.app {k m cu g2 c2 : Nat} {au : Option Addr} {x : Int} {w2 : World} {o : Obj} (h : NbS w W B G GE n RV y rows) (hk : k < n) (hk' : k < rows.length) (hu : RV[k]? = some (.slice au m cu))
    (hv : w2.ownsRow B 3 1 (.slice (some ⟨g2, 0, none⟩) (m + 1) c2) (m + 1) (iv rows[k] ++ [.int .i64 x])) (hg : (W.alloc o).grownBy w2 (Value.slice au m cu).ownBlock) (hw : (Value.slice au m cu).ownBlock = some g2 ∨ g2 = (W.alloc o).heap.size) :
    NbS w (w2.setCell ⟨G, k, none⟩ (.slice (some ⟨g2, 0, none⟩) (m + 1) c2)) B G GE n (RV.set k (.slice (some ⟨g2, 0, none⟩) (m + 1) c2)) y (rows.set k (rows[k] ++ [x])) := by
  have h1 := h.grid
  rw [show n = rows.length from h.len.symm] at h1
  obtain ⟨a1, a2⟩ := GridA.appAt (B := B) h1 hk' h.ge hu hv hg hw
  rw [h.len] at a1
  have hsz := hg.size
  have hza : (W.alloc o).heap.size = W.heap.size + 1 := by simp
  have hGE := (Array.getElem?_eq_some_iff.1 h.ed).1
  have e0 : W.heap[GE]? = some (.cells #[.int .i64 (y.1 : Int), .int .i64 (y.2 : Int)] 66 (0, 0)) := h.ed
  -- the edge's block is neither the grown row's nor the list's
  have ne1 : some GE ≠ (Value.slice au m cu).ownBlock := fun e => by
    have ho := h.grid.grid.2.2 k _ _ hu (List.getElem?_eq_getElem hk')
    rcases ho.1.2 with ⟨q, _⟩ | ⟨g', cap, cur, q, _, hb, _⟩
    · rw [q] at e; cases e
    · rw [q] at e; cases e
      rw [hb] at e0
      simp only [Option.some.injEq, Obj.cells.injEq] at e0
      exact absurd e0.2.1 (by decide)
  have ne2 : GE ≠ G := fun e => by
    rcases h.grid.grid.1.1.2 with ⟨q, _⟩ | ⟨g', cap, cur, q, _, hb, _⟩
    · cases q
    · cases q
      rw [← e, e0] at hb
      simp only [Option.some.injEq, Obj.cells.injEq] at hb
      exact absurd hb.2.1 (by decide)
  refine ⟨a1, by rw [List.length_set]; exact h.len, h.below.trans a2, by have hz : (w2.setCell ⟨G, k, none⟩ (.slice (some ⟨g2, 0, none⟩) (m + 1) c2)).heap.size = w2.heap.size := by simp [World.setCell]
                                                                         rw [hz]; have := h.ge; omega, ?_, h.lt⟩
  rw [Below.heap_setCell _ _ _ _ ne2, hg.block GE (by omega) ne1, Below.heap_alloc _ _ _ hGE, e0]
end

theorem wf_smallC2 (n : Nat) (h : n ≤ 1000) : (Lit.int .i64 (n : Int)).wf = true := by
  have h1 : IntKind.i64.min = -9223372036854775808 := rfl
  have h2 : IntKind.i64.max = 9223372036854775807 := rfl
  simp [Lit.wf]; omega
theorem neI_app (E : Edges) (q : Nat) (h : q < E.length) : E.take (q + 1) = E.take q ++ [(E[q].1, E[q].2)] := by rw [List.take_succ_eq_append_getElem h]
set_option maxHeartbeats 6400000 in
set_option maxRecDepth 100000 in
theorem treeNb_yes (n : Nat) (rows : List (List Int)) (v : Value) (RV : List Value) (w : World) {B0 H0 : Nat} (hG : Hid (Grid w B0 H0 v RV rows)) (hH : H0 ≤ w.heap.size) (hrl : rows.length ≤ 1048576) (hrs : ∀ r ∈ rows, r.length ≤ 1048576) (ht : Hid (treeB (n : Int) rows = true)) :
    Calls Try.prog 34 #[.int .i64 (n : Int), v] w fun e w' => ∃ x RV', e = .returned (.tuple #[x, .bool true]) ∧ Grid w' w.heap.size w'.heap.size x RV' (nbR n (edgesR rows)) ∧ Below w.heap.size w w' := by
  obtain ⟨i0, hi, hz0, hz1, hz2⟩ := info_parts Try.infoIntR
  obtain ⟨j0, hj, hy0, hy1, hy2⟩ := info_parts Try.infoNb
  obtain ⟨hn, _, hv3⟩ := treeB_iff.1 ht.out
  rw [Int.toNat_natCast] at hv3
  have CT := treeEdges_p (n : Int) rows v RV w hG hH hrl hrs (wf_smallC2 n (by omega))
  obtain ⟨av, cv, rfl⟩ : ∃ a c, v = .slice a RV.length c := by
    obtain ⟨a, c, h, _⟩ := hG.out.1.slice; exact ⟨a, c, h⟩
  rw [ht.out] at CT
  have CT := Lib.hid CT
  have HO : Hid (∀ e ∈ edgesR rows, e.1 < e.2 ∧ e.2 < n) := hv3.ord
  have hM6 : (edgesR rows).length ≤ 6 := by have := hv3.len; omega
  obtain ⟨E, hE⟩ : ∃ E, E = edgesR rows := ⟨_, rfl⟩
  rw [← hE] at CT HO hM6 ⊢
  obtain ⟨B, hB⟩ : ∃ B, B = w.heap.size := ⟨_, rfl⟩
  have HB0 := Lib.hid hB
  rw [← hB] at CT
  have hn1 : 1 ≤ n := by omega
  have hn7 : n ≤ 7 := by omega
  clear hG hrs ht hv3 hE hn hB hrl hH
  go_enter Try.func34, Try.ntmps34
  go_wp2_with fail
  refine CT.out.mono ?_
  rintro e w0 ⟨x, rfl, hx, hb0⟩
  have HX := Lib.hid (hx (by first | exact rfl | trivial))
  have HB1 := Lib.hid hb0
  obtain ⟨ax, cx, rfl, _⟩ := HX.out.slice
  clear hx hb0 CT
  go_wp2_with (at_make; refine wpList_make_full _ rfl _ _ 49 rfl w0.heap.size 30 j0 (.slice none 0 0) 1 Try.underlying49 hj hy0 hy1 _ _ _ _ n rfl rfl rfl rfl ?b2 ?b3 (Nat.le_refl _) ?_)
  case b2 => rw [hy2]; omega
  case b3 => unfold maxLen; omega
  intro w1 hown hgrow
  have hb1 : Below w0.heap.size w0 w1 := (Below.refl _ _).grown hgrow (Nat.le_refl _) (fun k hk => by cases hk)
  rw [show (madeCells #[Value.slice none 0 0] n).toList = List.replicate n (Value.slice none 0 0) from toList_madeCells_one _ _] at hown
  obtain ⟨G, hGe⟩ : ∃ G, G = w0.heap.size := ⟨_, rfl⟩
  obtain ⟨C, hC⟩ : ∃ C, C = w0.heap.size := ⟨_, rfl⟩
  have HC := Lib.hid hC
  rw [← hGe] at hown ⊢
  have hG0 : GridA w1 C (.slice (some ⟨G, 0, none⟩) n n) (List.replicate n (.slice none 0 0)) (nbR n (E.take 0)) := by
    refine ⟨⟨Own.of_own ?_, nbR_none _ _ _ _⟩, nil_dist7 n⟩
    rw [List.length_replicate, hC, ← hGe]
    exact hown
  have HG0 := Lib.hid hG0
  have HB2 : Hid (Below C w0 w1) := by show Below _ _ _; rw [hC]; exact hb1
  have sB1 : Hid (C ≤ w1.heap.size) := by show _ ≤ _; rw [hC]; exact hb1.size
  obtain ⟨M, hM⟩ : ∃ M, M = E.length := ⟨_, rfl⟩
  have HM := Lib.hid hM
  rw [← hM] at HX hM6
  rw [← hM]
  clear hown hgrow hb1 hG0 hGe hC hM
  go_wp2
  go_loopw [10, 12, 25, 30] (fun e10 e12 ii e30 W => ∃ (q : Nat) (RV : List Value), q ≤ M ∧ ii = .int .i64 (q : Int) ∧ Hid (GridA W C (.slice (some ⟨G, 0, none⟩) n n) RV (nbR n (E.take q))) ∧ Hid (Below C w0 W) ∧ Hid (C ≤ W.heap.size)) (fun _ _ ii _ _ => M - (intOf ii).toNat)
  case atStart => exact ⟨0, _, Nat.zero_le _, rfl, HG0, HB2, sB1⟩
  case round =>
    clear HG0 HB2 sB1
    obtain ⟨q, RV, hq, rfl, HG, HB, sB⟩ := hrel
    by_cases hlt3 : q < M
    · have b1 : (q : Int) < (M : Int) := by omega
      have hqE : q < E.length := by rw [← HM.out]; exact hlt3
      have HEx := HX.out.below (HB.out.mono (by rw [HC.out]; exact Nat.le_refl _))
      obtain ⟨gx, c', e1, _, _, hgx, c1, c2⟩ := HEx.at_ q hqE
      rw [← HM.out] at e1
      simp only [Value.slice.injEq] at e1
      obtain ⟨hax, _, hcx'⟩ := e1
      subst hax
      subst hcx'
      obtain ⟨l0, l2⟩ := HO.out _ (List.getElem_mem hqE)
      have ET := neI_app E q hqE
      obtain ⟨⟨a, b⟩, hy⟩ : ∃ y, y = E[q] := ⟨_, rfl⟩
      rw [← hy] at c1 c2 l0 l2 ET
      replace c1 : wr.cell? ⟨gx, q * 2, none⟩ = some (.int .i64 (a : Int)) := c1
      replace c2 : wr.cell? ⟨gx, q * 2 + 1, none⟩ = some (.int .i64 (b : Int)) := c2
      have l0 : a < b := l0
      have l2 : b < n := l2
      have l1 : a < n := by omega
      have HET : Hid (E.take (q + 1) = E.take q ++ [(a, b)]) := ET
      have hT : (E.take q).length ≤ 6 := by rw [List.length_take]; omega
      obtain ⟨F, hF⟩ : ∃ F, F = E.take q := ⟨_, rfl⟩
      rw [← hF] at HG HET hT
      have LEN := Lib.hid (nbR_length n F)
      clear HEx hy hF ET
      go_upto_region 8 with fail
      obtain ⟨GE, hGE⟩ : ∃ GE, GE = wr.heap.size := ⟨_, rfl⟩
      obtain ⟨w1', hw1'⟩ : ∃ w1', w1' = wr.alloc (.cells #[.int .i64 (a : Int), .int .i64 (b : Int)] 66) := ⟨_, rfl⟩
      have S1 : Hid (NbS w0 w1' C G GE n RV (a, b) (nbR n F)) := by
        show NbS _ _ _ _ _ _ _ _ _
        rw [hw1', hGE]
        exact ⟨HG.out.below ((Below.refl _ _).alloc (Nat.le_refl _) _), LEN.out, HB.out.alloc sB.out _, by rw [World.size_alloc]; have := sB.out; omega, heap_alloc_new _ _, sB.out⟩
      rw [← hGE, ← hw1']
      clear hGE hw1' HG HB sB c1 c2 hgx
      have S1 : Hid (NbS w0 w1' C G GE n RV (a, b) (nbJ n F a b 0)) := S1
      obtain ⟨ce1, ce2⟩ := S1.out.ends
      replace ce1 : w1'.cell? ⟨GE, 0, none⟩ = some (.int .i64 (a : Int)) := ce1
      replace ce2 : w1'.cell? ⟨GE, 1, none⟩ = some (.int .i64 (b : Int)) := ce2
      go_wp2_with fail
      clear ce1 ce2
      go_loopw [12, 30] (fun e12 jj W => ∃ (j : Nat) (RW : List Value), j ≤ 2 ∧ jj = .int .i64 (j : Int) ∧ Hid (NbS w0 W C G GE n RW (a, b) (nbJ n F a b j))) (fun _ jj _ => 2 - (intOf jj).toNat)
      case atStart => exact ⟨0, _, Nat.zero_le _, rfl, S1⟩
      case round =>
        clear S1
        obtain ⟨j, RW, hj, rfl, S1⟩ := hrel
        by_cases hj2 : j < 2
        · have b2 : (j : Int) < 2 := by omega
          obtain ⟨p, x, lp, lx, hpx, hpj, hrow, hnext⟩ := nbJ_step (F := F) l1 l2 l0 hj2
          have lpl : p < (nbJ n F a b j).length := by rw [nbJ_length]; exact lp
          have HN := Lib.hid hnext
          have e1 := hrow lpl
          obtain ⟨au, cu, hu1, cr1, f1, ho1⟩ := S1.out.row lp lpl
          rw [e1] at hu1 cr1 ho1
          have hm1 : (nbI F p).length ≤ 12 := by
            have h1 : (nbI F p).length = (nb F p).length := by simp [nbI]
            have := nb_len_le F p
            omega
          obtain ⟨m1, hm1'⟩ : ∃ m1, m1 = (nbI F p).length := ⟨_, rfl⟩
          rw [← hm1'] at hu1 cr1 ho1 hm1
          have HU1 := Lib.hid hu1
          have HO1 := Lib.hid ho1
          have HE1 := Lib.hid e1
          have nq1 : (Instr.index 66 (.agg #[.int .i64 (a : Int), .int .i64 (b : Int)]) (.int .i64 (j : Int))).run Try.prog wr = .ok (.int .i64 (p : Int)) wr := by
            have q := index_ed7 (a, b) wr
            rcases (show j = 0 ∨ j = 1 by omega) with rfl | rfl
            · rw [if_pos rfl] at hpj; subst hpj; exact q.1
            · rw [if_neg (by omega)] at hpj; subst hpj; exact q.2
          obtain ⟨ce1, ce2⟩ := S1.out.ends
          replace ce1 : wr.cell? ⟨GE, 0, none⟩ = some (.int .i64 (a : Int)) := ce1
          replace ce2 : wr.cell? ⟨GE, 1, none⟩ = some (.int .i64 (b : Int)) := ce2
          have CA1 : Hid (∀ W' : World, Calls Try.prog 65 #[.agg #[.int .i64 (a : Int), .int .i64 (b : Int)], .int .i64 (p : Int)] W' fun r w' => r = .returned (.int .i64 (x : Int)) ∧ Below W'.heap.size W' w') := fun W' => by
            have := across7 a b p W' (by omega) (by omega)
            rwa [show a + b - p = x by omega] at this
          have z1 : m1 + 1 ≤ maxLen := by unfold maxLen; omega
          have z2 : (m1 + 1) * 8 ≤ 140737488355328 := by omega
          have LPL := Lib.hid lpl
          have bp : (p : Int) < (n : Int) := by omega
          clear hu1 ho1 hm1' hpj hrow hnext hpx
          go_upto_region 11 with fail
          go_region_law (first
            | ((try go_simp); go_at_call 65; refine (CA1.out _).mono ?_
               rintro e W1c ⟨rfl, hbc1⟩
               have S1c : Hid (NbS w0 W1c C G GE n RW (a, b) (nbJ n F a b j)) := S1.out.drew.up hbc1
               have dr1 := (hbc1.cell (p := ⟨G, p, none⟩) (World.block_lt_of_cell? wr _ cr1)).trans cr1
               have dr1a : (W1c.alloc (.cells #[.int .i64 (x : Int)] 3)).cell? ⟨G, p, none⟩ = some (.slice au m1 cu) := (World.cell?_of_block (a := ⟨G, p, none⟩) (Below.heap_alloc _ _ _ (World.block_lt_of_cell? W1c _ dr1))).trans dr1)
            | (refine step_append_lies _ ?gd (.tmp 38) (.tmp 42) 30 ?ho C 3 i0 (.int .i64 0) 1 8 Try.underlying30 hi hz0 hz1 hz2 rfl (Nat.lt_succ_self 0) (.slice au m1 cu) m1 (iv (nbI F p)) ?hs ?own ⟨W1c.heap.size, 0, none⟩ 1 1 [.int .i64 (x : Int)] ?hx rfl ?news ?one (Nat.lt_succ_self 0) z1 z2 ?base (W1c.heap.size + 1) ?hh ?_
               case gd => rfl
               case ho => rfl
               case hs => rfl
               case hx => rfl
               case own => exact (own_of_blocks HO1.out fun q hq => hbc1.block q (HO1.out.lt q hq).2).alloc _
               case news => exact cell_one_new _ _ _
               case one => exact one_intR _
               case base => (have := S1c.out.ge; rw [World.size_alloc]; omega)
               case hh => exact World.size_alloc _ _
               intro g2 c2 w2 hv2 hg2 hw2 _
               have K2 := S1c.out.keep lp LPL.out HU1.out hg2
               obtain ⟨⟨x2, hx2⟩, hf2⟩ := K2
               rw [← HE1.out] at hv2
               have S2 := Lib.hid (S1c.out.app lp LPL.out HU1.out hv2 hg2 (by rw [World.size_alloc]; exact hw2))))
          all_goals
            go_simp
            rw [HE1.out, ← HN.out] at S2
            obtain ⟨W3, hW3⟩ : ∃ W', W' = w2.setCell ⟨G, p, none⟩ (.slice (some ⟨g2, 0, none⟩) (m1 + 1) c2) := ⟨_, rfl⟩
            rw [← hW3] at S2
            try rw [← hW3]
            obtain ⟨RX, hRX⟩ : ∃ RX, RX = RW.set p (.slice (some ⟨g2, 0, none⟩) (m1 + 1) c2) := ⟨_, rfl⟩
            rw [← hRX] at S2
            clear hW3 hRX dr1 dr1a S1c hbc1 hx2 hf2 hv2 hg2 hw2 cr1 f1 ce1 ce2 nq1 CA1 z1 z2 HO1 HU1 S1
            go_wp2
            go_roundw
            case rel => exact ⟨j + 1, RX, by omega, by go_num, S2⟩
            case measure => simp [intOf]; omega
        · obtain rfl : j = 2 := by omega
          have GF : Hid (GridA wr C (.slice (some ⟨G, 0, none⟩) n n) RW (nbR n (E.take (q + 1)))) := by
            have := S1.out.grid
            have e : nbJ n F a b 2 = nbR n (E.take (q + 1)) := by rw [HET.out]; exact nbR_snoc l1 l2 l0
            rw [e] at this
            exact this
          have BF := Lib.hid S1.out.below
          have sF := Lib.hid S1.out.ge
          clear S1
          go_wp2
          go_roundw
          case rel => exact ⟨q + 1, RW, by omega, by go_num, GF, BF, sF⟩
          case measure => simp [intOf]; omega
    · obtain rfl : q = M := by omega
      have hfull : E.take q = E := by rw [HM.out, List.take_length]
      rw [hfull] at HG
      clear hfull
      go_wp2
      go_ret2
      refine ⟨_, RV, rfl, ?_, ?_⟩
      · rw [← HB0.out]
        exact HG.out.grid.lo (by have := HB1.out.size; rw [HC.out, HB0.out]; exact this)
      · rw [← HB0.out]
        exact HB1.out.trans (HB.out.mono (by have := HB1.out.size; rw [HC.out, HB0.out]; exact this))
set_option maxHeartbeats 800000 in
set_option maxRecDepth 100000 in
theorem treeNb_no (n : Int) (rows : List (List Int)) (v : Value) (RV : List Value) (w : World) {B0 H0 : Nat} (hG : Hid (Grid w B0 H0 v RV rows)) (hH : H0 ≤ w.heap.size) (hrl : rows.length ≤ 1048576) (hrs : ∀ r ∈ rows, r.length ≤ 1048576) (hwf : (Lit.int .i64 n).wf = true) (ht : treeB n rows = false) :
    Calls Try.prog 34 #[.int .i64 n, v] w fun e w' => e = .returned (.tuple #[.slice none 0 0, .bool false]) ∧ Below w.heap.size w w' := by
  have CT := treeEdges_p n rows v RV w hG hH hrl hrs hwf
  obtain ⟨av, cv, rfl⟩ : ∃ a c, v = .slice a RV.length c := by
    obtain ⟨a, c, h, _⟩ := hG.out.1.slice; exact ⟨a, c, h⟩
  rw [ht] at CT
  have CT := Lib.hid CT
  clear hG hrs hrl hH ht
  go_enter Try.func34, Try.ntmps34
  go_wp2_with fail
  refine CT.out.mono ?_
  rintro e w0 ⟨x, rfl, _, hb0⟩
  have HB1 := Lib.hid hb0
  clear hb0 CT
  go_wp2
  go_ret2
  exact ⟨rfl, HB1.out⟩
end Go.Proofs.Ytafdlilojlmchaa
