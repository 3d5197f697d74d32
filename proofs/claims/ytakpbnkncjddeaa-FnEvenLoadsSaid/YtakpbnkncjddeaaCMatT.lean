/-
  Rows of the call's own, no two in one block, told by their places; one of them set.
-/
import Derived.Test.YtakpbnkncjddeaaZR
import Derived.Test.YtakpbnkncjddeaaZW
import Derived.Deep.RegionLaw
import Derived.StillTailTactics
namespace Go.Proofs.Ytakpbnkncjddeaa
open Go.RowKit

theorem Try.infoRowT : (Try.prog.info? 23).map (fun i => (i.zero, i.size, i.bytes)) = some (some (.slice none 0 0), 1, 24) := by kernel_rfl
structure GridT (w : World) (H : Nat) (v : Value) (RV : List Value) (rows : List (List Int)) : Prop where
  grid : Grid w H w.heap.size v RV rows
  dist : Dist RV
theorem GridT.below {w w' : World} {H : Nat} {v : Value} {RV : List Value} {rows : List (List Int)} (h : GridT w H v RV rows) (hb : Below w.heap.size w w') : GridT w' H v RV rows :=
  ⟨(h.grid.below hb).more hb.size, h.dist⟩
theorem GridT.drewN {w : World} {H : Nat} {v : Value} {RV : List Value} {rows : List (List Int)} (h : GridT w H v RV rows) (n : Nat) : GridT (w.drewN n) H v RV rows := ⟨h.grid.same rfl, h.dist⟩
def gridT (n m : Nat) (M : Nat → Nat → Int) : List (List Int) := (List.range n).map fun i => (List.range m).map fun j => M i j
theorem gridT_length (n m : Nat) (M : Nat → Nat → Int) : (gridT n m M).length = n := by simp [gridT]
theorem gridT_at {n i : Nat} (m : Nat) (M : Nat → Nat → Int) (h : i < n) : (gridT n m M)[i]? = some ((List.range m).map fun j => M i j) := by simp [gridT, h]
theorem gridT_congr {n m : Nat} {M M' : Nat → Nat → Int} (h : ∀ i j, i < n → j < m → M i j = M' i j) : gridT n m M = gridT n m M' := by
  unfold gridT
  refine List.map_congr_left fun i hi => List.map_congr_left fun j hj => ?_
  exact h i j (List.mem_range.1 hi) (List.mem_range.1 hj)
def setT (M : Nat → Nat → Int) (a b : Nat) (x : Int) : Nat → Nat → Int := fun i j => if i = a ∧ j = b then x else M i j
theorem gridT_set {n m a b : Nat} (M : Nat → Nat → Int) (x : Int) : (gridT n m M).set a (((List.range m).map fun j => M a j).set b x) = gridT n m (setT M a b x) := by
  apply List.ext_getElem?
  intro i
  by_cases hi : i < n
  · rw [gridT_at m _ hi]
    by_cases e : a = i
    · subst e
      rw [List.getElem?_set_self (by rw [gridT_length]; exact hi)]
      congr 1
      apply List.ext_getElem?
      intro j
      by_cases hj : j < m
      · by_cases e2 : b = j
        · subst e2
          rw [List.getElem?_set_self (by simp; exact hj)]
          simp [setT, hj]
        · rw [List.getElem?_set_ne e2]
          simp [setT, hj, Ne.symm e2]
      · rw [List.getElem?_eq_none (by simp; omega), List.getElem?_eq_none (by simp; omega)]
    · rw [List.getElem?_set_ne e, gridT_at m _ hi]
      congr 1
      refine List.map_congr_left fun j _ => ?_
      unfold setT
      rw [if_neg (fun h => e h.1.symm)]
  · rw [List.getElem?_eq_none (by rw [List.length_set, gridT_length]; omega), List.getElem?_eq_none (by rw [gridT_length]; omega)]
theorem GridT.add {w w1 w2 : World} {H m g c : Nat} {v u : Value} {RV : List Value} {rows : List (List Int)} {row : List Int} (h : GridT w H v RV rows) (hm : rows.length = m) (hb : Below w.heap.size w w1) (hu : Own w1 w.heap.size w1.heap.size 3 u (iv row)) (hH : H ≤ w.heap.size)
    (hv : w2.ownsRow H 23 1 (.slice (some ⟨g, 0, none⟩) (m + 1) c) (m + 1) (RV ++ [u])) (hg : (w1.alloc (.cells #[u] 23)).grownBy w2 v.ownBlock) :
    GridT w2 H (.slice (some ⟨g, 0, none⟩) (m + 1) c) (RV ++ [u]) (rows ++ [row]) ∧ Below H w w2 := by
  have hz : (w1.alloc (.cells #[u] 23)).heap.size = w1.heap.size + 1 := World.size_alloc _ _
  have hsz := hg.size
  rw [hz] at hsz
  have hlen := h.grid.2.1
  have s1 := hb.size
  have o1 : Own (w1.alloc (.cells #[u] 23)) w.heap.size w1.heap.size 3 u (iv row) := hu.alloc _
  have hb1 : Below w.heap.size w (w1.alloc (.cells #[u] 23)) := hb.alloc s1 _
  have G1 := h.grid.below hb1
  have r1 := G1.2.grown G1.1 (by decide) hg
  have r2 := o1.grown hg (o1.ne G1.1 (by decide))
  refine ⟨⟨⟨Own.of_own ?_, (r1.more (by omega)).append (RowsI.one (own_lo (r2.more (by omega)) hH))⟩, ?_⟩, (hb1.mono hH).grown hg (by omega) (fun k hk => (h.grid.1.1.lt k hk).1)⟩
  · have e : (RV ++ [u]).length = m + 1 := by rw [List.length_append, hlen, hm]; rfl
    rw [e]; exact hv
  · intro i j x y hij hx hy
    by_cases hj : j < RV.length
    · rw [List.getElem?_append_left (by omega)] at hx
      rw [List.getElem?_append_left hj] at hy
      exact h.dist i j x y hij hx hy
    · rw [List.getElem?_append_right (by omega)] at hy
      have hj0 : j - RV.length = 0 := by
        have := (List.getElem?_eq_some_iff.1 hy).1
        simp at this; omega
      rw [hj0] at hy
      simp only [List.getElem?_cons_zero, Option.some.injEq] at hy
      subst hy
      rw [List.getElem?_append_left (by omega)] at hx
      by_cases hn : x.ownBlock = none
      · exact .inl hn
      · right
        intro e
        obtain ⟨q, hq⟩ := Option.ne_none_iff_exists'.1 hn
        have hi : i < rows.length := by omega
        have ho := h.grid.2.2 i x rows[i] hx (List.getElem?_eq_getElem hi)
        have l1 := ho.2 q hq
        have l2 := (hu.1.lt q (by rw [← e]; exact hq)).1
        omega
theorem GridT.nil0 {w : World} {B : Nat} (hB : B ≤ w.heap.size) : GridT (w.alloc (.cells #[] 23)) B (.slice (some ⟨w.heap.size, 0, none⟩) 0 0) [] [] := by
  refine ⟨⟨Own.of_own ?_, RowsI.nil⟩, fun i j u v _ h => by simp at h⟩
  exact World.ownsRow_lit (base := B) (e := 23) (size := 1) w #[] 0 hB (by unfold maxLen; omega) rfl
theorem GridT.setAt {w : World} {B i j gi l c : Nat} {x : Int} {v : Value} {RV : List Value} {rows : List (List Int)} (h : GridT w B v RV rows) (hu : RV[i]? = some (.slice (some ⟨gi, 0, none⟩) l c)) (hi : i < rows.length) :
    GridT (w.setCell ⟨gi, j, none⟩ (.int .i64 x)) B v RV (rows.set i (rows[i].set j x)) := by
  obtain ⟨⟨hO, hl, hr⟩, hd⟩ := h
  have hz : (w.setCell ⟨gi, j, none⟩ (.int .i64 x)).heap.size = w.heap.size := by simp [World.setCell]
  have ho := hr i _ _ hu (List.getElem?_eq_getElem hi)
  refine ⟨?_, hd⟩
  rw [hz]
  refine ⟨?_, by rw [List.length_set]; exact hl, fun k u r h1 h2 => ?_⟩
  · have hne := ho.ne hO (by decide)
    refine ⟨own_of_blocks hO.1 fun q hq => Below.heap_setCell _ _ _ _ ?_, hO.2⟩
    rcases hne with h0 | h0
    · simp [Value.ownBlock] at h0
    · intro e
      have e2 : q = gi := e
      subst e2
      exact h0 hq.symm
  · by_cases e : k = i
    · subst e
      rw [hu] at h1
      cases h1
      rw [List.getElem?_set_self hi] at h2
      cases h2
      have hlen : (iv rows[k]).length = l := by
        obtain ⟨au, cu, ev, _⟩ := ho.slice
        simp only [Value.slice.injEq] at ev
        exact ev.2.1.symm
      have ho1 := ho.1
      rw [hlen] at ho1
      have st := ho1.stored j (.int .i64 x)
      rw [iv_set] at st
      refine ⟨?_, ho.2⟩
      have e2 : (iv (rows[k].set j x)).length = l := by rw [← iv_set, List.length_set, hlen]
      rw [e2]
      exact st.1
    · rw [List.getElem?_set_ne (Ne.symm e)] at h2
      have hk := hr k u r h1 h2
      refine ⟨own_of_blocks hk.1 fun q hq => Below.heap_setCell _ _ _ _ ?_, hk.2⟩
      intro eq
      have eq : q = gi := eq
      subst eq
      rcases Nat.lt_or_gt_of_ne e with hlt | hlt
      · rcases hd k i u _ hlt h1 hu with h0 | h0
        · rw [h0] at hq; cases hq
        · exact h0 hq
      · rcases hd i k _ u hlt hu h1 with h0 | h0
        · simp [Value.ownBlock] at h0
        · exact h0 hq.symm
theorem GridT.at2 {w : World} {B n i j : Nat} {v : Value} {RV : List Value} {M : Nat → Nat → Int} (h : GridT w B v RV (gridT n n M)) (hi : i < n) (hj : j < n) :
    ∃ G c gi ci, v = .slice (some ⟨G, 0, none⟩) n c ∧ RV[i]? = some (.slice (some ⟨gi, 0, none⟩) n ci) ∧ w.cell? ⟨G, i, none⟩ = some (.slice (some ⟨gi, 0, none⟩) n ci) ∧ w.cell? ⟨gi, j, none⟩ = some (.int .i64 (M i j)) ∧ w.frozen? ⟨gi, j, none⟩ = false ∧ B ≤ gi ∧ gi < w.heap.size ∧ B ≤ G ∧ G < w.heap.size := by
  obtain ⟨hO, hl, hr⟩ := h.grid
  rw [gridT_length] at hl
  obtain ⟨G, c, e1, hB, h2, c1, _⟩ := hO.cell i (by omega)
  rw [hl] at e1
  have hk' : i < RV.length := by omega
  have ho := hr i _ _ (List.getElem?_eq_getElem hk') (gridT_at n M hi)
  have hlen : (iv ((List.range n).map fun j => M i j)).length = n := by simp [iv]
  obtain ⟨gi, ci, e2, hB2, h3, c2, f2⟩ := ho.cell j (by rw [hlen]; exact hj)
  rw [hlen] at e2
  refine ⟨G, c, gi, ci, e1, by rw [List.getElem?_eq_getElem hk', e2], by rw [c1, List.getElem?_eq_getElem hk', e2], ?_, f2, hB2, h3, hB, h2⟩
  rw [c2]
  simp [iv, hj]
theorem GridT.set2 {w : World} {B n i j gi l c : Nat} {x : Int} {v : Value} {RV : List Value} {M : Nat → Nat → Int} (h : GridT w B v RV (gridT n n M)) (hu : RV[i]? = some (.slice (some ⟨gi, 0, none⟩) l c)) (hi : i < n) :
    GridT (w.setCell ⟨gi, j, none⟩ (.int .i64 x)) B v RV (gridT n n (setT M i j x)) := by
  have e := h.setAt (j := j) (x := x) hu (by rw [gridT_length]; exact hi)
  have g : (gridT n n M)[i]'(by rw [gridT_length]; exact hi) = (List.range n).map fun j => M i j := by
    have := gridT_at (n := n) n M hi
    rw [List.getElem?_eq_getElem (by rw [gridT_length]; exact hi)] at this
    exact Option.some.inj this
  rw [g, gridT_set] at e
  exact e
structure MatT (w W : World) (B G c n : Nat) (RV : List Value) (M : Nat → Nat → Int) : Prop where
  grid : GridT W B (.slice (some ⟨G, 0, none⟩) n c) RV (gridT n n M)
  below : Below B w W
  ge : B ≤ W.heap.size
theorem MatT.drew {w W : World} {B G c n : Nat} {RV : List Value} {M : Nat → Nat → Int} (h : MatT w W B G c n RV M) : MatT w W.drew B G c n RV M :=
  ⟨h.grid.below ⟨rfl, rfl, rfl, Nat.le_refl _, fun _ _ => rfl⟩, Below.drew h.below, h.ge⟩
theorem MatT.set {w W : World} {B G c n p j gp l cp : Nat} {RV : List Value} {M : Nat → Nat → Int} {x : Int} (h : MatT w W B G c n RV M) (hu : RV[p]? = some (.slice (some ⟨gp, 0, none⟩) l cp)) (hp : p < n) (hB : B ≤ gp) : MatT w (W.setCell ⟨gp, j, none⟩ (.int .i64 x)) B G c n RV (setT M p j x) :=
  ⟨h.grid.set2 hu hp, h.below.setCell (p := ⟨gp, j, none⟩) hB _, by have := h.ge; simpa [World.setCell] using this⟩
theorem MatT.row {w W : World} {B G c n i : Nat} {RV : List Value} {M : Nat → Nat → Int} (h : MatT w W B G c n RV M) (hi : i < n) : ∃ gi ci, RV[i]? = some (.slice (some ⟨gi, 0, none⟩) n ci) := by
  obtain ⟨_, _, gi, ci, _, e2, _⟩ := h.grid.at2 hi hi
  exact ⟨gi, ci, e2⟩
theorem MatT.at2 {w W : World} {B G c n i j : Nat} {RV : List Value} {M : Nat → Nat → Int} (h : MatT w W B G c n RV M) (hi : i < n) (hj : j < n) {gi l ci : Nat} (hu : RV[i]? = some (.slice (some ⟨gi, 0, none⟩) l ci)) :
    l = n ∧ B ≤ gi ∧ W.cell? ⟨G, i, none⟩ = some (.slice (some ⟨gi, 0, none⟩) n ci) ∧ W.cell? ⟨gi, j, none⟩ = some (.int .i64 (M i j)) ∧ W.frozen? ⟨gi, j, none⟩ = false := by
  obtain ⟨G', c', gi', ci', e1, e2, c1, c2, f2, hB, _⟩ := h.grid.at2 hi hj
  rw [hu] at e2
  simp only [Option.some.injEq, Value.slice.injEq, Addr.mk.injEq] at e2
  obtain ⟨⟨rfl, _⟩, rfl, rfl⟩ := e2
  simp only [Value.slice.injEq, Option.some.injEq, Addr.mk.injEq] at e1
  obtain ⟨⟨rfl, _⟩, _, _⟩ := e1
  exact ⟨rfl, hB, c1, c2, f2⟩
theorem gridT_snoc (k m : Nat) (M : Nat → Nat → Int) : gridT (k + 1) m M = gridT k m M ++ [(List.range m).map fun j => M k j] := by
  unfold gridT
  rw [List.range_succ, List.map_append]; rfl
theorem zero_rowT (m : Nat) : ((List.range m).map fun _ => (0 : Int)) = List.replicate m 0 := by
  apply List.ext_getElem?
  intro j
  by_cases hj : j < m <;> simp [hj]
theorem one_rowT (v : Value) (a : Option Addr) (n c : Nat) (h : v = .slice a n c) : ∀ u ∈ [v], u.oneCell' = true := by intro u hu; simp at hu; subst hu; subst h; rfl
theorem rd_drop2 {w : World} {H g off : Nat} {l : List Int} (h : RdI w H (some ⟨g, off, none⟩) l) (k : Nat) : RdI w H (some ⟨g, off + k, none⟩) (l.drop k) := fun j hj => by
  rw [List.length_drop] at hj
  obtain ⟨b, o, e, h2, h3⟩ := h (k + j) (by omega)
  simp only [Option.some.injEq, Addr.mk.injEq] at e
  obtain ⟨rfl, rfl, _⟩ := e
  exact ⟨g, off + k, rfl, h2, by rw [List.getElem_drop, Nat.add_assoc]; exact h3⟩
theorem MatT.drewN {w W : World} {B G c n : Nat} {RV : List Value} {M : Nat → Nat → Int} (h : MatT w W B G c n RV M) (q : Nat) : MatT w (W.drewN q) B G c n RV M :=
  ⟨h.grid.drewN q, h.below.trans ⟨rfl, rfl, rfl, Nat.le_refl _, fun _ _ => rfl⟩, h.ge⟩
end Go.Proofs.Ytakpbnkncjddeaa
