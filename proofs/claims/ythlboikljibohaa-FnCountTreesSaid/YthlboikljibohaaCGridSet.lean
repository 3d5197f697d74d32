/-
  Rows of the call's own, no two in one block: a number of one of them is set, a row is put in another's place.
-/
import Derived.Test.YthlboikljibohaaCLess
import Derived.Test.YthlboikljibohaaCGridPut
namespace Go.Proofs.Ythlboikljibohaa
open Go.RowKit

theorem GridA.setAt {w : World} {B i j gi l c : Nat} {x : Int} {v : Value} {RV : List Value} {rows : List (List Int)} (h : GridA w B v RV rows) (hu : RV[i]? = some (.slice (some ⟨gi, 0, none⟩) l c)) (hi : i < rows.length) :
    GridA (w.setCell ⟨gi, j, none⟩ (.int .i64 x)) B v RV (rows.set i (rows[i].set j x)) := by
  obtain ⟨⟨hO, hl, hr⟩, hd⟩ := h
  have hz : (w.setCell ⟨gi, j, none⟩ (.int .i64 x)).heap.size = w.heap.size := by simp [World.setCell]
  have ho := hr i _ _ hu (List.getElem?_eq_getElem hi)
  refine ⟨?_, hd⟩
  rw [hz]
  refine ⟨?_, by rw [List.length_set]; exact hl, fun k u r h1 h2 => ?_⟩
  · have hne := ho.ne hO (by decide)
    refine ⟨own_of_blocks hO.1 fun q hq => Below.heap_setCell _ _ _ _ ?_, hO.2⟩
    rcases hne with h0 | h0
    · simp [Value.ownBlock] at h0
    · intro e
      have e2 : q = gi := e
      subst e2
      exact h0 hq.symm
  · by_cases e : k = i
    · subst e
      rw [hu] at h1
      cases h1
      rw [List.getElem?_set_self hi] at h2
      cases h2
      have hlen : (iv rows[k]).length = l := by
        obtain ⟨au, cu, ev, _⟩ := ho.slice
        simp only [Value.slice.injEq] at ev
        exact ev.2.1.symm
      have ho1 := ho.1
      rw [hlen] at ho1
      have st := ho1.stored j (.int .i64 x)
      rw [iv_set] at st
      refine ⟨?_, ho.2⟩
      have e2 : (iv (rows[k].set j x)).length = l := by rw [← iv_set, List.length_set, hlen]
      rw [e2]
      exact st.1
    · rw [List.getElem?_set_ne (Ne.symm e)] at h2
      have hk := hr k u r h1 h2
      refine ⟨own_of_blocks hk.1 fun q hq => Below.heap_setCell _ _ _ _ ?_, hk.2⟩
      intro eq
      have eq : q = gi := eq
      subst eq
      rcases Nat.lt_or_gt_of_ne e with hlt | hlt
      · rcases hd k i u _ hlt h1 hu with h0 | h0
        · rw [h0] at hq; cases hq
        · exact h0 hq
      · rcases hd i k _ u hlt hu h1 with h0 | h0
        · simp [Value.ownBlock] at h0
        · exact h0 hq.symm
/-- a row of a block behind all is put in another's place -/
theorem GridA.putAt {w w1 : World} {B g c0 k : Nat} {u : Value} {r : List Int} {RV : List Value} {rows : List (List Int)} (h : GridA w B (.slice (some ⟨g, 0, none⟩) rows.length c0) RV rows) (hb : Below w.heap.size w w1) (hk : k < rows.length) (hB : B ≤ w.heap.size) (hu : Own w1 w.heap.size w1.heap.size 3 u (iv r)) :
    GridA (w1.setCell ⟨g, k, none⟩ u) B (.slice (some ⟨g, 0, none⟩) rows.length c0) (RV.set k u) (rows.set k r) := by
  have hz : (w1.setCell ⟨g, k, none⟩ u).heap.size = w1.heap.size := by simp [World.setCell]
  have G1 := (h.grid.below hb).more hb.size
  have P := G1.put hk (own_lo hu hB)
  have hl := h.grid.2.1
  refine ⟨by rw [hz]; exact P, fun i j x y hij h1 h2 => ?_⟩
  by_cases ej : j = k
  · subst ej
    rw [List.getElem?_set_self (by omega)] at h2
    cases h2
    rw [List.getElem?_set_ne (by omega)] at h1
    by_cases hn : x.ownBlock = none
    · exact .inl hn
    · right
      intro e
      obtain ⟨q, hq⟩ := Option.ne_none_iff_exists'.1 hn
      have hi : i < rows.length := by
        have := (List.getElem?_eq_some_iff.1 h1).1
        omega
      have l1 := (h.grid.2.2 i x rows[i] h1 (List.getElem?_eq_getElem hi)).2 q hq
      have l2 := (hu.1.lt q (by rw [← e]; exact hq)).1
      omega
  · rw [List.getElem?_set_ne (Ne.symm ej)] at h2
    by_cases ei : i = k
    · subst ei
      rw [List.getElem?_set_self (by omega)] at h1
      cases h1
      by_cases hn : u.ownBlock = none
      · exact .inl hn
      · right
        intro e
        obtain ⟨q, hq⟩ := Option.ne_none_iff_exists'.1 hn
        have hj : j < rows.length := by
          have := (List.getElem?_eq_some_iff.1 h2).1
          omega
        have l1 := (h.grid.2.2 j y rows[j] h2 (List.getElem?_eq_getElem hj)).2 q (by rw [← e]; exact hq)
        have l2 := (hu.1.lt q hq).1
        omega
    · rw [List.getElem?_set_ne (Ne.symm ei)] at h1
      exact h.dist i j x y hij h1 h2
/-- a cell of one of the rows -/
theorem GridA.at2 {w : World} {B n i j : Nat} {v : Value} {RV : List Value} {M : Nat → Nat → Int} (h : GridA w B v RV (gridM n n M)) (hi : i < n) (hj : j < n) :
    ∃ G c gi ci, v = .slice (some ⟨G, 0, none⟩) n c ∧ RV[i]? = some (.slice (some ⟨gi, 0, none⟩) n ci) ∧ w.cell? ⟨G, i, none⟩ = some (.slice (some ⟨gi, 0, none⟩) n ci) ∧ w.cell? ⟨gi, j, none⟩ = some (.int .i64 (M i j)) ∧ w.frozen? ⟨gi, j, none⟩ = false ∧ B ≤ gi ∧ gi < w.heap.size ∧ B ≤ G ∧ G < w.heap.size := by
  obtain ⟨hO, hl, hr⟩ := h.grid
  rw [gridM_length] at hl
  obtain ⟨G, c, e1, hB, h2, c1, _⟩ := hO.cell i (by omega)
  rw [hl] at e1
  have hk' : i < RV.length := by omega
  have ho := hr i _ _ (List.getElem?_eq_getElem hk') (gridM_at n M hi)
  have hlen : (iv ((List.range n).map fun j => M i j)).length = n := by simp [iv]
  obtain ⟨gi, ci, e2, hB2, h3, c2, f2⟩ := ho.cell j (by rw [hlen]; exact hj)
  rw [hlen] at e2
  refine ⟨G, c, gi, ci, e1, by rw [List.getElem?_eq_getElem hk', e2], by rw [c1, List.getElem?_eq_getElem hk', e2], ?_, f2, hB2, h3, hB, h2⟩
  rw [c2]
  simp [iv, hj]
theorem GridA.set2 {w : World} {B n i j gi l c : Nat} {x : Int} {v : Value} {RV : List Value} {M : Nat → Nat → Int} (h : GridA w B v RV (gridM n n M)) (hu : RV[i]? = some (.slice (some ⟨gi, 0, none⟩) l c)) (hi : i < n) :
    GridA (w.setCell ⟨gi, j, none⟩ (.int .i64 x)) B v RV (gridM n n (setM M i j x)) := by
  have e := h.setAt (j := j) (x := x) hu (by rw [gridM_length]; exact hi)
  have g : (gridM n n M)[i]'(by rw [gridM_length]; exact hi) = (List.range n).map fun j => M i j := by
    have := gridM_at (n := n) n M hi
    rw [List.getElem?_eq_getElem (by rw [gridM_length]; exact hi)] at this
    exact Option.some.inj this
  rw [g, gridM_set] at e
  exact e
end Go.Proofs.Ythlboikljibohaa
