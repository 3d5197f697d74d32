/-
  The contract of the model's function that tells whether edges are a tree.
-/
import Derived.Test.YthlboikljibohaaGreatZH
import Derived.Test.YthlboikljibohaaGreatZV
namespace Go.Proofs.YthlboikljibohaaGreat
open Go.RowKit

theorem inR (x lo hi : Int) (w : World) {b : Bool} (hb : Hid (decide (lo ≤ x ∧ x ≤ hi) = b)) (z : Nat) :
    Calls Tryz.prog 21 #[.int .i64 x, .int .i64 lo, .int .i64 hi] (w.drewN z) fun e w' => e = .returned (.bool b) ∧ ∃ q, w' = (w.drewN z).drewN q := by
  by_cases h : lo ≤ x ∧ x ≤ hi
  · have e : b = true := by rw [← hb.out]; exact decide_eq_true h
    rw [e]
    refine (inRange_yes x lo hi _ h.1 h.2).mono ?_
    rintro e w' ⟨rfl, rfl⟩
    exact ⟨rfl, 0, rfl⟩
  · have e : b = false := by rw [← hb.out]; exact decide_eq_false h
    rw [e]
    refine (inRange_no x lo hi _ (by omega)).mono ?_
    rintro e w' ⟨rfl, rfl⟩
    exact ⟨rfl, 0, rfl⟩
/-- a row of two numbers, where it lies -/
theorem pair_at {w : World} {B H k : Nat} {av : Option Addr} {cv : Nat} {RV : List Value} {rows : List (List Int)} {a b : Int} (hG : Grid w B H (.slice av rows.length cv) RV rows) (hk : k < rows.length) (hr : rows[k] = [a, b]) :
    ∃ ga gr cr, av = some ⟨ga, 0, none⟩ ∧ 2 ≤ cr ∧ w.cell? ⟨ga, k, none⟩ = some (.slice (some ⟨gr, 0, none⟩) 2 cr) ∧ w.cell? ⟨gr, 0, none⟩ = some (.int .i64 a) ∧ w.cell? ⟨gr, 1, none⟩ = some (.int .i64 b) := by
  have h1 := hG.1
  have h2 := hG.2
  have hl := h2.1
  rw [← hl] at h1
  obtain ⟨ga, e1, _, _, hc, _⟩ := h1.at_ k (by rw [hl]; exact hk)
  obtain ⟨u, hu, ho⟩ := h2.at_ k hk
  rw [hr] at ho
  obtain ⟨au, cu, rfl, _, hcu, _, _⟩ := ho.slice
  rw [iv_length] at ho hcu hu
  obtain ⟨gr, rfl, _, _, c0, _⟩ := ho.at_ 0 (by rw [iv_length]; simp)
  obtain ⟨gr', e5, _, _, c1, _⟩ := ho.at_ 1 (by rw [iv_length]; simp)
  cases e5
  rw [hu] at hc
  exact ⟨ga, gr, cu, e1, hcu, hc, c0, c1⟩
theorem row_len {w : World} {B H k : Nat} {av : Option Addr} {cv : Nat} {RV : List Value} {rows : List (List Int)} (hG : Grid w B H (.slice av rows.length cv) RV rows) (hk : k < rows.length) :
    ∃ ga au cu, av = some ⟨ga, 0, none⟩ ∧ rows[k].length ≤ cu ∧ cu ≤ maxLen ∧ w.cell? ⟨ga, k, none⟩ = some (.slice au rows[k].length cu) := by
  have h1 := hG.1
  have h2 := hG.2
  have hl := h2.1
  rw [← hl] at h1
  obtain ⟨ga, e1, _, _, hc, _⟩ := h1.at_ k (by rw [hl]; exact hk)
  obtain ⟨u, hu, ho⟩ := h2.at_ k hk
  obtain ⟨au, cu, rfl, _, hcu, hcm, _⟩ := ho.slice
  rw [iv_length] at hcu hu
  rw [hu] at hc
  exact ⟨ga, au, cu, e1, hcu, hcm, hc⟩
theorem tree_no {n : Int} {rows : List (List Int)} {k : Nat} (hk : k < rows.length) (h : okAt n rows k = false) : treeB n rows = false := by
  unfold treeB
  rw [okUp_no h hk]; simp
theorem tree_range {n : Int} {rows : List (List Int)} (h : ¬ (1 ≤ n ∧ n ≤ 7)) : treeB n rows = false := by
  unfold treeB
  rw [decide_eq_false h]; simp
theorem tree_len {n : Int} {rows : List (List Int)} (h : ¬ ((rows.length : Int) = n - 1)) : treeB n rows = false := by
  unfold treeB
  rw [decide_eq_false h]; simp
theorem below_drewR (w : World) (q : Nat) : Below w.heap.size w (w.drewN q) := ⟨rfl, rfl, rfl, Nat.le_refl _, fun _ _ => rfl⟩
theorem getD_at {rows : List (List Int)} {k : Nat} (hk : k < rows.length) : rows.getD k [] = rows[k] := by rw [List.getD_eq_getElem?_getD, List.getElem?_eq_getElem hk]; rfl

end Go.Proofs.YthlboikljibohaaGreat
