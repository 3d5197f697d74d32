/-
  What the law on leaves of texts of trees asks of the plain functions.
-/
import Derived.Test.YthlboikljibohaaZR
import Derived.Test.YthlboikljibohaaWLeafL
namespace Go.Proofs.Ythlboikljibohaa
open Go.RowKit

theorem leafL_facts {n r : Int} {rows : List (List Int)} (h : rootOut n rows r ≠ []) : ∃ (N u : Nat) (d : Nat → Nat), n = N ∧ r = u ∧ u < N ∧ 1 ≤ N ∧ N ≤ 7 ∧ valid (rootOut n rows r) = true ∧ leavesL (rootOut n rows r) = max ((List.range N).countP fun v => decide (v ≠ u) && decide (d v = 1)) 1 ∧ (rootOut n rows r).length = 2 * N ∧ degOut n rows = (List.range N).map (fun v => (d v : Int)) := by
  have hb : treeB n rows = true ∧ 0 ≤ r ∧ r < n := by
    apply Classical.byContradiction
    intro hn
    apply h
    unfold rootOut
    rw [if_neg hn]
  obtain ⟨ht, hr0, hrn⟩ := hb
  obtain ⟨h1, _, h3⟩ := treeB_iff.1 ht
  have hro : rootOut n rows r = txt (edgesR rows) 14 r.toNat (-1) := by unfold rootOut; rw [if_pos ⟨ht, hr0, hrn⟩]
  have hun : r.toNat < n.toNat := by omega
  obtain ⟨N, u, g, D, e1, e2, e3, e4, e5, e6, _, e8, _, _, _, _, _⟩ := rootL_facts h
  have hN : N = n.toNat := by omega
  have hu : u = r.toNat := by omega
  subst hN hu
  refine ⟨n.toNat, r.toNat, deg (edgesR rows), e1, e2, e3, e4, e5, e6, ?_, e8, ?_⟩
  · rw [hro]; exact root_leaves h3 (by omega) hun
  · unfold degOut; rw [if_pos ht, List.map_map]; rfl
theorem other_next (_N : Nat) (u : Nat) (d : Nat → Nat) (k : Nat) : ((List.range (k + 1)).countP fun v => decide (v ≠ u) && decide (d v = 1)) = ((List.range k).countP fun v => decide (v ≠ u) && decide (d v = 1)) + (if k ≠ u ∧ d k = 1 then 1 else 0) := by
  rw [List.range_succ, List.countP_append, List.countP_singleton]
  congr 1
  by_cases h1 : k = u <;> by_cases h2 : d k = 1 <;> simp [h1, h2]
end Go.Proofs.Ythlboikljibohaa
