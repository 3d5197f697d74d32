/-
  The tree of a number, and its text and maps, of any rows.
-/
import Derived.Test.YthlboikljibohaaZQ
import Derived.Test.YthlboikljibohaaZK
import Derived.Test.YthlboikljibohaaWCodeF
import Derived.Test.YthlboikljibohaaCFreeO
namespace Go.Proofs.Ythlboikljibohaa
open Go.RowKit

theorem shp_out {N : Nat} (h1 : 1 ≤ N) (h7 : N ≤ 7) (w : Nat) : treeB (N : Int) (treeOut (N : Int) (intsB (codeD N w))) = true ∧ edgesR (treeOut (N : Int) (intsB (codeD N w))) = treeN N (codeD N w) := by
  have hl : (codeD N w).length = N - 2 := codeK_len _ _ _
  have hc : codeB (N : Int) (intsB (codeD N w)) = true := by
    refine codeB_iff.2 ⟨fun x hx => ?_, by omega, ?_⟩
    · obtain ⟨y, hy, rfl⟩ := List.mem_map.1 hx
      have := codeD_lt (n := N) (w := w) (by omega) y hy
      omega
    · unfold intsB; rw [List.length_map, hl]; omega
  have hu : codeU (intsB (codeD N w)) = codeD N w := codeU_cast _
  have ht : treeOut (N : Int) (intsB (codeD N w)) = rowsE (treeN N (codeD N w)) := by
    unfold treeOut
    rw [if_pos hc, hu]; rfl
  rw [ht, edges_rows]
  refine ⟨?_, rfl⟩
  refine treeB_iff.2 ⟨by omega, by rw [edges_rows], ?_⟩
  rw [edges_rows, Int.toNat_natCast]
  by_cases h2 : 2 ≤ N
  · exact (code_tree (by omega) (codeD_lt (by omega))).1
  · obtain rfl : N = 1 := by omega
    have e : codeD 1 w = [] := List.eq_nil_of_length_eq_zero hl
    rw [e, show treeN 1 [] = [] by decide +kernel]
    refine ⟨rfl, (fun e he => by cases he), List.Pairwise.nil, fun v hv => ?_⟩
    obtain rfl : v = 0 := by omega
    exact Reach.refl 0
theorem shp_free {N : Nat} (h1 : 1 ≤ N) (h7 : N ≤ 7) (w : Nat) : freeOut (N : Int) (treeOut (N : Int) (intsB (codeD N w))) = freeT N (treeN N (codeD N w)) := by
  obtain ⟨a, b⟩ := shp_out h1 h7 w
  unfold freeOut
  rw [if_pos a, b]; rfl
theorem shp_maps {N : Nat} (h1 : 1 ≤ N) (h7 : N ≤ 7) (w : Nat) : mapsOut (N : Int) (treeOut (N : Int) (intsB (codeD N w))) = (mapsN N (treeN N (codeD N w)) : Int) := by
  obtain ⟨a, b⟩ := shp_out h1 h7 w
  obtain ⟨_, _, hv⟩ := treeB_iff.1 a
  rw [b, Int.toNat_natCast] at hv
  have := maps_pos hv h7
  unfold mapsOut
  rw [if_pos a, b, Int.toNat_natCast, IntKind.wrap_i64]; omega
theorem shapesT_len (N : Nat) : (shapesT N).length = N ^ (N - 2) := by simp [shapesT]
theorem shapesT_at {N w : Nat} (h1 : 1 ≤ N) (h7 : N ≤ 7) (hw : w < (shapesT N).length) : (shapesT N)[w] = freeOut (N : Int) (treeOut (N : Int) (intsB (codeD N w))) := by
  rw [shp_free h1 h7]
  simp [shapesT]
end Go.Proofs.Ythlboikljibohaa
