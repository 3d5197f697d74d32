/-
  The tree of a number, and its text and maps, of any rows.
  The contract of the laws' factorial.
-/
import Derived.Test.YthlboikljibohaaGreatZQ
import Derived.Test.YthlboikljibohaaGreatZK
import Derived.Test.YthlboikljibohaaGreatWCodeF
import Derived.Test.YthlboikljibohaaGreatCFreeO
import Derived.Test.YthlboikljibohaaGreatCInts
namespace Go.Proofs.YthlboikljibohaaGreat
open Go.RowKit

theorem shp_out {N : Nat} (h1 : 1 ≤ N) (h7 : N ≤ 7) (w : Nat) : treeB (N : Int) (treeOut (N : Int) (intsB (codeD N w))) = true ∧ edgesR (treeOut (N : Int) (intsB (codeD N w))) = treeN N (codeD N w) := by
  have hl : (codeD N w).length = N - 2 := codeK_len _ _ _
  have hc : codeB (N : Int) (intsB (codeD N w)) = true := by
    refine codeB_iff.2 ⟨fun x hx => ?_, by omega, ?_⟩
    · obtain ⟨y, hy, rfl⟩ := List.mem_map.1 hx
      have := codeD_lt (n := N) (w := w) (by omega) y hy
      omega
    · unfold intsB; rw [List.length_map, hl]; omega
  have hu : codeU (intsB (codeD N w)) = codeD N w := codeU_cast _
  have ht : treeOut (N : Int) (intsB (codeD N w)) = rowsE (treeN N (codeD N w)) := by
    unfold treeOut
    rw [if_pos hc, hu]; rfl
  rw [ht, edges_rows]
  refine ⟨?_, rfl⟩
  refine treeB_iff.2 ⟨by omega, by rw [edges_rows], ?_⟩
  rw [edges_rows, Int.toNat_natCast]
  by_cases h2 : 2 ≤ N
  · exact (code_tree (by omega) (codeD_lt (by omega))).1
  · obtain rfl : N = 1 := by omega
    have e : codeD 1 w = [] := List.eq_nil_of_length_eq_zero hl
    rw [e, show treeN 1 [] = [] by decide +kernel]
    refine ⟨rfl, (fun e he => by cases he), List.Pairwise.nil, fun v hv => ?_⟩
    obtain rfl : v = 0 := by omega
    exact Reach.refl 0
theorem shp_free {N : Nat} (h1 : 1 ≤ N) (h7 : N ≤ 7) (w : Nat) : freeOut (N : Int) (treeOut (N : Int) (intsB (codeD N w))) = freeT N (treeN N (codeD N w)) := by
  obtain ⟨a, b⟩ := shp_out h1 h7 w
  unfold freeOut
  rw [if_pos a, b]; rfl
theorem shp_maps {N : Nat} (h1 : 1 ≤ N) (h7 : N ≤ 7) (w : Nat) : mapsOut (N : Int) (treeOut (N : Int) (intsB (codeD N w))) = (mapsN N (treeN N (codeD N w)) : Int) := by
  obtain ⟨a, b⟩ := shp_out h1 h7 w
  obtain ⟨_, _, hv⟩ := treeB_iff.1 a
  rw [b, Int.toNat_natCast] at hv
  have := maps_pos hv h7
  unfold mapsOut
  rw [if_pos a, b, Int.toNat_natCast, IntKind.wrap_i64]; omega
theorem shapesT_len (N : Nat) : (shapesT N).length = N ^ (N - 2) := by simp [shapesT]
theorem shapesT_at {N w : Nat} (h1 : 1 ≤ N) (h7 : N ≤ 7) (hw : w < (shapesT N).length) : (shapesT N)[w] = freeOut (N : Int) (treeOut (N : Int) (intsB (codeD N w))) := by
  rw [shp_free h1 h7]
  simp [shapesT]
end Go.Proofs.YthlboikljibohaaGreat

namespace Go.Proofs.YthlboikljibohaaGreat
open Go.RowKit

set_option maxHeartbeats 800000 in
theorem factorial_any (n : Nat) (w : World) (hn : n ≤ 7) :
    Calls Tryz.prog 14 #[.int .i64 (n : Int)] w fun e w' => e = .returned (.int .i64 ((fct n : Nat) : Int)) ∧ w = w' := by
  obtain ⟨r, hr⟩ : ∃ r : Nat, r = fct n := ⟨_, rfl⟩
  rw [← hr]
  have HR := Lib.hid hr
  clear hr
  go_enter Tryz.func14, Tryz.ntmps14
  go_wp2
  go_loop [3, 4] (fun out i => ∃ (k p : Nat), 1 ≤ k ∧ (k ≤ n ∨ k = 1) ∧ i = .int .i64 ((k + 1 : Nat) : Int) ∧ out = .int .i64 (p : Int) ∧ Hid (p = fct k)) (fun _ i => n + 1 - (intOf i).toNat)
  case atStart => exact ⟨1, 1, Nat.le_refl _, .inr rfl, rfl, rfl, rfl⟩
  case round =>
    obtain ⟨k, p, hk1, hk, rfl, rfl, HP⟩ := hrel
    obtain ⟨K, hK⟩ : ∃ K : Int, K = ((k + 1 : Nat) : Int) := ⟨_, rfl⟩
    rw [← hK]
    by_cases hlt : k < n
    · have b1 : K ≤ (n : Int) := by omega
      have hp : p ≤ 5040 := by rw [HP.out]; exact fct_le k (by omega)
      have hm : p * (k + 1) ≤ 5040 * 7 := Nat.mul_le_mul hp (by omega)
      have hmc : (p : Int) * K = ((p * (k + 1) : Nat) : Int) := by rw [hK]; push_cast; rfl
      have e1 : IntKind.i64.wrap ((p : Int) * K) = ((p * (k + 1) : Nat) : Int) := by rw [hmc, IntKind.wrap_i64]; omega
      have e2 : IntKind.i64.wrap (K + 1) = ((k + 1 + 1 : Nat) : Int) := by rw [IntKind.wrap_i64]; omega
      have HP2 : Hid (p * (k + 1) = fct (k + 1)) := by show _ = (k + 1) * fct k; rw [← HP.out, Nat.mul_comm]
      have HK := Lib.hid hK
      clear hp hm hmc HP hK
      go_wp2
      go_round
      case rel => exact ⟨k + 1, p * (k + 1), by omega, .inl (by omega), by first | rfl | rw [e2] | go_num, by first | rfl | rw [e1], HP2⟩
      case measure => have := HK.out; simp [intOf]; first | omega | (rw [e2]; simp [intOf]; omega)
    · have b1 : ¬ K ≤ (n : Int) := by omega
      have HF : Hid (p = fct n) := by
        show _ = _
        rw [HP.out]
        rcases hk with h | h
        · rw [show k = n by omega]
        · subst h
          obtain rfl | rfl : n = 0 ∨ n = 1 := by omega
          · rfl
          · rfl
      clear hK HP
      go_wp2
      go_ret
      exact ⟨by rw [HR.out, HF.out]; rfl, rfl⟩
end Go.Proofs.YthlboikljibohaaGreat
