/-
  What the laws on texts of trees and on centers ask of the plain functions.
-/
import Derived.Test.YtmoelhaobnloaaaCFreeO
import Derived.Deep.QuietTactic
import Derived.BigQuiet
namespace Go.Proofs.Ytmoelhaobnloaaa
open Go.RowKit

theorem leT_refl (x : List UInt8) : leT x x = true := by unfold leT; rw [less_self]; rfl
theorem minT_le (x a : List UInt8) : leT (minT x a) x = true ∧ leT (minT x a) a = true := by
  unfold minT
  by_cases h : lessL a x = true
  · rw [if_pos h]
    refine ⟨?_, leT_refl a⟩
    rcases leT_total a x with k | k
    · exact k
    · unfold leT at k; rw [h] at k; cases k
  · rw [if_neg h]
    refine ⟨leT_refl x, ?_⟩
    unfold leT
    simpa using h
theorem leastT_le (L : List (List UInt8)) : ∀ x ∈ L, lessL x (leastT L) = false := by
  have key : ∀ (r : List (List UInt8)) (x : List UInt8), ∀ y ∈ x :: r, leT (r.foldl minT x) y = true := by
    intro r
    induction r with
    | nil => intro x y hy; simp at hy; rw [hy]; exact leT_refl x
    | cons a r ih =>
      intro x y hy
      rw [List.foldl_cons]
      have h0 := ih (minT x a) (minT x a) (by simp)
      have h1 := minT_le x a
      rcases List.mem_cons.1 hy with e | hy
      · rw [e]; exact leT_trans h0 h1.1
      · rcases List.mem_cons.1 hy with e | hy
        · rw [e]; exact leT_trans h0 h1.2
        · exact ih (minT x a) y (List.mem_cons_of_mem _ hy)
  intro x hx
  cases L with
  | nil => simp at hx
  | cons a r =>
    have := key r a x hx
    unfold leT at this
    simpa [leastT] using this
theorem freeL_facts {n : Int} {rows : List (List Int)} (h : freeOut n rows ≠ []) : ∃ C : List Nat, centsOut n rows = intsN C ∧ C.length ≤ 2 ∧ C ≠ [] ∧ freeOut n rows = leastT (C.map fun (c : Nat) => rootOut n rows (c : Int)) := by
  have ht : treeB n rows = true := by
    cases ht : treeB n rows with
    | true => rfl
    | false => exfalso; apply h; unfold freeOut; rw [if_neg (by rw [ht]; decide)]
  obtain ⟨h1, _, h3⟩ := treeB_iff.1 ht
  have hc := cents_two h3 (by omega)
  refine ⟨cents n.toNat (edgesR rows), by unfold centsOut; rw [if_pos ht], ?_, ?_, ?_⟩
  · rcases hc with ⟨a, e, _⟩ | ⟨a, b, e, _⟩ <;> (rw [e]; simp)
  · rcases hc with ⟨a, e, _⟩ | ⟨a, b, e, _⟩ <;> (rw [e]; simp)
  · unfold freeOut
    rw [if_pos ht, freeT_eq]
    congr 1
    apply List.map_congr_left
    intro c hcm
    have hcn : c < n.toNat := by
      rcases hc with ⟨a, e, h1⟩ | ⟨a, b, e, h1, h2, _⟩
      · rw [e] at hcm; simp at hcm; omega
      · rw [e] at hcm; simp at hcm; omega
    unfold rootOut
    rw [if_pos ⟨ht, by omega, by omega⟩, Int.toNat_natCast]
theorem take_mem_next {M : List (List UInt8)} {k : Nat} (hk : k < M.length) (x : List UInt8) : decide (x ∈ M.take (k + 1)) = (decide (x ∈ M.take k) || decide (M[k] = x)) := by
  rw [List.take_succ_eq_append_getElem hk, Bool.eq_iff_iff, Bool.or_eq_true, decide_eq_true_eq, decide_eq_true_eq, decide_eq_true_eq, List.mem_append, List.mem_singleton]
  constructor
  · rintro (h | h)
    · exact .inl h
    · exact .inr h.symm
  · rintro (h | h)
    · exact .inl h
    · exact .inr h.symm
/-- two centers are an edge, as the rows have it -/
theorem centsL_facts {n : Int} {rows : List (List Int)} (h : 0 < (centsOut n rows).length) : (centsOut n rows).length = 1 ∨ ∃ a b : Int, centsOut n rows = [a, b] ∧ [a, b] ∈ rows ∧ ∀ r ∈ rows, ∃ x y : Int, r = [x, y] := by
  have ht : treeB n rows = true := by
    cases ht : treeB n rows with
    | true => rfl
    | false => exfalso; unfold centsOut at h; rw [if_neg (by rw [ht]; decide)] at h; simp at h
  obtain ⟨h1, h2, h3⟩ := treeB_iff.1 ht
  have hc := cents_two h3 (by omega)
  have hco : centsOut n rows = intsN (cents n.toNat (edgesR rows)) := by unfold centsOut; rw [if_pos ht]
  rcases hc with ⟨a, e, _⟩ | ⟨a, b, e, _, _, hE⟩
  · left; rw [hco, e]; rfl
  · right
    refine ⟨a, b, by rw [hco, e]; rfl, ?_, ?_⟩
    · rw [h2]
      unfold rowsE
      exact List.mem_map.2 ⟨(a, b), hE, rfl⟩
    · intro r hr
      rw [h2] at hr
      unfold rowsE at hr
      obtain ⟨e, _, rfl⟩ := List.mem_map.1 hr
      exact ⟨_, _, rfl⟩
end Go.Proofs.Ytmoelhaobnloaaa
