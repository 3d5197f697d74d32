/-
  Plain facts for the program's rows and heaps: numbers that are all there are a row; the place of the least number; products.
-/
import Derived.Test.YtmlcbeekimiaiaaWHeap
import Derived.Lib.Slices
namespace Go.Proofs.Ytmlcbeekimiaiaa

theorem perm_full : ∀ {L l : List Int}, L.Nodup → (∀ x ∈ L, x ∈ l) → l.length ≤ L.length → L.Perm l := by
  intro L
  induction L with
  | nil =>
    intro l _ _ hl
    obtain rfl : l = [] := List.eq_nil_of_length_eq_zero (by simpa using hl)
    exact List.Perm.refl _
  | cons a L ih =>
    intro l hn hs hl
    rw [List.nodup_cons] at hn
    obtain ⟨s, t, rfl⟩ := List.append_of_mem (hs a (List.mem_cons_self ..))
    have h1 : L.Perm (s ++ t) := by
      refine ih hn.2 (fun x hx => ?_) (by simp only [List.length_append, List.length_cons] at hl ⊢; omega)
      have := hs x (List.mem_cons_of_mem _ hx)
      rcases List.mem_append.mp this with h | h
      · exact List.mem_append_left _ h
      · rcases List.mem_cons.mp h with h | h
        · subst h; exact absurd hx hn.1
        · exact List.mem_append_right _ h
    exact (h1.cons a).trans List.perm_middle.symm
def rangeI (n : Nat) : List Int := (List.range n).map fun (i : Nat) => (i : Int)
theorem rangeI_length (n : Nat) : (rangeI n).length = n := by simp [rangeI]
theorem rangeI_mem (n : Nat) (x : Int) : x ∈ rangeI n ↔ 0 ≤ x ∧ x < n := by
  rw [rangeI, List.mem_map]
  constructor
  · rintro ⟨i, hi, rfl⟩
    have := List.mem_range.mp hi
    omega
  · intro h
    exact ⟨x.toNat, List.mem_range.mpr (by omega), by omega⟩
theorem rangeI_nodup (n : Nat) : (rangeI n).Nodup := by
  rw [rangeI, List.Nodup, List.pairwise_map]
  exact (List.nodup_range (n := n)).imp fun h e => h (by omega)
/-- numbers are a row just if each number that is to be there is there -/
theorem row_all {l : List Int} (h8 : l.length ≤ 8) (h : ∀ j : Nat, j < l.length → (j : Int) ∈ l) : rowB l = true := by
  have hp : (rangeI l.length).Perm l := perm_full (rangeI_nodup _) (fun x hx => by
    have hx := (rangeI_mem _ _).mp hx
    have := h x.toNat (by omega)
    rwa [show ((x.toNat : Nat) : Int) = x by omega] at this) (by rw [rangeI_length]; exact Nat.le_refl _)
  refine (rowB_iff l).mpr ⟨h8, fun x hx => (rangeI_mem _ _).mp ((hp.mem_iff).mpr hx), (hp.nodup_iff).mp (rangeI_nodup _)⟩
theorem row_lacks {l : List Int} {j : Nat} (hj : j < l.length) (h : (j : Int) ∉ l) : rowB l = false := by
  cases hr : rowB l with
  | false => rfl
  | true =>
    obtain ⟨_, h2, h3⟩ := (rowB_iff l).mp hr
    have hp := perm_full (l := rangeI l.length) h3 (fun x hx => (rangeI_mem _ _).mpr (h2 x hx)) (by rw [rangeI_length]; exact Nat.le_refl _)
    exact absurd ((hp.mem_iff).mpr ((rangeI_mem _ _).mpr ⟨by omega, by omega⟩)) h
theorem row_long {l : List Int} (h : ¬ l.length ≤ 8) : rowB l = false := by
  cases hr : rowB l with
  | false => rfl
  | true => exact absurd ((rowB_iff l).mp hr).1 h
/-- no number ahead of the least one is as small -/
theorem atL_first (l : List Int) : ∀ k, ∀ j, j < atL l k → l.getD (atL l k) 0 < l.getD j 0 := by
  intro k
  induction k with
  | zero => intro j hj; rw [atL] at hj; omega
  | succ k ih =>
    intro j hj
    rw [atL] at hj ⊢
    by_cases h : l.getD k 0 < l.getD (atL l k) 0
    · rw [if_pos h] at hj ⊢
      have := atL_le l k j hj
      omega
    · rw [if_neg h] at hj ⊢
      exact ih j hj
theorem minOf_atL (l : List Int) : ∀ k, 0 < k → k ≤ l.length → Lib.minOf (l.take k) = l.getD (atL l k) 0 := by
  intro k
  induction k with
  | zero => intro h; omega
  | succ k ih =>
    intro _ hk
    by_cases h0 : k = 0
    · subst h0
      rw [Lib.minOf_one, atL]
      split <;> rfl
    · rw [Lib.minOf_step l k (by omega) (by omega), ih (by omega) (by omega), atL]
      split <;> omega
theorem idx_least {l : List Int} (h : l ≠ []) : Lib.idxOf l (Lib.minOf l) = (leastA l : Int) := by
  have h1 := minOf_atL l l.length (List.length_pos_iff.mpr h) (Nat.le_refl _)
  rw [List.take_length] at h1
  have h2 := Lib.idxOf_hit l l.length (leastA l) (Lib.minOf l) (Tw.leastA_lt h) (Nat.le_refl _) h1.symm (fun j hj e => by
    have := atL_first l l.length j hj
    rw [h1] at e
    omega)
  rwa [List.take_length] at h2
/-- the product of numbers -/
def prodN : List Nat → Nat
  | [] => 1
  | x :: r => x * prodN r
theorem prodN_append (a b : List Nat) : prodN (a ++ b) = prodN a * prodN b := by
  induction a with
  | nil => simp [prodN]
  | cons x r ih => rw [List.cons_append, prodN, prodN, ih, Nat.mul_assoc]
/-- so many numbers from one on -/
def betN (lo n : Nat) : List Nat := (List.range n).map (lo + ·)
theorem betN_length (lo n : Nat) : (betN lo n).length = n := by simp [betN]
theorem betN_next (lo n : Nat) : betN lo (n + 1) = betN lo n ++ [lo + n] := by simp [betN, List.range_succ]
theorem prod_fct : ∀ n, n ≤ 8 → prodN (betN 1 n) = fct n := by decide
theorem prod_chs : ∀ n, n ≤ 7 → ∀ k, k ≤ n → prodN (betN (n - k + 1) k) / prodN (betN 1 k) = chs n k := by decide
theorem prod_small : ∀ n, n ≤ 8 → ∀ k, k ≤ n → prodN (betN (n - k + 1) k) ≤ 40320 := by decide
theorem prod_pos : ∀ k, k ≤ 8 → 0 < prodN (betN 1 k) ∧ prodN (betN 1 k) ≤ 40320 := by decide
namespace Tw
/-- the sizes of all nodes' parts -/
def hkl : Tw → List Nat
  | e => []
  | n a b => (a.size + 1 + b.size) :: (hkl a ++ hkl b)
theorem hkl_length : ∀ t : Tw, (hkl t).length = t.size
  | e => rfl
  | n a b => by rw [hkl, List.length_cons, List.length_append, hkl_length a, hkl_length b, size]; omega
theorem hkl_prod : ∀ t : Tw, prodN (hkl t) = t.hooks
  | e => rfl
  | n a b => by rw [hkl, prodN, prodN_append, hkl_prod a, hkl_prod b, hooks, show a.size + 1 + b.size = a.size + b.size + 1 by omega]
end Tw
end Go.Proofs.Ytmlcbeekimiaiaa
