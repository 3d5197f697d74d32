/-
  Plain facts: falls and rises of a row; when a row is one, number by number. Nothing of the program is named here.
-/
import Derived.Test.YtmlcbeekimiaiaaWHeap
namespace Go.Proofs.Ytmlcbeekimiaiaa

def sumK (f : Nat → Nat) : Nat → Nat
  | 0 => 0
  | k + 1 => sumK f k + f k
theorem sumK_congr {f g : Nat → Nat} : ∀ k, (∀ i, i < k → f i = g i) → sumK f k = sumK g k
  | 0, _ => rfl
  | k + 1, h => by rw [sumK, sumK, sumK_congr k (fun i hi => h i (by omega)), h k (by omega)]
theorem sumK_front (f : Nat → Nat) : ∀ k, sumK f (k + 1) = f 0 + sumK (fun i => f (i + 1)) k
  | 0 => by simp [sumK]
  | k + 1 => by rw [sumK, sumK_front f k, sumK]; omega
theorem sumK_back (f : Nat → Nat) : ∀ k, sumK (fun i => f (k - 1 - i)) k = sumK f k
  | 0 => rfl
  | k + 1 => by
    rw [sumK_front, sumK]
    have := sumK_back f k
    rw [← this, sumK_congr (g := fun i => f (k - 1 - i)) k (fun i hi => by show f (k + 1 - 1 - (i + 1)) = f (k - 1 - i); congr 1; omega)]
    show f (k + 1 - 1 - 0) + _ = _ + f k
    rw [Nat.add_comm]; rfl
theorem sumK_all {f g : Nat → Nat} : ∀ k, (∀ i, i < k → f i + g i = 1) → sumK f k + sumK g k = k
  | 0, _ => rfl
  | k + 1, h => by
    have h1 := sumK_all k (fun i hi => h i (by omega))
    have h2 := h k (by omega)
    rw [sumK, sumK]; omega
/-- a fall at the k-th step -/
def fallB (l : List Int) (k : Nat) : Nat := if l.getD (k + 1) 0 < l.getD k 0 then 1 else 0
/-- how many numbers are less than the one ahead of them -/
def fallsL (l : List Int) : Nat := sumK (fallB l) (l.length - 1)
theorem falls_le (l : List Int) : ∀ k, sumK (fallB l) k ≤ k
  | 0 => Nat.le_refl _
  | k + 1 => by
    have := falls_le l k
    have h : fallB l k ≤ 1 := by rw [fallB]; split <;> omega
    rw [sumK]; omega
theorem falls_back {l : List Int} (hn : l.Nodup) : fallsL l + fallsL l.reverse = l.length - 1 := by
  rw [fallsL, fallsL, List.length_reverse, ← sumK_back (fallB l.reverse)]
  refine sumK_all _ fun i hi => ?_
  have g : ∀ j, j < l.length → l.reverse.getD (l.length - 1 - j) 0 = l.getD j 0 := fun j hj => by
    rw [getD_at _ _ (by rw [List.length_reverse]; omega), getD_at _ _ hj, List.getElem_reverse]
    congr 1; omega
  show fallB l i + fallB l.reverse (l.length - 1 - 1 - i) = 1
  rw [fallB, fallB, show l.length - 1 - 1 - i = l.length - 1 - (i + 1) by omega, show l.length - 1 - (i + 1) + 1 = l.length - 1 - i by omega, g i (by omega), g (i + 1) (by omega), getD_at _ _ (by omega), getD_at _ _ (by omega)]
  have hne : l[i] ≠ l[i + 1] := fun e => by have := nodup_at hn i (i + 1) (by omega) (by omega) e; omega
  split <;> split <;> omega
/-- as far as k numbers are looked at, the row is one -/
def rowUp (l : List Int) (k : Nat) : Prop := ∀ (j : Nat) (hj : j < l.length), j < k → 0 ≤ l[j] ∧ l[j] < l.length ∧ l[j] ∉ l.take j
theorem rowUp_zero (l : List Int) : rowUp l 0 := fun _ _ h => absurd h (Nat.not_lt_zero _)
theorem rowUp_step {l : List Int} {k : Nat} (h : rowUp l k) (hk : k < l.length) (h1 : 0 ≤ l[k]) (h2 : l[k] < l.length) (h3 : l[k] ∉ l.take k) : rowUp l (k + 1) := fun j hj hjk => by
  by_cases e : j = k
  · subst e; exact ⟨h1, h2, h3⟩
  · exact h j hj (by omega)
theorem rowB_yes {l : List Int} (h8 : l.length ≤ 8) (h : rowUp l l.length) : rowB l = true := by
  rw [rowB_iff]
  refine ⟨h8, fun x hx => ?_, ?_⟩
  · obtain ⟨i, hi, rfl⟩ := List.getElem_of_mem hx
    exact ⟨(h i hi hi).1, (h i hi hi).2.1⟩
  · rw [List.Nodup, List.pairwise_iff_getElem]
    intro i j hi hj hij e
    refine (h j hj hj).2.2 (List.mem_iff_getElem.mpr ⟨i, by rw [List.length_take]; omega, ?_⟩)
    rw [List.getElem_take]; exact e
theorem rowB_long {l : List Int} (h8 : ¬ l.length ≤ 8) : rowB l = false := by
  rw [Bool.eq_false_iff]; exact fun h => h8 ((rowB_iff l).mp h).1
theorem rowB_off {l : List Int} {k : Nat} (hk : k < l.length) (h : ¬ (0 ≤ l[k] ∧ l[k] < l.length)) : rowB l = false := by
  rw [Bool.eq_false_iff]; exact fun h' => h (((rowB_iff l).mp h').2.1 _ (List.getElem_mem hk))
theorem rowB_twice {l : List Int} {k : Nat} (hk : k < l.length) (h : l[k] ∈ l.take k) : rowB l = false := by
  rw [Bool.eq_false_iff]
  intro h'
  have hn := ((rowB_iff l).mp h').2.2
  obtain ⟨i, hi, e⟩ := List.getElem_of_mem h
  rw [List.length_take] at hi
  rw [List.getElem_take] at e
  have := nodup_at hn i k (by omega) hk e
  omega
end Go.Proofs.Ytmlcbeekimiaiaa
