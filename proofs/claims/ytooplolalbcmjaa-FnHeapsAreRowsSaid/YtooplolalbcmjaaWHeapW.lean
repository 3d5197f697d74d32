/-
  Plain facts: the heaps of all words of so many pairs, word by word. Nothing of the program is named here.
-/
import Derived.Test.YtooplolalbcmjaaWHeapT
import Derived.Test.YtooplolalbcmjaaWFall
namespace Go.Proofs.Ytooplolalbcmjaa

def heapJ (L : List (List UInt8)) (j : Nat) : Nat := Tw.heapsL 16 (L.getD j [])
theorem sumK_list (f : List UInt8 → Nat) : ∀ L : List (List UInt8), sumK (fun j => f (L.getD j [])) L.length = (L.map f).sum := by
  intro L
  induction L with
  | nil => rfl
  | cons a r ih => rw [List.length_cons, sumK_front, List.map_cons, List.sum_cons, ← ih]; rfl
theorem sumK_mono (f : Nat → Nat) (k : Nat) : ∀ d, sumK f k ≤ sumK f (k + d)
  | 0 => Nat.le_refl _
  | d + 1 => Nat.le_trans (sumK_mono f k d) (Nat.le_add_right _ _)
theorem heaps_all {q : Nat} (hq : q ≤ 6) : sumK (heapJ (wordsL (2 * q) [] 0 q)) (wordsL (2 * q) [] 0 q).length = fct q := by
  rw [← Tw.words_heaps q hq, ← sumK_list]; rfl
theorem heaps_upto {q k : Nat} (hq : q ≤ 6) (hk : k ≤ (wordsL (2 * q) [] 0 q).length) : sumK (heapJ (wordsL (2 * q) [] 0 q)) k ≤ 40320 := by
  have h := sumK_mono (heapJ (wordsL (2 * q) [] 0 q)) k ((wordsL (2 * q) [] 0 q).length - k)
  rw [show k + ((wordsL (2 * q) [] 0 q).length - k) = (wordsL (2 * q) [] 0 q).length by omega, heaps_all hq] at h
  exact Nat.le_trans h (fct_le8 q (by omega))
theorem word_fine {q j : Nat} (hq : q ≤ 6) (hj : j < (wordsL (2 * q) [] 0 q).length) : valid (wordsL (2 * q) [] 0 q)[j] = true ∧ (wordsL (2 * q) [] 0 q)[j].length = 2 * q := by
  have := List.all_eq_true.mp (Tw.words_fine q hq) _ (List.getElem_mem hj)
  rw [Bool.and_eq_true, decide_eq_true_eq] at this
  exact this
end Go.Proofs.Ytooplolalbcmjaa
