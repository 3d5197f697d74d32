/-
  Plain facts: rows are gone through from a node on, in the order of their nodes. Nothing of the program is named here.
-/
import Derived.Test.YtpphilladlladaaWTreeB
namespace Go.Proofs.Ytpphilladlladaa

/-- how many nodes are met behind an arm x, if m were ahead of it; -1 if the rows do not fit -/
def rdL (rows : List (List Int)) (f m : Nat) (x : Int) : Int := if x = -1 then m else if x ≠ m then -1 else if szL rows f m < 0 then -1 else m + szL rows f m
theorem rdL_nil (rows : List (List Int)) (f m : Nat) : rdL rows f m (-1) = m := by rw [rdL, if_pos rfl]
theorem rdL_off {rows : List (List Int)} {f m : Nat} {x : Int} (h : x ≠ -1) (h2 : x ≠ m) : rdL rows f m x = -1 := by rw [rdL, if_neg h, if_pos h2]
theorem rdL_no {rows : List (List Int)} {f m : Nat} (h : rows.length ≤ m ∨ (rows.getD m []).length ≠ 2) : rdL rows f m m = -1 := by
  rw [rdL, if_neg (by omega), if_neg (by simp), szL_no _ _ _ h, if_pos (by decide)]
theorem rdL_le (rows : List (List Int)) (f m : Nat) (x : Int) (hm : m ≤ rows.length) (h : 0 ≤ rdL rows f m x) : (m : Int) ≤ rdL rows f m x ∧ rdL rows f m x ≤ rows.length := by
  unfold rdL at h ⊢
  have hs := szL_le rows f m
  split at h
  · rename_i e; rw [if_pos e]; omega
  · rename_i e
    split at h
    · omega
    · rename_i e2
      split at h
      · omega
      · rename_i e3
        rw [if_neg e, if_neg e2, if_neg e3]
        omega
theorem armN_rd (rows : List (List Int)) (f k n : Nat) (x : Int) : rdL rows f (k + n) x = if armN (szL rows f) k n x < 0 then -1 else k + armN (szL rows f) k n x := by
  unfold rdL armN
  by_cases h1 : x = -1
  · simp only [if_pos h1]
    rw [if_neg (by omega)]
    omega
  · simp only [if_neg h1]
    by_cases h2 : x = ((k + n : Nat) : Int)
    · have e : x.toNat = k + n := by omega
      have q1 : ¬ (x ≠ ((k + n : Nat) : Int)) := by omega
      have q2 : ¬ (x ≠ (k : Int) + (n : Int)) := by omega
      simp only [if_neg q1, if_neg q2, e]
      by_cases h3 : szL rows f (k + n) < 0
      · simp only [if_pos h3]; rfl
      · simp only [if_neg h3]
        rw [if_neg (by omega)]
        omega
    · have q1 : x ≠ ((k + n : Nat) : Int) := h2
      have q2 : x ≠ (k : Int) + (n : Int) := by omega
      simp only [if_pos q1, if_pos q2]
      rfl
theorem rdL_step {rows : List (List Int)} {f k : Nat} (h : k < rows.length) (h2 : (rows.getD k []).length = 2) :
    rdL rows (f + 1) k k = if rdL rows f (k + 1) (armA rows k) < 0 then -1 else rdL rows f (rdL rows f (k + 1) (armA rows k)).toNat (armB rows k) := by
  have e1 := armN_rd rows f k 1 (armA rows k)
  rw [rdL, if_neg (by omega), if_neg (by simp), szL_yes _ _ _ h h2, e1]
  by_cases h0 : armN (szL rows f) k 1 (armA rows k) < 0
  · have e0 : armN (szL rows f) k ((1 : Nat) : Int) (armA rows k) < 0 := h0
    rw [if_pos h0, if_pos (by decide), if_pos e0, if_pos (by decide)]
  · have e0 : ¬ armN (szL rows f) k ((1 : Nat) : Int) (armA rows k) < 0 := h0
    rw [if_neg h0, if_neg e0]
    obtain ⟨n, hn⟩ : ∃ n : Nat, armN (szL rows f) k 1 (armA rows k) = n := ⟨(armN (szL rows f) k 1 (armA rows k)).toNat, by omega⟩
    have hn' : armN (szL rows f) k ((1 : Nat) : Int) (armA rows k) = n := hn
    have e3 : ¬ ((k : Int) + (n : Int) < 0) := by omega
    have e2 : ((k : Int) + (n : Int)).toNat = k + n := by omega
    rw [hn, hn', if_neg e3, e2, armN_rd]
theorem rdL_top (rows : List (List Int)) (h9 : rows.length ≤ 9) (h0 : rows.length ≠ 0) : treeB rows = (decide (0 ≤ rdL rows 10 0 0) && decide ((rows.length : Int) ≤ rdL rows 10 0 0)) := by
  have e : treeB rows = (szL rows 10 0 == (rows.length : Int)) := by simp [treeB, h0, h9]; rfl
  have e2 : rdL rows 10 0 0 = if szL rows 10 0 < 0 then -1 else szL rows 10 0 := by
    have : rdL rows 10 0 ((0 : Nat) : Int) = if szL rows 10 0 < 0 then -1 else ((0 : Nat) : Int) + szL rows 10 0 := by
      rw [rdL, if_neg (by omega), if_neg (by simp)]
    simpa using this
  have hs := szL_le rows 10 0
  rw [e, e2]
  by_cases h : szL rows 10 0 < 0
  · rw [if_pos h]
    have : (szL rows 10 0 == (rows.length : Int)) = false := beq_eq_false_iff_ne.mpr (by omega)
    rw [this]; rfl
  · rw [if_neg h]
    by_cases h1 : szL rows 10 0 = rows.length
    · rw [h1]; simp
    · have : (szL rows 10 0 == (rows.length : Int)) = false := beq_eq_false_iff_ne.mpr h1
      rw [this, decide_eq_false (by omega : ¬ (rows.length : Int) ≤ szL rows 10 0), Bool.and_false]
end Go.Proofs.Ytpphilladlladaa
