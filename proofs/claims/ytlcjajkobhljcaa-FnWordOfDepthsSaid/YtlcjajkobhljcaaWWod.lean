/-
  Plain facts on the word of a list of depths.
-/
import Derived.Test.YtlcjajkobhljcaaWords
namespace Go.Proofs.Ytlcjajkobhljcaa

theorem wodF_nil : wodF [] = some ([], 0) := rfl
theorem wodF_snoc (l : List Int) (x : Int) : wodF (l ++ [x]) = stepW (wodF l) x := by simp [wodF, List.foldl_append]
theorem wfold_none (l : List Int) : l.foldl stepW none = none := by
  induction l with
  | nil => rfl
  | cons c r ih => simpa [stepW] using ih
theorem wodF_take_none (l : List Int) (k : Nat) (h : wodF (l.take k) = none) : wodF l = none := by
  have e : l = l.take k ++ l.drop k := (List.take_append_drop k l).symm
  rw [e]
  show (l.take k ++ l.drop k).foldl stepW (some ([], 0)) = none
  rw [List.foldl_append]
  show (l.drop k).foldl stepW (wodF (l.take k)) = none
  rw [h, wfold_none]
theorem wodF_next (l : List Int) (k : Nat) (h : k < l.length) : wodF (l.take (k + 1)) = stepW (wodF (l.take k)) l[k] := by
  rw [List.take_succ_eq_append_getElem h, wodF_snoc]
theorem wfold_len (l : List Int) : ∀ (W V : List UInt8) (o p : Nat), l.foldl stepW (some (W, o)) = some (V, p) → V.length + p = W.length + o + 2 * l.length ∧ p ≤ o + l.length := by
  induction l with
  | nil => intro W V o p h; simp at h; obtain ⟨rfl, rfl⟩ := h; simp
  | cons c r ih =>
    intro W V o p h
    simp only [List.foldl_cons] at h
    by_cases hc : 0 ≤ c ∧ c ≤ o
    · rw [show stepW (some (W, o)) c = some (W ++ List.replicate (o - c.toNat) 41 ++ [40], c.toNat + 1) by simp only [stepW]; rw [if_pos hc]] at h
      have := ih _ _ _ _ h
      simp only [List.length_append, List.length_replicate, List.length_cons, List.length_nil] at this ⊢
      omega
    · rw [show stepW (some (W, o)) c = none by simp only [stepW]; rw [if_neg hc], wfold_none] at h; cases h
theorem wodF_len {l : List Int} {W : List UInt8} {o : Nat} (h : wodF l = some (W, o)) : W.length + o = 2 * l.length ∧ o ≤ l.length := by
  have := wfold_len l [] W 0 o h
  simp only [List.length_nil] at this
  omega
theorem wodF_good {l : List Int} {W : List UInt8} {o k y : Nat} (hk : k < l.length) (h : wodF (l.take k) = some (W, o)) (hy : l[k] = (y : Int)) (hyo : y ≤ o) :
    wodF (l.take (k + 1)) = some (W ++ List.replicate (o - y) 41 ++ [40], y + 1) := by
  rw [wodF_next l k hk, h]; simp only [stepW]; rw [if_pos (by rw [hy]; omega), hy]; rfl
theorem wodF_bad {l : List Int} {W : List UInt8} {o k : Nat} (hk : k < l.length) (h : wodF (l.take k) = some (W, o)) (hb : l[k] < 0 ∨ (o : Int) < l[k]) : wodF l = none := by
  apply wodF_take_none l (k + 1)
  rw [wodF_next l k hk, h]; simp only [stepW]; rw [if_neg (by omega)]
theorem wod_bad {l : List Int} (h : wodF l = none) : wod l = none := by unfold wod; rw [h]; split <;> rfl
theorem wod_long {l : List Int} (h : 9 < l.length) : wod l = none := by unfold wod; rw [if_neg (by omega)]
theorem wod_good {l : List Int} {W : List UInt8} {o : Nat} (hl : l.length ≤ 9) (h : wodF l = some (W, o)) : wod l = some (W ++ List.replicate o 41) := by
  unfold wod; rw [if_pos hl, h]; rfl

/-- the answer: the word, and whether there is one -/
def wodT (l : List Int) : ByteArray := match wod l with | some w => ⟨w.toArray⟩ | none => ⟨#[]⟩
def wodB (l : List Int) : Bool := (wod l).isSome
theorem wodT_none {l : List Int} (h : wod l = none) : wodT l = ⟨#[]⟩ := by unfold wodT; rw [h]
theorem wodB_none {l : List Int} (h : wod l = none) : wodB l = false := by unfold wodB; rw [h]; rfl
theorem wodT_some {l : List Int} {w : List UInt8} (h : wod l = some w) : wodT l = ⟨w.toArray⟩ := by unfold wodT; rw [h]
theorem wodB_some {l : List Int} {w : List UInt8} (h : wod l = some w) : wodB l = true := by unfold wodB; rw [h]; rfl
end Go.Proofs.Ytlcjajkobhljcaa
