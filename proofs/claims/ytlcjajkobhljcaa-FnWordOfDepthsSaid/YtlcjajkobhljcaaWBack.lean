/-
  Plain facts: the word of a list of depths is a word, and its depths are the list.
-/
import Derived.Test.YtlcjajkobhljcaaWWod
namespace Go.Proofs.Ytlcjajkobhljcaa

theorem pops (W : List UInt8) (o : Nat) (h1 : scan W = some o) (h2 : (openP W).2.length = o) : ∀ n, n ≤ o →
    scan (W ++ List.replicate n 41) = some (o - n) ∧ (openP (W ++ List.replicate n 41)).2.length = o - n ∧ (openP (W ++ List.replicate n 41)).1 = (openP W).1 := by
  intro n
  induction n with
  | zero => intro _; simp [h1, h2]
  | succ n ih =>
    intro hn
    obtain ⟨a, b, c⟩ := ih (by omega)
    rw [List.replicate_succ', ← List.append_assoc]
    refine ⟨?_, ?_, ?_⟩
    · rw [scan_snoc, a]
      simp only [vstep]
      rw [if_neg (by decide), if_pos (by decide), if_neg (by omega)]
      congr 1
    · rw [openP_snoc, stepOP, if_pos (by decide), List.length_dropLast, b]; omega
    · rw [openP_snoc, stepOP, if_pos (by decide)]; exact c
theorem opens (W : List UInt8) (o : Nat) (h1 : scan W = some o) (h2 : (openP W).2.length = o) :
    scan (W ++ [40]) = some (o + 1) ∧ (openP (W ++ [40])).2.length = o + 1 ∧ depthsL (W ++ [40]) = depthsL W ++ [(o : Int)] := by
  refine ⟨?_, ?_, ?_⟩
  · rw [scan_snoc, h1]; simp only [vstep]; rw [if_pos (by decide)]
  · rw [openP_snoc, stepOP, if_neg (by decide), List.length_append, h2]; rfl
  · rw [depthsL, openP_snoc, stepOP, if_neg (by decide)]; simp [depthsL, h2]
theorem wod_fold (l : List Int) : ∀ (W V : List UInt8) (o p : Nat), l.foldl stepW (some (W, o)) = some (V, p) → scan W = some o → (openP W).2.length = o →
    scan V = some p ∧ (openP V).2.length = p ∧ depthsL V = depthsL W ++ l := by
  induction l with
  | nil => intro W V o p h h1 h2; simp at h; obtain ⟨rfl, rfl⟩ := h; exact ⟨h1, h2, by simp⟩
  | cons c r ih =>
    intro W V o p h h1 h2
    simp only [List.foldl_cons] at h
    by_cases hc : 0 ≤ c ∧ c ≤ o
    · rw [show stepW (some (W, o)) c = some (W ++ List.replicate (o - c.toNat) 41 ++ [40], c.toNat + 1) by simp only [stepW]; rw [if_pos hc]] at h
      obtain ⟨a1, a2, a3⟩ := pops W o h1 h2 (o - c.toNat) (by omega)
      rw [show o - (o - c.toNat) = c.toNat by omega] at a1 a2
      obtain ⟨b1, b2, b3⟩ := opens _ _ a1 a2
      obtain ⟨c1, c2, c3⟩ := ih _ _ _ _ h b1 b2
      refine ⟨c1, c2, ?_⟩
      rw [c3, b3, depthsL, a3, show ((c.toNat : Nat) : Int) = c by omega]
      simp [depthsL]
    · rw [show stepW (some (W, o)) c = none by simp only [stepW]; rw [if_neg hc], wfold_none] at h; cases h
theorem wod_back {l : List Int} {w : List UInt8} (h : wod l = some w) : valid w = true ∧ depthsL w = l := by
  unfold wod at h
  by_cases hl : l.length ≤ 9
  · rw [if_pos hl] at h
    cases hf : wodF l with
    | none => rw [hf] at h; cases h
    | some q =>
      obtain ⟨V, p⟩ := q
      rw [hf] at h
      have hlen := wodF_len hf
      obtain ⟨a, b, c⟩ := wod_fold l [] V 0 p hf rfl rfl
      obtain ⟨d1, d2, d3⟩ := pops V p a b p (Nat.le_refl _)
      have e : V ++ List.replicate p 41 = w := by simpa using h
      rw [e] at d1 d2 d3
      have hw : w.length = V.length + p := by rw [← e]; simp
      refine ⟨?_, ?_⟩
      · simp only [valid, Bool.and_eq_true, decide_eq_true_eq, beq_iff_eq]
        exact ⟨by omega, by rw [d1, Nat.sub_self]⟩
      · rw [depthsL, d3]
        have : depthsL V = [] ++ l := c
        simpa [depthsL] using this
  · rw [if_neg hl] at h; cases h
end Go.Proofs.Ytlcjajkobhljcaa
