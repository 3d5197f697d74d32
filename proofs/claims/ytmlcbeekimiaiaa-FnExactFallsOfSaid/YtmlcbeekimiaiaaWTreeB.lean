/-
  Plain facts: rows that are a tree are the rows of the word that they spell. Nothing of the program is named here.
-/
import Derived.Test.YtmlcbeekimiaiaaWTree
namespace Go.Proofs.Ytmlcbeekimiaiaa

theorem fold_lift : ∀ (A : List UInt8) (d e m : Nat), A.foldl vstep (some d) = some e → A.foldl vstep (some (d + m)) = some (e + m) := by
  intro A
  induction A with
  | nil => intro d e m h; simp at h ⊢; omega
  | cons c r ih =>
    intro d e m h
    simp only [List.foldl_cons] at h ⊢
    cases hv : vstep (some d) c with
    | none => rw [hv, fold_none] at h; cases h
    | some q =>
      rw [hv] at h
      rcases step_some hv with hc | ⟨hc, h0⟩
      · rw [step_opn d hc] at hv; cases hv
        rw [step_opn _ hc, show d + m + 1 = d + 1 + m by omega]
        exact ih _ _ m h
      · rw [step_cls hc h0] at hv; cases hv
        rw [step_cls hc (by omega), show d + m - 1 = d - 1 + m by omega]
        exact ih _ _ m h
theorem cl_over : ∀ (A rest : List UInt8) (d e : Nat), A.foldl vstep (some d) = some e → cl (d + 1) (A ++ rest) = A.length + cl (e + 1) rest := by
  intro A
  induction A with
  | nil => intro rest d e h; simp at h; subst h; simp
  | cons c r ih =>
    intro rest d e h
    simp only [List.foldl_cons] at h
    cases hv : vstep (some d) c with
    | none => rw [hv, fold_none] at h; cases h
    | some q =>
      rw [hv] at h
      rcases step_some hv with hc | ⟨hc, h0⟩
      · rw [step_opn d hc] at hv; cases hv
        rw [List.cons_append, cl_opn _ _ _ hc, ih rest _ _ h, List.length_cons]; omega
      · rw [step_cls hc h0] at hv; cases hv
        rw [List.cons_append, cl_cls _ _ _ (by omega) (by omega), show d + 1 - 1 = d - 1 + 1 by omega, ih rest _ _ h, List.length_cons]; omega
theorem pair_scan (A B : List UInt8) (hA : scan A = some 0) (hB : scan B = some 0) : scan (40 :: (A ++ 41 :: B)) = some 0 := by
  show (40 :: (A ++ 41 :: B)).foldl vstep (some 0) = some 0
  rw [List.foldl_cons, step_opn 0 (by decide), List.foldl_append, fold_lift A 0 0 (0 + 1) hA, List.foldl_cons, step_cls (by decide) (by omega)]
  exact hB
theorem pair_cl (A B : List UInt8) (hA : scan A = some 0) : cl 0 (40 :: (A ++ 41 :: B)) = A.length + 2 := by
  rw [cl_opn _ _ _ (by decide), cl_over A (41 :: B) 0 0 hA, cl_last _ _ _ (by decide) (by omega)]; omega
theorem pair_fst (A B : List UInt8) (hA : scan A = some 0) : fstL (40 :: (A ++ 41 :: B)) = A := by
  rw [fstL, pair_cl A B hA]; simp
theorem pair_rst (A B : List UInt8) (hA : scan A = some 0) : rstL (40 :: (A ++ 41 :: B)) = B := by
  rw [rstL, pair_cl A B hA, show A.length + 2 = (A.length + 1) + 1 by omega, List.drop_succ_cons]
  rw [List.drop_append, List.drop_of_length_le (by omega), show A.length + 1 - A.length = 1 by omega]; simp

theorem two_of {r : List Int} (h : r.length = 2) : r = [r.getD 0 (-1), r.getD 1 (-1)] := by
  match r, h with
  | [a, b], _ => rfl
/-- what one arm spells -/
theorem arm_tree (rows : List (List Int)) (f k : Nat) (ih : ∀ k, 0 ≤ szL rows f k → ∀ F, 2 * (szL rows f k).toNat ≤ F → scan (wobL rows f k) = some 0 ∧ (wobL rows f k).length = 2 * (szL rows f k).toNat ∧ binL F (wobL rows f k) k = (rows.drop k).take (szL rows f k).toNat)
    (n x : Int) (hn : 1 ≤ n) (h : 0 ≤ armN (szL rows f) k n x) : ∃ m : Nat, armN (szL rows f) k n x = n + m ∧ scan (wobL rows f x) = some 0 ∧ (wobL rows f x).length = 2 * m ∧
      (∀ F, 2 * m ≤ F → binL F (wobL rows f x) (k + n.toNat) = (rows.drop (k + n.toNat)).take m) ∧ x = if wobL rows f x = [] then -1 else k + n := by
  by_cases h1 : x = -1
  · subst h1
    have e : wobL rows f (-1) = [] := wobL_neg _ _ _ (by decide)
    rw [e, armN_no]
    exact ⟨0, by omega, rfl, rfl, fun F _ => by rw [binL_nil]; simp, by simp⟩
  · by_cases h2 : x = k + n
    · have e : x = ((k + n.toNat : Nat) : Int) := by omega
      by_cases h3 : szL rows f x.toNat < 0
      · rw [armN_bad _ _ _ _ h1 h2 h3] at h; omega
      · rw [armN_on _ _ _ _ h1 h2 h3]
        have ex : x.toNat = k + n.toNat := by omega
        rw [ex] at h3 ⊢
        have hle := (szL_le rows f (k + n.toNat)).2 (by omega)
        obtain ⟨m, hm⟩ : ∃ m : Nat, szL rows f (k + n.toNat) = m := ⟨(szL rows f (k + n.toNat)).toNat, by omega⟩
        have key := ih (k + n.toNat) (by omega)
        rw [hm] at key hle ⊢
        rw [e]
        have k0 := key (2 * m) (by simp)
        refine ⟨m, rfl, k0.1, by simpa using k0.2.1, fun F hF => by simpa using (key F (by simpa using hF)).2.2, ?_⟩
        rw [if_neg]
        · omega
        · intro e0
          have := k0.2.1
          rw [e0] at this
          simp at this; omega
    · rw [armN_off _ _ _ _ h1 h2] at h; omega
theorem sz_tree (rows : List (List Int)) : ∀ (f k : Nat), 0 ≤ szL rows f k → ∀ F, 2 * (szL rows f k).toNat ≤ F →
    scan (wobL rows f k) = some 0 ∧ (wobL rows f k).length = 2 * (szL rows f k).toNat ∧ binL F (wobL rows f k) k = (rows.drop k).take (szL rows f k).toNat := by
  intro f
  induction f with
  | zero => intro k h; simp [szL] at h
  | succ f ih =>
    intro k h F hF
    by_cases hk : k < rows.length ∧ (rows.getD k []).length = 2
    · rw [szL_yes _ _ _ hk.1 hk.2] at h hF ⊢
      by_cases h1 : armN (szL rows f) k 1 (armA rows k) < 0
      · rw [if_pos h1] at h; omega
      · rw [if_neg h1] at h hF ⊢
        obtain ⟨m1, a1, a2, a3, a4, a5⟩ := arm_tree rows f k ih 1 (armA rows k) (by omega) (by omega)
        rw [a1] at h hF ⊢
        obtain ⟨m2, c1, c2, c3, c4, c5⟩ := arm_tree rows f k ih (1 + m1) (armB rows k) (by omega) h
        rw [c1] at hF ⊢
        have t1 : (1 + (m1 : Int) + m2).toNat = 1 + m1 + m2 := by omega
        have t2 : (1 + (m1 : Int)).toNat = 1 + m1 := by omega
        have t3 : (1 : Int).toNat = 1 := rfl
        rw [t1] at hF ⊢
        rw [t2] at c4
        rw [t3] at a4
        rw [wobL_nat]
        obtain ⟨A, hA⟩ : ∃ A, A = wobL rows f (armA rows k) := ⟨_, rfl⟩
        obtain ⟨B, hB⟩ : ∃ B, B = wobL rows f (armB rows k) := ⟨_, rfl⟩
        rw [← hA] at a2 a3 a4 a5 ⊢
        rw [← hB] at c2 c3 c4 c5 ⊢
        have es : [40] ++ A ++ [41] ++ B = 40 :: (A ++ 41 :: B) := by simp
        rw [es]
        refine ⟨pair_scan A B a2 c2, by simp; omega, ?_⟩
        obtain ⟨F', rfl⟩ : ∃ F', F = F' + 1 := ⟨F - 1, by omega⟩
        rw [binL_cons _ _ _ (by simp), pair_fst A B a2, pair_rst A B a2, show A.length / 2 = m1 by omega, a4 F' (by omega)]
        rw [show k + 1 + m1 = k + (1 + m1) by omega, c4 F' (by omega)]
        have er : rows[k] = [armA rows k, armB rows k] := by
          have e0 : rows.getD k [] = rows[k] := by rw [List.getD_eq_getElem?_getD, List.getElem?_eq_getElem hk.1]; rfl
          have := two_of hk.2
          rw [e0] at this
          rw [this, armA, armB, e0]
        have g1 : (if A = [] then (-1 : Int) else (k : Int) + 1) = armA rows k := a5.symm
        have g2 : (if B = [] then (-1 : Int) else (k : Int) + 1 + (m1 : Nat)) = armB rows k := by
          rw [c5]; split
          · rfl
          · omega
        rw [g1, g2, ← er]
        rw [List.drop_eq_getElem_cons hk.1, show 1 + m1 + m2 = (m1 + m2) + 1 by omega, List.take_succ_cons]
        congr 1
        rw [List.take_add, List.drop_drop, show k + 1 + m1 = k + (1 + m1) by omega]
    · rw [szL_no _ _ _ (by omega)] at h; omega
/-- rows that are a tree spell a word, and are that word's rows -/
theorem tree_word (rows : List (List Int)) (h : treeW rows = true) (h0 : ¬ rows.length = 0) : scan (wobL rows 10 0) = some 0 ∧ (wobL rows 10 0).length = 2 * rows.length ∧ rows.length ≤ 9 ∧ binL 18 (wobL rows 10 0) 0 = rows := by
  have hz := tree_sz rows h h0
  have h9 : rows.length ≤ 9 := by
    unfold treeW at h
    simp only [Bool.and_eq_true, decide_eq_true_eq] at h
    exact h.1
  obtain ⟨f, hf⟩ : ∃ f, f = 10 := ⟨_, rfl⟩
  rw [← hf] at hz ⊢
  have t := sz_tree rows f 0 (by rw [hz]; omega) 18 (by rw [hz]; omega)
  rw [hz] at t
  simp only [Int.toNat_natCast, List.drop_zero, List.take_length] at t
  exact ⟨t.1, t.2.1, h9, t.2.2⟩
end Go.Proofs.Ytmlcbeekimiaiaa
