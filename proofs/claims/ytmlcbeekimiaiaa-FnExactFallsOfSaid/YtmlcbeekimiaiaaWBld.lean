/-
  Plain facts: a word's two-armed tree, built bracket by bracket: the numbers on the arms, the open nodes, the arm that waits. Nothing of the program is named here.
-/
import Derived.Test.YtmlcbeekimiaiaaWTree
namespace Go.Proofs.Ytmlcbeekimiaiaa

/-- how many nodes there are, what hangs on each arm (0: the first node; 2k+1, 2k+2: the arms of node k; -1: nothing), the open nodes, the arm that waits -/
structure Bld where
  n : Nat
  G : Nat → Int
  stk : List Nat
  arm : Nat
def upG (G : Nat → Int) (a n : Nat) : Nat → Int := fun j => if j = a then (n : Int) else G j
theorem upG_at (G : Nat → Int) (a n : Nat) : upG G a n a = n := by simp [upG]
theorem upG_ne (G : Nat → Int) {a n j : Nat} (h : j ≠ a) : upG G a n j = G j := by simp [upG, h]
def stepB (b : Bld) (c : UInt8) : Bld :=
  if c.toNat = 40 then ⟨b.n + 1, upG b.G b.arm b.n, b.stk ++ [b.n], 2 * b.n + 1⟩ else ⟨b.n, b.G, b.stk.dropLast, 2 * b.stk.getLastD 0 + 2⟩
def bldF (s : List UInt8) : Bld := s.foldl stepB ⟨0, fun _ => -1, [], 0⟩

/-- what hangs on the arms of a word's nodes, numbered from one on -/
def Sp (G : Nat → Int) : Nat → List UInt8 → Nat → Prop
  | 0, _, _ => True
  | f + 1, s, n => s = [] ∨ (G (2 * n + 1) = rootA (fstL s) (n + 1) ∧ G (2 * n + 2) = rootA (rstL s) (n + 1 + (fstL s).length / 2) ∧ Sp G f (fstL s) (n + 1) ∧ Sp G f (rstL s) (n + 1 + (fstL s).length / 2))
theorem Sp_congr {G G' : Nat → Int} : ∀ (f : Nat) (s : List UInt8) (n : Nat), scan s = some 0 → s.length ≤ f → (∀ j, 2 * n + 1 ≤ j → j ≤ 2 * (n + s.length / 2) → G' j = G j) → Sp G f s n → Sp G' f s n := by
  intro f
  induction f with
  | zero => intro s n _ _ _ _; trivial
  | succ f ih =>
    intro s n h hf hG hS
    by_cases hs : s = []
    · exact .inl hs
    · obtain ⟨_, _, k3, k4, _, k6⟩ := parts_ok h hs
      have e1 := fold_even _ 0 0 k3
      have e2 := fold_even _ 0 0 k4
      rcases hS with h0 | ⟨h1, h2, h3, h4⟩
      · exact absurd h0 hs
      · refine .inr ⟨by rw [hG _ (by omega) (by omega)]; exact h1, by rw [hG _ (by omega) (by omega)]; exact h2, ih _ _ k3 (by omega) ?_ h3, ih _ _ k4 (by omega) ?_ h4⟩
        · intro j j1 j2; exact hG j (by omega) (by omega)
        · intro j j1 j2; exact hG j (by omega) (by omega)
theorem rootA_nil (n : Nat) : rootA [] n = -1 := rfl
theorem rootA_cons {s : List UInt8} (n : Nat) (h : s ≠ []) : rootA s n = n := if_neg h

theorem bld_word : ∀ (f : Nat) (s : List UInt8) (n : Nat) (G : Nat → Int) (st : List Nat) (arm : Nat), scan s = some 0 → s.length ≤ f → arm ≤ 2 * n → G arm = -1 → (∀ j, 2 * n + 1 ≤ j → G j = -1) →
    ∃ G' arm', s.foldl stepB ⟨n, G, st, arm⟩ = ⟨n + s.length / 2, G', st, arm'⟩ ∧ G' arm = rootA s n ∧ (∀ j, j ≤ 2 * n → j ≠ arm → G' j = G j) ∧ (∀ j, 2 * (n + s.length / 2) + 1 ≤ j → G' j = -1) ∧ Sp G' f s n ∧ arm' ≤ 2 * (n + s.length / 2) := by
  intro f
  induction f with
  | zero =>
    intro s n G st arm _ hf ha hg ht
    rw [List.eq_nil_of_length_eq_zero (by omega : s.length = 0)]
    exact ⟨G, arm, rfl, hg, fun _ _ _ => rfl, fun j hj => ht j (by simp at hj; omega), trivial, by simp; omega⟩
  | succ f ih =>
    intro s n G st arm h hf ha hg ht
    by_cases hs : s = []
    · subst hs
      exact ⟨G, arm, rfl, hg, fun _ _ _ => rfl, fun j hj => ht j (by simp at hj; omega), .inl rfl, by simp; omega⟩
    · obtain ⟨_, _, k3, k4, _, k6⟩ := parts_ok h hs
      have e1 := fold_even _ 0 0 k3
      have e2 := fold_even _ 0 0 k4
      have p := parts_eq h hs
      obtain ⟨a, hA⟩ : ∃ a, a = fstL s := ⟨_, rfl⟩
      obtain ⟨b, hB⟩ : ∃ b, b = rstL s := ⟨_, rfl⟩
      have S1 : ∀ G', Sp G' (f + 1) s n = (s = [] ∨ (G' (2 * n + 1) = rootA a (n + 1) ∧ G' (2 * n + 2) = rootA b (n + 1 + a.length / 2) ∧ Sp G' f a (n + 1) ∧ Sp G' f b (n + 1 + a.length / 2))) := by intro G'; rw [hA, hB]; rfl
      rw [rootA_cons n hs]
      rw [← hA, ← hB] at p
      rw [← hA] at k3 k6 e1
      rw [← hB] at k4 k6 e2
      have e3 : s.length / 2 = 1 + a.length / 2 + b.length / 2 := by omega
      have s1 : stepB ⟨n, G, st, arm⟩ 40 = ⟨n + 1, upG G arm n, st ++ [n], 2 * n + 1⟩ := by rw [stepB, if_pos (by decide)]
      obtain ⟨G1, m1, f1, r1, q1, t1, sp1, l1⟩ := ih a (n + 1) (upG G arm n) (st ++ [n]) (2 * n + 1) k3 (by omega) (by omega) (by rw [upG_ne _ (by omega)]; exact ht _ (by omega)) (fun j hj => by rw [upG_ne _ (by omega)]; exact ht _ (by omega))
      have s2 : stepB ⟨n + 1 + a.length / 2, G1, st ++ [n], m1⟩ 41 = ⟨n + 1 + a.length / 2, G1, st, 2 * n + 2⟩ := by
        rw [stepB, if_neg (by decide)]; simp
      have g2 : G1 (2 * n + 2) = -1 := by
        rw [q1 _ (by omega) (by omega), upG_ne _ (by omega)]; exact ht _ (by omega)
      obtain ⟨G2, m2, f2, r2, q2, t2, sp2, l2⟩ := ih b (n + 1 + a.length / 2) G1 st (2 * n + 2) k4 (by omega) (by omega) g2 t1
      refine ⟨G2, m2, ?_, ?_, ?_, ?_, ?_, by omega⟩
      · rw [e3, p, List.foldl_cons, List.foldl_append, List.foldl_cons, s1, f1, s2, f2]
        simp only [Bld.mk.injEq, and_true]
        omega
      · rw [q2 _ (by omega) (by omega), q1 _ (by omega) (by omega), upG_at]
      · intro j j1 j2
        rw [q2 _ (by omega) (by omega), q1 _ (by omega) (by omega), upG_ne _ j2]
      · intro j hj; exact t2 j (by omega)
      · rw [S1]
        refine .inr ⟨?_, r2, ?_, sp2⟩
        · rw [q2 _ (by omega) (by omega)]; exact r1
        · exact Sp_congr f a (n + 1) k3 (by omega) (fun j j1 j2 => q2 j (by omega) (by omega)) sp1
/-- behind a word's last byte -/
theorem bldF_word {s : List UInt8} (h : scan s = some 0) : (bldF s).n = s.length / 2 ∧ (bldF s).G 0 = rootA s 0 ∧ Sp (bldF s).G s.length s 0 := by
  obtain ⟨G', m, e, r, _, _, sp, _⟩ := bld_word s.length s 0 (fun _ => -1) [] 0 h (Nat.le_refl _) (Nat.le_refl _) rfl (fun _ _ => rfl)
  rw [bldF, e]
  exact ⟨by simp, r, sp⟩

/-- what holds behind any bytes -/
structure OkB (b : Bld) : Prop where
  arm : b.arm ≤ 2 * b.n
  stk : ∀ x ∈ b.stk, x < b.n
  low : ∀ j, b.G j < b.n
  neg : ∀ j, -1 ≤ b.G j
  end_ : ∀ j, 2 * b.n + 1 ≤ j → b.G j = -1
theorem OkB.opn {b : Bld} (h : OkB b) : OkB ⟨b.n + 1, upG b.G b.arm b.n, b.stk ++ [b.n], 2 * b.n + 1⟩ := by
  refine ⟨by simp only; omega, ?_, ?_, ?_, ?_⟩
  · intro x hx
    simp only [List.mem_append, List.mem_singleton] at hx ⊢
    rcases hx with hx | hx
    · have := h.stk x hx; omega
    · omega
  · intro j
    simp only [upG]
    have := h.low j
    split <;> omega
  · intro j
    simp only [upG]
    have := h.neg j
    split <;> omega
  · intro j hj
    simp only at hj ⊢
    rw [upG_ne _ (by have := h.arm; omega)]
    exact h.end_ j (by omega)
theorem OkB.cls {b : Bld} (h : OkB b) (h0 : b.stk ≠ []) : OkB ⟨b.n, b.G, b.stk.dropLast, 2 * b.stk.getLastD 0 + 2⟩ := by
  have hm : b.stk.getLastD 0 ∈ b.stk := by
    rw [List.getLastD_eq_getLast?, List.getLast?_eq_some_getLast h0]
    exact List.getLast_mem h0
  refine ⟨by have := h.stk _ hm; simp only; omega, fun x hx => h.stk x (List.dropLast_subset _ hx), h.low, h.neg, h.end_⟩
theorem bldF_nil : bldF [] = ⟨0, fun _ => -1, [], 0⟩ := rfl
theorem OkB.nil : OkB ⟨0, fun _ => -1, [], 0⟩ := ⟨by simp, by simp, by simp, by simp, by simp⟩
theorem bldF_snoc (l : List UInt8) (c : UInt8) : bldF (l ++ [c]) = stepB (bldF l) c := by simp [bldF, List.foldl_append]
/-- the open nodes are as many as the open brackets -/
theorem bldF_ok (r : List UInt8) : ∀ o, scan r.reverse = some o → OkB (bldF r.reverse) ∧ (bldF r.reverse).stk.length = o ∧ (bldF r.reverse).n ≤ r.length := by
  induction r with
  | nil => intro o h; simp [scan] at h; subst h; exact ⟨OkB.nil, rfl, Nat.le_refl _⟩
  | cons c l ih =>
    intro o h
    rw [List.reverse_cons] at h ⊢
    rw [scan_snoc] at h
    cases hs : scan l.reverse with
    | none => rw [hs] at h; simp [vstep] at h
    | some q =>
      rw [hs] at h
      obtain ⟨h1, h2, h3⟩ := ih q hs
      rw [bldF_snoc]
      rcases step_some h with hc | ⟨hc, h0⟩
      · rw [step_opn q hc] at h
        cases h
        rw [stepB, if_pos hc]
        exact ⟨h1.opn, by simp [h2], by simp; omega⟩
      · rw [step_cls hc h0] at h
        cases h
        rw [stepB, if_neg (by omega)]
        refine ⟨h1.cls (fun e => by rw [e] at h2; simp at h2; omega), by simp [h2], by simp; omega⟩
theorem bldF_ok' {l : List UInt8} {o : Nat} (h : scan l = some o) : OkB (bldF l) ∧ (bldF l).stk.length = o ∧ (bldF l).n ≤ l.length := by
  have := bldF_ok l.reverse o (by rw [List.reverse_reverse]; exact h)
  rwa [List.reverse_reverse, List.length_reverse] at this
end Go.Proofs.Ytmlcbeekimiaiaa
