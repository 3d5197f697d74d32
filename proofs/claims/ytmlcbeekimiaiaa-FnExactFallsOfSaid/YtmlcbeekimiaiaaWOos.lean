/-
  Plain facts: from a row of numbers back to a word by a stack; the row behind a word's stack gives the word. Nothing of the program is named here.
-/
import Derived.Test.YtmlcbeekimiaiaaWTree
namespace Go.Proofs.Ytmlcbeekimiaiaa

/-- how many have come, what stands on the stack, what is written -/
structure Wos where
  n : Nat
  stk : List Nat
  out : List UInt8
def pushW (k : Nat) (a : Wos) : Wos := ⟨a.n + k, a.stk ++ List.range' a.n k, a.out ++ List.replicate k 40⟩
def stepQ (L : Nat) (q : Int) (a : Wos) : Option Wos :=
  if q < 0 ∨ (L : Int) ≤ q then none
  else if (pushW (q.toNat + 1 - a.n) a).stk.getLast? = some q.toNat then some ⟨(pushW (q.toNat + 1 - a.n) a).n, (pushW (q.toNat + 1 - a.n) a).stk.dropLast, (pushW (q.toNat + 1 - a.n) a).out ++ [41]⟩ else none
def runW (L : Nat) : List Int → Wos → Option Wos
  | [], a => some a
  | q :: r, a => (stepQ L q a).bind (runW L r)
theorem runW_append (L : Nat) : ∀ (l l' : List Int) (a : Wos), runW L (l ++ l') a = (runW L l a).bind (runW L l') := by
  intro l
  induction l with
  | nil => intro l' a; rfl
  | cons q r ih =>
    intro l' a
    show (stepQ L q a).bind (runW L (r ++ l')) = ((stepQ L q a).bind (runW L r)).bind (runW L l')
    cases stepQ L q a with
    | none => rfl
    | some b => exact ih l' b
theorem pushW_zero (a : Wos) : pushW 0 a = a := by cases a; simp [pushW]
theorem pushW_succ (k : Nat) (a : Wos) : pushW (k + 1) a = ⟨a.n + k + 1, (pushW k a).stk ++ [a.n + k], (pushW k a).out ++ [40]⟩ := by
  simp only [pushW, List.append_assoc, Wos.mk.injEq, List.range'_concat, List.replicate_succ', Nat.one_mul, and_self, and_true]
  omega
theorem pushW_front (k : Nat) (a : Wos) : pushW (k + 1) a = pushW k ⟨a.n + 1, a.stk ++ [a.n], a.out ++ [40]⟩ := by
  simp only [pushW, List.append_assoc, Wos.mk.injEq, List.range'_succ, List.replicate_succ, List.cons_append, List.nil_append, and_self, and_true]
  omega
def wos0 : Wos := ⟨0, [], []⟩
theorem stepQ_lazy (L : Nat) (q : Int) (a : Wos) (h : (a.n : Int) ≤ q) : stepQ L q a = stepQ L q ⟨a.n + 1, a.stk ++ [a.n], a.out ++ [40]⟩ := by
  have e : q.toNat + 1 - a.n = (q.toNat + 1 - (a.n + 1)) + 1 := by omega
  unfold stepQ
  rw [e, pushW_front]
theorem runW_lazy (L : Nat) (l : List Int) (a : Wos) (h0 : l ≠ []) (h : ∀ q ∈ l, (a.n : Int) ≤ q) : runW L l a = runW L l ⟨a.n + 1, a.stk ++ [a.n], a.out ++ [40]⟩ := by
  cases l with
  | nil => exact absurd rfl h0
  | cons q r =>
    show (stepQ L q a).bind _ = (stepQ L q _).bind _
    rw [stepQ_lazy L q a (h q (by simp))]
theorem btwP_ge : ∀ (f : Nat) (s : List UInt8) (n : Nat), ∀ x ∈ btwP f s n, n ≤ x := by
  intro f
  induction f with
  | zero => intro s n x hx; simp [btwP] at hx
  | succ f ih =>
    intro s n x hx
    by_cases hs : s = []
    · subst hs; simp [btwP_nil] at hx
    · rw [btwP_cons _ _ _ hs] at hx
      simp only [List.mem_append, List.mem_singleton] at hx
      rcases hx with (hx | hx) | hx
      · have := ih _ _ _ hx; omega
      · omega
      · have := ih _ _ _ hx; omega
theorem runW_word : ∀ (f : Nat) (s : List UInt8) (L n : Nat) (st : List Nat) (out : List UInt8), scan s = some 0 → s.length ≤ f → n + s.length / 2 ≤ L →
    runW L ((btwP f s n).map fun (k : Nat) => (k : Int)) ⟨n, st, out⟩ = some ⟨n + s.length / 2, st, out ++ s⟩ := by
  intro f
  induction f with
  | zero =>
    intro s L n st out _ hf _
    rw [List.eq_nil_of_length_eq_zero (by omega : s.length = 0)]
    simp [btwP, runW]
  | succ f ih =>
    intro s L n st out h hf hL
    by_cases hs : s = []
    · subst hs; simp [btwP_nil, runW]
    · obtain ⟨_, _, k3, k4, _, k6⟩ := parts_ok h hs
      have e1 := fold_even _ 0 0 k3
      have e2 := fold_even _ 0 0 k4
      have p := parts_eq h hs
      have hge := btwP_ge (f + 1) s n
      rw [btwP_cons _ _ _ hs] at hge ⊢
      obtain ⟨a, ha⟩ : ∃ a, a = fstL s := ⟨_, rfl⟩
      obtain ⟨b, hb⟩ : ∃ b, b = rstL s := ⟨_, rfl⟩
      rw [← ha, ← hb] at p hge ⊢
      rw [← ha] at k3 k6 e1
      rw [← hb] at k4 k6 e2
      have e3 : s.length / 2 = 1 + a.length / 2 + b.length / 2 := by omega
      rw [runW_lazy L _ _ (by simp) (by
        intro q hq
        obtain ⟨x, hx, rfl⟩ := List.mem_map.1 hq
        have := hge x hx
        simp only
        omega)]
      rw [List.map_append, List.map_append, runW_append, runW_append, ih a L (n + 1) _ _ k3 (by omega) (by omega)]
      simp only [Option.bind_some, List.map_cons, List.map_nil]
      have s1 : runW L [(n : Int)] ⟨n + 1 + a.length / 2, st ++ [n], out ++ [40] ++ a⟩ = some ⟨n + 1 + a.length / 2, st, out ++ [40] ++ a ++ [41]⟩ := by
        show (stepQ L (n : Int) _).bind (runW L []) = _
        have c1 : ¬ ((n : Int) < 0 ∨ (L : Int) ≤ (n : Int)) := by omega
        have c2 : (n : Int).toNat + 1 - (n + 1 + a.length / 2) = 0 := by omega
        rw [stepQ, if_neg c1, c2, pushW_zero]
        simp [runW]
      rw [s1]
      simp only [Option.bind_some]
      rw [ih b L _ _ _ k4 (by omega) (by omega), e3, p]
      simp only [List.append_assoc, List.cons_append, List.nil_append, Option.some.injEq, Wos.mk.injEq, and_true]
      omega
theorem btwP_length : ∀ (f : Nat) (s : List UInt8) (n : Nat), scan s = some 0 → s.length ≤ f → (btwP f s n).length = s.length / 2 := by
  intro f
  induction f with
  | zero => intro s n _ hf; rw [List.eq_nil_of_length_eq_zero (by omega : s.length = 0)]; rfl
  | succ f ih =>
    intro s n h hf
    by_cases hs : s = []
    · subst hs; rw [btwP_nil]; rfl
    · obtain ⟨_, _, k3, k4, _, k6⟩ := parts_ok h hs
      have e1 := fold_even _ 0 0 k3
      have e2 := fold_even _ 0 0 k4
      rw [btwP_cons _ _ _ hs, List.length_append, List.length_append, ih _ _ k3 (by omega), ih _ _ k4 (by omega)]
      simp only [List.length_singleton]
      omega
/-- how long what is written is, and how much stands on the stack -/
theorem runW_len (L : Nat) : ∀ (l : List Int) (a b : Wos), runW L l a = some b → a.n ≤ L → a.stk.length ≤ a.n → b.n ≤ L ∧ b.stk.length ≤ b.n ∧ b.out.length + a.n = a.out.length + b.n + l.length := by
  intro l
  induction l with
  | nil => intro a b h h1 h2; cases h; exact ⟨h1, h2, by simp⟩
  | cons q r ih =>
    intro a b h h1 h2
    have h' : (stepQ L q a).bind (runW L r) = some b := h
    cases hs : stepQ L q a with
    | none => rw [hs] at h'; cases h'
    | some c =>
      rw [hs] at h'
      have h'' : runW L r c = some b := h'
      unfold stepQ at hs
      split at hs
      · cases hs
      · rename_i hq
        split at hs
        · cases hs
          obtain ⟨i1, i2, i3⟩ := ih _ _ h'' (by simp [pushW]; omega) (by simp [pushW]; omega)
          refine ⟨i1, i2, ?_⟩
          simp only [pushW, List.length_append, List.length_replicate, List.length_nil, List.length_cons] at i3 ⊢
          omega
        · cases hs
theorem runW_none {L : Nat} {l : List Int} {a : Wos} {k : Nat} (hk : k < l.length) (h : runW L (l.take k) wos0 = some a) (hn : stepQ L l[k] a = none) : runW L l wos0 = none := by
  have e : l = l.take k ++ l[k] :: l.drop (k + 1) := by rw [← List.drop_eq_getElem_cons hk, List.take_append_drop]
  have r : runW L l wos0 = runW L (l.take k ++ l[k] :: l.drop (k + 1)) wos0 := congrArg (fun x => runW L x wos0) e
  rw [r, runW_append, h]
  show (stepQ L l[k] a).bind _ = none
  rw [hn]; rfl
theorem runW_take {L : Nat} {l : List Int} {a b : Wos} {k : Nat} (hk : k < l.length) (h : runW L (l.take k) wos0 = some a) (hn : stepQ L l[k] a = some b) : runW L (l.take (k + 1)) wos0 = some b := by
  rw [List.take_succ_eq_append_getElem hk, runW_append, h]
  show (stepQ L l[k] a).bind _ = _
  rw [hn]; rfl
/-- the word of a row, if there is one -/
def wosL (row : List Int) : Option (List UInt8) := if 9 < row.length then none else (runW row.length row wos0).map Wos.out
theorem wosL_word {s : List UInt8} (h : scan s = some 0) (h18 : s.length ≤ 18) : wosL (stackL s) = some s := by
  rw [stackL_btw s h]
  have hl : ((btwP s.length s 0).map fun (k : Nat) => (k : Int)).length = s.length / 2 := by
    rw [List.length_map]
    exact btwP_length s.length s 0 h (Nat.le_refl _)
  have e2 := fold_even _ 0 0 h
  rw [wosL, if_neg (by omega), hl, wos0, runW_word s.length s (s.length / 2) 0 [] [] h (Nat.le_refl _) (by omega)]
  simp
end Go.Proofs.Ytmlcbeekimiaiaa
