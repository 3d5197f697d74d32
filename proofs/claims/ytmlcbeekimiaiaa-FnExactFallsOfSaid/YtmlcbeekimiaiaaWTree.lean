/-
  Plain facts: the rows of a word are a tree, that tree spells the word, its nodes between their arms are the word's row behind a stack. Nothing of the program is named here.
-/
import Derived.Test.YtmlcbeekimiaiaaWFamB
namespace Go.Proofs.Ytmlcbeekimiaiaa

theorem cl_at : ∀ (l : List UInt8) (d : Nat), 0 < d → l.foldl vstep (some d) = some 0 → ∃ c, l = l.take (cl d l - 1) ++ c :: l.drop (cl d l) ∧ c.toNat = 41 := by
  intro l
  induction l with
  | nil => intro d hd h; simp at h; omega
  | cons c r ih =>
    intro d hd h
    simp only [List.foldl_cons] at h
    have hs : ∃ e, vstep (some d) c = some e := by
      cases hv : vstep (some d) c with
      | none => rw [hv, fold_none] at h; cases h
      | some e => exact ⟨e, rfl⟩
    obtain ⟨e, he⟩ := hs
    rcases step_some he with hc | ⟨hc, _⟩
    · rw [step_opn d hc] at h
      obtain ⟨c', h1, h2⟩ := ih (d + 1) (by omega) h
      have hp := (cl_split r (d + 1) (by omega) h).1
      rw [cl_opn d c r hc]
      refine ⟨c', ?_, h2⟩
      rw [show 1 + cl (d + 1) r - 1 = (cl (d + 1) r - 1) + 1 by omega, List.take_succ_cons, show 1 + cl (d + 1) r = cl (d + 1) r + 1 by omega, List.drop_succ_cons, List.cons_append, ← h1]
    · have hn : c.toNat ≠ 40 := by omega
      rw [step_cls hc hd] at h
      by_cases h1 : d ≤ 1
      · rw [cl_last d c r hn h1]
        exact ⟨c, by simp, hc⟩
      · obtain ⟨c', k1, k2⟩ := ih (d - 1) (by omega) h
        have hp := (cl_split r (d - 1) (by omega) h).1
        rw [cl_cls d c r hn h1]
        refine ⟨c', ?_, k2⟩
        rw [show 1 + cl (d - 1) r - 1 = (cl (d - 1) r - 1) + 1 by omega, List.take_succ_cons, show 1 + cl (d - 1) r = cl (d - 1) r + 1 by omega, List.drop_succ_cons, List.cons_append, ← k1]
theorem u8_eq {a : UInt8} {b : Nat} (h : a.toNat = b) : a = UInt8.ofNat b := by
  apply UInt8.toNat_inj.1
  rw [h, UInt8.toNat_ofNat']
  have := a.toNat_lt
  omega
/-- a word that is not empty: its first pair, what is in it, what is behind it -/
theorem parts_eq {s : List UInt8} (h : scan s = some 0) (hs : s ≠ []) : s = 40 :: (fstL s ++ 41 :: rstL s) := by
  cases s with
  | nil => exact absurd rfl hs
  | cons c r =>
    have h' : r.foldl vstep (vstep (some 0) c) = some 0 := h
    have hst : ∃ e, vstep (some 0) c = some e := by
      cases hv : vstep (some 0) c with
      | none => rw [hv, fold_none] at h'; cases h'
      | some e => exact ⟨e, rfl⟩
    obtain ⟨e, he⟩ := hst
    rcases step_some he with hc | ⟨_, h0⟩
    · rw [step_opn 0 hc] at h'
      obtain ⟨c', h1, h2⟩ := cl_at r 1 (by omega) h'
      have hk : cl 0 (c :: r) = 1 + cl 1 r := cl_opn 0 c r hc
      have hf : fstL (c :: r) = r.take (cl 1 r - 1) := by
        rw [fstL, hk, List.drop_succ_cons, List.drop_zero, show 1 + cl 1 r - 2 = cl 1 r - 1 by omega]
      have hr : rstL (c :: r) = r.drop (cl 1 r) := by
        rw [rstL, hk, show 1 + cl 1 r = cl 1 r + 1 by omega, List.drop_succ_cons]
      rw [hf, hr]
      have e1 : c = 40 := u8_eq hc
      have e2 : c' = 41 := u8_eq h2
      rw [e2] at h1
      rw [e1]
      congr 1
    · omega

/-- the nodes in the order in which they end, numbered from one on -/
def btwP : Nat → List UInt8 → Nat → List Nat
  | 0, _, _ => []
  | f + 1, s, n => if s = [] then [] else btwP f (fstL s) (n + 1) ++ [n] ++ btwP f (rstL s) (n + 1 + (fstL s).length / 2)
theorem btwP_nil (f n : Nat) : btwP f [] n = [] := by cases f <;> rfl
theorem btwP_cons (f n : Nat) (s : List UInt8) (h : s ≠ []) : btwP (f + 1) s n = btwP f (fstL s) (n + 1) ++ [n] ++ btwP f (rstL s) (n + 1 + (fstL s).length / 2) := by rw [btwP, if_neg h]
theorem fold_btw : ∀ (f : Nat) (s : List UInt8) (st out : List Nat) (n : Nat), scan s = some 0 → s.length ≤ f → s.foldl stepS (st, out, n) = (st, out ++ btwP f s n, n + s.length / 2) := by
  intro f
  induction f with
  | zero => intro s st out n _ hf; rw [List.eq_nil_of_length_eq_zero (by omega : s.length = 0)]; simp [btwP]
  | succ f ih =>
    intro s st out n h hf
    by_cases hs : s = []
    · subst hs; simp [btwP_nil]
    · obtain ⟨_, _, k3, k4, _, k6⟩ := parts_ok h hs
      have e1 := fold_even _ 0 0 k3
      have e2 := fold_even _ 0 0 k4
      have p := parts_eq h hs
      rw [btwP_cons _ _ _ hs]
      obtain ⟨a, ha⟩ : ∃ a, a = fstL s := ⟨_, rfl⟩
      obtain ⟨b, hb⟩ : ∃ b, b = rstL s := ⟨_, rfl⟩
      rw [← ha, ← hb] at p
      rw [← ha] at k3 k6 e1 ⊢
      rw [← hb] at k4 k6 e2 ⊢
      have e3 : s.length / 2 = 1 + a.length / 2 + b.length / 2 := by omega
      rw [e3, p]
      rw [List.foldl_cons, List.foldl_append, List.foldl_cons]
      have s1 : stepS (st, out, n) 40 = (st ++ [n], out, n + 1) := by rw [stepS, if_pos (by decide)]
      rw [s1, ih a _ _ _ k3 (by omega)]
      have s2 : stepS (st ++ [n], out ++ btwP f a (n + 1), n + 1 + a.length / 2) 41 = (st, out ++ btwP f a (n + 1) ++ [n], n + 1 + a.length / 2) := by
        rw [stepS, if_neg (by decide)]; simp
      rw [s2, ih b _ _ _ k4 (by omega)]
      simp only [List.append_assoc, Prod.mk.injEq, true_and]
      omega
theorem stackL_btw (s : List UInt8) (h : scan s = some 0) : stackL s = (btwP s.length s 0).map fun (k : Nat) => (k : Int) := by
  rw [stackL, stackF, fold_btw s.length s [] [] 0 h (Nat.le_refl _)]; rfl

/-- where a word's tree begins in its rows -/
def rootA (s : List UInt8) (n : Nat) : Int := if s = [] then -1 else (n : Int)
theorem okT_neg (rows : List (List Int)) (F : Nat) : okT rows F (-1) := by cases F with
  | zero => exact (by decide : (-1 : Int) < 0)
  | succ F => exact .inl (by decide)
theorem getD_mid {α : Type} (pre post : List α) (x d : α) (n : Nat) (h : pre.length = n) : (pre ++ x :: post).getD n d = x := by
  rw [List.getD_eq_getElem?_getD, List.getElem?_append_right (by omega), h, Nat.sub_self]; rfl
/-- the rows of a word, among others: a tree, its word, its nodes -/
theorem binL_tree : ∀ (f : Nat) (s : List UInt8) (n F : Nat) (pre post : List (List Int)), scan s = some 0 → s.length ≤ f → pre.length = n → s.length ≤ 2 * F →
    okT (pre ++ binL f s n ++ post) F (rootA s n) ∧ wobL (pre ++ binL f s n ++ post) F (rootA s n) = s ∧ btwL (pre ++ binL f s n ++ post) F (rootA s n) = (btwP f s n).map fun (k : Nat) => (k : Int) := by
  intro f
  induction f with
  | zero =>
    intro s n F pre post _ hf _ _
    rw [List.eq_nil_of_length_eq_zero (by omega : s.length = 0)]
    have e : rootA [] n = -1 := rfl
    rw [e]
    exact ⟨okT_neg _ _, wobL_neg _ _ _ (by decide), btwL_neg _ _ _ (by decide)⟩
  | succ f ih =>
    intro s n F pre post h hf hp hF
    by_cases hs : s = []
    · subst hs
      have e : rootA [] n = -1 := rfl
      rw [e, btwP_nil]
      exact ⟨okT_neg _ _, wobL_neg _ _ _ (by decide), btwL_neg _ _ _ (by decide)⟩
    · obtain ⟨_, _, k3, k4, _, k6⟩ := parts_ok h hs
      have p := parts_eq h hs
      have e1 := fold_even _ 0 0 k3
      obtain ⟨F', rfl⟩ : ∃ F', F = F' + 1 := ⟨F - 1, by omega⟩
      have eL := binL_length f (fstL s) (n + 1) k3 (by omega)
      rw [binL_cons _ _ _ hs, btwP_cons _ _ _ hs]
      have er : rootA s n = (n : Int) := if_neg hs
      rw [er]
      have ra : (if fstL s = [] then -1 else (n : Int) + 1) = rootA (fstL s) (n + 1) := by unfold rootA; split <;> simp
      have rb : (if rstL s = [] then -1 else (n : Int) + 1 + ((fstL s).length / 2 : Nat)) = rootA (rstL s) (n + 1 + (fstL s).length / 2) := by
        unfold rootA; split
        · rfl
        · omega
      rw [ra, rb]
      obtain ⟨row, hrow⟩ : ∃ row, row = [rootA (fstL s) (n + 1), rootA (rstL s) (n + 1 + (fstL s).length / 2)] := ⟨_, rfl⟩
      rw [← hrow]
      have i1 := ih (fstL s) (n + 1) F' (pre ++ [row]) (binL f (rstL s) (n + 1 + (fstL s).length / 2) ++ post) k3 (by omega) (by simp [hp]) (by omega)
      have i2 := ih (rstL s) (n + 1 + (fstL s).length / 2) F' (pre ++ [row] ++ binL f (fstL s) (n + 1)) post k4 (by omega) (by simp [hp, eL]; omega) (by omega)
      obtain ⟨rows, hr⟩ : ∃ rows, rows = pre ++ row :: (binL f (fstL s) (n + 1) ++ binL f (rstL s) (n + 1 + (fstL s).length / 2)) ++ post := ⟨_, rfl⟩
      have r1 : pre ++ [row] ++ binL f (fstL s) (n + 1) ++ (binL f (rstL s) (n + 1 + (fstL s).length / 2) ++ post) = rows := by rw [hr]; simp
      have r2 : pre ++ [row] ++ binL f (fstL s) (n + 1) ++ binL f (rstL s) (n + 1 + (fstL s).length / 2) ++ post = rows := by rw [hr]; simp
      rw [r1] at i1
      rw [r2] at i2
      rw [← hr]
      have g1 : rows.getD n [] = row := by rw [hr, List.append_assoc]; exact getD_mid _ _ _ _ _ hp
      have a1 : armA rows n = rootA (fstL s) (n + 1) := by unfold armA; rw [g1, hrow]; rfl
      have a2 : armB rows n = rootA (rstL s) (n + 1 + (fstL s).length / 2) := by unfold armB; rw [g1, hrow]; rfl
      have hn : n < rows.length := by rw [hr]; simp; omega
      refine ⟨.inr ⟨by simpa using hn, by simp only [Int.toNat_natCast]; rw [g1, hrow]; rfl, ?_, ?_⟩, ?_, ?_⟩
      · simp only [Int.toNat_natCast]; rw [a1]; exact i1.1
      · simp only [Int.toNat_natCast]; rw [a2]; exact i2.1
      · rw [wobL_nat, a1, a2, i1.2.1, i2.2.1]
        conv => rhs; rw [p]
        simp
      · rw [btwL_nat, a1, a2, i1.2.2, i2.2.2]; simp
end Go.Proofs.Ytmlcbeekimiaiaa
