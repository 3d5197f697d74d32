/-
  Plain facts on words as two-armed trees, as rows of a stack, as cut polygons. Nothing of the program is named here.
-/
import Derived.Test.YtmlcbeekimiaiaaWRank
namespace Go.Proofs.Ytmlcbeekimiaiaa

/-- how many bytes until what is open (d pairs) and what opens is closed -/
def cl : Nat → List UInt8 → Nat
  | _, [] => 0
  | d, c :: r => if c.toNat = 40 then 1 + cl (d + 1) r else if d ≤ 1 then 1 else 1 + cl (d - 1) r
theorem cl_opn (d : Nat) (c : UInt8) (r : List UInt8) (h : c.toNat = 40) : cl d (c :: r) = 1 + cl (d + 1) r := by rw [cl, if_pos h]
theorem cl_last (d : Nat) (c : UInt8) (r : List UInt8) (h : c.toNat ≠ 40) (hd : d ≤ 1) : cl d (c :: r) = 1 := by rw [cl, if_neg h, if_pos hd]
theorem cl_cls (d : Nat) (c : UInt8) (r : List UInt8) (h : c.toNat ≠ 40) (hd : ¬ d ≤ 1) : cl d (c :: r) = 1 + cl (d - 1) r := by rw [cl, if_neg h, if_neg hd]

theorem step_opn (d : Nat) {c : UInt8} (h : c.toNat = 40) : vstep (some d) c = some (d + 1) := by simp [vstep, h]
theorem step_cls {d : Nat} {c : UInt8} (h : c.toNat = 41) (hd : 0 < d) : vstep (some d) c = some (d - 1) := by simp [vstep, h]; omega
theorem step_some {d e : Nat} {c : UInt8} (h : vstep (some d) c = some e) : c.toNat = 40 ∨ (c.toNat = 41 ∧ 0 < d) := by
  by_cases h1 : c.toNat = 40
  · exact .inl h1
  · right
    by_cases h2 : c.toNat = 41
    · refine ⟨h2, ?_⟩
      apply Classical.byContradiction
      intro h0
      obtain rfl : d = 0 := by omega
      simp [vstep, h2] at h
    · simp [vstep, h1, h2] at h

theorem cl_split : ∀ (l : List UInt8) (d : Nat), 0 < d → l.foldl vstep (some d) = some 0 →
    1 ≤ cl d l ∧ cl d l ≤ l.length ∧ (l.take (cl d l - 1)).foldl vstep (some (d - 1)) = some 0 ∧ (l.drop (cl d l)).foldl vstep (some 0) = some 0 := by
  intro l
  induction l with
  | nil => intro d hd h; simp at h; omega
  | cons c r ih =>
    intro d hd h
    simp only [List.foldl_cons] at h
    have hs : ∃ e, vstep (some d) c = some e := by
      cases hv : vstep (some d) c with
      | none => rw [hv, fold_none] at h; cases h
      | some e => exact ⟨e, rfl⟩
    obtain ⟨e, he⟩ := hs
    rcases step_some he with hc | ⟨hc, _⟩
    · rw [step_opn d hc] at h
      obtain ⟨h1, h2, h3, h4⟩ := ih (d + 1) (by omega) h
      rw [cl_opn d c r hc]
      refine ⟨by omega, by simp; omega, ?_, ?_⟩
      · rw [show 1 + cl (d + 1) r - 1 = (cl (d + 1) r - 1) + 1 by omega, List.take_succ_cons, List.foldl_cons, step_opn _ hc, show d - 1 + 1 = d + 1 - 1 by omega]
        exact h3
      · rw [show 1 + cl (d + 1) r = cl (d + 1) r + 1 by omega, List.drop_succ_cons]; exact h4
    · have hn : c.toNat ≠ 40 := by omega
      rw [step_cls hc hd] at h
      by_cases h1 : d ≤ 1
      · rw [cl_last d c r hn h1]
        obtain rfl : d = 1 := by omega
        exact ⟨by omega, by simp, rfl, h⟩
      · obtain ⟨k1, k2, k3, k4⟩ := ih (d - 1) (by omega) h
        rw [cl_cls d c r hn h1]
        refine ⟨by omega, by simp; omega, ?_, ?_⟩
        · rw [show 1 + cl (d - 1) r - 1 = (cl (d - 1) r - 1) + 1 by omega, List.take_succ_cons, List.foldl_cons, step_cls hc (by omega)]
          exact k3
        · rw [show 1 + cl (d - 1) r = cl (d - 1) r + 1 by omega, List.drop_succ_cons]; exact k4

/-- what is in the first pair, and what is behind it -/
def fstL (s : List UInt8) : List UInt8 := (s.drop 1).take (cl 0 s - 2)
def rstL (s : List UInt8) : List UInt8 := s.drop (cl 0 s)
theorem parts_ok {s : List UInt8} (h : scan s = some 0) (hs : s ≠ []) : 2 ≤ cl 0 s ∧ cl 0 s ≤ s.length ∧ scan (fstL s) = some 0 ∧ scan (rstL s) = some 0 ∧ (fstL s).length = cl 0 s - 2 ∧ (fstL s).length + (rstL s).length + 2 = s.length := by
  cases s with
  | nil => exact absurd rfl hs
  | cons c r =>
    have h' : r.foldl vstep (vstep (some 0) c) = some 0 := h
    have hst : ∃ e, vstep (some 0) c = some e := by
      cases hv : vstep (some 0) c with
      | none => rw [hv, fold_none] at h'; cases h'
      | some e => exact ⟨e, rfl⟩
    obtain ⟨e, he⟩ := hst
    rcases step_some he with hc | ⟨_, h0⟩
    · rw [step_opn 0 hc] at h'
      obtain ⟨h1, h2, h3, h4⟩ := cl_split r 1 (by omega) h'
      have hk : cl 0 (c :: r) = 1 + cl 1 r := cl_opn 0 c r hc
      have hf : fstL (c :: r) = r.take (cl 1 r - 1) := by
        rw [fstL, hk, List.drop_succ_cons, List.drop_zero, show 1 + cl 1 r - 2 = cl 1 r - 1 by omega]
      have hr : rstL (c :: r) = r.drop (cl 1 r) := by
        rw [rstL, hk, show 1 + cl 1 r = cl 1 r + 1 by omega, List.drop_succ_cons]
      rw [hf, hr, hk]
      refine ⟨by omega, by simp; omega, h3, h4, by simp; omega, by simp; omega⟩
    · omega

/-- the rows of a word's nodes, numbered from one on -/
def binL : Nat → List UInt8 → Nat → List (List Int)
  | 0, _, _ => []
  | f + 1, s, at_ => if s = [] then [] else
      [if fstL s = [] then -1 else (at_ : Int) + 1, if rstL s = [] then -1 else (at_ : Int) + 1 + ((fstL s).length / 2 : Nat)] ::
        (binL f (fstL s) (at_ + 1) ++ binL f (rstL s) (at_ + 1 + (fstL s).length / 2))
theorem binL_nil (f at_ : Nat) : binL f [] at_ = [] := by cases f <;> rfl
theorem binL_cons (f at_ : Nat) (s : List UInt8) (h : s ≠ []) : binL (f + 1) s at_ = [if fstL s = [] then -1 else (at_ : Int) + 1, if rstL s = [] then -1 else (at_ : Int) + 1 + ((fstL s).length / 2 : Nat)] ::
        (binL f (fstL s) (at_ + 1) ++ binL f (rstL s) (at_ + 1 + (fstL s).length / 2)) := by rw [binL, if_neg h]
theorem binL_length (f : Nat) : ∀ (s : List UInt8) (at_ : Nat), scan s = some 0 → s.length ≤ f → (binL f s at_).length = s.length / 2 := by
  induction f with
  | zero => intro s at_ _ h; rw [List.eq_nil_of_length_eq_zero (by omega : s.length = 0)]; rfl
  | succ f ih =>
    intro s at_ hs hf
    by_cases h : s = []
    · rw [h, binL_nil]; rfl
    · obtain ⟨_, _, k3, k4, _, k6⟩ := parts_ok hs h
      have e1 := fold_even _ 0 0 k3
      have e2 := fold_even _ 0 0 k4
      rw [binL_cons _ _ _ h, List.length_cons, List.length_append, ih _ _ k3 (by omega), ih _ _ k4 (by omega)]
      omega

/-- the triangles of a word over the corners from one to another one -/
def fansL : Nat → List UInt8 → Nat → Nat → List (List Int)
  | 0, _, _, _ => []
  | f + 1, s, lo, hi => if s = [] then [] else
      [(lo : Int), ((lo + 1 + (fstL s).length / 2 : Nat) : Int), (hi : Int)] :: (fansL f (fstL s) lo (lo + 1 + (fstL s).length / 2) ++ fansL f (rstL s) (lo + 1 + (fstL s).length / 2) hi)
theorem fansL_nil (f lo hi : Nat) : fansL f [] lo hi = [] := by cases f <;> rfl
theorem fansL_cons (f lo hi : Nat) (s : List UInt8) (h : s ≠ []) : fansL (f + 1) s lo hi =
      [(lo : Int), ((lo + 1 + (fstL s).length / 2 : Nat) : Int), (hi : Int)] :: (fansL f (fstL s) lo (lo + 1 + (fstL s).length / 2) ++ fansL f (rstL s) (lo + 1 + (fstL s).length / 2) hi) := by rw [fansL, if_neg h]
theorem fansL_length (f : Nat) : ∀ (s : List UInt8) (lo hi : Nat), scan s = some 0 → s.length ≤ f → (fansL f s lo hi).length = s.length / 2 := by
  induction f with
  | zero => intro s lo hi _ h; rw [List.eq_nil_of_length_eq_zero (by omega : s.length = 0)]; rfl
  | succ f ih =>
    intro s lo hi hs hf
    by_cases h : s = []
    · rw [h, fansL_nil]; rfl
    · obtain ⟨_, _, k3, k4, _, k6⟩ := parts_ok hs h
      have e1 := fold_even _ 0 0 k3
      have e2 := fold_even _ 0 0 k4
      rw [fansL_cons _ _ _ _ h, List.length_cons, List.length_append, ih _ _ _ k3 (by omega), ih _ _ _ k4 (by omega)]
      omega

/-- numbers behind a stack -/
def stepS (st : List Nat × List Nat × Nat) (c : UInt8) : List Nat × List Nat × Nat :=
  if c.toNat = 40 then (st.1 ++ [st.2.2], st.2.1, st.2.2 + 1) else (st.1.dropLast, st.2.1 ++ [st.1.getLastD 0], st.2.2)
def stackF (s : List UInt8) : List Nat × List Nat × Nat := s.foldl stepS ([], [], 0)
def stackL (s : List UInt8) : List Int := (stackF s).2.1.map fun (k : Nat) => (k : Int)

/-- the nodes of a two-armed tree from one on, each one between its arms -/
def btwL (rows : List (List Int)) : Nat → Int → List Int
  | 0, _ => []
  | f + 1, x => if x < 0 then [] else btwL rows f ((rows.getD x.toNat []).getD 0 (-1)) ++ [x] ++ btwL rows f ((rows.getD x.toNat []).getD 1 (-1))
/-- the word of a two-armed tree from a node on -/
def wobL (rows : List (List Int)) : Nat → Int → List UInt8
  | 0, _ => []
  | f + 1, x => if x < 0 then [] else [40] ++ wobL rows f ((rows.getD x.toNat []).getD 0 (-1)) ++ [41] ++ wobL rows f ((rows.getD x.toNat []).getD 1 (-1))
end Go.Proofs.Ytmlcbeekimiaiaa
