/-
  Plain facts on words as two-armed trees, as rows of a stack, as cut polygons. Nothing of the program is named here.
  Plain facts on the rows of two-armed trees. Nothing of the program is named here.
  Plain facts: the rows of a word are a tree, that tree spells the word, its nodes between their arms are the word's row behind a stack. Nothing of the program is named here.
  Plain facts: rows that are a tree are the rows of the word that they spell. Nothing of the program is named here.
  Plain facts on words as trees of two arms: their texts, their turns. Nothing of the program is named here.
  Plain: the product of the numbers up to one. Nothing of the program is named here.
  Plain facts on heaps: the tree of a row's least numbers, how many rows have a tree, by choices and by hooks. Nothing of the program is named here.
  Plain facts: falls and rises of a row; when a row is one, number by number. Nothing of the program is named here.
  Plain facts on heaps: a tree's rows of arms and its middle order; the product of the sizes of all parts; least numbers stand on top. Nothing of the program is named here.
  Plain facts: a word's two-armed tree, built bracket by bracket: the numbers on the arms, the open nodes, the arm that waits. Nothing of the program is named here.
  Plain facts: from a row of numbers back to a word by a stack; the row behind a word's stack gives the word. Nothing of the program is named here.
-/
import Derived.Test.YtakpbnkncjddeaaZX
import Derived.Test.YtakpbnkncjddeaaWords
namespace Go.Proofs.Ytakpbnkncjddeaa

/-- how many bytes until what is open (d pairs) and what opens is closed -/
def cl : Nat → List UInt8 → Nat
  | _, [] => 0
  | d, c :: r => if c.toNat = 40 then 1 + cl (d + 1) r else if d ≤ 1 then 1 else 1 + cl (d - 1) r
theorem cl_opn (d : Nat) (c : UInt8) (r : List UInt8) (h : c.toNat = 40) : cl d (c :: r) = 1 + cl (d + 1) r := by rw [cl, if_pos h]
theorem cl_last (d : Nat) (c : UInt8) (r : List UInt8) (h : c.toNat ≠ 40) (hd : d ≤ 1) : cl d (c :: r) = 1 := by rw [cl, if_neg h, if_pos hd]
theorem cl_cls (d : Nat) (c : UInt8) (r : List UInt8) (h : c.toNat ≠ 40) (hd : ¬ d ≤ 1) : cl d (c :: r) = 1 + cl (d - 1) r := by rw [cl, if_neg h, if_neg hd]

theorem step_opn (d : Nat) {c : UInt8} (h : c.toNat = 40) : vstep (some d) c = some (d + 1) := by simp [vstep, h]
theorem step_cls {d : Nat} {c : UInt8} (h : c.toNat = 41) (hd : 0 < d) : vstep (some d) c = some (d - 1) := by simp [vstep, h]; omega
theorem step_some {d e : Nat} {c : UInt8} (h : vstep (some d) c = some e) : c.toNat = 40 ∨ (c.toNat = 41 ∧ 0 < d) := by
  by_cases h1 : c.toNat = 40
  · exact .inl h1
  · right
    by_cases h2 : c.toNat = 41
    · refine ⟨h2, ?_⟩
      apply Classical.byContradiction
      intro h0
      obtain rfl : d = 0 := by omega
      simp [vstep, h2] at h
    · simp [vstep, h1, h2] at h

theorem cl_split : ∀ (l : List UInt8) (d : Nat), 0 < d → l.foldl vstep (some d) = some 0 →
    1 ≤ cl d l ∧ cl d l ≤ l.length ∧ (l.take (cl d l - 1)).foldl vstep (some (d - 1)) = some 0 ∧ (l.drop (cl d l)).foldl vstep (some 0) = some 0 := by
  intro l
  induction l with
  | nil => intro d hd h; simp at h; omega
  | cons c r ih =>
    intro d hd h
    simp only [List.foldl_cons] at h
    have hs : ∃ e, vstep (some d) c = some e := by
      cases hv : vstep (some d) c with
      | none => rw [hv, fold_none] at h; cases h
      | some e => exact ⟨e, rfl⟩
    obtain ⟨e, he⟩ := hs
    rcases step_some he with hc | ⟨hc, _⟩
    · rw [step_opn d hc] at h
      obtain ⟨h1, h2, h3, h4⟩ := ih (d + 1) (by omega) h
      rw [cl_opn d c r hc]
      refine ⟨by omega, by simp; omega, ?_, ?_⟩
      · rw [show 1 + cl (d + 1) r - 1 = (cl (d + 1) r - 1) + 1 by omega, List.take_succ_cons, List.foldl_cons, step_opn _ hc, show d - 1 + 1 = d + 1 - 1 by omega]
        exact h3
      · rw [show 1 + cl (d + 1) r = cl (d + 1) r + 1 by omega, List.drop_succ_cons]; exact h4
    · have hn : c.toNat ≠ 40 := by omega
      rw [step_cls hc hd] at h
      by_cases h1 : d ≤ 1
      · rw [cl_last d c r hn h1]
        obtain rfl : d = 1 := by omega
        exact ⟨by omega, by simp, rfl, h⟩
      · obtain ⟨k1, k2, k3, k4⟩ := ih (d - 1) (by omega) h
        rw [cl_cls d c r hn h1]
        refine ⟨by omega, by simp; omega, ?_, ?_⟩
        · rw [show 1 + cl (d - 1) r - 1 = (cl (d - 1) r - 1) + 1 by omega, List.take_succ_cons, List.foldl_cons, step_cls hc (by omega)]
          exact k3
        · rw [show 1 + cl (d - 1) r = cl (d - 1) r + 1 by omega, List.drop_succ_cons]; exact k4

/-- what is in the first pair, and what is behind it -/
def fstL (s : List UInt8) : List UInt8 := (s.drop 1).take (cl 0 s - 2)
def rstL (s : List UInt8) : List UInt8 := s.drop (cl 0 s)
theorem parts_ok {s : List UInt8} (h : scan s = some 0) (hs : s ≠ []) : 2 ≤ cl 0 s ∧ cl 0 s ≤ s.length ∧ scan (fstL s) = some 0 ∧ scan (rstL s) = some 0 ∧ (fstL s).length = cl 0 s - 2 ∧ (fstL s).length + (rstL s).length + 2 = s.length := by
  cases s with
  | nil => exact absurd rfl hs
  | cons c r =>
    have h' : r.foldl vstep (vstep (some 0) c) = some 0 := h
    have hst : ∃ e, vstep (some 0) c = some e := by
      cases hv : vstep (some 0) c with
      | none => rw [hv, fold_none] at h'; cases h'
      | some e => exact ⟨e, rfl⟩
    obtain ⟨e, he⟩ := hst
    rcases step_some he with hc | ⟨_, h0⟩
    · rw [step_opn 0 hc] at h'
      obtain ⟨h1, h2, h3, h4⟩ := cl_split r 1 (by omega) h'
      have hk : cl 0 (c :: r) = 1 + cl 1 r := cl_opn 0 c r hc
      have hf : fstL (c :: r) = r.take (cl 1 r - 1) := by
        rw [fstL, hk, List.drop_succ_cons, List.drop_zero, show 1 + cl 1 r - 2 = cl 1 r - 1 by omega]
      have hr : rstL (c :: r) = r.drop (cl 1 r) := by
        rw [rstL, hk, show 1 + cl 1 r = cl 1 r + 1 by omega, List.drop_succ_cons]
      rw [hf, hr, hk]
      refine ⟨by omega, by simp; omega, h3, h4, by simp; omega, by simp; omega⟩
    · omega

/-- the rows of a word's nodes, numbered from one on -/
def binL : Nat → List UInt8 → Nat → List (List Int)
  | 0, _, _ => []
  | f + 1, s, at_ => if s = [] then [] else
      [if fstL s = [] then -1 else (at_ : Int) + 1, if rstL s = [] then -1 else (at_ : Int) + 1 + ((fstL s).length / 2 : Nat)] ::
        (binL f (fstL s) (at_ + 1) ++ binL f (rstL s) (at_ + 1 + (fstL s).length / 2))
theorem binL_nil (f at_ : Nat) : binL f [] at_ = [] := by cases f <;> rfl
theorem binL_cons (f at_ : Nat) (s : List UInt8) (h : s ≠ []) : binL (f + 1) s at_ = [if fstL s = [] then -1 else (at_ : Int) + 1, if rstL s = [] then -1 else (at_ : Int) + 1 + ((fstL s).length / 2 : Nat)] ::
        (binL f (fstL s) (at_ + 1) ++ binL f (rstL s) (at_ + 1 + (fstL s).length / 2)) := by rw [binL, if_neg h]
theorem binL_length (f : Nat) : ∀ (s : List UInt8) (at_ : Nat), scan s = some 0 → s.length ≤ f → (binL f s at_).length = s.length / 2 := by
  induction f with
  | zero => intro s at_ _ h; rw [List.eq_nil_of_length_eq_zero (by omega : s.length = 0)]; rfl
  | succ f ih =>
    intro s at_ hs hf
    by_cases h : s = []
    · rw [h, binL_nil]; rfl
    · obtain ⟨_, _, k3, k4, _, k6⟩ := parts_ok hs h
      have e1 := fold_even _ 0 0 k3
      have e2 := fold_even _ 0 0 k4
      rw [binL_cons _ _ _ h, List.length_cons, List.length_append, ih _ _ k3 (by omega), ih _ _ k4 (by omega)]
      omega

/-- the triangles of a word over the corners from one to another one -/
def fansL : Nat → List UInt8 → Nat → Nat → List (List Int)
  | 0, _, _, _ => []
  | f + 1, s, lo, hi => if s = [] then [] else
      [(lo : Int), ((lo + 1 + (fstL s).length / 2 : Nat) : Int), (hi : Int)] :: (fansL f (fstL s) lo (lo + 1 + (fstL s).length / 2) ++ fansL f (rstL s) (lo + 1 + (fstL s).length / 2) hi)
theorem fansL_nil (f lo hi : Nat) : fansL f [] lo hi = [] := by cases f <;> rfl
theorem fansL_cons (f lo hi : Nat) (s : List UInt8) (h : s ≠ []) : fansL (f + 1) s lo hi =
      [(lo : Int), ((lo + 1 + (fstL s).length / 2 : Nat) : Int), (hi : Int)] :: (fansL f (fstL s) lo (lo + 1 + (fstL s).length / 2) ++ fansL f (rstL s) (lo + 1 + (fstL s).length / 2) hi) := by rw [fansL, if_neg h]
theorem fansL_length (f : Nat) : ∀ (s : List UInt8) (lo hi : Nat), scan s = some 0 → s.length ≤ f → (fansL f s lo hi).length = s.length / 2 := by
  induction f with
  | zero => intro s lo hi _ h; rw [List.eq_nil_of_length_eq_zero (by omega : s.length = 0)]; rfl
  | succ f ih =>
    intro s lo hi hs hf
    by_cases h : s = []
    · rw [h, fansL_nil]; rfl
    · obtain ⟨_, _, k3, k4, _, k6⟩ := parts_ok hs h
      have e1 := fold_even _ 0 0 k3
      have e2 := fold_even _ 0 0 k4
      rw [fansL_cons _ _ _ _ h, List.length_cons, List.length_append, ih _ _ _ k3 (by omega), ih _ _ _ k4 (by omega)]
      omega

/-- numbers behind a stack -/
def stepS (st : List Nat × List Nat × Nat) (c : UInt8) : List Nat × List Nat × Nat :=
  if c.toNat = 40 then (st.1 ++ [st.2.2], st.2.1, st.2.2 + 1) else (st.1.dropLast, st.2.1 ++ [st.1.getLastD 0], st.2.2)
def stackF (s : List UInt8) : List Nat × List Nat × Nat := s.foldl stepS ([], [], 0)
def stackL (s : List UInt8) : List Int := (stackF s).2.1.map fun (k : Nat) => (k : Int)

/-- the nodes of a two-armed tree from one on, each one between its arms -/
def btwL (rows : List (List Int)) : Nat → Int → List Int
  | 0, _ => []
  | f + 1, x => if x < 0 then [] else btwL rows f ((rows.getD x.toNat []).getD 0 (-1)) ++ [x] ++ btwL rows f ((rows.getD x.toNat []).getD 1 (-1))
/-- the word of a two-armed tree from a node on -/
def wobL (rows : List (List Int)) : Nat → Int → List UInt8
  | 0, _ => []
  | f + 1, x => if x < 0 then [] else [40] ++ wobL rows f ((rows.getD x.toNat []).getD 0 (-1)) ++ [41] ++ wobL rows f ((rows.getD x.toNat []).getD 1 (-1))
end Go.Proofs.Ytakpbnkncjddeaa

namespace Go.Proofs.Ytakpbnkncjddeaa

def armA (rows : List (List Int)) (k : Nat) : Int := (rows.getD k []).getD 0 (-1)
def armB (rows : List (List Int)) (k : Nat) : Int := (rows.getD k []).getD 1 (-1)
/-- from x on the rows are a tree that is not too deep -/
def okT (rows : List (List Int)) : Nat → Int → Prop
  | 0, x => x < 0
  | f + 1, x => x < 0 ∨ (x.toNat < rows.length ∧ (rows.getD x.toNat []).length = 2 ∧ okT rows f (armA rows x.toNat) ∧ okT rows f (armB rows x.toNat))
theorem okT_nat {rows : List (List Int)} {f k : Nat} (h : okT rows (f + 1) (k : Int)) : k < rows.length ∧ (rows.getD k []).length = 2 ∧ okT rows f (armA rows k) ∧ okT rows f (armB rows k) := by
  rcases h with h | h
  · omega
  · exact h
theorem okT_more (rows : List (List Int)) : ∀ (f g : Nat) (x : Int), f ≤ g → okT rows f x → okT rows g x := by
  intro f
  induction f with
  | zero => intro g x _ h; cases g with
    | zero => exact h
    | succ g => exact .inl h
  | succ f ih => intro g x hg h; cases g with
    | zero => omega
    | succ g =>
      rcases h with h | ⟨a, b, c, d⟩
      · exact .inl h
      · exact .inr ⟨a, b, ih g _ (by omega) c, ih g _ (by omega) d⟩
theorem wobL_neg (rows : List (List Int)) (f : Nat) (x : Int) (h : x < 0) : wobL rows f x = [] := by cases f with
  | zero => rfl
  | succ f => rw [wobL, if_pos h]
theorem wobL_nat (rows : List (List Int)) (f k : Nat) : wobL rows (f + 1) (k : Int) = [40] ++ wobL rows f (armA rows k) ++ [41] ++ wobL rows f (armB rows k) := by
  rw [wobL, if_neg (by omega)]; rfl
theorem btwL_neg (rows : List (List Int)) (f : Nat) (x : Int) (h : x < 0) : btwL rows f x = [] := by cases f with
  | zero => rfl
  | succ f => rw [btwL, if_pos h]
theorem btwL_nat (rows : List (List Int)) (f k : Nat) : btwL rows (f + 1) (k : Int) = btwL rows f (armA rows k) ++ [(k : Int)] ++ btwL rows f (armB rows k) := by
  rw [btwL, if_neg (by omega)]; rfl
theorem wobL_len (rows : List (List Int)) : ∀ (f : Nat) (x : Int), (wobL rows f x).length + 2 ≤ 2 ^ (f + 1) := by
  intro f
  induction f with
  | zero => intro x; simp [wobL]
  | succ f ih =>
    intro x
    rw [wobL]
    split
    · have : 0 < 2 ^ (f + 1) := Nat.pow_pos (by decide)
      simp only [List.length_nil, Nat.pow_succ] at *; omega
    · have h1 := ih ((rows.getD x.toNat []).getD 0 (-1))
      have h2 := ih ((rows.getD x.toNat []).getD 1 (-1))
      simp only [List.length_append, List.length_cons, List.length_nil]
      rw [Nat.pow_succ 2 (f + 1)]; omega
theorem btwL_len (rows : List (List Int)) : ∀ (f : Nat) (x : Int), (btwL rows f x).length + 1 ≤ 2 ^ f := by
  intro f
  induction f with
  | zero => intro x; simp [btwL]
  | succ f ih =>
    intro x
    rw [btwL]
    split
    · have : 0 < 2 ^ f := Nat.pow_pos (by decide)
      simp only [List.length_nil, Nat.pow_succ] at *; omega
    · have h1 := ih ((rows.getD x.toNat []).getD 0 (-1))
      have h2 := ih ((rows.getD x.toNat []).getD 1 (-1))
      simp only [List.length_append, List.length_cons, List.length_nil]
      rw [Nat.pow_succ 2 f]; omega
theorem pow_bound {f : Nat} (h : f ≤ 10) : 2 ^ f ≤ 1024 := Nat.pow_le_pow_right (by decide) h

/-- how many nodes from one on, -1 if the rows are no tree there -/
def armN (sz : Nat → Int) (at_ : Nat) (n x : Int) : Int := if x = -1 then n else if x ≠ at_ + n then -1 else if sz x.toNat < 0 then -1 else n + sz x.toNat
def szL (rows : List (List Int)) : Nat → Nat → Int
  | 0, _ => -1
  | f + 1, k => if rows.length ≤ k ∨ (rows.getD k []).length ≠ 2 then -1 else
      if armN (szL rows f) k 1 (armA rows k) < 0 then -1 else armN (szL rows f) k (armN (szL rows f) k 1 (armA rows k)) (armB rows k)
theorem szL_no (rows : List (List Int)) (f k : Nat) (h : rows.length ≤ k ∨ (rows.getD k []).length ≠ 2) : szL rows f k = -1 := by
  cases f with
  | zero => rfl
  | succ f => rw [szL, if_pos h]
theorem szL_yes (rows : List (List Int)) (f k : Nat) (h : k < rows.length) (h2 : (rows.getD k []).length = 2) : szL rows (f + 1) k =
    if armN (szL rows f) k 1 (armA rows k) < 0 then -1 else armN (szL rows f) k (armN (szL rows f) k 1 (armA rows k)) (armB rows k) := by
  rw [szL, if_neg (by omega)]
theorem armN_no (sz : Nat → Int) (at_ : Nat) (n : Int) : armN sz at_ n (-1) = n := if_pos rfl
theorem armN_off (sz : Nat → Int) (at_ : Nat) (n x : Int) (h : x ≠ -1) (h2 : x ≠ at_ + n) : armN sz at_ n x = -1 := by rw [armN, if_neg h, if_pos h2]
theorem armN_bad (sz : Nat → Int) (at_ : Nat) (n x : Int) (h : x ≠ -1) (h2 : x = at_ + n) (h3 : sz x.toNat < 0) : armN sz at_ n x = -1 := by rw [armN, if_neg h, if_neg (by omega), if_pos h3]
theorem armN_on (sz : Nat → Int) (at_ : Nat) (n x : Int) (h : x ≠ -1) (h2 : x = at_ + n) (h3 : ¬ sz x.toNat < 0) : armN sz at_ n x = n + sz x.toNat := by rw [armN, if_neg h, if_neg (by omega), if_neg h3]
/-- what is counted lies in the rows -/
theorem szL_le (rows : List (List Int)) : ∀ (f k : Nat), -1 ≤ szL rows f k ∧ (0 ≤ szL rows f k → 1 ≤ szL rows f k ∧ (k : Int) + szL rows f k ≤ rows.length) := by
  intro f
  induction f with
  | zero => intro k; simp [szL]
  | succ f ih =>
    intro k
    by_cases h : k < rows.length ∧ (rows.getD k []).length = 2
    · rw [szL_yes _ _ _ h.1 h.2]
      have key : ∀ (n x : Int), 1 ≤ n → (k : Int) + n ≤ rows.length → -1 ≤ armN (szL rows f) k n x ∧ (0 ≤ armN (szL rows f) k n x → 1 ≤ armN (szL rows f) k n x ∧ (k : Int) + armN (szL rows f) k n x ≤ rows.length) := by
        intro n x hn hle
        unfold armN
        split
        · omega
        · split
          · omega
          · rename_i h1 h2
            have := ih x.toNat
            split
            · omega
            · have h3 := this.2 (by omega)
              have h4 : (x.toNat : Int) = x := by omega
              omega
      have k1 := key 1 (armA rows k) (by omega) (by omega)
      split
      · omega
      · exact key _ (armB rows k) (k1.2 (by omega)).1 (k1.2 (by omega)).2
    · rw [szL_no _ _ _ (by omega)]; omega
/-- what is counted is a tree, as deep as fuel was taken -/
theorem szL_ok (rows : List (List Int)) : ∀ (f k : Nat), 0 ≤ szL rows f k → okT rows f (k : Int) := by
  intro f
  induction f with
  | zero => intro k h; simp [szL] at h
  | succ f ih =>
    intro k h
    by_cases hk : k < rows.length ∧ (rows.getD k []).length = 2
    · rw [szL_yes _ _ _ hk.1 hk.2] at h
      have key : ∀ (n x : Int), 1 ≤ n → 0 ≤ armN (szL rows f) k n x → okT rows f x := by
        intro n x hn h1
        unfold armN at h1
        split at h1
        · rename_i e; subst e; cases f with
          | zero => exact (by decide : (-1 : Int) < 0)
          | succ f => exact .inl (by decide)
        · split at h1
          · omega
          · split at h1
            · omega
            · rename_i e1 e2 e3
              have h4 : (x.toNat : Int) = x := by omega
              rw [← h4]
              exact ih _ (by omega)
      by_cases h1 : armN (szL rows f) k 1 (armA rows k) < 0
      · rw [if_pos h1] at h; omega
      · rw [if_neg h1] at h
        refine .inr ⟨hk.1, hk.2, key 1 _ (by omega) (by simp only [Int.toNat_natCast]; omega), ?_⟩
        have h2 : 1 ≤ armN (szL rows f) k 1 (armA rows k) := by
          unfold armN at h1 ⊢
          split
          · omega
          · split
            · rename_i e1 e2; rw [if_neg e1, if_pos e2] at h1; omega
            · rename_i e1 e2
              rw [if_neg e1, if_neg e2] at h1
              split
              · rename_i e3; rw [if_pos e3] at h1; omega
              · omega
        exact key _ _ h2 h
    · rw [szL_no _ _ _ (by omega)] at h; omega
theorem armN_le (rows : List (List Int)) (f k : Nat) (n x : Int) (hn : 1 ≤ n) (hle : (k : Int) + n ≤ rows.length) (h : 0 ≤ armN (szL rows f) k n x) :
    1 ≤ armN (szL rows f) k n x ∧ (k : Int) + armN (szL rows f) k n x ≤ rows.length := by
  unfold armN at h ⊢
  split
  · omega
  · rename_i h1
    rw [if_neg h1] at h
    split
    · rename_i h2; rw [if_pos h2] at h; omega
    · rename_i h2
      rw [if_neg h2] at h
      have := szL_le rows f x.toNat
      split
      · rename_i h3; rw [if_pos h3] at h; omega
      · have h3 := this.2 (by omega)
        have h4 : (x.toNat : Int) = x := by omega
        omega
/-- where the count stands behind j arms -/
def CntI (rows : List (List Int)) (f k j : Nat) (n : Int) : Prop :=
  1 ≤ n ∧ (k : Int) + n ≤ rows.length ∧ ((j = 0 ∧ n = 1) ∨ (j = 1 ∧ n = armN (szL rows f) k 1 (armA rows k)) ∨ (j = 2 ∧ n = szL rows (f + 1) k))
def armJ (rows : List (List Int)) (k j : Nat) : Int := if j = 0 then armA rows k else armB rows k
theorem CntI.bad {rows : List (List Int)} {f k j : Nat} {n : Int} (hk : k < rows.length) (h2 : (rows.getD k []).length = 2) (h : CntI rows f k j n) (hj : j < 2) (hn : armN (szL rows f) k n (armJ rows k j) = -1) : szL rows (f + 1) k = -1 := by
  rw [szL_yes _ _ _ hk h2]
  rcases h.2.2 with ⟨rfl, rfl⟩ | ⟨rfl, rfl⟩ | ⟨rfl, _⟩
  · rw [armJ, if_pos rfl] at hn; rw [hn]; rfl
  · rw [if_neg (by have := h.1; omega)]
    rw [armJ, if_neg (by decide)] at hn; exact hn
  · omega
theorem CntI.next {rows : List (List Int)} {f k j : Nat} {n : Int} (hk : k < rows.length) (h2 : (rows.getD k []).length = 2) (h : CntI rows f k j n) (hj : j < 2) (hn : 0 ≤ armN (szL rows f) k n (armJ rows k j)) : CntI rows f k (j + 1) (armN (szL rows f) k n (armJ rows k j)) := by
  have := armN_le rows f k n _ h.1 h.2.1 hn
  refine ⟨this.1, this.2, ?_⟩
  rcases h.2.2 with ⟨rfl, rfl⟩ | ⟨rfl, rfl⟩ | ⟨rfl, _⟩
  · exact .inr (.inl ⟨rfl, rfl⟩)
  · refine .inr (.inr ⟨rfl, ?_⟩)
    rw [szL_yes _ _ _ hk h2, if_neg (by have := h.1; omega)]; rfl
  · omega
/-- rows that are a two-armed tree -/
def treeW (rows : List (List Int)) : Bool := decide (rows.length ≤ 9) && (decide (rows.length = 0) || decide (szL rows 10 0 = rows.length))
theorem tree_sz (rows : List (List Int)) (h : treeW rows = true) (h0 : ¬ rows.length = 0) : szL rows 10 0 = rows.length := by
  unfold treeW at h
  simp only [Bool.and_eq_true, Bool.or_eq_true, decide_eq_true_eq] at h
  exact h.2.resolve_left h0
theorem szL_ok0 (rows : List (List Int)) (f : Nat) (n : Nat) (h : szL rows f 0 = n) : okT rows f 0 := szL_ok rows f 0 (by rw [h]; omega)
theorem tree_ok (rows : List (List Int)) (h : treeW rows = true) (h0 : ¬ rows.length = 0) : okT rows 10 0 := szL_ok0 rows 10 rows.length (tree_sz rows h h0)
end Go.Proofs.Ytakpbnkncjddeaa

namespace Go.Proofs.Ytakpbnkncjddeaa

theorem cl_at : ∀ (l : List UInt8) (d : Nat), 0 < d → l.foldl vstep (some d) = some 0 → ∃ c, l = l.take (cl d l - 1) ++ c :: l.drop (cl d l) ∧ c.toNat = 41 := by
  intro l
  induction l with
  | nil => intro d hd h; simp at h; omega
  | cons c r ih =>
    intro d hd h
    simp only [List.foldl_cons] at h
    have hs : ∃ e, vstep (some d) c = some e := by
      cases hv : vstep (some d) c with
      | none => rw [hv, fold_none] at h; cases h
      | some e => exact ⟨e, rfl⟩
    obtain ⟨e, he⟩ := hs
    rcases step_some he with hc | ⟨hc, _⟩
    · rw [step_opn d hc] at h
      obtain ⟨c', h1, h2⟩ := ih (d + 1) (by omega) h
      have hp := (cl_split r (d + 1) (by omega) h).1
      rw [cl_opn d c r hc]
      refine ⟨c', ?_, h2⟩
      rw [show 1 + cl (d + 1) r - 1 = (cl (d + 1) r - 1) + 1 by omega, List.take_succ_cons, show 1 + cl (d + 1) r = cl (d + 1) r + 1 by omega, List.drop_succ_cons, List.cons_append, ← h1]
    · have hn : c.toNat ≠ 40 := by omega
      rw [step_cls hc hd] at h
      by_cases h1 : d ≤ 1
      · rw [cl_last d c r hn h1]
        exact ⟨c, by simp, hc⟩
      · obtain ⟨c', k1, k2⟩ := ih (d - 1) (by omega) h
        have hp := (cl_split r (d - 1) (by omega) h).1
        rw [cl_cls d c r hn h1]
        refine ⟨c', ?_, k2⟩
        rw [show 1 + cl (d - 1) r - 1 = (cl (d - 1) r - 1) + 1 by omega, List.take_succ_cons, show 1 + cl (d - 1) r = cl (d - 1) r + 1 by omega, List.drop_succ_cons, List.cons_append, ← k1]
theorem u8_eq {a : UInt8} {b : Nat} (h : a.toNat = b) : a = UInt8.ofNat b := by
  apply UInt8.toNat_inj.1
  rw [h, UInt8.toNat_ofNat']
  have := a.toNat_lt
  omega
/-- a word that is not empty: its first pair, what is in it, what is behind it -/
theorem parts_eq {s : List UInt8} (h : scan s = some 0) (hs : s ≠ []) : s = 40 :: (fstL s ++ 41 :: rstL s) := by
  cases s with
  | nil => exact absurd rfl hs
  | cons c r =>
    have h' : r.foldl vstep (vstep (some 0) c) = some 0 := h
    have hst : ∃ e, vstep (some 0) c = some e := by
      cases hv : vstep (some 0) c with
      | none => rw [hv, fold_none] at h'; cases h'
      | some e => exact ⟨e, rfl⟩
    obtain ⟨e, he⟩ := hst
    rcases step_some he with hc | ⟨_, h0⟩
    · rw [step_opn 0 hc] at h'
      obtain ⟨c', h1, h2⟩ := cl_at r 1 (by omega) h'
      have hk : cl 0 (c :: r) = 1 + cl 1 r := cl_opn 0 c r hc
      have hf : fstL (c :: r) = r.take (cl 1 r - 1) := by
        rw [fstL, hk, List.drop_succ_cons, List.drop_zero, show 1 + cl 1 r - 2 = cl 1 r - 1 by omega]
      have hr : rstL (c :: r) = r.drop (cl 1 r) := by
        rw [rstL, hk, show 1 + cl 1 r = cl 1 r + 1 by omega, List.drop_succ_cons]
      rw [hf, hr]
      have e1 : c = 40 := u8_eq hc
      have e2 : c' = 41 := u8_eq h2
      rw [e2] at h1
      rw [e1]
      congr 1
    · omega

/-- the nodes in the order in which they end, numbered from one on -/
def btwP : Nat → List UInt8 → Nat → List Nat
  | 0, _, _ => []
  | f + 1, s, n => if s = [] then [] else btwP f (fstL s) (n + 1) ++ [n] ++ btwP f (rstL s) (n + 1 + (fstL s).length / 2)
theorem btwP_nil (f n : Nat) : btwP f [] n = [] := by cases f <;> rfl
theorem btwP_cons (f n : Nat) (s : List UInt8) (h : s ≠ []) : btwP (f + 1) s n = btwP f (fstL s) (n + 1) ++ [n] ++ btwP f (rstL s) (n + 1 + (fstL s).length / 2) := by rw [btwP, if_neg h]
theorem fold_btw : ∀ (f : Nat) (s : List UInt8) (st out : List Nat) (n : Nat), scan s = some 0 → s.length ≤ f → s.foldl stepS (st, out, n) = (st, out ++ btwP f s n, n + s.length / 2) := by
  intro f
  induction f with
  | zero => intro s st out n _ hf; rw [List.eq_nil_of_length_eq_zero (by omega : s.length = 0)]; simp [btwP]
  | succ f ih =>
    intro s st out n h hf
    by_cases hs : s = []
    · subst hs; simp [btwP_nil]
    · obtain ⟨_, _, k3, k4, _, k6⟩ := parts_ok h hs
      have e1 := fold_even _ 0 0 k3
      have e2 := fold_even _ 0 0 k4
      have p := parts_eq h hs
      rw [btwP_cons _ _ _ hs]
      obtain ⟨a, ha⟩ : ∃ a, a = fstL s := ⟨_, rfl⟩
      obtain ⟨b, hb⟩ : ∃ b, b = rstL s := ⟨_, rfl⟩
      rw [← ha, ← hb] at p
      rw [← ha] at k3 k6 e1 ⊢
      rw [← hb] at k4 k6 e2 ⊢
      have e3 : s.length / 2 = 1 + a.length / 2 + b.length / 2 := by omega
      rw [e3, p]
      rw [List.foldl_cons, List.foldl_append, List.foldl_cons]
      have s1 : stepS (st, out, n) 40 = (st ++ [n], out, n + 1) := by rw [stepS, if_pos (by decide)]
      rw [s1, ih a _ _ _ k3 (by omega)]
      have s2 : stepS (st ++ [n], out ++ btwP f a (n + 1), n + 1 + a.length / 2) 41 = (st, out ++ btwP f a (n + 1) ++ [n], n + 1 + a.length / 2) := by
        rw [stepS, if_neg (by decide)]; simp
      rw [s2, ih b _ _ _ k4 (by omega)]
      simp only [List.append_assoc, Prod.mk.injEq, true_and]
      omega
theorem stackL_btw (s : List UInt8) (h : scan s = some 0) : stackL s = (btwP s.length s 0).map fun (k : Nat) => (k : Int) := by
  rw [stackL, stackF, fold_btw s.length s [] [] 0 h (Nat.le_refl _)]; rfl

/-- where a word's tree begins in its rows -/
def rootA (s : List UInt8) (n : Nat) : Int := if s = [] then -1 else (n : Int)
theorem okT_neg (rows : List (List Int)) (F : Nat) : okT rows F (-1) := by cases F with
  | zero => exact (by decide : (-1 : Int) < 0)
  | succ F => exact .inl (by decide)
theorem getD_mid {α : Type} (pre post : List α) (x d : α) (n : Nat) (h : pre.length = n) : (pre ++ x :: post).getD n d = x := by
  rw [List.getD_eq_getElem?_getD, List.getElem?_append_right (by omega), h, Nat.sub_self]; rfl
/-- the rows of a word, among others: a tree, its word, its nodes -/
theorem binL_tree : ∀ (f : Nat) (s : List UInt8) (n F : Nat) (pre post : List (List Int)), scan s = some 0 → s.length ≤ f → pre.length = n → s.length ≤ 2 * F →
    okT (pre ++ binL f s n ++ post) F (rootA s n) ∧ wobL (pre ++ binL f s n ++ post) F (rootA s n) = s ∧ btwL (pre ++ binL f s n ++ post) F (rootA s n) = (btwP f s n).map fun (k : Nat) => (k : Int) := by
  intro f
  induction f with
  | zero =>
    intro s n F pre post _ hf _ _
    rw [List.eq_nil_of_length_eq_zero (by omega : s.length = 0)]
    have e : rootA [] n = -1 := rfl
    rw [e]
    exact ⟨okT_neg _ _, wobL_neg _ _ _ (by decide), btwL_neg _ _ _ (by decide)⟩
  | succ f ih =>
    intro s n F pre post h hf hp hF
    by_cases hs : s = []
    · subst hs
      have e : rootA [] n = -1 := rfl
      rw [e, btwP_nil]
      exact ⟨okT_neg _ _, wobL_neg _ _ _ (by decide), btwL_neg _ _ _ (by decide)⟩
    · obtain ⟨_, _, k3, k4, _, k6⟩ := parts_ok h hs
      have p := parts_eq h hs
      have e1 := fold_even _ 0 0 k3
      obtain ⟨F', rfl⟩ : ∃ F', F = F' + 1 := ⟨F - 1, by omega⟩
      have eL := binL_length f (fstL s) (n + 1) k3 (by omega)
      rw [binL_cons _ _ _ hs, btwP_cons _ _ _ hs]
      have er : rootA s n = (n : Int) := if_neg hs
      rw [er]
      have ra : (if fstL s = [] then -1 else (n : Int) + 1) = rootA (fstL s) (n + 1) := by unfold rootA; split <;> simp
      have rb : (if rstL s = [] then -1 else (n : Int) + 1 + ((fstL s).length / 2 : Nat)) = rootA (rstL s) (n + 1 + (fstL s).length / 2) := by
        unfold rootA; split
        · rfl
        · omega
      rw [ra, rb]
      obtain ⟨row, hrow⟩ : ∃ row, row = [rootA (fstL s) (n + 1), rootA (rstL s) (n + 1 + (fstL s).length / 2)] := ⟨_, rfl⟩
      rw [← hrow]
      have i1 := ih (fstL s) (n + 1) F' (pre ++ [row]) (binL f (rstL s) (n + 1 + (fstL s).length / 2) ++ post) k3 (by omega) (by simp [hp]) (by omega)
      have i2 := ih (rstL s) (n + 1 + (fstL s).length / 2) F' (pre ++ [row] ++ binL f (fstL s) (n + 1)) post k4 (by omega) (by simp [hp, eL]; omega) (by omega)
      obtain ⟨rows, hr⟩ : ∃ rows, rows = pre ++ row :: (binL f (fstL s) (n + 1) ++ binL f (rstL s) (n + 1 + (fstL s).length / 2)) ++ post := ⟨_, rfl⟩
      have r1 : pre ++ [row] ++ binL f (fstL s) (n + 1) ++ (binL f (rstL s) (n + 1 + (fstL s).length / 2) ++ post) = rows := by rw [hr]; simp
      have r2 : pre ++ [row] ++ binL f (fstL s) (n + 1) ++ binL f (rstL s) (n + 1 + (fstL s).length / 2) ++ post = rows := by rw [hr]; simp
      rw [r1] at i1
      rw [r2] at i2
      rw [← hr]
      have g1 : rows.getD n [] = row := by rw [hr, List.append_assoc]; exact getD_mid _ _ _ _ _ hp
      have a1 : armA rows n = rootA (fstL s) (n + 1) := by unfold armA; rw [g1, hrow]; rfl
      have a2 : armB rows n = rootA (rstL s) (n + 1 + (fstL s).length / 2) := by unfold armB; rw [g1, hrow]; rfl
      have hn : n < rows.length := by rw [hr]; simp; omega
      refine ⟨.inr ⟨by simpa using hn, by simp only [Int.toNat_natCast]; rw [g1, hrow]; rfl, ?_, ?_⟩, ?_, ?_⟩
      · simp only [Int.toNat_natCast]; rw [a1]; exact i1.1
      · simp only [Int.toNat_natCast]; rw [a2]; exact i2.1
      · rw [wobL_nat, a1, a2, i1.2.1, i2.2.1]
        conv => rhs; rw [p]
        simp
      · rw [btwL_nat, a1, a2, i1.2.2, i2.2.2]; simp
end Go.Proofs.Ytakpbnkncjddeaa

namespace Go.Proofs.Ytakpbnkncjddeaa

theorem fold_lift : ∀ (A : List UInt8) (d e m : Nat), A.foldl vstep (some d) = some e → A.foldl vstep (some (d + m)) = some (e + m) := by
  intro A
  induction A with
  | nil => intro d e m h; simp at h ⊢; omega
  | cons c r ih =>
    intro d e m h
    simp only [List.foldl_cons] at h ⊢
    cases hv : vstep (some d) c with
    | none => rw [hv, fold_none] at h; cases h
    | some q =>
      rw [hv] at h
      rcases step_some hv with hc | ⟨hc, h0⟩
      · rw [step_opn d hc] at hv; cases hv
        rw [step_opn _ hc, show d + m + 1 = d + 1 + m by omega]
        exact ih _ _ m h
      · rw [step_cls hc h0] at hv; cases hv
        rw [step_cls hc (by omega), show d + m - 1 = d - 1 + m by omega]
        exact ih _ _ m h
theorem cl_over : ∀ (A rest : List UInt8) (d e : Nat), A.foldl vstep (some d) = some e → cl (d + 1) (A ++ rest) = A.length + cl (e + 1) rest := by
  intro A
  induction A with
  | nil => intro rest d e h; simp at h; subst h; simp
  | cons c r ih =>
    intro rest d e h
    simp only [List.foldl_cons] at h
    cases hv : vstep (some d) c with
    | none => rw [hv, fold_none] at h; cases h
    | some q =>
      rw [hv] at h
      rcases step_some hv with hc | ⟨hc, h0⟩
      · rw [step_opn d hc] at hv; cases hv
        rw [List.cons_append, cl_opn _ _ _ hc, ih rest _ _ h, List.length_cons]; omega
      · rw [step_cls hc h0] at hv; cases hv
        rw [List.cons_append, cl_cls _ _ _ (by omega) (by omega), show d + 1 - 1 = d - 1 + 1 by omega, ih rest _ _ h, List.length_cons]; omega
theorem pair_scan (A B : List UInt8) (hA : scan A = some 0) (hB : scan B = some 0) : scan (40 :: (A ++ 41 :: B)) = some 0 := by
  show (40 :: (A ++ 41 :: B)).foldl vstep (some 0) = some 0
  rw [List.foldl_cons, step_opn 0 (by decide), List.foldl_append, fold_lift A 0 0 (0 + 1) hA, List.foldl_cons, step_cls (by decide) (by omega)]
  exact hB
theorem pair_cl (A B : List UInt8) (hA : scan A = some 0) : cl 0 (40 :: (A ++ 41 :: B)) = A.length + 2 := by
  rw [cl_opn _ _ _ (by decide), cl_over A (41 :: B) 0 0 hA, cl_last _ _ _ (by decide) (by omega)]; omega
theorem pair_fst (A B : List UInt8) (hA : scan A = some 0) : fstL (40 :: (A ++ 41 :: B)) = A := by
  rw [fstL, pair_cl A B hA]; simp
theorem pair_rst (A B : List UInt8) (hA : scan A = some 0) : rstL (40 :: (A ++ 41 :: B)) = B := by
  rw [rstL, pair_cl A B hA, show A.length + 2 = (A.length + 1) + 1 by omega, List.drop_succ_cons]
  rw [List.drop_append, List.drop_of_length_le (by omega), show A.length + 1 - A.length = 1 by omega]; simp

theorem two_of {r : List Int} (h : r.length = 2) : r = [r.getD 0 (-1), r.getD 1 (-1)] := by
  match r, h with
  | [a, b], _ => rfl
/-- what one arm spells -/
theorem arm_tree (rows : List (List Int)) (f k : Nat) (ih : ∀ k, 0 ≤ szL rows f k → ∀ F, 2 * (szL rows f k).toNat ≤ F → scan (wobL rows f k) = some 0 ∧ (wobL rows f k).length = 2 * (szL rows f k).toNat ∧ binL F (wobL rows f k) k = (rows.drop k).take (szL rows f k).toNat)
    (n x : Int) (hn : 1 ≤ n) (h : 0 ≤ armN (szL rows f) k n x) : ∃ m : Nat, armN (szL rows f) k n x = n + m ∧ scan (wobL rows f x) = some 0 ∧ (wobL rows f x).length = 2 * m ∧
      (∀ F, 2 * m ≤ F → binL F (wobL rows f x) (k + n.toNat) = (rows.drop (k + n.toNat)).take m) ∧ x = if wobL rows f x = [] then -1 else k + n := by
  by_cases h1 : x = -1
  · subst h1
    have e : wobL rows f (-1) = [] := wobL_neg _ _ _ (by decide)
    rw [e, armN_no]
    exact ⟨0, by omega, rfl, rfl, fun F _ => by rw [binL_nil]; simp, by simp⟩
  · by_cases h2 : x = k + n
    · have e : x = ((k + n.toNat : Nat) : Int) := by omega
      by_cases h3 : szL rows f x.toNat < 0
      · rw [armN_bad _ _ _ _ h1 h2 h3] at h; omega
      · rw [armN_on _ _ _ _ h1 h2 h3]
        have ex : x.toNat = k + n.toNat := by omega
        rw [ex] at h3 ⊢
        have hle := (szL_le rows f (k + n.toNat)).2 (by omega)
        obtain ⟨m, hm⟩ : ∃ m : Nat, szL rows f (k + n.toNat) = m := ⟨(szL rows f (k + n.toNat)).toNat, by omega⟩
        have key := ih (k + n.toNat) (by omega)
        rw [hm] at key hle ⊢
        rw [e]
        have k0 := key (2 * m) (by simp)
        refine ⟨m, rfl, k0.1, by simpa using k0.2.1, fun F hF => by simpa using (key F (by simpa using hF)).2.2, ?_⟩
        rw [if_neg]
        · omega
        · intro e0
          have := k0.2.1
          rw [e0] at this
          simp at this; omega
    · rw [armN_off _ _ _ _ h1 h2] at h; omega
theorem sz_tree (rows : List (List Int)) : ∀ (f k : Nat), 0 ≤ szL rows f k → ∀ F, 2 * (szL rows f k).toNat ≤ F →
    scan (wobL rows f k) = some 0 ∧ (wobL rows f k).length = 2 * (szL rows f k).toNat ∧ binL F (wobL rows f k) k = (rows.drop k).take (szL rows f k).toNat := by
  intro f
  induction f with
  | zero => intro k h; simp [szL] at h
  | succ f ih =>
    intro k h F hF
    by_cases hk : k < rows.length ∧ (rows.getD k []).length = 2
    · rw [szL_yes _ _ _ hk.1 hk.2] at h hF ⊢
      by_cases h1 : armN (szL rows f) k 1 (armA rows k) < 0
      · rw [if_pos h1] at h; omega
      · rw [if_neg h1] at h hF ⊢
        obtain ⟨m1, a1, a2, a3, a4, a5⟩ := arm_tree rows f k ih 1 (armA rows k) (by omega) (by omega)
        rw [a1] at h hF ⊢
        obtain ⟨m2, c1, c2, c3, c4, c5⟩ := arm_tree rows f k ih (1 + m1) (armB rows k) (by omega) h
        rw [c1] at hF ⊢
        have t1 : (1 + (m1 : Int) + m2).toNat = 1 + m1 + m2 := by omega
        have t2 : (1 + (m1 : Int)).toNat = 1 + m1 := by omega
        have t3 : (1 : Int).toNat = 1 := rfl
        rw [t1] at hF ⊢
        rw [t2] at c4
        rw [t3] at a4
        rw [wobL_nat]
        obtain ⟨A, hA⟩ : ∃ A, A = wobL rows f (armA rows k) := ⟨_, rfl⟩
        obtain ⟨B, hB⟩ : ∃ B, B = wobL rows f (armB rows k) := ⟨_, rfl⟩
        rw [← hA] at a2 a3 a4 a5 ⊢
        rw [← hB] at c2 c3 c4 c5 ⊢
        have es : [40] ++ A ++ [41] ++ B = 40 :: (A ++ 41 :: B) := by simp
        rw [es]
        refine ⟨pair_scan A B a2 c2, by simp; omega, ?_⟩
        obtain ⟨F', rfl⟩ : ∃ F', F = F' + 1 := ⟨F - 1, by omega⟩
        rw [binL_cons _ _ _ (by simp), pair_fst A B a2, pair_rst A B a2, show A.length / 2 = m1 by omega, a4 F' (by omega)]
        rw [show k + 1 + m1 = k + (1 + m1) by omega, c4 F' (by omega)]
        have er : rows[k] = [armA rows k, armB rows k] := by
          have e0 : rows.getD k [] = rows[k] := by rw [List.getD_eq_getElem?_getD, List.getElem?_eq_getElem hk.1]; rfl
          have := two_of hk.2
          rw [e0] at this
          rw [this, armA, armB, e0]
        have g1 : (if A = [] then (-1 : Int) else (k : Int) + 1) = armA rows k := a5.symm
        have g2 : (if B = [] then (-1 : Int) else (k : Int) + 1 + (m1 : Nat)) = armB rows k := by
          rw [c5]; split
          · rfl
          · omega
        rw [g1, g2, ← er]
        rw [List.drop_eq_getElem_cons hk.1, show 1 + m1 + m2 = (m1 + m2) + 1 by omega, List.take_succ_cons]
        congr 1
        rw [List.take_add, List.drop_drop, show k + 1 + m1 = k + (1 + m1) by omega]
    · rw [szL_no _ _ _ (by omega)] at h; omega
/-- rows that are a tree spell a word, and are that word's rows -/
theorem tree_word (rows : List (List Int)) (h : treeW rows = true) (h0 : ¬ rows.length = 0) : scan (wobL rows 10 0) = some 0 ∧ (wobL rows 10 0).length = 2 * rows.length ∧ rows.length ≤ 9 ∧ binL 18 (wobL rows 10 0) 0 = rows := by
  have hz := tree_sz rows h h0
  have h9 : rows.length ≤ 9 := by
    unfold treeW at h
    simp only [Bool.and_eq_true, decide_eq_true_eq] at h
    exact h.1
  obtain ⟨f, hf⟩ : ∃ f, f = 10 := ⟨_, rfl⟩
  rw [← hf] at hz ⊢
  have t := sz_tree rows f 0 (by rw [hz]; omega) 18 (by rw [hz]; omega)
  rw [hz] at t
  simp only [Int.toNat_natCast, List.drop_zero, List.take_length] at t
  exact ⟨t.1, t.2.1, h9, t.2.2⟩
end Go.Proofs.Ytakpbnkncjddeaa

namespace Go.Proofs.Ytakpbnkncjddeaa

inductive Tw where
  | e : Tw
  | n : Tw → Tw → Tw
deriving DecidableEq
namespace Tw
def size : Tw → Nat
  | e => 0
  | n a b => a.size + 1 + b.size
/-- its word -/
def lst : Tw → List UInt8
  | e => []
  | n a b => 40 :: (a.lst ++ 41 :: b.lst)
theorem lst_scan : ∀ t : Tw, scan t.lst = some 0
  | e => rfl
  | n a b => pair_scan _ _ (lst_scan a) (lst_scan b)
theorem lst_length : ∀ t : Tw, t.lst.length = 2 * t.size
  | e => rfl
  | n a b => by simp only [lst, size, List.length_cons, List.length_append, lst_length a, lst_length b]; omega
theorem fst_lst (a b : Tw) : fstL (n a b).lst = a.lst := pair_fst _ _ (lst_scan a)
theorem rst_lst (a b : Tw) : rstL (n a b).lst = b.lst := pair_rst _ _ (lst_scan a)
theorem lst_nil {t : Tw} (h : t.lst = []) : t = e := by
  cases t with
  | e => rfl
  | n a b => cases h
theorem lst_inj : ∀ (t u : Tw), t.lst = u.lst → t = u
  | e, u, h => (lst_nil h.symm).symm
  | n a b, e, h => by cases h
  | n a b, n c d, h => by
    have h1 := fst_lst a b
    have h2 := rst_lst a b
    rw [h, fst_lst] at h1
    rw [h, rst_lst] at h2
    rw [lst_inj a c h1.symm, lst_inj b d h2.symm]
theorem of_word : ∀ (f : Nat) (s : List UInt8), s.length ≤ f → scan s = some 0 → ∃ t : Tw, t.lst = s := by
  intro f
  induction f with
  | zero => intro s hf _; exact ⟨e, (List.eq_nil_of_length_eq_zero (by omega)).symm⟩
  | succ f ih =>
    intro s hf h
    by_cases hs : s = []
    · exact ⟨e, hs.symm⟩
    · obtain ⟨_, _, k3, k4, _, k6⟩ := parts_ok h hs
      obtain ⟨a, ha⟩ := ih _ (by omega) k3
      obtain ⟨b, hb⟩ := ih _ (by omega) k4
      exact ⟨n a b, by rw [lst, ha, hb]; exact (parts_eq h hs).symm⟩

/-- two nodes turn, at the root: what hangs on the first arm goes up -/
def up : Tw → Tw → List Tw
  | e, _ => []
  | n x y, b => [n x (n y b)]
def down : Tw → Tw → List Tw
  | _, e => []
  | a, n x y => [n (n a x) y]
/-- the trees one turn away -/
def turns : Tw → List Tw
  | e => []
  | n a b => up a b ++ down a b ++ (a.turns.map (fun x => n x b) ++ b.turns.map (fun y => n a y))
theorem mem_turns {a b u : Tw} : u ∈ (n a b).turns ↔ (∃ x y, a = n x y ∧ u = n x (n y b)) ∨ (∃ x y, b = n x y ∧ u = n (n a x) y) ∨ (∃ x, x ∈ a.turns ∧ u = n x b) ∨ (∃ y, y ∈ b.turns ∧ u = n a y) := by
  simp only [turns, List.mem_append, List.mem_map]
  constructor
  · rintro ((h | h) | (⟨x, h1, h2⟩ | ⟨y, h1, h2⟩))
    · cases a with
      | e => simp [up] at h
      | n x y => simp only [up, List.mem_singleton] at h; exact .inl ⟨x, y, rfl, h⟩
    · cases b with
      | e => simp [down] at h
      | n x y => simp only [down, List.mem_singleton] at h; exact .inr (.inl ⟨x, y, rfl, h⟩)
    · exact .inr (.inr (.inl ⟨x, h1, h2.symm⟩))
    · exact .inr (.inr (.inr ⟨y, h1, h2.symm⟩))
  · rintro (⟨x, y, rfl, rfl⟩ | ⟨x, y, rfl, rfl⟩ | ⟨x, h1, rfl⟩ | ⟨y, h1, rfl⟩)
    · exact .inl (.inl (by simp [up]))
    · exact .inl (.inr (by simp [down]))
    · exact .inr (.inl ⟨x, h1, rfl⟩)
    · exact .inr (.inr ⟨y, h1, rfl⟩)
theorem turns_size : ∀ (t u : Tw), u ∈ t.turns → u.size = t.size
  | e, u, h => by simp [turns] at h
  | n a b, u, h => by
    rcases mem_turns.1 h with ⟨x, y, rfl, rfl⟩ | ⟨x, y, rfl, rfl⟩ | ⟨x, h1, rfl⟩ | ⟨y, h1, rfl⟩
    · simp only [size]; omega
    · simp only [size]; omega
    · simp only [size, turns_size a x h1]
    · simp only [size, turns_size b y h1]
/-- each turn turns back -/
theorem turns_back : ∀ (t u : Tw), u ∈ t.turns → t ∈ u.turns
  | e, u, h => by simp [turns] at h
  | n a b, u, h => by
    rcases mem_turns.1 h with ⟨x, y, rfl, rfl⟩ | ⟨x, y, rfl, rfl⟩ | ⟨x, h1, rfl⟩ | ⟨y, h1, rfl⟩
    · exact mem_turns.2 (.inr (.inl ⟨y, b, rfl, rfl⟩))
    · exact mem_turns.2 (.inl ⟨a, x, rfl, rfl⟩)
    · exact mem_turns.2 (.inr (.inr (.inl ⟨a, turns_back a x h1, rfl⟩)))
    · exact mem_turns.2 (.inr (.inr (.inr ⟨b, turns_back b y h1, rfl⟩)))
theorem turns_ne : ∀ (t : Tw), t ∉ t.turns
  | e, h => by simp [turns] at h
  | n a b, h => by
    rcases mem_turns.1 h with ⟨x, y, h1, h2⟩ | ⟨x, y, h1, h2⟩ | ⟨x, h1, h2⟩ | ⟨y, h1, h2⟩
    · injection h2 with h3 h4
      have := congrArg size h3
      rw [h1] at this
      simp only [size] at this; omega
    · injection h2 with h3 h4
      have := congrArg size h4
      rw [h1] at this
      simp only [size] at this; omega
    · injection h2 with h3 h4
      exact turns_ne a (h3 ▸ h1)
    · injection h2 with h3 h4
      exact turns_ne b (h4 ▸ h1)
theorem turns_length : ∀ (t : Tw), t.turns.length = t.size - 1
  | e => rfl
  | n a b => by
    have h1 : (up a b).length = if a = e then 0 else 1 := by cases a <;> rfl
    have h2 : (down a b).length = if b = e then 0 else 1 := by cases b <;> rfl
    have h3 : a ≠ e → 0 < a.size := by intro h; cases a with
      | e => exact absurd rfl h
      | n x y => simp only [size]; omega
    have h4 : b ≠ e → 0 < b.size := by intro h; cases b with
      | e => exact absurd rfl h
      | n x y => simp only [size]; omega
    simp only [turns, List.length_append, List.length_map, turns_length a, turns_length b, h1, h2, size]
    by_cases ha : a = e <;> by_cases hb : b = e
    · rw [if_pos ha, if_pos hb, ha, hb]; rfl
    · rw [if_pos ha, if_neg hb, ha]; have := h4 hb; simp only [size]; omega
    · rw [if_neg ha, if_pos hb, hb]; have := h3 ha; simp only [size]; omega
    · rw [if_neg ha, if_neg hb]; have := h3 ha; have := h4 hb; omega
theorem map_nodup {α β : Type} {f : α → β} (hf : ∀ x y, f x = f y → x = y) {l : List α} (h : l.Nodup) : (l.map f).Nodup := by
  rw [List.Nodup, List.pairwise_map]
  exact List.Pairwise.imp (fun hab e => hab (hf _ _ e)) h
theorem turns_nodup : ∀ (t : Tw), t.turns.Nodup
  | e => List.nodup_nil
  | n a b => by
    have u1 : ∀ u ∈ up a b, ∃ x y, a = n x y ∧ u = n x (n y b) := by
      intro u hu
      cases a with
      | e => simp [up] at hu
      | n x y => simp only [up, List.mem_singleton] at hu; exact ⟨x, y, rfl, hu⟩
    have d1 : ∀ u ∈ down a b, ∃ x y, b = n x y ∧ u = n (n a x) y := by
      intro u hu
      cases b with
      | e => simp [down] at hu
      | n x y => simp only [down, List.mem_singleton] at hu; exact ⟨x, y, rfl, hu⟩
    have n1 : (up a b).Nodup := by cases a <;> simp [up]
    have n2 : (down a b).Nodup := by cases b <;> simp [down]
    rw [turns, List.nodup_append, List.nodup_append, List.nodup_append]
    refine ⟨⟨n1, n2, ?_⟩, ⟨map_nodup (fun x y h => by injection h) (turns_nodup a), map_nodup (fun x y h => by injection h) (turns_nodup b), ?_⟩, ?_⟩
    · intro u hu v hv huv
      obtain ⟨x, y, h1, h2⟩ := u1 u hu
      obtain ⟨x', y', h3, h4⟩ := d1 v hv
      rw [h2, h4] at huv
      injection huv with h5 h6
      have := congrArg size h5
      rw [h1] at this
      simp only [size] at this; omega
    · intro u hu v hv huv
      obtain ⟨x, hx, rfl⟩ := List.mem_map.1 hu
      obtain ⟨y, hy, rfl⟩ := List.mem_map.1 hv
      injection huv with h5 h6
      exact turns_ne a (h5 ▸ hx)
    · intro u hu v hv huv
      subst huv
      rcases List.mem_append.1 hu with hu | hu
      · obtain ⟨x, y, h1, h2⟩ := u1 u hu
        rcases List.mem_append.1 hv with hv | hv
        · obtain ⟨z, hz, h3⟩ := List.mem_map.1 hv
          rw [h2] at h3
          injection h3 with h4 h5
          have := congrArg size h5
          simp only [size] at this; omega
        · obtain ⟨z, hz, h3⟩ := List.mem_map.1 hv
          rw [h2] at h3
          injection h3 with h4 h5
          have := congrArg size h4
          rw [h1] at this
          simp only [size] at this; omega
      · obtain ⟨x, y, h1, h2⟩ := d1 u hu
        rcases List.mem_append.1 hv with hv | hv
        · obtain ⟨z, hz, h3⟩ := List.mem_map.1 hv
          rw [h2] at h3
          injection h3 with h4 h5
          have := congrArg size h5
          rw [h1] at this
          simp only [size] at this; omega
        · obtain ⟨z, hz, h3⟩ := List.mem_map.1 hv
          rw [h2] at h3
          injection h3 with h4 h5
          have := congrArg size h4
          simp only [size] at this; omega

/-- how many nodes stand beside each other, and how many are in others -/
def spine : Tw → Nat
  | e => 0
  | n _ b => b.spine + 1
theorem spine_le : ∀ t : Tw, t.spine ≤ t.size
  | e => Nat.le_refl _
  | n a b => by have := spine_le b; simp only [spine, size]; omega
theorem spine_pos {t : Tw} (h : 0 < t.size) : 0 < t.spine := by
  cases t with
  | e => simp [size] at h
  | n a b => simp [spine]
theorem turns_spine : ∀ (t u : Tw), u ∈ t.turns → u.spine ≤ t.spine + 1 ∧ t.spine ≤ u.spine + 1
  | e, u, h => by simp [turns] at h
  | n a b, u, h => by
    rcases mem_turns.1 h with ⟨x, y, rfl, rfl⟩ | ⟨x, y, rfl, rfl⟩ | ⟨x, h1, rfl⟩ | ⟨y, h1, rfl⟩
    · simp only [spine]; omega
    · simp only [spine]; omega
    · simp only [spine]; omega
    · have := turns_spine b y h1
      simp only [spine]; omega
def flat : Nat → Tw
  | 0 => e
  | k + 1 => n e (flat k)
theorem flat_size : ∀ k, (flat k).size = k
  | 0 => rfl
  | k + 1 => by simp only [flat, size, flat_size k]; omega
theorem flat_spine : ∀ k, (flat k).spine = k
  | 0 => rfl
  | k + 1 => by simp only [flat, spine, flat_spine k]
theorem flat_of : ∀ (t : Tw), t.spine = t.size → t = flat t.size
  | e, _ => rfl
  | n a b, h => by
    have h1 := spine_le b
    simp only [spine, size] at h
    have ha : a = e := by
      cases a with
      | e => rfl
      | n x y => simp only [size] at h; omega
    subst ha
    have hb := flat_of b (by simp only [size] at h; omega)
    have : (n e b).size = b.size + 1 := by simp only [size]; omega
    rw [this, flat, ← hb]
/-- what is not flat comes one nearer by one turn -/
theorem spine_up : ∀ (t : Tw), t.spine < t.size → ∃ u, u ∈ t.turns ∧ u.spine = t.spine + 1
  | e, h => by simp [spine, size] at h
  | n a b, h => by
    cases a with
    | n x y => exact ⟨n x (n y b), mem_turns.2 (.inl ⟨x, y, rfl, rfl⟩), by simp only [spine]⟩
    | e =>
      have hb : b.spine < b.size := by simp only [spine, size] at h; omega
      obtain ⟨u, hu, hs⟩ := spine_up b hb
      exact ⟨n e u, mem_turns.2 (.inr (.inr (.inr ⟨u, hu, rfl⟩))), by simp only [spine, hs]⟩

/-! ### ways of turns -/
def Way : Nat → Tw → Tw → Prop
  | 0, a, b => a = b
  | k + 1, a, b => ∃ c, Way k a c ∧ b ∈ c.turns
theorem Way.trans {a b c : Tw} : ∀ {j k : Nat}, Way j a b → Way k b c → Way (j + k) a c := by
  intro j k
  induction k generalizing c with
  | zero => intro h1 h2; cases h2; exact h1
  | succ k ih => intro h1 ⟨d, h2, h3⟩; exact ⟨d, ih h1 h2, h3⟩
theorem Way.one {a b : Tw} (h : b ∈ a.turns) : Way 1 a b := ⟨a, rfl, h⟩
theorem Way.back : ∀ {k : Nat} {a b : Tw}, Way k a b → Way k b a := by
  intro k
  induction k with
  | zero => intro a b h; exact Eq.symm h
  | succ k ih =>
    intro a b ⟨c, h1, h2⟩
    have h3 := Way.one (turns_back _ _ h2)
    have := h3.trans (ih h1)
    rwa [Nat.add_comm] at this
theorem Way.size : ∀ {k : Nat} {a b : Tw}, Way k a b → b.size = a.size := by
  intro k
  induction k with
  | zero => intro a b h; rw [show a = b from h]
  | succ k ih => intro a b ⟨c, h1, h2⟩; rw [turns_size _ _ h2, ih h1]
theorem Way.spine : ∀ {k : Nat} {a b : Tw}, Way k a b → b.spine ≤ a.spine + k ∧ a.spine ≤ b.spine + k := by
  intro k
  induction k with
  | zero => intro a b h; rw [show a = b from h]; omega
  | succ k ih => intro a b ⟨c, h1, h2⟩; have := ih h1; have := turns_spine _ _ h2; omega
theorem way_flat : ∀ (k : Nat) (t : Tw), t.size = t.spine + k → Way k t (flat t.size) := by
  intro k
  induction k with
  | zero => intro t h; exact flat_of t (by omega)
  | succ k ih =>
    intro t h
    obtain ⟨u, hu, hs⟩ := spine_up t (by omega)
    have h1 := turns_size _ _ hu
    have h2 := ih u (by omega)
    rw [h1] at h2
    have := (Way.one hu).trans h2
    rwa [Nat.add_comm] at this
/-- the fewest turns -/
def Far (a b : Tw) (k : Nat) : Prop := Way k a b ∧ ∀ j, j < k → ¬ Way j a b
theorem Far.uniq {a b : Tw} {j k : Nat} (h1 : Far a b j) (h2 : Far a b k) : j = k := by
  rcases Nat.lt_trichotomy j k with h | h | h
  · exact absurd h1.1 (h2.2 j h)
  · exact h
  · exact absurd h2.1 (h1.2 k h)
theorem Far.of_way {a b : Tw} : ∀ {k : Nat}, Way k a b → ∃ j, j ≤ k ∧ Far a b j := by
  intro k
  induction k using Nat.strongRecOn with
  | ind k ih =>
    intro h
    by_cases h1 : ∃ j, j < k ∧ Way j a b
    · obtain ⟨j, hj, hw⟩ := h1
      obtain ⟨i, hi, hf⟩ := ih j hj hw
      exact ⟨i, by omega, hf⟩
    · exact ⟨k, Nat.le_refl _, h, fun j hj hw => h1 ⟨j, hj, hw⟩⟩
theorem Far.back {a b : Tw} {k : Nat} (h : Far a b k) : Far b a k := ⟨h.1.back, fun j hj hw => h.2 j hj hw.back⟩
theorem Far.zero {a b : Tw} {k : Nat} (h : Far a b k) : k = 0 ↔ a = b := by
  constructor
  · intro h0; subst h0; exact h.1
  · intro h0
    have : Far a b 0 := ⟨h0, fun j hj => by omega⟩
    exact h.uniq this
theorem Far.one {a b : Tw} {k : Nat} (h : Far a b k) : k = 1 ↔ b ∈ a.turns := by
  constructor
  · intro h0
    subst h0
    obtain ⟨c, h1, h2⟩ := h.1
    cases h1
    exact h2
  · intro h0
    have : Far a b 1 := ⟨Way.one h0, fun j hj hw => by
      have e0 : j = 0 := by omega
      subst e0
      have e1 : a = b := hw
      subst e1
      exact turns_ne a h0⟩
    exact h.uniq this
theorem far_flat (t : Tw) : Far t (flat t.size) (t.size - t.spine) := by
  have hs := spine_le t
  refine ⟨way_flat _ t (by omega), fun j hj hw => ?_⟩
  have := hw.spine
  rw [flat_spine] at this
  omega
theorem far_some {a b : Tw} (h : a.size = b.size) : ∃ k, k ≤ (a.size - a.spine) + (b.size - b.spine) ∧ Far a b k := by
  have h1 := (far_flat a).1
  have h2 := (far_flat b).1.back
  rw [← h] at h2
  exact Far.of_way (h1.trans (by rw [h] at h2 ⊢; exact h2))
theorem far_three {a b c : Tw} {i j k : Nat} (h1 : Far a c i) (h2 : Far c b j) (h : Far a b k) : k ≤ i + j := by
  obtain ⟨m, hm, hf⟩ := Far.of_way (h1.1.trans h2.1)
  rw [h.uniq hf]; exact hm
end Tw
end Go.Proofs.Ytakpbnkncjddeaa

namespace Go.Proofs.Ytakpbnkncjddeaa

/-- the product of the numbers up to one -/
def fct : Nat → Nat
  | 0 => 1
  | n + 1 => (n + 1) * fct n
theorem fct_pos : ∀ n, 0 < fct n
  | 0 => Nat.one_pos
  | n + 1 => Nat.mul_pos (Nat.succ_pos n) (fct_pos n)
theorem fct_le : ∀ n, n ≤ 7 → fct n ≤ 5040 := by decide
end Go.Proofs.Ytakpbnkncjddeaa

namespace Go.Proofs.Ytakpbnkncjddeaa

/-- the place of the first least number among the first k -/
def atL (l : List Int) : Nat → Nat
  | 0 => 0
  | k + 1 => if l.getD k 0 < l.getD (atL l k) 0 then k else atL l k
theorem atL_lt (l : List Int) : ∀ k, 0 < k → atL l k < k := by
  intro k
  induction k with
  | zero => intro h; omega
  | succ k ih =>
    intro _
    rw [atL]
    split
    · omega
    · by_cases hk : k = 0
      · subst hk; rw [atL]; omega
      · have := ih (by omega); omega
theorem atL_le (l : List Int) : ∀ k, ∀ j, j < k → l.getD (atL l k) 0 ≤ l.getD j 0 := by
  intro k
  induction k with
  | zero => intro j hj; omega
  | succ k ih =>
    intro j hj
    rw [atL]
    split
    · next h =>
      by_cases e : j = k
      · subst e; exact Int.le_refl _
      · have := ih j (by omega); omega
    · next h =>
      by_cases e : j = k
      · subst e; omega
      · exact ih j (by omega)
/-- the place of a row's least number -/
def leastA (l : List Int) : Nat := atL l l.length

namespace Tw
/-- the tree of a row's least numbers -/
def ofF : Nat → List Int → Tw
  | 0, _ => e
  | f + 1, l => if l = [] then e else n (ofF f (l.take (leastA l))) (ofF f (l.drop (leastA l + 1)))
theorem ofF_nil (f : Nat) : ofF f [] = e := by cases f <;> rfl
theorem leastA_lt {l : List Int} (h : l ≠ []) : leastA l < l.length := atL_lt l _ (List.length_pos_iff.mpr h)
theorem ofF_cons (f : Nat) {l : List Int} (h : l ≠ []) : ofF (f + 1) l = n (ofF f (l.take (leastA l))) (ofF f (l.drop (leastA l + 1))) := by rw [ofF, if_neg h]
theorem ofF_size : ∀ (f : Nat) (l : List Int), l.length ≤ f → (ofF f l).size = l.length := by
  intro f
  induction f with
  | zero => intro l h; obtain rfl : l = [] := List.eq_nil_of_length_eq_zero (by omega); rfl
  | succ f ih =>
    intro l h
    by_cases hl : l = []
    · subst hl; rfl
    · have hlt := leastA_lt hl
      rw [ofF_cons f hl, size, ih _ (by rw [List.length_take]; omega), ih _ (by rw [List.length_drop]; omega), List.length_take, List.length_drop]
      omega
theorem ofF_more : ∀ (f g : Nat) (l : List Int), l.length ≤ f → l.length ≤ g → ofF f l = ofF g l := by
  intro f
  induction f with
  | zero => intro g l h _; obtain rfl : l = [] := List.eq_nil_of_length_eq_zero (by omega); rw [ofF_nil, ofF_nil]
  | succ f ih =>
    intro g l h hg
    by_cases hl : l = []
    · subst hl; rw [ofF_nil, ofF_nil]
    · have hlt := leastA_lt hl
      cases g with
      | zero => exact absurd (List.eq_nil_of_length_eq_zero (by omega)) hl
      | succ g =>
        rw [ofF_cons f hl, ofF_cons g hl, ih g _ (by rw [List.length_take]; omega) (by rw [List.length_take]; omega), ih g _ (by rw [List.length_drop]; omega) (by rw [List.length_drop]; omega)]
/-- the tree of a row -/
def row (l : List Int) : Tw := ofF l.length l
theorem row_nil : row [] = e := rfl
theorem row_cons {l : List Int} (h : l ≠ []) : row l = n (row (l.take (leastA l))) (row (l.drop (leastA l + 1))) := by
  have hlt := leastA_lt h
  have h0 : l.length = (l.length - 1) + 1 := by omega
  rw [row, h0, ofF_cons _ h, row, row, ofF_more (l.length - 1) (l.take (leastA l)).length _ (by rw [List.length_take]; omega) (Nat.le_refl _),
    ofF_more (l.length - 1) (l.drop (leastA l + 1)).length _ (by rw [List.length_drop]; omega) (Nat.le_refl _)]
theorem row_size (l : List Int) : (row l).size = l.length := ofF_size _ _ (Nat.le_refl _)

/-- the other way round -/
def flip : Tw → Tw
  | e => e
  | n a b => n b.flip a.flip
theorem flip_size : ∀ t : Tw, t.flip.size = t.size
  | e => rfl
  | n a b => by rw [flip, size, size, flip_size a, flip_size b]; omega
theorem flip_flip : ∀ t : Tw, t.flip.flip = t
  | e => rfl
  | n a b => by rw [flip, flip, flip_flip a, flip_flip b]
end Tw

/-- a row: the numbers from 0 up, in any order -/
def rowB (l : List Int) : Bool := decide (l.length ≤ 8) && (l.all fun x => decide (0 ≤ x) && decide (x < l.length)) && decide l.Nodup
theorem rowB_iff (l : List Int) : rowB l = true ↔ l.length ≤ 8 ∧ (∀ x ∈ l, 0 ≤ x ∧ x < l.length) ∧ l.Nodup := by
  simp only [rowB, Bool.and_eq_true, decide_eq_true_eq, List.all_eq_true, and_assoc]
theorem rowB_back (l : List Int) : rowB l.reverse = rowB l := by
  rw [Bool.eq_iff_iff, rowB_iff, rowB_iff]
  simp only [List.length_reverse, List.mem_reverse, (List.reverse_perm l).nodup_iff]

theorem getI_at (l : List Int) (k : Nat) (h : k < l.length) : l.getD k 0 = l[k] := by simp [List.getD, h]
theorem nodup_at {l : List Int} (hn : l.Nodup) (i j : Nat) (hi : i < l.length) (hj : j < l.length) (e : l[i] = l[j]) : i = j := by
  rw [List.Nodup, List.pairwise_iff_getElem] at hn
  rcases Nat.lt_trichotomy i j with h | h | h
  · exact absurd e (hn i j hi hj h)
  · exact h
  · exact absurd e.symm (hn j i hj hi h)
/-- where numbers differ the least one has one place -/
theorem leastA_back {l : List Int} (hn : l.Nodup) (h : l ≠ []) : leastA l.reverse = l.length - 1 - leastA l := by
  have h1 := Tw.leastA_lt h
  have h2 := Tw.leastA_lt (l := l.reverse) (by simpa using h)
  rw [List.length_reverse] at h2
  have a1 := atL_le l l.length
  have a2 := atL_le l.reverse l.reverse.length
  have q2 := a2 (l.length - 1 - leastA l) (by rw [List.length_reverse]; omega)
  have q1 := a1 (l.length - 1 - leastA l.reverse) (by omega)
  have e1 : l.reverse.getD (l.length - 1 - leastA l) 0 = l.getD (leastA l) 0 := by
    rw [getI_at _ _ (by rw [List.length_reverse]; omega), getI_at _ _ h1, List.getElem_reverse]
    congr 1; omega
  have e2 : l.reverse.getD (leastA l.reverse) 0 = l.getD (l.length - 1 - leastA l.reverse) 0 := by
    rw [getI_at _ _ (by rw [List.length_reverse]; omega), getI_at _ _ (by omega), List.getElem_reverse]
  rw [show atL l.reverse l.reverse.length = leastA l.reverse from rfl, e1, e2] at q2
  rw [show atL l l.length = leastA l from rfl] at q1
  have e : l.getD (l.length - 1 - leastA l.reverse) 0 = l.getD (leastA l) 0 := by omega
  rw [getI_at _ _ (by omega), getI_at _ _ h1] at e
  have := nodup_at hn _ _ (by omega) h1 e
  omega
theorem Tw.row_back : ∀ (k : Nat) (l : List Int), l.length ≤ k → l.Nodup → Tw.row l.reverse = (Tw.row l).flip := by
  intro k
  induction k with
  | zero => intro l h _; obtain rfl : l = [] := List.eq_nil_of_length_eq_zero (by omega); rfl
  | succ k ih =>
    intro l h hn
    by_cases hl : l = []
    · subst hl; rfl
    · have hlt := Tw.leastA_lt hl
      rw [Tw.row_cons hl, Tw.row_cons (l := l.reverse) (by simpa using hl), Tw.flip, leastA_back hn hl,
        ← ih _ (by rw [List.length_take]; omega) (hn.sublist (List.take_sublist _ _)), ← ih _ (by rw [List.length_drop]; omega) (hn.sublist (List.drop_sublist _ _)),
        List.take_reverse, List.drop_reverse]
      congr 3
      · congr 1; omega
      · congr 1; omega

/-- so many numbers are chosen of all: the loop of the model -/
def chsF (n k : Nat) : Nat → Nat
  | 0 => 1
  | i + 1 => chsF n k i * (n - k + (i + 1)) / (i + 1)
def chs (n k : Nat) : Nat := chsF n k k
theorem fct_le8 : ∀ n, n ≤ 8 → fct n ≤ 40320 := by decide
theorem chs_fac : ∀ n, n ≤ 7 → ∀ k, k ≤ n → chs n k * fct k * fct (n - k) = fct n := by decide
theorem chs_bound : ∀ n, n ≤ 7 → ∀ k, k ≤ n → ∀ i, i ≤ k → chsF n k i ≤ 40 := by decide
theorem chs_back : ∀ n, n ≤ 7 → ∀ k, k ≤ n → chs n (n - k) = chs n k := by decide

namespace Tw
/-- how many rows have a tree, by choices -/
def heaps : Tw → Nat
  | e => 1
  | n a b => chs (a.size + b.size) a.size * heaps a * heaps b
/-- the product of the sizes of all nodes' parts -/
def hooks : Tw → Nat
  | e => 1
  | n a b => (a.size + b.size + 1) * (hooks a * hooks b)
theorem hooks_pos : ∀ t : Tw, 0 < t.hooks
  | e => by decide
  | n a b => Nat.mul_pos (by omega) (Nat.mul_pos (hooks_pos a) (hooks_pos b))
theorem heaps_hooks : ∀ t : Tw, t.size ≤ 8 → t.heaps * t.hooks = fct t.size
  | e, _ => rfl
  | n a b, h => by
    have hs : a.size + 1 + b.size ≤ 8 := h
    have ha := heaps_hooks a (by omega)
    have hb := heaps_hooks b (by omega)
    have hc := chs_fac (a.size + b.size) (by omega) a.size (by omega)
    rw [Nat.add_sub_cancel_left] at hc
    rw [heaps, hooks, size, show a.size + 1 + b.size = (a.size + b.size) + 1 by omega, fct, ← hc, ← ha, ← hb]
    ac_rfl
theorem heaps_div {t : Tw} (h : t.size ≤ 8) : fct t.size / t.hooks = t.heaps := by
  rw [← heaps_hooks t h, Nat.mul_div_cancel _ t.hooks_pos]
theorem heaps_pos {t : Tw} (h : t.size ≤ 8) : 1 ≤ t.heaps := by
  have h1 := heaps_hooks t h
  have h2 := fct_pos t.size
  rcases Nat.eq_zero_or_pos t.heaps with e | e
  · rw [e, Nat.zero_mul] at h1; omega
  · exact e
theorem heaps_le {t : Tw} (h : t.size ≤ 8) : t.heaps ≤ fct t.size := by
  rw [← heaps_hooks t h]; exact Nat.le_mul_of_pos_right _ t.hooks_pos
theorem hooks_le {t : Tw} (h : t.size ≤ 8) : t.hooks ≤ fct t.size := by
  rw [← heaps_hooks t h]; exact Nat.le_mul_of_pos_left _ (heaps_pos h)
theorem heaps_flip : ∀ t : Tw, t.size ≤ 8 → t.flip.heaps = t.heaps
  | e, _ => rfl
  | n a b, h => by
    have hs : a.size + 1 + b.size ≤ 8 := h
    have hc := chs_back (a.size + b.size) (by omega) a.size (by omega)
    rw [Nat.add_sub_cancel_left] at hc
    rw [flip, heaps, heaps, flip_size, flip_size, heaps_flip a (by omega), heaps_flip b (by omega), Nat.add_comm b.size a.size, hc]
    ac_rfl
/-- pairs in each other, and beside each other -/
def nest : Nat → Tw
  | 0 => e
  | k + 1 => n (nest k) e
def side : Nat → Tw
  | 0 => e
  | k + 1 => n e (side k)
theorem nest_size : ∀ k, (nest k).size = k
  | 0 => rfl
  | k + 1 => by rw [nest, size, nest_size k]; rfl
theorem side_size : ∀ k, (side k).size = k
  | 0 => rfl
  | k + 1 => by rw [side, size, side_size k]; show 0 + 1 + k = k + 1; omega
theorem nest_heaps : ∀ k, k ≤ 8 → (nest k).heaps = 1 := by decide
theorem side_heaps : ∀ k, k ≤ 8 → (side k).heaps = 1 := by decide
theorem nest_lst : ∀ k, (nest k).lst = List.replicate k 40 ++ List.replicate k 41
  | 0 => rfl
  | k + 1 => by
    rw [nest, lst, nest_lst k, lst, List.replicate_succ, show List.replicate (k + 1) (41 : UInt8) = List.replicate k 41 ++ [41] from List.replicate_succ']
    simp
theorem side_lst : ∀ k, (side k).lst = (List.replicate k [(40 : UInt8), 41]).flatten
  | 0 => rfl
  | k + 1 => by rw [side, lst, side_lst k, lst, List.replicate_succ]; rfl
end Tw

end Go.Proofs.Ytakpbnkncjddeaa

namespace Go.Proofs.Ytakpbnkncjddeaa

def sumK (f : Nat → Nat) : Nat → Nat
  | 0 => 0
  | k + 1 => sumK f k + f k
theorem sumK_congr {f g : Nat → Nat} : ∀ k, (∀ i, i < k → f i = g i) → sumK f k = sumK g k
  | 0, _ => rfl
  | k + 1, h => by rw [sumK, sumK, sumK_congr k (fun i hi => h i (by omega)), h k (by omega)]
theorem sumK_front (f : Nat → Nat) : ∀ k, sumK f (k + 1) = f 0 + sumK (fun i => f (i + 1)) k
  | 0 => by simp [sumK]
  | k + 1 => by rw [sumK, sumK_front f k, sumK]; omega
theorem sumK_back (f : Nat → Nat) : ∀ k, sumK (fun i => f (k - 1 - i)) k = sumK f k
  | 0 => rfl
  | k + 1 => by
    rw [sumK_front, sumK]
    have := sumK_back f k
    rw [← this, sumK_congr (g := fun i => f (k - 1 - i)) k (fun i hi => by show f (k + 1 - 1 - (i + 1)) = f (k - 1 - i); congr 1; omega)]
    show f (k + 1 - 1 - 0) + _ = _ + f k
    rw [Nat.add_comm]; rfl
theorem sumK_all {f g : Nat → Nat} : ∀ k, (∀ i, i < k → f i + g i = 1) → sumK f k + sumK g k = k
  | 0, _ => rfl
  | k + 1, h => by
    have h1 := sumK_all k (fun i hi => h i (by omega))
    have h2 := h k (by omega)
    rw [sumK, sumK]; omega
/-- a fall at the k-th step -/
def fallB (l : List Int) (k : Nat) : Nat := if l.getD (k + 1) 0 < l.getD k 0 then 1 else 0
/-- how many numbers are less than the one ahead of them -/
def fallsL (l : List Int) : Nat := sumK (fallB l) (l.length - 1)
theorem falls_le (l : List Int) : ∀ k, sumK (fallB l) k ≤ k
  | 0 => Nat.le_refl _
  | k + 1 => by
    have := falls_le l k
    have h : fallB l k ≤ 1 := by rw [fallB]; split <;> omega
    rw [sumK]; omega
theorem falls_back {l : List Int} (hn : l.Nodup) : fallsL l + fallsL l.reverse = l.length - 1 := by
  rw [fallsL, fallsL, List.length_reverse, ← sumK_back (fallB l.reverse)]
  refine sumK_all _ fun i hi => ?_
  have g : ∀ j, j < l.length → l.reverse.getD (l.length - 1 - j) 0 = l.getD j 0 := fun j hj => by
    rw [getI_at _ _ (by rw [List.length_reverse]; omega), getI_at _ _ hj, List.getElem_reverse]
    congr 1; omega
  show fallB l i + fallB l.reverse (l.length - 1 - 1 - i) = 1
  rw [fallB, fallB, show l.length - 1 - 1 - i = l.length - 1 - (i + 1) by omega, show l.length - 1 - (i + 1) + 1 = l.length - 1 - i by omega, g i (by omega), g (i + 1) (by omega), getI_at _ _ (by omega), getI_at _ _ (by omega)]
  have hne : l[i] ≠ l[i + 1] := fun e => by have := nodup_at hn i (i + 1) (by omega) (by omega) e; omega
  split <;> split <;> omega
/-- as far as k numbers are looked at, the row is one -/
def rowUp (l : List Int) (k : Nat) : Prop := ∀ (j : Nat) (hj : j < l.length), j < k → 0 ≤ l[j] ∧ l[j] < l.length ∧ l[j] ∉ l.take j
theorem rowUp_zero (l : List Int) : rowUp l 0 := fun _ _ h => absurd h (Nat.not_lt_zero _)
theorem rowUp_step {l : List Int} {k : Nat} (h : rowUp l k) (hk : k < l.length) (h1 : 0 ≤ l[k]) (h2 : l[k] < l.length) (h3 : l[k] ∉ l.take k) : rowUp l (k + 1) := fun j hj hjk => by
  by_cases e : j = k
  · subst e; exact ⟨h1, h2, h3⟩
  · exact h j hj (by omega)
theorem rowB_yes {l : List Int} (h8 : l.length ≤ 8) (h : rowUp l l.length) : rowB l = true := by
  rw [rowB_iff]
  refine ⟨h8, fun x hx => ?_, ?_⟩
  · obtain ⟨i, hi, rfl⟩ := List.getElem_of_mem hx
    exact ⟨(h i hi hi).1, (h i hi hi).2.1⟩
  · rw [List.Nodup, List.pairwise_iff_getElem]
    intro i j hi hj hij e
    refine (h j hj hj).2.2 (List.mem_iff_getElem.mpr ⟨i, by rw [List.length_take]; omega, ?_⟩)
    rw [List.getElem_take]; exact e
theorem rowB_long {l : List Int} (h8 : ¬ l.length ≤ 8) : rowB l = false := by
  rw [Bool.eq_false_iff]; exact fun h => h8 ((rowB_iff l).mp h).1
theorem rowB_off {l : List Int} {k : Nat} (hk : k < l.length) (h : ¬ (0 ≤ l[k] ∧ l[k] < l.length)) : rowB l = false := by
  rw [Bool.eq_false_iff]; exact fun h' => h (((rowB_iff l).mp h').2.1 _ (List.getElem_mem hk))
theorem rowB_twice {l : List Int} {k : Nat} (hk : k < l.length) (h : l[k] ∈ l.take k) : rowB l = false := by
  rw [Bool.eq_false_iff]
  intro h'
  have hn := ((rowB_iff l).mp h').2.2
  obtain ⟨i, hi, e⟩ := List.getElem_of_mem h
  rw [List.length_take] at hi
  rw [List.getElem_take] at e
  have := nodup_at hn i k (by omega) hk e
  omega
end Go.Proofs.Ytakpbnkncjddeaa

namespace Go.Proofs.Ytakpbnkncjddeaa
namespace Tw
/-- the nodes in the middle order, the tree's first one is m -/
def ino : Tw → Nat → List Nat
  | e, _ => []
  | n a b, m => ino a (m + 1) ++ [m] ++ ino b (m + 1 + a.size)
def rootI (t : Tw) (m : Nat) : Int := if t = e then -1 else (m : Int)
/-- the arms of all nodes -/
def arms : Tw → Nat → List (List Int)
  | e, _ => []
  | n a b, m => [rootI a (m + 1), rootI b (m + 1 + a.size)] :: (arms a (m + 1) ++ arms b (m + 1 + a.size))
theorem lst_ne (a b : Tw) : (n a b).lst ≠ [] := by intro h; cases h
theorem lst_eq_nil (t : Tw) : t.lst = [] ↔ t = e := ⟨lst_nil, fun h => by rw [h]; rfl⟩
theorem half_lst (t : Tw) : t.lst.length / 2 = t.size := by rw [lst_length]; omega
theorem btwP_lst : ∀ (f : Nat) (t : Tw) (m : Nat), t.lst.length ≤ f → btwP f t.lst m = ino t m := by
  intro f
  induction f with
  | zero =>
    intro t m h
    cases t with
    | e => rfl
    | n a b => rw [lst_length, size] at h; omega
  | succ f ih =>
    intro t m h
    cases t with
    | e => exact btwP_nil _ _
    | n a b =>
      have hs := lst_length (n a b)
      rw [size] at hs
      have ha := lst_length a
      have hb := lst_length b
      rw [btwP_cons f m _ (lst_ne a b), fst_lst, rst_lst, half_lst, ih a _ (by omega), ih b _ (by omega), ino]
theorem binL_lst : ∀ (f : Nat) (t : Tw) (m : Nat), t.lst.length ≤ f → binL f t.lst m = arms t m := by
  intro f
  induction f with
  | zero =>
    intro t m h
    cases t with
    | e => rfl
    | n a b => rw [lst_length, size] at h; omega
  | succ f ih =>
    intro t m h
    cases t with
    | e => exact binL_nil _ _
    | n a b =>
      have hs := lst_length (n a b)
      rw [size] at hs
      have ha := lst_length a
      have hb := lst_length b
      have e1 : (if a.lst = [] then (-1 : Int) else (m : Int) + 1) = rootI a (m + 1) := by
        rw [rootI]; simp only [lst_eq_nil]; split <;> simp
      have e2 : (if b.lst = [] then (-1 : Int) else (m : Int) + 1 + (a.size : Nat)) = rootI b (m + 1 + a.size) := by
        rw [rootI]; simp only [lst_eq_nil]; split <;> simp
      rw [binL_cons f m _ (lst_ne a b), fst_lst, rst_lst, half_lst, ih a _ (by omega), ih b _ (by omega), arms, e1, e2]
theorem arms_length : ∀ (t : Tw) (m : Nat), (arms t m).length = t.size
  | e, _ => rfl
  | n a b, m => by rw [arms, List.length_cons, List.length_append, arms_length a, arms_length b, size]; omega
theorem ino_length : ∀ (t : Tw) (m : Nat), (ino t m).length = t.size
  | e, _ => rfl
  | n a b, m => by rw [ino, List.length_append, List.length_append, ino_length a, ino_length b, size]; rfl
theorem ino_in : ∀ (t : Tw) (m x : Nat), x ∈ ino t m → m ≤ x ∧ x < m + t.size
  | e, _, x, h => by cases h
  | n a b, m, x, h => by
    rw [ino] at h
    simp only [List.mem_append, List.mem_singleton] at h
    rw [size]
    rcases h with (h | h) | h
    · have := ino_in a _ x h; omega
    · omega
    · have := ino_in b _ x h; omega
theorem ino_nodup : ∀ (t : Tw) (m : Nat), (ino t m).Nodup
  | e, _ => List.nodup_nil
  | n a b, m => by
    rw [ino, List.nodup_append, List.nodup_append]
    refine ⟨⟨ino_nodup a _, by simp, ?_⟩, ino_nodup b _, ?_⟩
    · intro x hx y hy e
      have := ino_in a _ x hx
      rw [List.mem_singleton] at hy
      omega
    · intro x hx y hy e
      have h2 := ino_in b _ y hy
      rcases List.mem_append.mp hx with h | h
      · have := ino_in a _ x h; omega
      · rw [List.mem_singleton] at h; omega
/-- a node's place in the middle order -/
def pos : Tw → Nat → Nat → Nat
  | e, _, _ => 0
  | n a b, m, k => if k = m then a.size else if k < m + 1 + a.size then pos a (m + 1) k else a.size + 1 + pos b (m + 1 + a.size) k
theorem pos_root (a b : Tw) (m : Nat) : pos (n a b) m m = a.size := if_pos rfl
theorem pos_left (a b : Tw) (m k : Nat) (h1 : m < k) (h2 : k < m + 1 + a.size) : pos (n a b) m k = pos a (m + 1) k := by rw [pos, if_neg (by omega), if_pos h2]
theorem pos_right (a b : Tw) (m k : Nat) (h2 : m + 1 + a.size ≤ k) : pos (n a b) m k = a.size + 1 + pos b (m + 1 + a.size) k := by rw [pos, if_neg (by omega), if_neg (by omega)]
theorem pos_lt : ∀ (t : Tw) (m k : Nat), m ≤ k → k < m + t.size → pos t m k < t.size
  | e, m, k, h1, h2 => by rw [size] at h2; omega
  | n a b, m, k, h1, h2 => by
    rw [size] at h2 ⊢
    by_cases c1 : k = m
    · subst c1; rw [pos_root]; omega
    · by_cases c2 : k < m + 1 + a.size
      · rw [pos_left a b m k (by omega) c2]
        have := pos_lt a (m + 1) k (by omega) (by omega)
        omega
      · rw [pos_right a b m k (by omega)]
        have := pos_lt b (m + 1 + a.size) k (by omega) (by omega)
        omega
theorem ino_pos : ∀ (t : Tw) (m k : Nat), m ≤ k → k < m + t.size → (ino t m)[pos t m k]? = some k
  | e, m, k, h1, h2 => by rw [size] at h2; omega
  | n a b, m, k, h1, h2 => by
    rw [size] at h2
    by_cases c1 : k = m
    · subst c1
      rw [pos_root, ino, List.append_assoc, List.getElem?_append_right (by rw [ino_length]; omega), ino_length, Nat.sub_self]
      rfl
    · by_cases c2 : k < m + 1 + a.size
      · have hl := pos_lt a (m + 1) k (by omega) (by omega)
        rw [pos_left a b m k (by omega) c2, ino, List.append_assoc, List.getElem?_append_left (by rw [ino_length]; exact hl)]
        exact ino_pos a (m + 1) k (by omega) (by omega)
      · rw [pos_right a b m k (by omega), ino, List.getElem?_append_right (by rw [List.length_append, ino_length]; exact Nat.le_add_right _ _), List.length_append, ino_length]
        rw [show a.size + 1 + pos b (m + 1 + a.size) k - (a.size + [m].length) = pos b (m + 1 + a.size) k from Nat.add_sub_cancel_left _ _]
        exact ino_pos b (m + 1 + a.size) k (by omega) (by omega)

theorem row_e {l : List Int} (h : row l = e) : l = [] := by
  have := row_size l
  rw [h, size] at this
  exact List.eq_nil_of_length_eq_zero this.symm
theorem least_lt {l : List Int} (hn : l.Nodup) {j : Nat} (hj : j < l.length) (hne : j ≠ leastA l) : l.getD (leastA l) 0 < l.getD j 0 := by
  have hl : l ≠ [] := by intro h; subst h; exact absurd hj (Nat.not_lt_zero _)
  have h1 := leastA_lt hl
  have h2 := atL_le l l.length j hj
  rw [show atL l l.length = leastA l from rfl] at h2
  rcases Int.lt_or_eq_of_le h2 with h | h
  · exact h
  · rw [getI_at _ _ h1, getI_at _ _ hj] at h
    exact absurd (nodup_at hn _ _ h1 hj h).symm hne
theorem rootI_nat {t : Tw} {m x : Nat} (h : rootI t m = (x : Int)) : t ≠ e ∧ x = m := by
  rw [rootI] at h
  split at h
  · omega
  · next c => exact ⟨c, by omega⟩
/-- least numbers stand on top -/
theorem heap_top : ∀ (d : Nat) (l : List Int), l.length ≤ d → l.Nodup → ∀ (m k j x : Nat), m ≤ k → k < m + l.length → j < 2 → (((arms (row l) m).getD (k - m) []).getD j 0) = (x : Int) →
    m ≤ x ∧ x < m + l.length ∧ l.getD (pos (row l) m k) 0 < l.getD (pos (row l) m x) 0 := by
  intro d
  induction d with
  | zero => intro l h _ m k j x h1 h2; omega
  | succ d ih =>
    intro l h hn m k j x h1 h2 hj hx
    by_cases hl : l = []
    · subst hl; simp at h2; omega
    · have hlt := leastA_lt hl
      have hA : (l.take (leastA l)).length = leastA l := by rw [List.length_take]; omega
      have hB : (l.drop (leastA l + 1)).length = l.length - (leastA l + 1) := List.length_drop ..
      have ra := row_size (l.take (leastA l))
      have rb := row_size (l.drop (leastA l + 1))
      have na : (l.take (leastA l)).Nodup := hn.sublist (List.take_sublist _ _)
      have nb : (l.drop (leastA l + 1)).Nodup := hn.sublist (List.drop_sublist _ _)
      have iha := ih _ (by omega) na (m + 1)
      have ihb := ih _ (by omega) nb (m + 1 + leastA l)
      have ga : ∀ i, i < leastA l → (l.take (leastA l)).getD i 0 = l.getD i 0 := by
        intro i hi; simp [List.getD, hi]
      have gb : ∀ i, (l.drop (leastA l + 1)).getD i 0 = l.getD (leastA l + 1 + i) 0 := by
        intro i; simp [List.getD, List.getElem?_drop]
      rw [row_cons hl] at hx ⊢
      rw [hA] at ra iha
      rw [hB] at rb ihb
      obtain ⟨a, ea⟩ : ∃ a, a = row (l.take (leastA l)) := ⟨_, rfl⟩
      obtain ⟨b, eb⟩ : ∃ b, b = row (l.drop (leastA l + 1)) := ⟨_, rfl⟩
      rw [← ea] at ra iha hx ⊢
      rw [← eb] at rb ihb hx ⊢
      rw [arms, ra] at hx
      have key : k = m ∨ (m < k ∧ k < m + 1 + leastA l) ∨ (m + 1 + leastA l ≤ k) := by omega
      rcases key with c | ⟨c, c2⟩ | c
      · subst c
        rw [Nat.sub_self, List.getD_cons_zero] at hx
        rw [pos_root, ra]
        have hj2 : j = 0 ∨ j = 1 := by omega
        rcases hj2 with rfl | rfl
        · obtain ⟨q1, q2⟩ := rootI_nat (show rootI a (k + 1) = (x : Int) from hx)
          subst q2
          have h0 : 0 < a.size := by
            cases a with
            | e => exact absurd rfl q1
            | n u v => rw [size]; omega
          have hp := pos_lt a (k + 1) (k + 1) (Nat.le_refl _) (by omega)
          refine ⟨by omega, by omega, ?_⟩
          rw [pos_left a b k (k + 1) (by omega) (by omega)]
          exact least_lt hn (by omega) (by omega)
        · obtain ⟨q1, q2⟩ := rootI_nat (show rootI b (k + 1 + leastA l) = (x : Int) from hx)
          subst q2
          have h0 : 0 < b.size := by
            cases b with
            | e => exact absurd rfl q1
            | n u v => rw [size]; omega
          have hp := pos_lt b (k + 1 + leastA l) (k + 1 + leastA l) (Nat.le_refl _) (by omega)
          refine ⟨by omega, by omega, ?_⟩
          rw [pos_right a b k _ (by omega), ra]
          exact least_lt hn (by omega) (by omega)
      · have hx' : ((arms a (m + 1)).getD (k - (m + 1)) []).getD j 0 = (x : Int) := by
          rw [← hx, show k - m = (k - (m + 1)) + 1 by omega, List.getD_cons_succ]
          simp [List.getD, List.getElem?_append_left (show k - (m + 1) < (arms a (m + 1)).length by rw [arms_length]; omega)]
        obtain ⟨q1, q2, q3⟩ := iha k j x (by omega) (by omega) hj hx'
        have p1 := pos_lt a (m + 1) k (by omega) (by omega)
        have p2 := pos_lt a (m + 1) x (by omega) (by omega)
        refine ⟨by omega, by omega, ?_⟩
        rw [pos_left a b m k (by omega) (by omega), pos_left a b m x (by omega) (by omega)]
        rw [ga _ (by omega), ga _ (by omega)] at q3
        exact q3
      · have hx' : ((arms b (m + 1 + leastA l)).getD (k - (m + 1 + leastA l)) []).getD j 0 = (x : Int) := by
          rw [← hx, show k - m = (k - (m + 1)) + 1 by omega, List.getD_cons_succ]
          simp [List.getD, List.getElem?_append_right (show (arms a (m + 1)).length ≤ k - (m + 1) by rw [arms_length]; omega), arms_length, ra,
            show k - (m + 1) - leastA l = k - (m + 1 + leastA l) by omega]
        obtain ⟨q1, q2, q3⟩ := ihb k j x (by omega) (by omega) hj hx'
        refine ⟨by omega, by omega, ?_⟩
        rw [pos_right a b m k (by omega), pos_right a b m x (by omega), ra]
        rw [gb, gb] at q3
        exact q3

/-- the product of how many nodes are from each node on, of the first so many nodes -/
def hkR (rows : List (List Int)) : Nat → Nat
  | 0 => 1
  | i + 1 => hkR rows i * (btwL rows 10 (i : Int)).length
theorem btwL_pos (rows : List (List Int)) (i : Nat) : 1 ≤ (btwL rows 10 (i : Int)).length := by
  rw [btwL_nat, List.length_append, List.length_append]
  have : [(i : Int)].length = 1 := rfl
  omega
theorem hkR_pos (rows : List (List Int)) : ∀ i, 1 ≤ hkR rows i
  | 0 => Nat.le_refl _
  | i + 1 => Nat.mul_pos (hkR_pos rows i) (btwL_pos rows i)
theorem hkR_mono (rows : List (List Int)) (i : Nat) : ∀ k, hkR rows i ≤ hkR rows (i + k)
  | 0 => Nat.le_refl _
  | k + 1 => Nat.le_trans (hkR_mono rows i k) (Nat.le_mul_of_pos_right _ (btwL_pos rows (i + k)))
theorem hkR_tree : ∀ (t : Tw) (pre post : List (List Int)), t.size ≤ 8 → hkR (pre ++ arms t pre.length ++ post) (pre.length + t.size) = hkR (pre ++ arms t pre.length ++ post) pre.length * t.hooks
  | e, pre, post, _ => by rw [size, hooks, Nat.mul_one]; rfl
  | n a b, pre, post, h => by
    have hs : a.size + 1 + b.size ≤ 8 := h
    have hR := (binL_tree (n a b).lst.length (n a b).lst pre.length 10 pre post (lst_scan _) (Nat.le_refl _) rfl (by rw [lst_length, size]; omega)).2.2
    rw [binL_lst _ _ _ (Nat.le_refl _), btwP_lst _ _ _ (Nat.le_refl _), rootA, if_neg (lst_ne a b)] at hR
    have hL := congrArg List.length hR
    rw [List.length_map, ino_length, size] at hL
    have fa := hkR_tree a (pre ++ [[rootI a (pre.length + 1), rootI b (pre.length + 1 + a.size)]]) (arms b (pre.length + 1 + a.size) ++ post) (by omega)
    have fb := hkR_tree b (pre ++ [[rootI a (pre.length + 1), rootI b (pre.length + 1 + a.size)]] ++ arms a (pre.length + 1)) post (by omega)
    have l1 : (pre ++ [[rootI a (pre.length + 1), rootI b (pre.length + 1 + a.size)]]).length = pre.length + 1 := by rw [List.length_append]; rfl
    have l2 : (pre ++ [[rootI a (pre.length + 1), rootI b (pre.length + 1 + a.size)]] ++ arms a (pre.length + 1)).length = pre.length + 1 + a.size := by rw [List.length_append, l1, arms_length]
    rw [l1] at fa
    rw [l2] at fb
    have r1 : pre ++ [[rootI a (pre.length + 1), rootI b (pre.length + 1 + a.size)]] ++ arms a (pre.length + 1) ++ (arms b (pre.length + 1 + a.size) ++ post) = pre ++ arms (n a b) pre.length ++ post := by
      rw [arms]; simp
    have r2 : pre ++ [[rootI a (pre.length + 1), rootI b (pre.length + 1 + a.size)]] ++ arms a (pre.length + 1) ++ arms b (pre.length + 1 + a.size) ++ post = pre ++ arms (n a b) pre.length ++ post := by
      rw [arms]; simp
    rw [r1] at fa
    rw [r2] at fb
    rw [size, show pre.length + (a.size + 1 + b.size) = pre.length + 1 + a.size + b.size by omega, fb, fa, hkR, hL, hooks]
    rw [show a.size + 1 + b.size = a.size + b.size + 1 by omega]
    ac_rfl
theorem okT_tree : ∀ (t : Tw) (pre post : List (List Int)), t.size ≤ 8 → ∀ k, pre.length ≤ k → k < pre.length + t.size → okT (pre ++ arms t pre.length ++ post) 10 (k : Int)
  | e, pre, post, _, k, h1, h2 => by rw [size] at h2; omega
  | n a b, pre, post, h, k, h1, h2 => by
    have hs : a.size + 1 + b.size ≤ 8 := h
    rw [size] at h2
    by_cases c : k = pre.length
    · subst c
      have hR := (binL_tree (n a b).lst.length (n a b).lst pre.length 10 pre post (lst_scan _) (Nat.le_refl _) rfl (by rw [lst_length, size]; omega)).1
      rw [binL_lst _ _ _ (Nat.le_refl _), rootA, if_neg (lst_ne a b)] at hR
      exact hR
    · have fa := okT_tree a (pre ++ [[rootI a (pre.length + 1), rootI b (pre.length + 1 + a.size)]]) (arms b (pre.length + 1 + a.size) ++ post) (by omega) k
      have fb := okT_tree b (pre ++ [[rootI a (pre.length + 1), rootI b (pre.length + 1 + a.size)]] ++ arms a (pre.length + 1)) post (by omega) k
      have l1 : (pre ++ [[rootI a (pre.length + 1), rootI b (pre.length + 1 + a.size)]]).length = pre.length + 1 := by rw [List.length_append]; rfl
      have l2 : (pre ++ [[rootI a (pre.length + 1), rootI b (pre.length + 1 + a.size)]] ++ arms a (pre.length + 1)).length = pre.length + 1 + a.size := by rw [List.length_append, l1, arms_length]
      rw [l1] at fa
      rw [l2] at fb
      have r1 : pre ++ [[rootI a (pre.length + 1), rootI b (pre.length + 1 + a.size)]] ++ arms a (pre.length + 1) ++ (arms b (pre.length + 1 + a.size) ++ post) = pre ++ arms (n a b) pre.length ++ post := by
        rw [arms]; simp
      have r2 : pre ++ [[rootI a (pre.length + 1), rootI b (pre.length + 1 + a.size)]] ++ arms a (pre.length + 1) ++ arms b (pre.length + 1 + a.size) ++ post = pre ++ arms (n a b) pre.length ++ post := by
        rw [arms]; simp
      rw [r1] at fa
      rw [r2] at fb
      by_cases d : k < pre.length + 1 + a.size
      · exact fa (by omega) d
      · exact fb (by omega) (by omega)
theorem okT_all (t : Tw) (h : t.size ≤ 8) (k : Nat) (hk : k < t.size) : okT (arms t 0) 10 (k : Int) := by
  have := okT_tree t [] [] h k (Nat.zero_le _) (by simpa using hk)
  simpa using this
theorem hkR_all (t : Tw) (h : t.size ≤ 8) : hkR (arms t 0) t.size = t.hooks := by
  have := hkR_tree t [] [] h
  simpa [hkR] using this
theorem hkR_le (t : Tw) (h : t.size ≤ 8) (k : Nat) (hk : k ≤ t.size) : hkR (arms t 0) k ≤ 40320 := by
  have h1 := hkR_mono (arms t 0) k (t.size - k)
  rw [show k + (t.size - k) = t.size by omega, hkR_all t h] at h1
  exact Nat.le_trans h1 (Nat.le_trans (hooks_le h) (fct_le8 _ h))
end Tw
end Go.Proofs.Ytakpbnkncjddeaa

namespace Go.Proofs.Ytakpbnkncjddeaa

/-- how many nodes there are, what hangs on each arm (0: the first node; 2k+1, 2k+2: the arms of node k; -1: nothing), the open nodes, the arm that waits -/
structure Bld where
  n : Nat
  G : Nat → Int
  stk : List Nat
  arm : Nat
def upG (G : Nat → Int) (a n : Nat) : Nat → Int := fun j => if j = a then (n : Int) else G j
theorem upG_at (G : Nat → Int) (a n : Nat) : upG G a n a = n := by simp [upG]
theorem upG_ne (G : Nat → Int) {a n j : Nat} (h : j ≠ a) : upG G a n j = G j := by simp [upG, h]
def stepB (b : Bld) (c : UInt8) : Bld :=
  if c.toNat = 40 then ⟨b.n + 1, upG b.G b.arm b.n, b.stk ++ [b.n], 2 * b.n + 1⟩ else ⟨b.n, b.G, b.stk.dropLast, 2 * b.stk.getLastD 0 + 2⟩
def bldF (s : List UInt8) : Bld := s.foldl stepB ⟨0, fun _ => -1, [], 0⟩

/-- what hangs on the arms of a word's nodes, numbered from one on -/
def Sp (G : Nat → Int) : Nat → List UInt8 → Nat → Prop
  | 0, _, _ => True
  | f + 1, s, n => s = [] ∨ (G (2 * n + 1) = rootA (fstL s) (n + 1) ∧ G (2 * n + 2) = rootA (rstL s) (n + 1 + (fstL s).length / 2) ∧ Sp G f (fstL s) (n + 1) ∧ Sp G f (rstL s) (n + 1 + (fstL s).length / 2))
theorem Sp_congr {G G' : Nat → Int} : ∀ (f : Nat) (s : List UInt8) (n : Nat), scan s = some 0 → s.length ≤ f → (∀ j, 2 * n + 1 ≤ j → j ≤ 2 * (n + s.length / 2) → G' j = G j) → Sp G f s n → Sp G' f s n := by
  intro f
  induction f with
  | zero => intro s n _ _ _ _; trivial
  | succ f ih =>
    intro s n h hf hG hS
    by_cases hs : s = []
    · exact .inl hs
    · obtain ⟨_, _, k3, k4, _, k6⟩ := parts_ok h hs
      have e1 := fold_even _ 0 0 k3
      have e2 := fold_even _ 0 0 k4
      rcases hS with h0 | ⟨h1, h2, h3, h4⟩
      · exact absurd h0 hs
      · refine .inr ⟨by rw [hG _ (by omega) (by omega)]; exact h1, by rw [hG _ (by omega) (by omega)]; exact h2, ih _ _ k3 (by omega) ?_ h3, ih _ _ k4 (by omega) ?_ h4⟩
        · intro j j1 j2; exact hG j (by omega) (by omega)
        · intro j j1 j2; exact hG j (by omega) (by omega)
theorem rootA_nil (n : Nat) : rootA [] n = -1 := rfl
theorem rootA_cons {s : List UInt8} (n : Nat) (h : s ≠ []) : rootA s n = n := if_neg h

theorem bld_word : ∀ (f : Nat) (s : List UInt8) (n : Nat) (G : Nat → Int) (st : List Nat) (arm : Nat), scan s = some 0 → s.length ≤ f → arm ≤ 2 * n → G arm = -1 → (∀ j, 2 * n + 1 ≤ j → G j = -1) →
    ∃ G' arm', s.foldl stepB ⟨n, G, st, arm⟩ = ⟨n + s.length / 2, G', st, arm'⟩ ∧ G' arm = rootA s n ∧ (∀ j, j ≤ 2 * n → j ≠ arm → G' j = G j) ∧ (∀ j, 2 * (n + s.length / 2) + 1 ≤ j → G' j = -1) ∧ Sp G' f s n ∧ arm' ≤ 2 * (n + s.length / 2) := by
  intro f
  induction f with
  | zero =>
    intro s n G st arm _ hf ha hg ht
    rw [List.eq_nil_of_length_eq_zero (by omega : s.length = 0)]
    exact ⟨G, arm, rfl, hg, fun _ _ _ => rfl, fun j hj => ht j (by simp at hj; omega), trivial, by simp; omega⟩
  | succ f ih =>
    intro s n G st arm h hf ha hg ht
    by_cases hs : s = []
    · subst hs
      exact ⟨G, arm, rfl, hg, fun _ _ _ => rfl, fun j hj => ht j (by simp at hj; omega), .inl rfl, by simp; omega⟩
    · obtain ⟨_, _, k3, k4, _, k6⟩ := parts_ok h hs
      have e1 := fold_even _ 0 0 k3
      have e2 := fold_even _ 0 0 k4
      have p := parts_eq h hs
      obtain ⟨a, hA⟩ : ∃ a, a = fstL s := ⟨_, rfl⟩
      obtain ⟨b, hB⟩ : ∃ b, b = rstL s := ⟨_, rfl⟩
      have S1 : ∀ G', Sp G' (f + 1) s n = (s = [] ∨ (G' (2 * n + 1) = rootA a (n + 1) ∧ G' (2 * n + 2) = rootA b (n + 1 + a.length / 2) ∧ Sp G' f a (n + 1) ∧ Sp G' f b (n + 1 + a.length / 2))) := by intro G'; rw [hA, hB]; rfl
      rw [rootA_cons n hs]
      rw [← hA, ← hB] at p
      rw [← hA] at k3 k6 e1
      rw [← hB] at k4 k6 e2
      have e3 : s.length / 2 = 1 + a.length / 2 + b.length / 2 := by omega
      have s1 : stepB ⟨n, G, st, arm⟩ 40 = ⟨n + 1, upG G arm n, st ++ [n], 2 * n + 1⟩ := by rw [stepB, if_pos (by decide)]
      obtain ⟨G1, m1, f1, r1, q1, t1, sp1, l1⟩ := ih a (n + 1) (upG G arm n) (st ++ [n]) (2 * n + 1) k3 (by omega) (by omega) (by rw [upG_ne _ (by omega)]; exact ht _ (by omega)) (fun j hj => by rw [upG_ne _ (by omega)]; exact ht _ (by omega))
      have s2 : stepB ⟨n + 1 + a.length / 2, G1, st ++ [n], m1⟩ 41 = ⟨n + 1 + a.length / 2, G1, st, 2 * n + 2⟩ := by
        rw [stepB, if_neg (by decide)]; simp
      have g2 : G1 (2 * n + 2) = -1 := by
        rw [q1 _ (by omega) (by omega), upG_ne _ (by omega)]; exact ht _ (by omega)
      obtain ⟨G2, m2, f2, r2, q2, t2, sp2, l2⟩ := ih b (n + 1 + a.length / 2) G1 st (2 * n + 2) k4 (by omega) (by omega) g2 t1
      refine ⟨G2, m2, ?_, ?_, ?_, ?_, ?_, by omega⟩
      · rw [e3, p, List.foldl_cons, List.foldl_append, List.foldl_cons, s1, f1, s2, f2]
        simp only [Bld.mk.injEq, and_true]
        omega
      · rw [q2 _ (by omega) (by omega), q1 _ (by omega) (by omega), upG_at]
      · intro j j1 j2
        rw [q2 _ (by omega) (by omega), q1 _ (by omega) (by omega), upG_ne _ j2]
      · intro j hj; exact t2 j (by omega)
      · rw [S1]
        refine .inr ⟨?_, r2, ?_, sp2⟩
        · rw [q2 _ (by omega) (by omega)]; exact r1
        · exact Sp_congr f a (n + 1) k3 (by omega) (fun j j1 j2 => q2 j (by omega) (by omega)) sp1
/-- behind a word's last byte -/
theorem bldF_word {s : List UInt8} (h : scan s = some 0) : (bldF s).n = s.length / 2 ∧ (bldF s).G 0 = rootA s 0 ∧ Sp (bldF s).G s.length s 0 := by
  obtain ⟨G', m, e, r, _, _, sp, _⟩ := bld_word s.length s 0 (fun _ => -1) [] 0 h (Nat.le_refl _) (Nat.le_refl _) rfl (fun _ _ => rfl)
  rw [bldF, e]
  exact ⟨by simp, r, sp⟩

/-- what holds behind any bytes -/
structure OkB (b : Bld) : Prop where
  arm : b.arm ≤ 2 * b.n
  stk : ∀ x ∈ b.stk, x < b.n
  low : ∀ j, b.G j < b.n
  neg : ∀ j, -1 ≤ b.G j
  end_ : ∀ j, 2 * b.n + 1 ≤ j → b.G j = -1
theorem OkB.opn {b : Bld} (h : OkB b) : OkB ⟨b.n + 1, upG b.G b.arm b.n, b.stk ++ [b.n], 2 * b.n + 1⟩ := by
  refine ⟨by simp only; omega, ?_, ?_, ?_, ?_⟩
  · intro x hx
    simp only [List.mem_append, List.mem_singleton] at hx ⊢
    rcases hx with hx | hx
    · have := h.stk x hx; omega
    · omega
  · intro j
    simp only [upG]
    have := h.low j
    split <;> omega
  · intro j
    simp only [upG]
    have := h.neg j
    split <;> omega
  · intro j hj
    simp only at hj ⊢
    rw [upG_ne _ (by have := h.arm; omega)]
    exact h.end_ j (by omega)
theorem OkB.cls {b : Bld} (h : OkB b) (h0 : b.stk ≠ []) : OkB ⟨b.n, b.G, b.stk.dropLast, 2 * b.stk.getLastD 0 + 2⟩ := by
  have hm : b.stk.getLastD 0 ∈ b.stk := by
    rw [List.getLastD_eq_getLast?, List.getLast?_eq_some_getLast h0]
    exact List.getLast_mem h0
  refine ⟨by have := h.stk _ hm; simp only; omega, fun x hx => h.stk x (List.dropLast_subset _ hx), h.low, h.neg, h.end_⟩
theorem bldF_nil : bldF [] = ⟨0, fun _ => -1, [], 0⟩ := rfl
theorem OkB.nil : OkB ⟨0, fun _ => -1, [], 0⟩ := ⟨by simp, by simp, by simp, by simp, by simp⟩
theorem bldF_snoc (l : List UInt8) (c : UInt8) : bldF (l ++ [c]) = stepB (bldF l) c := by simp [bldF, List.foldl_append]
/-- the open nodes are as many as the open brackets -/
theorem bldF_ok (r : List UInt8) : ∀ o, scan r.reverse = some o → OkB (bldF r.reverse) ∧ (bldF r.reverse).stk.length = o ∧ (bldF r.reverse).n ≤ r.length := by
  induction r with
  | nil => intro o h; simp [scan] at h; subst h; exact ⟨OkB.nil, rfl, Nat.le_refl _⟩
  | cons c l ih =>
    intro o h
    rw [List.reverse_cons] at h ⊢
    rw [scan_snoc] at h
    cases hs : scan l.reverse with
    | none => rw [hs] at h; simp [vstep] at h
    | some q =>
      rw [hs] at h
      obtain ⟨h1, h2, h3⟩ := ih q hs
      rw [bldF_snoc]
      rcases step_some h with hc | ⟨hc, h0⟩
      · rw [step_opn q hc] at h
        cases h
        rw [stepB, if_pos hc]
        exact ⟨h1.opn, by simp [h2], by simp; omega⟩
      · rw [step_cls hc h0] at h
        cases h
        rw [stepB, if_neg (by omega)]
        refine ⟨h1.cls (fun e => by rw [e] at h2; simp at h2; omega), by simp [h2], by simp; omega⟩
theorem bldF_ok' {l : List UInt8} {o : Nat} (h : scan l = some o) : OkB (bldF l) ∧ (bldF l).stk.length = o ∧ (bldF l).n ≤ l.length := by
  have := bldF_ok l.reverse o (by rw [List.reverse_reverse]; exact h)
  rwa [List.reverse_reverse, List.length_reverse] at this
end Go.Proofs.Ytakpbnkncjddeaa

namespace Go.Proofs.Ytakpbnkncjddeaa

/-- how many have come, what stands on the stack, what is written -/
structure Wos where
  n : Nat
  stk : List Nat
  out : List UInt8
def pushW (k : Nat) (a : Wos) : Wos := ⟨a.n + k, a.stk ++ List.range' a.n k, a.out ++ List.replicate k 40⟩
def stepQ (L : Nat) (q : Int) (a : Wos) : Option Wos :=
  if q < 0 ∨ (L : Int) ≤ q then none
  else if (pushW (q.toNat + 1 - a.n) a).stk.getLast? = some q.toNat then some ⟨(pushW (q.toNat + 1 - a.n) a).n, (pushW (q.toNat + 1 - a.n) a).stk.dropLast, (pushW (q.toNat + 1 - a.n) a).out ++ [41]⟩ else none
def runW (L : Nat) : List Int → Wos → Option Wos
  | [], a => some a
  | q :: r, a => (stepQ L q a).bind (runW L r)
theorem runW_append (L : Nat) : ∀ (l l' : List Int) (a : Wos), runW L (l ++ l') a = (runW L l a).bind (runW L l') := by
  intro l
  induction l with
  | nil => intro l' a; rfl
  | cons q r ih =>
    intro l' a
    show (stepQ L q a).bind (runW L (r ++ l')) = ((stepQ L q a).bind (runW L r)).bind (runW L l')
    cases stepQ L q a with
    | none => rfl
    | some b => exact ih l' b
theorem pushW_zero (a : Wos) : pushW 0 a = a := by cases a; simp [pushW]
theorem pushW_succ (k : Nat) (a : Wos) : pushW (k + 1) a = ⟨a.n + k + 1, (pushW k a).stk ++ [a.n + k], (pushW k a).out ++ [40]⟩ := by
  simp only [pushW, List.append_assoc, Wos.mk.injEq, List.range'_concat, List.replicate_succ', Nat.one_mul, and_self, and_true]
  omega
theorem pushW_front (k : Nat) (a : Wos) : pushW (k + 1) a = pushW k ⟨a.n + 1, a.stk ++ [a.n], a.out ++ [40]⟩ := by
  simp only [pushW, List.append_assoc, Wos.mk.injEq, List.range'_succ, List.replicate_succ, List.cons_append, List.nil_append, and_self, and_true]
  omega
def wos0 : Wos := ⟨0, [], []⟩
theorem stepQ_lazy (L : Nat) (q : Int) (a : Wos) (h : (a.n : Int) ≤ q) : stepQ L q a = stepQ L q ⟨a.n + 1, a.stk ++ [a.n], a.out ++ [40]⟩ := by
  have e : q.toNat + 1 - a.n = (q.toNat + 1 - (a.n + 1)) + 1 := by omega
  unfold stepQ
  rw [e, pushW_front]
theorem runW_lazy (L : Nat) (l : List Int) (a : Wos) (h0 : l ≠ []) (h : ∀ q ∈ l, (a.n : Int) ≤ q) : runW L l a = runW L l ⟨a.n + 1, a.stk ++ [a.n], a.out ++ [40]⟩ := by
  cases l with
  | nil => exact absurd rfl h0
  | cons q r =>
    show (stepQ L q a).bind _ = (stepQ L q _).bind _
    rw [stepQ_lazy L q a (h q (by simp))]
theorem btwP_ge : ∀ (f : Nat) (s : List UInt8) (n : Nat), ∀ x ∈ btwP f s n, n ≤ x := by
  intro f
  induction f with
  | zero => intro s n x hx; simp [btwP] at hx
  | succ f ih =>
    intro s n x hx
    by_cases hs : s = []
    · subst hs; simp [btwP_nil] at hx
    · rw [btwP_cons _ _ _ hs] at hx
      simp only [List.mem_append, List.mem_singleton] at hx
      rcases hx with (hx | hx) | hx
      · have := ih _ _ _ hx; omega
      · omega
      · have := ih _ _ _ hx; omega
theorem runW_word : ∀ (f : Nat) (s : List UInt8) (L n : Nat) (st : List Nat) (out : List UInt8), scan s = some 0 → s.length ≤ f → n + s.length / 2 ≤ L →
    runW L ((btwP f s n).map fun (k : Nat) => (k : Int)) ⟨n, st, out⟩ = some ⟨n + s.length / 2, st, out ++ s⟩ := by
  intro f
  induction f with
  | zero =>
    intro s L n st out _ hf _
    rw [List.eq_nil_of_length_eq_zero (by omega : s.length = 0)]
    simp [btwP, runW]
  | succ f ih =>
    intro s L n st out h hf hL
    by_cases hs : s = []
    · subst hs; simp [btwP_nil, runW]
    · obtain ⟨_, _, k3, k4, _, k6⟩ := parts_ok h hs
      have e1 := fold_even _ 0 0 k3
      have e2 := fold_even _ 0 0 k4
      have p := parts_eq h hs
      have hge := btwP_ge (f + 1) s n
      rw [btwP_cons _ _ _ hs] at hge ⊢
      obtain ⟨a, ha⟩ : ∃ a, a = fstL s := ⟨_, rfl⟩
      obtain ⟨b, hb⟩ : ∃ b, b = rstL s := ⟨_, rfl⟩
      rw [← ha, ← hb] at p hge ⊢
      rw [← ha] at k3 k6 e1
      rw [← hb] at k4 k6 e2
      have e3 : s.length / 2 = 1 + a.length / 2 + b.length / 2 := by omega
      rw [runW_lazy L _ _ (by simp) (by
        intro q hq
        obtain ⟨x, hx, rfl⟩ := List.mem_map.1 hq
        have := hge x hx
        simp only
        omega)]
      rw [List.map_append, List.map_append, runW_append, runW_append, ih a L (n + 1) _ _ k3 (by omega) (by omega)]
      simp only [Option.bind_some, List.map_cons, List.map_nil]
      have s1 : runW L [(n : Int)] ⟨n + 1 + a.length / 2, st ++ [n], out ++ [40] ++ a⟩ = some ⟨n + 1 + a.length / 2, st, out ++ [40] ++ a ++ [41]⟩ := by
        show (stepQ L (n : Int) _).bind (runW L []) = _
        have c1 : ¬ ((n : Int) < 0 ∨ (L : Int) ≤ (n : Int)) := by omega
        have c2 : (n : Int).toNat + 1 - (n + 1 + a.length / 2) = 0 := by omega
        rw [stepQ, if_neg c1, c2, pushW_zero]
        simp [runW]
      rw [s1]
      simp only [Option.bind_some]
      rw [ih b L _ _ _ k4 (by omega) (by omega), e3, p]
      simp only [List.append_assoc, List.cons_append, List.nil_append, Option.some.injEq, Wos.mk.injEq, and_true]
      omega
theorem btwP_length : ∀ (f : Nat) (s : List UInt8) (n : Nat), scan s = some 0 → s.length ≤ f → (btwP f s n).length = s.length / 2 := by
  intro f
  induction f with
  | zero => intro s n _ hf; rw [List.eq_nil_of_length_eq_zero (by omega : s.length = 0)]; rfl
  | succ f ih =>
    intro s n h hf
    by_cases hs : s = []
    · subst hs; rw [btwP_nil]; rfl
    · obtain ⟨_, _, k3, k4, _, k6⟩ := parts_ok h hs
      have e1 := fold_even _ 0 0 k3
      have e2 := fold_even _ 0 0 k4
      rw [btwP_cons _ _ _ hs, List.length_append, List.length_append, ih _ _ k3 (by omega), ih _ _ k4 (by omega)]
      simp only [List.length_singleton]
      omega
/-- how long what is written is, and how much stands on the stack -/
theorem runW_len (L : Nat) : ∀ (l : List Int) (a b : Wos), runW L l a = some b → a.n ≤ L → a.stk.length ≤ a.n → b.n ≤ L ∧ b.stk.length ≤ b.n ∧ b.out.length + a.n = a.out.length + b.n + l.length := by
  intro l
  induction l with
  | nil => intro a b h h1 h2; cases h; exact ⟨h1, h2, by simp⟩
  | cons q r ih =>
    intro a b h h1 h2
    have h' : (stepQ L q a).bind (runW L r) = some b := h
    cases hs : stepQ L q a with
    | none => rw [hs] at h'; cases h'
    | some c =>
      rw [hs] at h'
      have h'' : runW L r c = some b := h'
      unfold stepQ at hs
      split at hs
      · cases hs
      · rename_i hq
        split at hs
        · cases hs
          obtain ⟨i1, i2, i3⟩ := ih _ _ h'' (by simp [pushW]; omega) (by simp [pushW]; omega)
          refine ⟨i1, i2, ?_⟩
          simp only [pushW, List.length_append, List.length_replicate, List.length_nil, List.length_cons] at i3 ⊢
          omega
        · cases hs
theorem runW_none {L : Nat} {l : List Int} {a : Wos} {k : Nat} (hk : k < l.length) (h : runW L (l.take k) wos0 = some a) (hn : stepQ L l[k] a = none) : runW L l wos0 = none := by
  have e : l = l.take k ++ l[k] :: l.drop (k + 1) := by rw [← List.drop_eq_getElem_cons hk, List.take_append_drop]
  have r : runW L l wos0 = runW L (l.take k ++ l[k] :: l.drop (k + 1)) wos0 := congrArg (fun x => runW L x wos0) e
  rw [r, runW_append, h]
  show (stepQ L l[k] a).bind _ = none
  rw [hn]; rfl
theorem runW_take {L : Nat} {l : List Int} {a b : Wos} {k : Nat} (hk : k < l.length) (h : runW L (l.take k) wos0 = some a) (hn : stepQ L l[k] a = some b) : runW L (l.take (k + 1)) wos0 = some b := by
  rw [List.take_succ_eq_append_getElem hk, runW_append, h]
  show (stepQ L l[k] a).bind _ = _
  rw [hn]; rfl
/-- the word of a row, if there is one -/
def wosL (row : List Int) : Option (List UInt8) := if 9 < row.length then none else (runW row.length row wos0).map Wos.out
theorem wosL_word {s : List UInt8} (h : scan s = some 0) (h18 : s.length ≤ 18) : wosL (stackL s) = some s := by
  rw [stackL_btw s h]
  have hl : ((btwP s.length s 0).map fun (k : Nat) => (k : Int)).length = s.length / 2 := by
    rw [List.length_map]
    exact btwP_length s.length s 0 h (Nat.le_refl _)
  have e2 := fold_even _ 0 0 h
  rw [wosL, if_neg (by omega), hl, wos0, runW_word s.length s (s.length / 2) 0 [] [] h (Nat.le_refl _) (by omega)]
  simp
end Go.Proofs.Ytakpbnkncjddeaa
