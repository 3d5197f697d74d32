/-
  Plain facts on words as two-armed trees, as rows of a stack, as cut polygons. Nothing of the program is named here.
  Plain facts on the rows of two-armed trees. Nothing of the program is named here.
  Plain facts: the rows of a word are a tree, that tree spells the word, its nodes between their arms are the word's row behind a stack. Nothing of the program is named here.
  Plain facts: rows that are a tree are the rows of the word that they spell. Nothing of the program is named here.
-/
import Derived.Test.YtafdlilojlmchaaZX
namespace Go.Proofs.Ytafdlilojlmchaa

/-- how many bytes until what is open (d pairs) and what opens is closed -/
def cl : Nat → List UInt8 → Nat
  | _, [] => 0
  | d, c :: r => if c.toNat = 40 then 1 + cl (d + 1) r else if d ≤ 1 then 1 else 1 + cl (d - 1) r
theorem cl_opn (d : Nat) (c : UInt8) (r : List UInt8) (h : c.toNat = 40) : cl d (c :: r) = 1 + cl (d + 1) r := by rw [cl, if_pos h]
theorem cl_last (d : Nat) (c : UInt8) (r : List UInt8) (h : c.toNat ≠ 40) (hd : d ≤ 1) : cl d (c :: r) = 1 := by rw [cl, if_neg h, if_pos hd]
theorem cl_cls (d : Nat) (c : UInt8) (r : List UInt8) (h : c.toNat ≠ 40) (hd : ¬ d ≤ 1) : cl d (c :: r) = 1 + cl (d - 1) r := by rw [cl, if_neg h, if_neg hd]

theorem step_opn (d : Nat) {c : UInt8} (h : c.toNat = 40) : vstep (some d) c = some (d + 1) := by simp [vstep, h]
theorem step_cls {d : Nat} {c : UInt8} (h : c.toNat = 41) (hd : 0 < d) : vstep (some d) c = some (d - 1) := by simp [vstep, h]; omega
theorem step_some {d e : Nat} {c : UInt8} (h : vstep (some d) c = some e) : c.toNat = 40 ∨ (c.toNat = 41 ∧ 0 < d) := by
  by_cases h1 : c.toNat = 40
  · exact .inl h1
  · right
    by_cases h2 : c.toNat = 41
    · refine ⟨h2, ?_⟩
      apply Classical.byContradiction
      intro h0
      obtain rfl : d = 0 := by omega
      simp [vstep, h2] at h
    · simp [vstep, h1, h2] at h

theorem cl_split : ∀ (l : List UInt8) (d : Nat), 0 < d → l.foldl vstep (some d) = some 0 →
    1 ≤ cl d l ∧ cl d l ≤ l.length ∧ (l.take (cl d l - 1)).foldl vstep (some (d - 1)) = some 0 ∧ (l.drop (cl d l)).foldl vstep (some 0) = some 0 := by
  intro l
  induction l with
  | nil => intro d hd h; simp at h; omega
  | cons c r ih =>
    intro d hd h
    simp only [List.foldl_cons] at h
    have hs : ∃ e, vstep (some d) c = some e := by
      cases hv : vstep (some d) c with
      | none => rw [hv, fold_none] at h; cases h
      | some e => exact ⟨e, rfl⟩
    obtain ⟨e, he⟩ := hs
    rcases step_some he with hc | ⟨hc, _⟩
    · rw [step_opn d hc] at h
      obtain ⟨h1, h2, h3, h4⟩ := ih (d + 1) (by omega) h
      rw [cl_opn d c r hc]
      refine ⟨by omega, by simp; omega, ?_, ?_⟩
      · rw [show 1 + cl (d + 1) r - 1 = (cl (d + 1) r - 1) + 1 by omega, List.take_succ_cons, List.foldl_cons, step_opn _ hc, show d - 1 + 1 = d + 1 - 1 by omega]
        exact h3
      · rw [show 1 + cl (d + 1) r = cl (d + 1) r + 1 by omega, List.drop_succ_cons]; exact h4
    · have hn : c.toNat ≠ 40 := by omega
      rw [step_cls hc hd] at h
      by_cases h1 : d ≤ 1
      · rw [cl_last d c r hn h1]
        obtain rfl : d = 1 := by omega
        exact ⟨by omega, by simp, rfl, h⟩
      · obtain ⟨k1, k2, k3, k4⟩ := ih (d - 1) (by omega) h
        rw [cl_cls d c r hn h1]
        refine ⟨by omega, by simp; omega, ?_, ?_⟩
        · rw [show 1 + cl (d - 1) r - 1 = (cl (d - 1) r - 1) + 1 by omega, List.take_succ_cons, List.foldl_cons, step_cls hc (by omega)]
          exact k3
        · rw [show 1 + cl (d - 1) r = cl (d - 1) r + 1 by omega, List.drop_succ_cons]; exact k4

/-- what is in the first pair, and what is behind it -/
def fstL (s : List UInt8) : List UInt8 := (s.drop 1).take (cl 0 s - 2)
def rstL (s : List UInt8) : List UInt8 := s.drop (cl 0 s)
theorem parts_ok {s : List UInt8} (h : scan s = some 0) (hs : s ≠ []) : 2 ≤ cl 0 s ∧ cl 0 s ≤ s.length ∧ scan (fstL s) = some 0 ∧ scan (rstL s) = some 0 ∧ (fstL s).length = cl 0 s - 2 ∧ (fstL s).length + (rstL s).length + 2 = s.length := by
  cases s with
  | nil => exact absurd rfl hs
  | cons c r =>
    have h' : r.foldl vstep (vstep (some 0) c) = some 0 := h
    have hst : ∃ e, vstep (some 0) c = some e := by
      cases hv : vstep (some 0) c with
      | none => rw [hv, fold_none] at h'; cases h'
      | some e => exact ⟨e, rfl⟩
    obtain ⟨e, he⟩ := hst
    rcases step_some he with hc | ⟨_, h0⟩
    · rw [step_opn 0 hc] at h'
      obtain ⟨h1, h2, h3, h4⟩ := cl_split r 1 (by omega) h'
      have hk : cl 0 (c :: r) = 1 + cl 1 r := cl_opn 0 c r hc
      have hf : fstL (c :: r) = r.take (cl 1 r - 1) := by
        rw [fstL, hk, List.drop_succ_cons, List.drop_zero, show 1 + cl 1 r - 2 = cl 1 r - 1 by omega]
      have hr : rstL (c :: r) = r.drop (cl 1 r) := by
        rw [rstL, hk, show 1 + cl 1 r = cl 1 r + 1 by omega, List.drop_succ_cons]
      rw [hf, hr, hk]
      refine ⟨by omega, by simp; omega, h3, h4, by simp; omega, by simp; omega⟩
    · omega

/-- the rows of a word's nodes, numbered from one on -/
def binL : Nat → List UInt8 → Nat → List (List Int)
  | 0, _, _ => []
  | f + 1, s, at_ => if s = [] then [] else
      [if fstL s = [] then -1 else (at_ : Int) + 1, if rstL s = [] then -1 else (at_ : Int) + 1 + ((fstL s).length / 2 : Nat)] ::
        (binL f (fstL s) (at_ + 1) ++ binL f (rstL s) (at_ + 1 + (fstL s).length / 2))
theorem binL_nil (f at_ : Nat) : binL f [] at_ = [] := by cases f <;> rfl
theorem binL_cons (f at_ : Nat) (s : List UInt8) (h : s ≠ []) : binL (f + 1) s at_ = [if fstL s = [] then -1 else (at_ : Int) + 1, if rstL s = [] then -1 else (at_ : Int) + 1 + ((fstL s).length / 2 : Nat)] ::
        (binL f (fstL s) (at_ + 1) ++ binL f (rstL s) (at_ + 1 + (fstL s).length / 2)) := by rw [binL, if_neg h]
theorem binL_length (f : Nat) : ∀ (s : List UInt8) (at_ : Nat), scan s = some 0 → s.length ≤ f → (binL f s at_).length = s.length / 2 := by
  induction f with
  | zero => intro s at_ _ h; rw [List.eq_nil_of_length_eq_zero (by omega : s.length = 0)]; rfl
  | succ f ih =>
    intro s at_ hs hf
    by_cases h : s = []
    · rw [h, binL_nil]; rfl
    · obtain ⟨_, _, k3, k4, _, k6⟩ := parts_ok hs h
      have e1 := fold_even _ 0 0 k3
      have e2 := fold_even _ 0 0 k4
      rw [binL_cons _ _ _ h, List.length_cons, List.length_append, ih _ _ k3 (by omega), ih _ _ k4 (by omega)]
      omega

/-- the triangles of a word over the corners from one to another one -/
def fansL : Nat → List UInt8 → Nat → Nat → List (List Int)
  | 0, _, _, _ => []
  | f + 1, s, lo, hi => if s = [] then [] else
      [(lo : Int), ((lo + 1 + (fstL s).length / 2 : Nat) : Int), (hi : Int)] :: (fansL f (fstL s) lo (lo + 1 + (fstL s).length / 2) ++ fansL f (rstL s) (lo + 1 + (fstL s).length / 2) hi)
theorem fansL_nil (f lo hi : Nat) : fansL f [] lo hi = [] := by cases f <;> rfl
theorem fansL_cons (f lo hi : Nat) (s : List UInt8) (h : s ≠ []) : fansL (f + 1) s lo hi =
      [(lo : Int), ((lo + 1 + (fstL s).length / 2 : Nat) : Int), (hi : Int)] :: (fansL f (fstL s) lo (lo + 1 + (fstL s).length / 2) ++ fansL f (rstL s) (lo + 1 + (fstL s).length / 2) hi) := by rw [fansL, if_neg h]
theorem fansL_length (f : Nat) : ∀ (s : List UInt8) (lo hi : Nat), scan s = some 0 → s.length ≤ f → (fansL f s lo hi).length = s.length / 2 := by
  induction f with
  | zero => intro s lo hi _ h; rw [List.eq_nil_of_length_eq_zero (by omega : s.length = 0)]; rfl
  | succ f ih =>
    intro s lo hi hs hf
    by_cases h : s = []
    · rw [h, fansL_nil]; rfl
    · obtain ⟨_, _, k3, k4, _, k6⟩ := parts_ok hs h
      have e1 := fold_even _ 0 0 k3
      have e2 := fold_even _ 0 0 k4
      rw [fansL_cons _ _ _ _ h, List.length_cons, List.length_append, ih _ _ _ k3 (by omega), ih _ _ _ k4 (by omega)]
      omega

/-- numbers behind a stack -/
def stepS (st : List Nat × List Nat × Nat) (c : UInt8) : List Nat × List Nat × Nat :=
  if c.toNat = 40 then (st.1 ++ [st.2.2], st.2.1, st.2.2 + 1) else (st.1.dropLast, st.2.1 ++ [st.1.getLastD 0], st.2.2)
def stackF (s : List UInt8) : List Nat × List Nat × Nat := s.foldl stepS ([], [], 0)
def stackL (s : List UInt8) : List Int := (stackF s).2.1.map fun (k : Nat) => (k : Int)

/-- the nodes of a two-armed tree from one on, each one between its arms -/
def btwL (rows : List (List Int)) : Nat → Int → List Int
  | 0, _ => []
  | f + 1, x => if x < 0 then [] else btwL rows f ((rows.getD x.toNat []).getD 0 (-1)) ++ [x] ++ btwL rows f ((rows.getD x.toNat []).getD 1 (-1))
/-- the word of a two-armed tree from a node on -/
def wobL (rows : List (List Int)) : Nat → Int → List UInt8
  | 0, _ => []
  | f + 1, x => if x < 0 then [] else [40] ++ wobL rows f ((rows.getD x.toNat []).getD 0 (-1)) ++ [41] ++ wobL rows f ((rows.getD x.toNat []).getD 1 (-1))
end Go.Proofs.Ytafdlilojlmchaa

namespace Go.Proofs.Ytafdlilojlmchaa

def armA (rows : List (List Int)) (k : Nat) : Int := (rows.getD k []).getD 0 (-1)
def armB (rows : List (List Int)) (k : Nat) : Int := (rows.getD k []).getD 1 (-1)
/-- from x on the rows are a tree that is not too deep -/
def okT (rows : List (List Int)) : Nat → Int → Prop
  | 0, x => x < 0
  | f + 1, x => x < 0 ∨ (x.toNat < rows.length ∧ (rows.getD x.toNat []).length = 2 ∧ okT rows f (armA rows x.toNat) ∧ okT rows f (armB rows x.toNat))
theorem okT_nat {rows : List (List Int)} {f k : Nat} (h : okT rows (f + 1) (k : Int)) : k < rows.length ∧ (rows.getD k []).length = 2 ∧ okT rows f (armA rows k) ∧ okT rows f (armB rows k) := by
  rcases h with h | h
  · omega
  · exact h
theorem okT_more (rows : List (List Int)) : ∀ (f g : Nat) (x : Int), f ≤ g → okT rows f x → okT rows g x := by
  intro f
  induction f with
  | zero => intro g x _ h; cases g with
    | zero => exact h
    | succ g => exact .inl h
  | succ f ih => intro g x hg h; cases g with
    | zero => omega
    | succ g =>
      rcases h with h | ⟨a, b, c, d⟩
      · exact .inl h
      · exact .inr ⟨a, b, ih g _ (by omega) c, ih g _ (by omega) d⟩
theorem wobL_neg (rows : List (List Int)) (f : Nat) (x : Int) (h : x < 0) : wobL rows f x = [] := by cases f with
  | zero => rfl
  | succ f => rw [wobL, if_pos h]
theorem wobL_nat (rows : List (List Int)) (f k : Nat) : wobL rows (f + 1) (k : Int) = [40] ++ wobL rows f (armA rows k) ++ [41] ++ wobL rows f (armB rows k) := by
  rw [wobL, if_neg (by omega)]; rfl
theorem btwL_neg (rows : List (List Int)) (f : Nat) (x : Int) (h : x < 0) : btwL rows f x = [] := by cases f with
  | zero => rfl
  | succ f => rw [btwL, if_pos h]
theorem btwL_nat (rows : List (List Int)) (f k : Nat) : btwL rows (f + 1) (k : Int) = btwL rows f (armA rows k) ++ [(k : Int)] ++ btwL rows f (armB rows k) := by
  rw [btwL, if_neg (by omega)]; rfl
theorem wobL_len (rows : List (List Int)) : ∀ (f : Nat) (x : Int), (wobL rows f x).length + 2 ≤ 2 ^ (f + 1) := by
  intro f
  induction f with
  | zero => intro x; simp [wobL]
  | succ f ih =>
    intro x
    rw [wobL]
    split
    · have : 0 < 2 ^ (f + 1) := Nat.pow_pos (by decide)
      simp only [List.length_nil, Nat.pow_succ] at *; omega
    · have h1 := ih ((rows.getD x.toNat []).getD 0 (-1))
      have h2 := ih ((rows.getD x.toNat []).getD 1 (-1))
      simp only [List.length_append, List.length_cons, List.length_nil]
      rw [Nat.pow_succ 2 (f + 1)]; omega
theorem btwL_len (rows : List (List Int)) : ∀ (f : Nat) (x : Int), (btwL rows f x).length + 1 ≤ 2 ^ f := by
  intro f
  induction f with
  | zero => intro x; simp [btwL]
  | succ f ih =>
    intro x
    rw [btwL]
    split
    · have : 0 < 2 ^ f := Nat.pow_pos (by decide)
      simp only [List.length_nil, Nat.pow_succ] at *; omega
    · have h1 := ih ((rows.getD x.toNat []).getD 0 (-1))
      have h2 := ih ((rows.getD x.toNat []).getD 1 (-1))
      simp only [List.length_append, List.length_cons, List.length_nil]
      rw [Nat.pow_succ 2 f]; omega
theorem pow_bound {f : Nat} (h : f ≤ 10) : 2 ^ f ≤ 1024 := Nat.pow_le_pow_right (by decide) h

/-- how many nodes from one on, -1 if the rows are no tree there -/
def armN (sz : Nat → Int) (at_ : Nat) (n x : Int) : Int := if x = -1 then n else if x ≠ at_ + n then -1 else if sz x.toNat < 0 then -1 else n + sz x.toNat
def szL (rows : List (List Int)) : Nat → Nat → Int
  | 0, _ => -1
  | f + 1, k => if rows.length ≤ k ∨ (rows.getD k []).length ≠ 2 then -1 else
      if armN (szL rows f) k 1 (armA rows k) < 0 then -1 else armN (szL rows f) k (armN (szL rows f) k 1 (armA rows k)) (armB rows k)
theorem szL_no (rows : List (List Int)) (f k : Nat) (h : rows.length ≤ k ∨ (rows.getD k []).length ≠ 2) : szL rows f k = -1 := by
  cases f with
  | zero => rfl
  | succ f => rw [szL, if_pos h]
theorem szL_yes (rows : List (List Int)) (f k : Nat) (h : k < rows.length) (h2 : (rows.getD k []).length = 2) : szL rows (f + 1) k =
    if armN (szL rows f) k 1 (armA rows k) < 0 then -1 else armN (szL rows f) k (armN (szL rows f) k 1 (armA rows k)) (armB rows k) := by
  rw [szL, if_neg (by omega)]
theorem armN_no (sz : Nat → Int) (at_ : Nat) (n : Int) : armN sz at_ n (-1) = n := if_pos rfl
theorem armN_off (sz : Nat → Int) (at_ : Nat) (n x : Int) (h : x ≠ -1) (h2 : x ≠ at_ + n) : armN sz at_ n x = -1 := by rw [armN, if_neg h, if_pos h2]
theorem armN_bad (sz : Nat → Int) (at_ : Nat) (n x : Int) (h : x ≠ -1) (h2 : x = at_ + n) (h3 : sz x.toNat < 0) : armN sz at_ n x = -1 := by rw [armN, if_neg h, if_neg (by omega), if_pos h3]
theorem armN_on (sz : Nat → Int) (at_ : Nat) (n x : Int) (h : x ≠ -1) (h2 : x = at_ + n) (h3 : ¬ sz x.toNat < 0) : armN sz at_ n x = n + sz x.toNat := by rw [armN, if_neg h, if_neg (by omega), if_neg h3]
/-- what is counted lies in the rows -/
theorem szL_le (rows : List (List Int)) : ∀ (f k : Nat), -1 ≤ szL rows f k ∧ (0 ≤ szL rows f k → 1 ≤ szL rows f k ∧ (k : Int) + szL rows f k ≤ rows.length) := by
  intro f
  induction f with
  | zero => intro k; simp [szL]
  | succ f ih =>
    intro k
    by_cases h : k < rows.length ∧ (rows.getD k []).length = 2
    · rw [szL_yes _ _ _ h.1 h.2]
      have key : ∀ (n x : Int), 1 ≤ n → (k : Int) + n ≤ rows.length → -1 ≤ armN (szL rows f) k n x ∧ (0 ≤ armN (szL rows f) k n x → 1 ≤ armN (szL rows f) k n x ∧ (k : Int) + armN (szL rows f) k n x ≤ rows.length) := by
        intro n x hn hle
        unfold armN
        split
        · omega
        · split
          · omega
          · rename_i h1 h2
            have := ih x.toNat
            split
            · omega
            · have h3 := this.2 (by omega)
              have h4 : (x.toNat : Int) = x := by omega
              omega
      have k1 := key 1 (armA rows k) (by omega) (by omega)
      split
      · omega
      · exact key _ (armB rows k) (k1.2 (by omega)).1 (k1.2 (by omega)).2
    · rw [szL_no _ _ _ (by omega)]; omega
/-- what is counted is a tree, as deep as fuel was taken -/
theorem szL_ok (rows : List (List Int)) : ∀ (f k : Nat), 0 ≤ szL rows f k → okT rows f (k : Int) := by
  intro f
  induction f with
  | zero => intro k h; simp [szL] at h
  | succ f ih =>
    intro k h
    by_cases hk : k < rows.length ∧ (rows.getD k []).length = 2
    · rw [szL_yes _ _ _ hk.1 hk.2] at h
      have key : ∀ (n x : Int), 1 ≤ n → 0 ≤ armN (szL rows f) k n x → okT rows f x := by
        intro n x hn h1
        unfold armN at h1
        split at h1
        · rename_i e; subst e; cases f with
          | zero => exact (by decide : (-1 : Int) < 0)
          | succ f => exact .inl (by decide)
        · split at h1
          · omega
          · split at h1
            · omega
            · rename_i e1 e2 e3
              have h4 : (x.toNat : Int) = x := by omega
              rw [← h4]
              exact ih _ (by omega)
      by_cases h1 : armN (szL rows f) k 1 (armA rows k) < 0
      · rw [if_pos h1] at h; omega
      · rw [if_neg h1] at h
        refine .inr ⟨hk.1, hk.2, key 1 _ (by omega) (by simp only [Int.toNat_natCast]; omega), ?_⟩
        have h2 : 1 ≤ armN (szL rows f) k 1 (armA rows k) := by
          unfold armN at h1 ⊢
          split
          · omega
          · split
            · rename_i e1 e2; rw [if_neg e1, if_pos e2] at h1; omega
            · rename_i e1 e2
              rw [if_neg e1, if_neg e2] at h1
              split
              · rename_i e3; rw [if_pos e3] at h1; omega
              · omega
        exact key _ _ h2 h
    · rw [szL_no _ _ _ (by omega)] at h; omega
theorem armN_le (rows : List (List Int)) (f k : Nat) (n x : Int) (hn : 1 ≤ n) (hle : (k : Int) + n ≤ rows.length) (h : 0 ≤ armN (szL rows f) k n x) :
    1 ≤ armN (szL rows f) k n x ∧ (k : Int) + armN (szL rows f) k n x ≤ rows.length := by
  unfold armN at h ⊢
  split
  · omega
  · rename_i h1
    rw [if_neg h1] at h
    split
    · rename_i h2; rw [if_pos h2] at h; omega
    · rename_i h2
      rw [if_neg h2] at h
      have := szL_le rows f x.toNat
      split
      · rename_i h3; rw [if_pos h3] at h; omega
      · have h3 := this.2 (by omega)
        have h4 : (x.toNat : Int) = x := by omega
        omega
/-- where the count stands behind j arms -/
def CntI (rows : List (List Int)) (f k j : Nat) (n : Int) : Prop :=
  1 ≤ n ∧ (k : Int) + n ≤ rows.length ∧ ((j = 0 ∧ n = 1) ∨ (j = 1 ∧ n = armN (szL rows f) k 1 (armA rows k)) ∨ (j = 2 ∧ n = szL rows (f + 1) k))
def armJ (rows : List (List Int)) (k j : Nat) : Int := if j = 0 then armA rows k else armB rows k
theorem CntI.bad {rows : List (List Int)} {f k j : Nat} {n : Int} (hk : k < rows.length) (h2 : (rows.getD k []).length = 2) (h : CntI rows f k j n) (hj : j < 2) (hn : armN (szL rows f) k n (armJ rows k j) = -1) : szL rows (f + 1) k = -1 := by
  rw [szL_yes _ _ _ hk h2]
  rcases h.2.2 with ⟨rfl, rfl⟩ | ⟨rfl, rfl⟩ | ⟨rfl, _⟩
  · rw [armJ, if_pos rfl] at hn; rw [hn]; rfl
  · rw [if_neg (by have := h.1; omega)]
    rw [armJ, if_neg (by decide)] at hn; exact hn
  · omega
theorem CntI.next {rows : List (List Int)} {f k j : Nat} {n : Int} (hk : k < rows.length) (h2 : (rows.getD k []).length = 2) (h : CntI rows f k j n) (hj : j < 2) (hn : 0 ≤ armN (szL rows f) k n (armJ rows k j)) : CntI rows f k (j + 1) (armN (szL rows f) k n (armJ rows k j)) := by
  have := armN_le rows f k n _ h.1 h.2.1 hn
  refine ⟨this.1, this.2, ?_⟩
  rcases h.2.2 with ⟨rfl, rfl⟩ | ⟨rfl, rfl⟩ | ⟨rfl, _⟩
  · exact .inr (.inl ⟨rfl, rfl⟩)
  · refine .inr (.inr ⟨rfl, ?_⟩)
    rw [szL_yes _ _ _ hk h2, if_neg (by have := h.1; omega)]; rfl
  · omega
/-- rows that are a two-armed tree -/
def treeW (rows : List (List Int)) : Bool := decide (rows.length ≤ 9) && (decide (rows.length = 0) || decide (szL rows 10 0 = rows.length))
theorem tree_sz (rows : List (List Int)) (h : treeW rows = true) (h0 : ¬ rows.length = 0) : szL rows 10 0 = rows.length := by
  unfold treeW at h
  simp only [Bool.and_eq_true, Bool.or_eq_true, decide_eq_true_eq] at h
  exact h.2.resolve_left h0
theorem szL_ok0 (rows : List (List Int)) (f : Nat) (n : Nat) (h : szL rows f 0 = n) : okT rows f 0 := szL_ok rows f 0 (by rw [h]; omega)
theorem tree_ok (rows : List (List Int)) (h : treeW rows = true) (h0 : ¬ rows.length = 0) : okT rows 10 0 := szL_ok0 rows 10 rows.length (tree_sz rows h h0)
end Go.Proofs.Ytafdlilojlmchaa

namespace Go.Proofs.Ytafdlilojlmchaa

theorem cl_at : ∀ (l : List UInt8) (d : Nat), 0 < d → l.foldl vstep (some d) = some 0 → ∃ c, l = l.take (cl d l - 1) ++ c :: l.drop (cl d l) ∧ c.toNat = 41 := by
  intro l
  induction l with
  | nil => intro d hd h; simp at h; omega
  | cons c r ih =>
    intro d hd h
    simp only [List.foldl_cons] at h
    have hs : ∃ e, vstep (some d) c = some e := by
      cases hv : vstep (some d) c with
      | none => rw [hv, fold_none] at h; cases h
      | some e => exact ⟨e, rfl⟩
    obtain ⟨e, he⟩ := hs
    rcases step_some he with hc | ⟨hc, _⟩
    · rw [step_opn d hc] at h
      obtain ⟨c', h1, h2⟩ := ih (d + 1) (by omega) h
      have hp := (cl_split r (d + 1) (by omega) h).1
      rw [cl_opn d c r hc]
      refine ⟨c', ?_, h2⟩
      rw [show 1 + cl (d + 1) r - 1 = (cl (d + 1) r - 1) + 1 by omega, List.take_succ_cons, show 1 + cl (d + 1) r = cl (d + 1) r + 1 by omega, List.drop_succ_cons, List.cons_append, ← h1]
    · have hn : c.toNat ≠ 40 := by omega
      rw [step_cls hc hd] at h
      by_cases h1 : d ≤ 1
      · rw [cl_last d c r hn h1]
        exact ⟨c, by simp, hc⟩
      · obtain ⟨c', k1, k2⟩ := ih (d - 1) (by omega) h
        have hp := (cl_split r (d - 1) (by omega) h).1
        rw [cl_cls d c r hn h1]
        refine ⟨c', ?_, k2⟩
        rw [show 1 + cl (d - 1) r - 1 = (cl (d - 1) r - 1) + 1 by omega, List.take_succ_cons, show 1 + cl (d - 1) r = cl (d - 1) r + 1 by omega, List.drop_succ_cons, List.cons_append, ← k1]
theorem u8_eq {a : UInt8} {b : Nat} (h : a.toNat = b) : a = UInt8.ofNat b := by
  apply UInt8.toNat_inj.1
  rw [h, UInt8.toNat_ofNat']
  have := a.toNat_lt
  omega
/-- a word that is not empty: its first pair, what is in it, what is behind it -/
theorem parts_eq {s : List UInt8} (h : scan s = some 0) (hs : s ≠ []) : s = 40 :: (fstL s ++ 41 :: rstL s) := by
  cases s with
  | nil => exact absurd rfl hs
  | cons c r =>
    have h' : r.foldl vstep (vstep (some 0) c) = some 0 := h
    have hst : ∃ e, vstep (some 0) c = some e := by
      cases hv : vstep (some 0) c with
      | none => rw [hv, fold_none] at h'; cases h'
      | some e => exact ⟨e, rfl⟩
    obtain ⟨e, he⟩ := hst
    rcases step_some he with hc | ⟨_, h0⟩
    · rw [step_opn 0 hc] at h'
      obtain ⟨c', h1, h2⟩ := cl_at r 1 (by omega) h'
      have hk : cl 0 (c :: r) = 1 + cl 1 r := cl_opn 0 c r hc
      have hf : fstL (c :: r) = r.take (cl 1 r - 1) := by
        rw [fstL, hk, List.drop_succ_cons, List.drop_zero, show 1 + cl 1 r - 2 = cl 1 r - 1 by omega]
      have hr : rstL (c :: r) = r.drop (cl 1 r) := by
        rw [rstL, hk, show 1 + cl 1 r = cl 1 r + 1 by omega, List.drop_succ_cons]
      rw [hf, hr]
      have e1 : c = 40 := u8_eq hc
      have e2 : c' = 41 := u8_eq h2
      rw [e2] at h1
      rw [e1]
      congr 1
    · omega

/-- the nodes in the order in which they end, numbered from one on -/
def btwP : Nat → List UInt8 → Nat → List Nat
  | 0, _, _ => []
  | f + 1, s, n => if s = [] then [] else btwP f (fstL s) (n + 1) ++ [n] ++ btwP f (rstL s) (n + 1 + (fstL s).length / 2)
theorem btwP_nil (f n : Nat) : btwP f [] n = [] := by cases f <;> rfl
theorem btwP_cons (f n : Nat) (s : List UInt8) (h : s ≠ []) : btwP (f + 1) s n = btwP f (fstL s) (n + 1) ++ [n] ++ btwP f (rstL s) (n + 1 + (fstL s).length / 2) := by rw [btwP, if_neg h]
theorem fold_btw : ∀ (f : Nat) (s : List UInt8) (st out : List Nat) (n : Nat), scan s = some 0 → s.length ≤ f → s.foldl stepS (st, out, n) = (st, out ++ btwP f s n, n + s.length / 2) := by
  intro f
  induction f with
  | zero => intro s st out n _ hf; rw [List.eq_nil_of_length_eq_zero (by omega : s.length = 0)]; simp [btwP]
  | succ f ih =>
    intro s st out n h hf
    by_cases hs : s = []
    · subst hs; simp [btwP_nil]
    · obtain ⟨_, _, k3, k4, _, k6⟩ := parts_ok h hs
      have e1 := fold_even _ 0 0 k3
      have e2 := fold_even _ 0 0 k4
      have p := parts_eq h hs
      rw [btwP_cons _ _ _ hs]
      obtain ⟨a, ha⟩ : ∃ a, a = fstL s := ⟨_, rfl⟩
      obtain ⟨b, hb⟩ : ∃ b, b = rstL s := ⟨_, rfl⟩
      rw [← ha, ← hb] at p
      rw [← ha] at k3 k6 e1 ⊢
      rw [← hb] at k4 k6 e2 ⊢
      have e3 : s.length / 2 = 1 + a.length / 2 + b.length / 2 := by omega
      rw [e3, p]
      rw [List.foldl_cons, List.foldl_append, List.foldl_cons]
      have s1 : stepS (st, out, n) 40 = (st ++ [n], out, n + 1) := by rw [stepS, if_pos (by decide)]
      rw [s1, ih a _ _ _ k3 (by omega)]
      have s2 : stepS (st ++ [n], out ++ btwP f a (n + 1), n + 1 + a.length / 2) 41 = (st, out ++ btwP f a (n + 1) ++ [n], n + 1 + a.length / 2) := by
        rw [stepS, if_neg (by decide)]; simp
      rw [s2, ih b _ _ _ k4 (by omega)]
      simp only [List.append_assoc, Prod.mk.injEq, true_and]
      omega
theorem stackL_btw (s : List UInt8) (h : scan s = some 0) : stackL s = (btwP s.length s 0).map fun (k : Nat) => (k : Int) := by
  rw [stackL, stackF, fold_btw s.length s [] [] 0 h (Nat.le_refl _)]; rfl

/-- where a word's tree begins in its rows -/
def rootA (s : List UInt8) (n : Nat) : Int := if s = [] then -1 else (n : Int)
theorem okT_neg (rows : List (List Int)) (F : Nat) : okT rows F (-1) := by cases F with
  | zero => exact (by decide : (-1 : Int) < 0)
  | succ F => exact .inl (by decide)
theorem getD_mid {α : Type} (pre post : List α) (x d : α) (n : Nat) (h : pre.length = n) : (pre ++ x :: post).getD n d = x := by
  rw [List.getD_eq_getElem?_getD, List.getElem?_append_right (by omega), h, Nat.sub_self]; rfl
/-- the rows of a word, among others: a tree, its word, its nodes -/
theorem binL_tree : ∀ (f : Nat) (s : List UInt8) (n F : Nat) (pre post : List (List Int)), scan s = some 0 → s.length ≤ f → pre.length = n → s.length ≤ 2 * F →
    okT (pre ++ binL f s n ++ post) F (rootA s n) ∧ wobL (pre ++ binL f s n ++ post) F (rootA s n) = s ∧ btwL (pre ++ binL f s n ++ post) F (rootA s n) = (btwP f s n).map fun (k : Nat) => (k : Int) := by
  intro f
  induction f with
  | zero =>
    intro s n F pre post _ hf _ _
    rw [List.eq_nil_of_length_eq_zero (by omega : s.length = 0)]
    have e : rootA [] n = -1 := rfl
    rw [e]
    exact ⟨okT_neg _ _, wobL_neg _ _ _ (by decide), btwL_neg _ _ _ (by decide)⟩
  | succ f ih =>
    intro s n F pre post h hf hp hF
    by_cases hs : s = []
    · subst hs
      have e : rootA [] n = -1 := rfl
      rw [e, btwP_nil]
      exact ⟨okT_neg _ _, wobL_neg _ _ _ (by decide), btwL_neg _ _ _ (by decide)⟩
    · obtain ⟨_, _, k3, k4, _, k6⟩ := parts_ok h hs
      have p := parts_eq h hs
      have e1 := fold_even _ 0 0 k3
      obtain ⟨F', rfl⟩ : ∃ F', F = F' + 1 := ⟨F - 1, by omega⟩
      have eL := binL_length f (fstL s) (n + 1) k3 (by omega)
      rw [binL_cons _ _ _ hs, btwP_cons _ _ _ hs]
      have er : rootA s n = (n : Int) := if_neg hs
      rw [er]
      have ra : (if fstL s = [] then -1 else (n : Int) + 1) = rootA (fstL s) (n + 1) := by unfold rootA; split <;> simp
      have rb : (if rstL s = [] then -1 else (n : Int) + 1 + ((fstL s).length / 2 : Nat)) = rootA (rstL s) (n + 1 + (fstL s).length / 2) := by
        unfold rootA; split
        · rfl
        · omega
      rw [ra, rb]
      obtain ⟨row, hrow⟩ : ∃ row, row = [rootA (fstL s) (n + 1), rootA (rstL s) (n + 1 + (fstL s).length / 2)] := ⟨_, rfl⟩
      rw [← hrow]
      have i1 := ih (fstL s) (n + 1) F' (pre ++ [row]) (binL f (rstL s) (n + 1 + (fstL s).length / 2) ++ post) k3 (by omega) (by simp [hp]) (by omega)
      have i2 := ih (rstL s) (n + 1 + (fstL s).length / 2) F' (pre ++ [row] ++ binL f (fstL s) (n + 1)) post k4 (by omega) (by simp [hp, eL]; omega) (by omega)
      obtain ⟨rows, hr⟩ : ∃ rows, rows = pre ++ row :: (binL f (fstL s) (n + 1) ++ binL f (rstL s) (n + 1 + (fstL s).length / 2)) ++ post := ⟨_, rfl⟩
      have r1 : pre ++ [row] ++ binL f (fstL s) (n + 1) ++ (binL f (rstL s) (n + 1 + (fstL s).length / 2) ++ post) = rows := by rw [hr]; simp
      have r2 : pre ++ [row] ++ binL f (fstL s) (n + 1) ++ binL f (rstL s) (n + 1 + (fstL s).length / 2) ++ post = rows := by rw [hr]; simp
      rw [r1] at i1
      rw [r2] at i2
      rw [← hr]
      have g1 : rows.getD n [] = row := by rw [hr, List.append_assoc]; exact getD_mid _ _ _ _ _ hp
      have a1 : armA rows n = rootA (fstL s) (n + 1) := by unfold armA; rw [g1, hrow]; rfl
      have a2 : armB rows n = rootA (rstL s) (n + 1 + (fstL s).length / 2) := by unfold armB; rw [g1, hrow]; rfl
      have hn : n < rows.length := by rw [hr]; simp; omega
      refine ⟨.inr ⟨by simpa using hn, by simp only [Int.toNat_natCast]; rw [g1, hrow]; rfl, ?_, ?_⟩, ?_, ?_⟩
      · simp only [Int.toNat_natCast]; rw [a1]; exact i1.1
      · simp only [Int.toNat_natCast]; rw [a2]; exact i2.1
      · rw [wobL_nat, a1, a2, i1.2.1, i2.2.1]
        conv => rhs; rw [p]
        simp
      · rw [btwL_nat, a1, a2, i1.2.2, i2.2.2]; simp
end Go.Proofs.Ytafdlilojlmchaa

namespace Go.Proofs.Ytafdlilojlmchaa

theorem fold_lift : ∀ (A : List UInt8) (d e m : Nat), A.foldl vstep (some d) = some e → A.foldl vstep (some (d + m)) = some (e + m) := by
  intro A
  induction A with
  | nil => intro d e m h; simp at h ⊢; omega
  | cons c r ih =>
    intro d e m h
    simp only [List.foldl_cons] at h ⊢
    cases hv : vstep (some d) c with
    | none => rw [hv, fold_none] at h; cases h
    | some q =>
      rw [hv] at h
      rcases step_some hv with hc | ⟨hc, h0⟩
      · rw [step_opn d hc] at hv; cases hv
        rw [step_opn _ hc, show d + m + 1 = d + 1 + m by omega]
        exact ih _ _ m h
      · rw [step_cls hc h0] at hv; cases hv
        rw [step_cls hc (by omega), show d + m - 1 = d - 1 + m by omega]
        exact ih _ _ m h
theorem cl_over : ∀ (A rest : List UInt8) (d e : Nat), A.foldl vstep (some d) = some e → cl (d + 1) (A ++ rest) = A.length + cl (e + 1) rest := by
  intro A
  induction A with
  | nil => intro rest d e h; simp at h; subst h; simp
  | cons c r ih =>
    intro rest d e h
    simp only [List.foldl_cons] at h
    cases hv : vstep (some d) c with
    | none => rw [hv, fold_none] at h; cases h
    | some q =>
      rw [hv] at h
      rcases step_some hv with hc | ⟨hc, h0⟩
      · rw [step_opn d hc] at hv; cases hv
        rw [List.cons_append, cl_opn _ _ _ hc, ih rest _ _ h, List.length_cons]; omega
      · rw [step_cls hc h0] at hv; cases hv
        rw [List.cons_append, cl_cls _ _ _ (by omega) (by omega), show d + 1 - 1 = d - 1 + 1 by omega, ih rest _ _ h, List.length_cons]; omega
theorem pair_scan (A B : List UInt8) (hA : scan A = some 0) (hB : scan B = some 0) : scan (40 :: (A ++ 41 :: B)) = some 0 := by
  show (40 :: (A ++ 41 :: B)).foldl vstep (some 0) = some 0
  rw [List.foldl_cons, step_opn 0 (by decide), List.foldl_append, fold_lift A 0 0 (0 + 1) hA, List.foldl_cons, step_cls (by decide) (by omega)]
  exact hB
theorem pair_cl (A B : List UInt8) (hA : scan A = some 0) : cl 0 (40 :: (A ++ 41 :: B)) = A.length + 2 := by
  rw [cl_opn _ _ _ (by decide), cl_over A (41 :: B) 0 0 hA, cl_last _ _ _ (by decide) (by omega)]; omega
theorem pair_fst (A B : List UInt8) (hA : scan A = some 0) : fstL (40 :: (A ++ 41 :: B)) = A := by
  rw [fstL, pair_cl A B hA]; simp
theorem pair_rst (A B : List UInt8) (hA : scan A = some 0) : rstL (40 :: (A ++ 41 :: B)) = B := by
  rw [rstL, pair_cl A B hA, show A.length + 2 = (A.length + 1) + 1 by omega, List.drop_succ_cons]
  rw [List.drop_append, List.drop_of_length_le (by omega), show A.length + 1 - A.length = 1 by omega]; simp

theorem two_of {r : List Int} (h : r.length = 2) : r = [r.getD 0 (-1), r.getD 1 (-1)] := by
  match r, h with
  | [a, b], _ => rfl
/-- what one arm spells -/
theorem arm_tree (rows : List (List Int)) (f k : Nat) (ih : ∀ k, 0 ≤ szL rows f k → ∀ F, 2 * (szL rows f k).toNat ≤ F → scan (wobL rows f k) = some 0 ∧ (wobL rows f k).length = 2 * (szL rows f k).toNat ∧ binL F (wobL rows f k) k = (rows.drop k).take (szL rows f k).toNat)
    (n x : Int) (hn : 1 ≤ n) (h : 0 ≤ armN (szL rows f) k n x) : ∃ m : Nat, armN (szL rows f) k n x = n + m ∧ scan (wobL rows f x) = some 0 ∧ (wobL rows f x).length = 2 * m ∧
      (∀ F, 2 * m ≤ F → binL F (wobL rows f x) (k + n.toNat) = (rows.drop (k + n.toNat)).take m) ∧ x = if wobL rows f x = [] then -1 else k + n := by
  by_cases h1 : x = -1
  · subst h1
    have e : wobL rows f (-1) = [] := wobL_neg _ _ _ (by decide)
    rw [e, armN_no]
    exact ⟨0, by omega, rfl, rfl, fun F _ => by rw [binL_nil]; simp, by simp⟩
  · by_cases h2 : x = k + n
    · have e : x = ((k + n.toNat : Nat) : Int) := by omega
      by_cases h3 : szL rows f x.toNat < 0
      · rw [armN_bad _ _ _ _ h1 h2 h3] at h; omega
      · rw [armN_on _ _ _ _ h1 h2 h3]
        have ex : x.toNat = k + n.toNat := by omega
        rw [ex] at h3 ⊢
        have hle := (szL_le rows f (k + n.toNat)).2 (by omega)
        obtain ⟨m, hm⟩ : ∃ m : Nat, szL rows f (k + n.toNat) = m := ⟨(szL rows f (k + n.toNat)).toNat, by omega⟩
        have key := ih (k + n.toNat) (by omega)
        rw [hm] at key hle ⊢
        rw [e]
        have k0 := key (2 * m) (by simp)
        refine ⟨m, rfl, k0.1, by simpa using k0.2.1, fun F hF => by simpa using (key F (by simpa using hF)).2.2, ?_⟩
        rw [if_neg]
        · omega
        · intro e0
          have := k0.2.1
          rw [e0] at this
          simp at this; omega
    · rw [armN_off _ _ _ _ h1 h2] at h; omega
theorem sz_tree (rows : List (List Int)) : ∀ (f k : Nat), 0 ≤ szL rows f k → ∀ F, 2 * (szL rows f k).toNat ≤ F →
    scan (wobL rows f k) = some 0 ∧ (wobL rows f k).length = 2 * (szL rows f k).toNat ∧ binL F (wobL rows f k) k = (rows.drop k).take (szL rows f k).toNat := by
  intro f
  induction f with
  | zero => intro k h; simp [szL] at h
  | succ f ih =>
    intro k h F hF
    by_cases hk : k < rows.length ∧ (rows.getD k []).length = 2
    · rw [szL_yes _ _ _ hk.1 hk.2] at h hF ⊢
      by_cases h1 : armN (szL rows f) k 1 (armA rows k) < 0
      · rw [if_pos h1] at h; omega
      · rw [if_neg h1] at h hF ⊢
        obtain ⟨m1, a1, a2, a3, a4, a5⟩ := arm_tree rows f k ih 1 (armA rows k) (by omega) (by omega)
        rw [a1] at h hF ⊢
        obtain ⟨m2, c1, c2, c3, c4, c5⟩ := arm_tree rows f k ih (1 + m1) (armB rows k) (by omega) h
        rw [c1] at hF ⊢
        have t1 : (1 + (m1 : Int) + m2).toNat = 1 + m1 + m2 := by omega
        have t2 : (1 + (m1 : Int)).toNat = 1 + m1 := by omega
        have t3 : (1 : Int).toNat = 1 := rfl
        rw [t1] at hF ⊢
        rw [t2] at c4
        rw [t3] at a4
        rw [wobL_nat]
        obtain ⟨A, hA⟩ : ∃ A, A = wobL rows f (armA rows k) := ⟨_, rfl⟩
        obtain ⟨B, hB⟩ : ∃ B, B = wobL rows f (armB rows k) := ⟨_, rfl⟩
        rw [← hA] at a2 a3 a4 a5 ⊢
        rw [← hB] at c2 c3 c4 c5 ⊢
        have es : [40] ++ A ++ [41] ++ B = 40 :: (A ++ 41 :: B) := by simp
        rw [es]
        refine ⟨pair_scan A B a2 c2, by simp; omega, ?_⟩
        obtain ⟨F', rfl⟩ : ∃ F', F = F' + 1 := ⟨F - 1, by omega⟩
        rw [binL_cons _ _ _ (by simp), pair_fst A B a2, pair_rst A B a2, show A.length / 2 = m1 by omega, a4 F' (by omega)]
        rw [show k + 1 + m1 = k + (1 + m1) by omega, c4 F' (by omega)]
        have er : rows[k] = [armA rows k, armB rows k] := by
          have e0 : rows.getD k [] = rows[k] := by rw [List.getD_eq_getElem?_getD, List.getElem?_eq_getElem hk.1]; rfl
          have := two_of hk.2
          rw [e0] at this
          rw [this, armA, armB, e0]
        have g1 : (if A = [] then (-1 : Int) else (k : Int) + 1) = armA rows k := a5.symm
        have g2 : (if B = [] then (-1 : Int) else (k : Int) + 1 + (m1 : Nat)) = armB rows k := by
          rw [c5]; split
          · rfl
          · omega
        rw [g1, g2, ← er]
        rw [List.drop_eq_getElem_cons hk.1, show 1 + m1 + m2 = (m1 + m2) + 1 by omega, List.take_succ_cons]
        congr 1
        rw [List.take_add, List.drop_drop, show k + 1 + m1 = k + (1 + m1) by omega]
    · rw [szL_no _ _ _ (by omega)] at h; omega
/-- rows that are a tree spell a word, and are that word's rows -/
theorem tree_word (rows : List (List Int)) (h : treeW rows = true) (h0 : ¬ rows.length = 0) : scan (wobL rows 10 0) = some 0 ∧ (wobL rows 10 0).length = 2 * rows.length ∧ rows.length ≤ 9 ∧ binL 18 (wobL rows 10 0) 0 = rows := by
  have hz := tree_sz rows h h0
  have h9 : rows.length ≤ 9 := by
    unfold treeW at h
    simp only [Bool.and_eq_true, decide_eq_true_eq] at h
    exact h.1
  obtain ⟨f, hf⟩ : ∃ f, f = 10 := ⟨_, rfl⟩
  rw [← hf] at hz ⊢
  have t := sz_tree rows f 0 (by rw [hz]; omega) 18 (by rw [hz]; omega)
  rw [hz] at t
  simp only [Int.toNat_natCast, List.drop_zero, List.take_length] at t
  exact ⟨t.1, t.2.1, h9, t.2.2⟩
end Go.Proofs.Ytafdlilojlmchaa
