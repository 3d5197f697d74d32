/-
  Plain facts on the rows of two-armed trees. Nothing of the program is named here.
-/
import Derived.Test.YtmlcbeekimiaiaaWFam
namespace Go.Proofs.Ytmlcbeekimiaiaa

def armA (rows : List (List Int)) (k : Nat) : Int := (rows.getD k []).getD 0 (-1)
def armB (rows : List (List Int)) (k : Nat) : Int := (rows.getD k []).getD 1 (-1)
/-- from x on the rows are a tree that is not too deep -/
def okT (rows : List (List Int)) : Nat → Int → Prop
  | 0, x => x < 0
  | f + 1, x => x < 0 ∨ (x.toNat < rows.length ∧ (rows.getD x.toNat []).length = 2 ∧ okT rows f (armA rows x.toNat) ∧ okT rows f (armB rows x.toNat))
theorem okT_nat {rows : List (List Int)} {f k : Nat} (h : okT rows (f + 1) (k : Int)) : k < rows.length ∧ (rows.getD k []).length = 2 ∧ okT rows f (armA rows k) ∧ okT rows f (armB rows k) := by
  rcases h with h | h
  · omega
  · exact h
theorem okT_more (rows : List (List Int)) : ∀ (f g : Nat) (x : Int), f ≤ g → okT rows f x → okT rows g x := by
  intro f
  induction f with
  | zero => intro g x _ h; cases g with
    | zero => exact h
    | succ g => exact .inl h
  | succ f ih => intro g x hg h; cases g with
    | zero => omega
    | succ g =>
      rcases h with h | ⟨a, b, c, d⟩
      · exact .inl h
      · exact .inr ⟨a, b, ih g _ (by omega) c, ih g _ (by omega) d⟩
theorem wobL_neg (rows : List (List Int)) (f : Nat) (x : Int) (h : x < 0) : wobL rows f x = [] := by cases f with
  | zero => rfl
  | succ f => rw [wobL, if_pos h]
theorem wobL_nat (rows : List (List Int)) (f k : Nat) : wobL rows (f + 1) (k : Int) = [40] ++ wobL rows f (armA rows k) ++ [41] ++ wobL rows f (armB rows k) := by
  rw [wobL, if_neg (by omega)]; rfl
theorem btwL_neg (rows : List (List Int)) (f : Nat) (x : Int) (h : x < 0) : btwL rows f x = [] := by cases f with
  | zero => rfl
  | succ f => rw [btwL, if_pos h]
theorem btwL_nat (rows : List (List Int)) (f k : Nat) : btwL rows (f + 1) (k : Int) = btwL rows f (armA rows k) ++ [(k : Int)] ++ btwL rows f (armB rows k) := by
  rw [btwL, if_neg (by omega)]; rfl
theorem wobL_len (rows : List (List Int)) : ∀ (f : Nat) (x : Int), (wobL rows f x).length + 2 ≤ 2 ^ (f + 1) := by
  intro f
  induction f with
  | zero => intro x; simp [wobL]
  | succ f ih =>
    intro x
    rw [wobL]
    split
    · have : 0 < 2 ^ (f + 1) := Nat.pow_pos (by decide)
      simp only [List.length_nil, Nat.pow_succ] at *; omega
    · have h1 := ih ((rows.getD x.toNat []).getD 0 (-1))
      have h2 := ih ((rows.getD x.toNat []).getD 1 (-1))
      simp only [List.length_append, List.length_cons, List.length_nil]
      rw [Nat.pow_succ 2 (f + 1)]; omega
theorem btwL_len (rows : List (List Int)) : ∀ (f : Nat) (x : Int), (btwL rows f x).length + 1 ≤ 2 ^ f := by
  intro f
  induction f with
  | zero => intro x; simp [btwL]
  | succ f ih =>
    intro x
    rw [btwL]
    split
    · have : 0 < 2 ^ f := Nat.pow_pos (by decide)
      simp only [List.length_nil, Nat.pow_succ] at *; omega
    · have h1 := ih ((rows.getD x.toNat []).getD 0 (-1))
      have h2 := ih ((rows.getD x.toNat []).getD 1 (-1))
      simp only [List.length_append, List.length_cons, List.length_nil]
      rw [Nat.pow_succ 2 f]; omega
theorem pow_bound {f : Nat} (h : f ≤ 10) : 2 ^ f ≤ 1024 := Nat.pow_le_pow_right (by decide) h

/-- how many nodes from one on, -1 if the rows are no tree there -/
def armN (sz : Nat → Int) (at_ : Nat) (n x : Int) : Int := if x = -1 then n else if x ≠ at_ + n then -1 else if sz x.toNat < 0 then -1 else n + sz x.toNat
def szL (rows : List (List Int)) : Nat → Nat → Int
  | 0, _ => -1
  | f + 1, k => if rows.length ≤ k ∨ (rows.getD k []).length ≠ 2 then -1 else
      if armN (szL rows f) k 1 (armA rows k) < 0 then -1 else armN (szL rows f) k (armN (szL rows f) k 1 (armA rows k)) (armB rows k)
theorem szL_no (rows : List (List Int)) (f k : Nat) (h : rows.length ≤ k ∨ (rows.getD k []).length ≠ 2) : szL rows f k = -1 := by
  cases f with
  | zero => rfl
  | succ f => rw [szL, if_pos h]
theorem szL_yes (rows : List (List Int)) (f k : Nat) (h : k < rows.length) (h2 : (rows.getD k []).length = 2) : szL rows (f + 1) k =
    if armN (szL rows f) k 1 (armA rows k) < 0 then -1 else armN (szL rows f) k (armN (szL rows f) k 1 (armA rows k)) (armB rows k) := by
  rw [szL, if_neg (by omega)]
theorem armN_no (sz : Nat → Int) (at_ : Nat) (n : Int) : armN sz at_ n (-1) = n := if_pos rfl
theorem armN_off (sz : Nat → Int) (at_ : Nat) (n x : Int) (h : x ≠ -1) (h2 : x ≠ at_ + n) : armN sz at_ n x = -1 := by rw [armN, if_neg h, if_pos h2]
theorem armN_bad (sz : Nat → Int) (at_ : Nat) (n x : Int) (h : x ≠ -1) (h2 : x = at_ + n) (h3 : sz x.toNat < 0) : armN sz at_ n x = -1 := by rw [armN, if_neg h, if_neg (by omega), if_pos h3]
theorem armN_on (sz : Nat → Int) (at_ : Nat) (n x : Int) (h : x ≠ -1) (h2 : x = at_ + n) (h3 : ¬ sz x.toNat < 0) : armN sz at_ n x = n + sz x.toNat := by rw [armN, if_neg h, if_neg (by omega), if_neg h3]
/-- what is counted lies in the rows -/
theorem szL_le (rows : List (List Int)) : ∀ (f k : Nat), -1 ≤ szL rows f k ∧ (0 ≤ szL rows f k → 1 ≤ szL rows f k ∧ (k : Int) + szL rows f k ≤ rows.length) := by
  intro f
  induction f with
  | zero => intro k; simp [szL]
  | succ f ih =>
    intro k
    by_cases h : k < rows.length ∧ (rows.getD k []).length = 2
    · rw [szL_yes _ _ _ h.1 h.2]
      have key : ∀ (n x : Int), 1 ≤ n → (k : Int) + n ≤ rows.length → -1 ≤ armN (szL rows f) k n x ∧ (0 ≤ armN (szL rows f) k n x → 1 ≤ armN (szL rows f) k n x ∧ (k : Int) + armN (szL rows f) k n x ≤ rows.length) := by
        intro n x hn hle
        unfold armN
        split
        · omega
        · split
          · omega
          · rename_i h1 h2
            have := ih x.toNat
            split
            · omega
            · have h3 := this.2 (by omega)
              have h4 : (x.toNat : Int) = x := by omega
              omega
      have k1 := key 1 (armA rows k) (by omega) (by omega)
      split
      · omega
      · exact key _ (armB rows k) (k1.2 (by omega)).1 (k1.2 (by omega)).2
    · rw [szL_no _ _ _ (by omega)]; omega
/-- what is counted is a tree, as deep as fuel was taken -/
theorem szL_ok (rows : List (List Int)) : ∀ (f k : Nat), 0 ≤ szL rows f k → okT rows f (k : Int) := by
  intro f
  induction f with
  | zero => intro k h; simp [szL] at h
  | succ f ih =>
    intro k h
    by_cases hk : k < rows.length ∧ (rows.getD k []).length = 2
    · rw [szL_yes _ _ _ hk.1 hk.2] at h
      have key : ∀ (n x : Int), 1 ≤ n → 0 ≤ armN (szL rows f) k n x → okT rows f x := by
        intro n x hn h1
        unfold armN at h1
        split at h1
        · rename_i e; subst e; cases f with
          | zero => exact (by decide : (-1 : Int) < 0)
          | succ f => exact .inl (by decide)
        · split at h1
          · omega
          · split at h1
            · omega
            · rename_i e1 e2 e3
              have h4 : (x.toNat : Int) = x := by omega
              rw [← h4]
              exact ih _ (by omega)
      by_cases h1 : armN (szL rows f) k 1 (armA rows k) < 0
      · rw [if_pos h1] at h; omega
      · rw [if_neg h1] at h
        refine .inr ⟨hk.1, hk.2, key 1 _ (by omega) (by simp only [Int.toNat_natCast]; omega), ?_⟩
        have h2 : 1 ≤ armN (szL rows f) k 1 (armA rows k) := by
          unfold armN at h1 ⊢
          split
          · omega
          · split
            · rename_i e1 e2; rw [if_neg e1, if_pos e2] at h1; omega
            · rename_i e1 e2
              rw [if_neg e1, if_neg e2] at h1
              split
              · rename_i e3; rw [if_pos e3] at h1; omega
              · omega
        exact key _ _ h2 h
    · rw [szL_no _ _ _ (by omega)] at h; omega
theorem armN_le (rows : List (List Int)) (f k : Nat) (n x : Int) (hn : 1 ≤ n) (hle : (k : Int) + n ≤ rows.length) (h : 0 ≤ armN (szL rows f) k n x) :
    1 ≤ armN (szL rows f) k n x ∧ (k : Int) + armN (szL rows f) k n x ≤ rows.length := by
  unfold armN at h ⊢
  split
  · omega
  · rename_i h1
    rw [if_neg h1] at h
    split
    · rename_i h2; rw [if_pos h2] at h; omega
    · rename_i h2
      rw [if_neg h2] at h
      have := szL_le rows f x.toNat
      split
      · rename_i h3; rw [if_pos h3] at h; omega
      · have h3 := this.2 (by omega)
        have h4 : (x.toNat : Int) = x := by omega
        omega
/-- where the count stands behind j arms -/
def CntI (rows : List (List Int)) (f k j : Nat) (n : Int) : Prop :=
  1 ≤ n ∧ (k : Int) + n ≤ rows.length ∧ ((j = 0 ∧ n = 1) ∨ (j = 1 ∧ n = armN (szL rows f) k 1 (armA rows k)) ∨ (j = 2 ∧ n = szL rows (f + 1) k))
def armJ (rows : List (List Int)) (k j : Nat) : Int := if j = 0 then armA rows k else armB rows k
theorem CntI.bad {rows : List (List Int)} {f k j : Nat} {n : Int} (hk : k < rows.length) (h2 : (rows.getD k []).length = 2) (h : CntI rows f k j n) (hj : j < 2) (hn : armN (szL rows f) k n (armJ rows k j) = -1) : szL rows (f + 1) k = -1 := by
  rw [szL_yes _ _ _ hk h2]
  rcases h.2.2 with ⟨rfl, rfl⟩ | ⟨rfl, rfl⟩ | ⟨rfl, _⟩
  · rw [armJ, if_pos rfl] at hn; rw [hn]; rfl
  · rw [if_neg (by have := h.1; omega)]
    rw [armJ, if_neg (by decide)] at hn; exact hn
  · omega
theorem CntI.next {rows : List (List Int)} {f k j : Nat} {n : Int} (hk : k < rows.length) (h2 : (rows.getD k []).length = 2) (h : CntI rows f k j n) (hj : j < 2) (hn : 0 ≤ armN (szL rows f) k n (armJ rows k j)) : CntI rows f k (j + 1) (armN (szL rows f) k n (armJ rows k j)) := by
  have := armN_le rows f k n _ h.1 h.2.1 hn
  refine ⟨this.1, this.2, ?_⟩
  rcases h.2.2 with ⟨rfl, rfl⟩ | ⟨rfl, rfl⟩ | ⟨rfl, _⟩
  · exact .inr (.inl ⟨rfl, rfl⟩)
  · refine .inr (.inr ⟨rfl, ?_⟩)
    rw [szL_yes _ _ _ hk h2, if_neg (by have := h.1; omega)]; rfl
  · omega
/-- rows that are a two-armed tree -/
def treeW (rows : List (List Int)) : Bool := decide (rows.length ≤ 9) && (decide (rows.length = 0) || decide (szL rows 10 0 = rows.length))
theorem tree_sz (rows : List (List Int)) (h : treeW rows = true) (h0 : ¬ rows.length = 0) : szL rows 10 0 = rows.length := by
  unfold treeW at h
  simp only [Bool.and_eq_true, Bool.or_eq_true, decide_eq_true_eq] at h
  exact h.2.resolve_left h0
theorem szL_ok0 (rows : List (List Int)) (f : Nat) (n : Nat) (h : szL rows f 0 = n) : okT rows f 0 := szL_ok rows f 0 (by rw [h]; omega)
theorem tree_ok (rows : List (List Int)) (h : treeW rows = true) (h0 : ¬ rows.length = 0) : okT rows 10 0 := szL_ok0 rows 10 rows.length (tree_sz rows h h0)
end Go.Proofs.Ytmlcbeekimiaiaa
