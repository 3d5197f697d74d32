/-
  Plain facts on heaps: the tree of a row's least numbers, how many rows have a tree, by choices and by hooks. Nothing of the program is named here.
-/
import Derived.Test.YtmlcbeekimiaiaaWTw
import Derived.Test.YtmlcbeekimiaiaaWFct
namespace Go.Proofs.Ytmlcbeekimiaiaa

/-- the place of the first least number among the first k -/
def atL (l : List Int) : Nat → Nat
  | 0 => 0
  | k + 1 => if l.getD k 0 < l.getD (atL l k) 0 then k else atL l k
theorem atL_lt (l : List Int) : ∀ k, 0 < k → atL l k < k := by
  intro k
  induction k with
  | zero => intro h; omega
  | succ k ih =>
    intro _
    rw [atL]
    split
    · omega
    · by_cases hk : k = 0
      · subst hk; rw [atL]; omega
      · have := ih (by omega); omega
theorem atL_le (l : List Int) : ∀ k, ∀ j, j < k → l.getD (atL l k) 0 ≤ l.getD j 0 := by
  intro k
  induction k with
  | zero => intro j hj; omega
  | succ k ih =>
    intro j hj
    rw [atL]
    split
    · next h =>
      by_cases e : j = k
      · subst e; exact Int.le_refl _
      · have := ih j (by omega); omega
    · next h =>
      by_cases e : j = k
      · subst e; omega
      · exact ih j (by omega)
/-- the place of a row's least number -/
def leastA (l : List Int) : Nat := atL l l.length

namespace Tw
/-- the tree of a row's least numbers -/
def ofF : Nat → List Int → Tw
  | 0, _ => e
  | f + 1, l => if l = [] then e else n (ofF f (l.take (leastA l))) (ofF f (l.drop (leastA l + 1)))
theorem ofF_nil (f : Nat) : ofF f [] = e := by cases f <;> rfl
theorem leastA_lt {l : List Int} (h : l ≠ []) : leastA l < l.length := atL_lt l _ (List.length_pos_iff.mpr h)
theorem ofF_cons (f : Nat) {l : List Int} (h : l ≠ []) : ofF (f + 1) l = n (ofF f (l.take (leastA l))) (ofF f (l.drop (leastA l + 1))) := by rw [ofF, if_neg h]
theorem ofF_size : ∀ (f : Nat) (l : List Int), l.length ≤ f → (ofF f l).size = l.length := by
  intro f
  induction f with
  | zero => intro l h; obtain rfl : l = [] := List.eq_nil_of_length_eq_zero (by omega); rfl
  | succ f ih =>
    intro l h
    by_cases hl : l = []
    · subst hl; rfl
    · have hlt := leastA_lt hl
      rw [ofF_cons f hl, size, ih _ (by rw [List.length_take]; omega), ih _ (by rw [List.length_drop]; omega), List.length_take, List.length_drop]
      omega
theorem ofF_more : ∀ (f g : Nat) (l : List Int), l.length ≤ f → l.length ≤ g → ofF f l = ofF g l := by
  intro f
  induction f with
  | zero => intro g l h _; obtain rfl : l = [] := List.eq_nil_of_length_eq_zero (by omega); rw [ofF_nil, ofF_nil]
  | succ f ih =>
    intro g l h hg
    by_cases hl : l = []
    · subst hl; rw [ofF_nil, ofF_nil]
    · have hlt := leastA_lt hl
      cases g with
      | zero => exact absurd (List.eq_nil_of_length_eq_zero (by omega)) hl
      | succ g =>
        rw [ofF_cons f hl, ofF_cons g hl, ih g _ (by rw [List.length_take]; omega) (by rw [List.length_take]; omega), ih g _ (by rw [List.length_drop]; omega) (by rw [List.length_drop]; omega)]
/-- the tree of a row -/
def row (l : List Int) : Tw := ofF l.length l
theorem row_nil : row [] = e := rfl
theorem row_cons {l : List Int} (h : l ≠ []) : row l = n (row (l.take (leastA l))) (row (l.drop (leastA l + 1))) := by
  have hlt := leastA_lt h
  have h0 : l.length = (l.length - 1) + 1 := by omega
  rw [row, h0, ofF_cons _ h, row, row, ofF_more (l.length - 1) (l.take (leastA l)).length _ (by rw [List.length_take]; omega) (Nat.le_refl _),
    ofF_more (l.length - 1) (l.drop (leastA l + 1)).length _ (by rw [List.length_drop]; omega) (Nat.le_refl _)]
theorem row_size (l : List Int) : (row l).size = l.length := ofF_size _ _ (Nat.le_refl _)

/-- the other way round -/
def flip : Tw → Tw
  | e => e
  | n a b => n b.flip a.flip
theorem flip_size : ∀ t : Tw, t.flip.size = t.size
  | e => rfl
  | n a b => by rw [flip, size, size, flip_size a, flip_size b]; omega
theorem flip_flip : ∀ t : Tw, t.flip.flip = t
  | e => rfl
  | n a b => by rw [flip, flip, flip_flip a, flip_flip b]
end Tw

/-- a row: the numbers from 0 up, in any order -/
def rowB (l : List Int) : Bool := decide (l.length ≤ 8) && (l.all fun x => decide (0 ≤ x) && decide (x < l.length)) && decide l.Nodup
theorem rowB_iff (l : List Int) : rowB l = true ↔ l.length ≤ 8 ∧ (∀ x ∈ l, 0 ≤ x ∧ x < l.length) ∧ l.Nodup := by
  simp only [rowB, Bool.and_eq_true, decide_eq_true_eq, List.all_eq_true, and_assoc]
theorem rowB_back (l : List Int) : rowB l.reverse = rowB l := by
  rw [Bool.eq_iff_iff, rowB_iff, rowB_iff]
  simp only [List.length_reverse, List.mem_reverse, (List.reverse_perm l).nodup_iff]

theorem getD_at (l : List Int) (k : Nat) (h : k < l.length) : l.getD k 0 = l[k] := by simp [List.getD, h]
theorem nodup_at {l : List Int} (hn : l.Nodup) (i j : Nat) (hi : i < l.length) (hj : j < l.length) (e : l[i] = l[j]) : i = j := by
  rw [List.Nodup, List.pairwise_iff_getElem] at hn
  rcases Nat.lt_trichotomy i j with h | h | h
  · exact absurd e (hn i j hi hj h)
  · exact h
  · exact absurd e.symm (hn j i hj hi h)
/-- where numbers differ the least one has one place -/
theorem leastA_back {l : List Int} (hn : l.Nodup) (h : l ≠ []) : leastA l.reverse = l.length - 1 - leastA l := by
  have h1 := Tw.leastA_lt h
  have h2 := Tw.leastA_lt (l := l.reverse) (by simpa using h)
  rw [List.length_reverse] at h2
  have a1 := atL_le l l.length
  have a2 := atL_le l.reverse l.reverse.length
  have q2 := a2 (l.length - 1 - leastA l) (by rw [List.length_reverse]; omega)
  have q1 := a1 (l.length - 1 - leastA l.reverse) (by omega)
  have e1 : l.reverse.getD (l.length - 1 - leastA l) 0 = l.getD (leastA l) 0 := by
    rw [getD_at _ _ (by rw [List.length_reverse]; omega), getD_at _ _ h1, List.getElem_reverse]
    congr 1; omega
  have e2 : l.reverse.getD (leastA l.reverse) 0 = l.getD (l.length - 1 - leastA l.reverse) 0 := by
    rw [getD_at _ _ (by rw [List.length_reverse]; omega), getD_at _ _ (by omega), List.getElem_reverse]
  rw [show atL l.reverse l.reverse.length = leastA l.reverse from rfl, e1, e2] at q2
  rw [show atL l l.length = leastA l from rfl] at q1
  have e : l.getD (l.length - 1 - leastA l.reverse) 0 = l.getD (leastA l) 0 := by omega
  rw [getD_at _ _ (by omega), getD_at _ _ h1] at e
  have := nodup_at hn _ _ (by omega) h1 e
  omega
theorem Tw.row_back : ∀ (k : Nat) (l : List Int), l.length ≤ k → l.Nodup → Tw.row l.reverse = (Tw.row l).flip := by
  intro k
  induction k with
  | zero => intro l h _; obtain rfl : l = [] := List.eq_nil_of_length_eq_zero (by omega); rfl
  | succ k ih =>
    intro l h hn
    by_cases hl : l = []
    · subst hl; rfl
    · have hlt := Tw.leastA_lt hl
      rw [Tw.row_cons hl, Tw.row_cons (l := l.reverse) (by simpa using hl), Tw.flip, leastA_back hn hl,
        ← ih _ (by rw [List.length_take]; omega) (hn.sublist (List.take_sublist _ _)), ← ih _ (by rw [List.length_drop]; omega) (hn.sublist (List.drop_sublist _ _)),
        List.take_reverse, List.drop_reverse]
      congr 3
      · congr 1; omega
      · congr 1; omega

/-- so many numbers are chosen of all: the loop of the model -/
def chsF (n k : Nat) : Nat → Nat
  | 0 => 1
  | i + 1 => chsF n k i * (n - k + (i + 1)) / (i + 1)
def chs (n k : Nat) : Nat := chsF n k k
theorem fct_le8 : ∀ n, n ≤ 8 → fct n ≤ 40320 := by decide
theorem chs_fac : ∀ n, n ≤ 7 → ∀ k, k ≤ n → chs n k * fct k * fct (n - k) = fct n := by decide
theorem chs_bound : ∀ n, n ≤ 7 → ∀ k, k ≤ n → ∀ i, i ≤ k → chsF n k i ≤ 40 := by decide
theorem chs_back : ∀ n, n ≤ 7 → ∀ k, k ≤ n → chs n (n - k) = chs n k := by decide

namespace Tw
/-- how many rows have a tree, by choices -/
def heaps : Tw → Nat
  | e => 1
  | n a b => chs (a.size + b.size) a.size * heaps a * heaps b
/-- the product of the sizes of all nodes' parts -/
def hooks : Tw → Nat
  | e => 1
  | n a b => (a.size + b.size + 1) * (hooks a * hooks b)
theorem hooks_pos : ∀ t : Tw, 0 < t.hooks
  | e => by decide
  | n a b => Nat.mul_pos (by omega) (Nat.mul_pos (hooks_pos a) (hooks_pos b))
theorem heaps_hooks : ∀ t : Tw, t.size ≤ 8 → t.heaps * t.hooks = fct t.size
  | e, _ => rfl
  | n a b, h => by
    have hs : a.size + 1 + b.size ≤ 8 := h
    have ha := heaps_hooks a (by omega)
    have hb := heaps_hooks b (by omega)
    have hc := chs_fac (a.size + b.size) (by omega) a.size (by omega)
    rw [Nat.add_sub_cancel_left] at hc
    rw [heaps, hooks, size, show a.size + 1 + b.size = (a.size + b.size) + 1 by omega, fct, ← hc, ← ha, ← hb]
    ac_rfl
theorem heaps_div {t : Tw} (h : t.size ≤ 8) : fct t.size / t.hooks = t.heaps := by
  rw [← heaps_hooks t h, Nat.mul_div_cancel _ t.hooks_pos]
theorem heaps_pos {t : Tw} (h : t.size ≤ 8) : 1 ≤ t.heaps := by
  have h1 := heaps_hooks t h
  have h2 := fct_pos t.size
  rcases Nat.eq_zero_or_pos t.heaps with e | e
  · rw [e, Nat.zero_mul] at h1; omega
  · exact e
theorem heaps_le {t : Tw} (h : t.size ≤ 8) : t.heaps ≤ fct t.size := by
  rw [← heaps_hooks t h]; exact Nat.le_mul_of_pos_right _ t.hooks_pos
theorem hooks_le {t : Tw} (h : t.size ≤ 8) : t.hooks ≤ fct t.size := by
  rw [← heaps_hooks t h]; exact Nat.le_mul_of_pos_left _ (heaps_pos h)
theorem heaps_flip : ∀ t : Tw, t.size ≤ 8 → t.flip.heaps = t.heaps
  | e, _ => rfl
  | n a b, h => by
    have hs : a.size + 1 + b.size ≤ 8 := h
    have hc := chs_back (a.size + b.size) (by omega) a.size (by omega)
    rw [Nat.add_sub_cancel_left] at hc
    rw [flip, heaps, heaps, flip_size, flip_size, heaps_flip a (by omega), heaps_flip b (by omega), Nat.add_comm b.size a.size, hc]
    ac_rfl
/-- pairs in each other, and beside each other -/
def nest : Nat → Tw
  | 0 => e
  | k + 1 => n (nest k) e
def side : Nat → Tw
  | 0 => e
  | k + 1 => n e (side k)
theorem nest_size : ∀ k, (nest k).size = k
  | 0 => rfl
  | k + 1 => by rw [nest, size, nest_size k]; rfl
theorem side_size : ∀ k, (side k).size = k
  | 0 => rfl
  | k + 1 => by rw [side, size, side_size k]; show 0 + 1 + k = k + 1; omega
theorem nest_heaps : ∀ k, k ≤ 8 → (nest k).heaps = 1 := by decide
theorem side_heaps : ∀ k, k ≤ 8 → (side k).heaps = 1 := by decide
theorem nest_lst : ∀ k, (nest k).lst = List.replicate k 40 ++ List.replicate k 41
  | 0 => rfl
  | k + 1 => by
    rw [nest, lst, nest_lst k, lst, List.replicate_succ, show List.replicate (k + 1) (41 : UInt8) = List.replicate k 41 ++ [41] from List.replicate_succ']
    simp
theorem side_lst : ∀ k, (side k).lst = (List.replicate k [(40 : UInt8), 41]).flatten
  | 0 => rfl
  | k + 1 => by rw [side, lst, side_lst k, lst, List.replicate_succ]; rfl
end Tw

end Go.Proofs.Ytmlcbeekimiaiaa
