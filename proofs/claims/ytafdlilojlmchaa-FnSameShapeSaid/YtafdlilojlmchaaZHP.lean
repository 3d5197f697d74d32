/-
  Plain facts on heaps: the tree of a row's least numbers, how many rows have a tree, by choices and by hooks. Nothing of the program is named here.
  Plain facts: falls and rises of a row; when a row is one, number by number. Nothing of the program is named here.
  The contracts of the model's ValidRow and FallsOf, of numbers that can be read.
-/
import Derived.Test.YtafdlilojlmchaaZJ
import Derived.Test.YtafdlilojlmchaaZSH
import Derived.Test.YtafdlilojlmchaaCInts
import Derived.Test.YtafdlilojlmchaaZV
import Derived.Test.YtafdlilojlmchaaZH
import Derived.Test.YtafdlilojlmchaaZ3
namespace Go.Proofs.Ytafdlilojlmchaa

/-- the place of the first least number among the first k -/
def atL (l : List Int) : Nat → Nat
  | 0 => 0
  | k + 1 => if l.getD k 0 < l.getD (atL l k) 0 then k else atL l k
theorem atL_lt (l : List Int) : ∀ k, 0 < k → atL l k < k := by
  intro k
  induction k with
  | zero => intro h; omega
  | succ k ih =>
    intro _
    rw [atL]
    split
    · omega
    · by_cases hk : k = 0
      · subst hk; rw [atL]; omega
      · have := ih (by omega); omega
theorem atL_le (l : List Int) : ∀ k, ∀ j, j < k → l.getD (atL l k) 0 ≤ l.getD j 0 := by
  intro k
  induction k with
  | zero => intro j hj; omega
  | succ k ih =>
    intro j hj
    rw [atL]
    split
    · next h =>
      by_cases e : j = k
      · subst e; exact Int.le_refl _
      · have := ih j (by omega); omega
    · next h =>
      by_cases e : j = k
      · subst e; omega
      · exact ih j (by omega)
/-- the place of a row's least number -/
def leastA (l : List Int) : Nat := atL l l.length

namespace Tw
/-- the tree of a row's least numbers -/
def ofF : Nat → List Int → Tw
  | 0, _ => e
  | f + 1, l => if l = [] then e else n (ofF f (l.take (leastA l))) (ofF f (l.drop (leastA l + 1)))
theorem ofF_nil (f : Nat) : ofF f [] = e := by cases f <;> rfl
theorem leastA_lt {l : List Int} (h : l ≠ []) : leastA l < l.length := atL_lt l _ (List.length_pos_iff.mpr h)
theorem ofF_cons (f : Nat) {l : List Int} (h : l ≠ []) : ofF (f + 1) l = n (ofF f (l.take (leastA l))) (ofF f (l.drop (leastA l + 1))) := by rw [ofF, if_neg h]
theorem ofF_size : ∀ (f : Nat) (l : List Int), l.length ≤ f → (ofF f l).size = l.length := by
  intro f
  induction f with
  | zero => intro l h; obtain rfl : l = [] := List.eq_nil_of_length_eq_zero (by omega); rfl
  | succ f ih =>
    intro l h
    by_cases hl : l = []
    · subst hl; rfl
    · have hlt := leastA_lt hl
      rw [ofF_cons f hl, size, ih _ (by rw [List.length_take]; omega), ih _ (by rw [List.length_drop]; omega), List.length_take, List.length_drop]
      omega
theorem ofF_more : ∀ (f g : Nat) (l : List Int), l.length ≤ f → l.length ≤ g → ofF f l = ofF g l := by
  intro f
  induction f with
  | zero => intro g l h _; obtain rfl : l = [] := List.eq_nil_of_length_eq_zero (by omega); rw [ofF_nil, ofF_nil]
  | succ f ih =>
    intro g l h hg
    by_cases hl : l = []
    · subst hl; rw [ofF_nil, ofF_nil]
    · have hlt := leastA_lt hl
      cases g with
      | zero => exact absurd (List.eq_nil_of_length_eq_zero (by omega)) hl
      | succ g =>
        rw [ofF_cons f hl, ofF_cons g hl, ih g _ (by rw [List.length_take]; omega) (by rw [List.length_take]; omega), ih g _ (by rw [List.length_drop]; omega) (by rw [List.length_drop]; omega)]
/-- the tree of a row -/
def row (l : List Int) : Tw := ofF l.length l
theorem row_nil : row [] = e := rfl
theorem row_cons {l : List Int} (h : l ≠ []) : row l = n (row (l.take (leastA l))) (row (l.drop (leastA l + 1))) := by
  have hlt := leastA_lt h
  have h0 : l.length = (l.length - 1) + 1 := by omega
  rw [row, h0, ofF_cons _ h, row, row, ofF_more (l.length - 1) (l.take (leastA l)).length _ (by rw [List.length_take]; omega) (Nat.le_refl _),
    ofF_more (l.length - 1) (l.drop (leastA l + 1)).length _ (by rw [List.length_drop]; omega) (Nat.le_refl _)]
theorem row_size (l : List Int) : (row l).size = l.length := ofF_size _ _ (Nat.le_refl _)

/-- the other way round -/
def flip : Tw → Tw
  | e => e
  | n a b => n b.flip a.flip
theorem flip_size : ∀ t : Tw, t.flip.size = t.size
  | e => rfl
  | n a b => by rw [flip, size, size, flip_size a, flip_size b]; omega
theorem flip_flip : ∀ t : Tw, t.flip.flip = t
  | e => rfl
  | n a b => by rw [flip, flip, flip_flip a, flip_flip b]
end Tw

/-- a row: the numbers from 0 up, in any order -/
def rowB (l : List Int) : Bool := decide (l.length ≤ 8) && (l.all fun x => decide (0 ≤ x) && decide (x < l.length)) && decide l.Nodup
theorem rowB_iff (l : List Int) : rowB l = true ↔ l.length ≤ 8 ∧ (∀ x ∈ l, 0 ≤ x ∧ x < l.length) ∧ l.Nodup := by
  simp only [rowB, Bool.and_eq_true, decide_eq_true_eq, List.all_eq_true, and_assoc]
theorem rowB_back (l : List Int) : rowB l.reverse = rowB l := by
  rw [Bool.eq_iff_iff, rowB_iff, rowB_iff]
  simp only [List.length_reverse, List.mem_reverse, (List.reverse_perm l).nodup_iff]

theorem getI_at (l : List Int) (k : Nat) (h : k < l.length) : l.getD k 0 = l[k] := by simp [List.getD, h]
theorem nodup_at {l : List Int} (hn : l.Nodup) (i j : Nat) (hi : i < l.length) (hj : j < l.length) (e : l[i] = l[j]) : i = j := by
  rw [List.Nodup, List.pairwise_iff_getElem] at hn
  rcases Nat.lt_trichotomy i j with h | h | h
  · exact absurd e (hn i j hi hj h)
  · exact h
  · exact absurd e.symm (hn j i hj hi h)
/-- where numbers differ the least one has one place -/
theorem leastA_back {l : List Int} (hn : l.Nodup) (h : l ≠ []) : leastA l.reverse = l.length - 1 - leastA l := by
  have h1 := Tw.leastA_lt h
  have h2 := Tw.leastA_lt (l := l.reverse) (by simpa using h)
  rw [List.length_reverse] at h2
  have a1 := atL_le l l.length
  have a2 := atL_le l.reverse l.reverse.length
  have q2 := a2 (l.length - 1 - leastA l) (by rw [List.length_reverse]; omega)
  have q1 := a1 (l.length - 1 - leastA l.reverse) (by omega)
  have e1 : l.reverse.getD (l.length - 1 - leastA l) 0 = l.getD (leastA l) 0 := by
    rw [getI_at _ _ (by rw [List.length_reverse]; omega), getI_at _ _ h1, List.getElem_reverse]
    congr 1; omega
  have e2 : l.reverse.getD (leastA l.reverse) 0 = l.getD (l.length - 1 - leastA l.reverse) 0 := by
    rw [getI_at _ _ (by rw [List.length_reverse]; omega), getI_at _ _ (by omega), List.getElem_reverse]
  rw [show atL l.reverse l.reverse.length = leastA l.reverse from rfl, e1, e2] at q2
  rw [show atL l l.length = leastA l from rfl] at q1
  have e : l.getD (l.length - 1 - leastA l.reverse) 0 = l.getD (leastA l) 0 := by omega
  rw [getI_at _ _ (by omega), getI_at _ _ h1] at e
  have := nodup_at hn _ _ (by omega) h1 e
  omega
theorem Tw.row_back : ∀ (k : Nat) (l : List Int), l.length ≤ k → l.Nodup → Tw.row l.reverse = (Tw.row l).flip := by
  intro k
  induction k with
  | zero => intro l h _; obtain rfl : l = [] := List.eq_nil_of_length_eq_zero (by omega); rfl
  | succ k ih =>
    intro l h hn
    by_cases hl : l = []
    · subst hl; rfl
    · have hlt := Tw.leastA_lt hl
      rw [Tw.row_cons hl, Tw.row_cons (l := l.reverse) (by simpa using hl), Tw.flip, leastA_back hn hl,
        ← ih _ (by rw [List.length_take]; omega) (hn.sublist (List.take_sublist _ _)), ← ih _ (by rw [List.length_drop]; omega) (hn.sublist (List.drop_sublist _ _)),
        List.take_reverse, List.drop_reverse]
      congr 3
      · congr 1; omega
      · congr 1; omega

/-- so many numbers are chosen of all: the loop of the model -/
def chsF (n k : Nat) : Nat → Nat
  | 0 => 1
  | i + 1 => chsF n k i * (n - k + (i + 1)) / (i + 1)
def chs (n k : Nat) : Nat := chsF n k k
theorem fct_le8 : ∀ n, n ≤ 8 → fct n ≤ 40320 := by decide
theorem chs_fac : ∀ n, n ≤ 7 → ∀ k, k ≤ n → chs n k * fct k * fct (n - k) = fct n := by decide
theorem chs_bound : ∀ n, n ≤ 7 → ∀ k, k ≤ n → ∀ i, i ≤ k → chsF n k i ≤ 40 := by decide
theorem chs_back : ∀ n, n ≤ 7 → ∀ k, k ≤ n → chs n (n - k) = chs n k := by decide

namespace Tw
/-- how many rows have a tree, by choices -/
def heaps : Tw → Nat
  | e => 1
  | n a b => chs (a.size + b.size) a.size * heaps a * heaps b
/-- the product of the sizes of all nodes' parts -/
def hooks : Tw → Nat
  | e => 1
  | n a b => (a.size + b.size + 1) * (hooks a * hooks b)
theorem hooks_pos : ∀ t : Tw, 0 < t.hooks
  | e => by decide
  | n a b => Nat.mul_pos (by omega) (Nat.mul_pos (hooks_pos a) (hooks_pos b))
theorem heaps_hooks : ∀ t : Tw, t.size ≤ 8 → t.heaps * t.hooks = fct t.size
  | e, _ => rfl
  | n a b, h => by
    have hs : a.size + 1 + b.size ≤ 8 := h
    have ha := heaps_hooks a (by omega)
    have hb := heaps_hooks b (by omega)
    have hc := chs_fac (a.size + b.size) (by omega) a.size (by omega)
    rw [Nat.add_sub_cancel_left] at hc
    rw [heaps, hooks, size, show a.size + 1 + b.size = (a.size + b.size) + 1 by omega, fct, ← hc, ← ha, ← hb]
    ac_rfl
theorem heaps_div {t : Tw} (h : t.size ≤ 8) : fct t.size / t.hooks = t.heaps := by
  rw [← heaps_hooks t h, Nat.mul_div_cancel _ t.hooks_pos]
theorem heaps_pos {t : Tw} (h : t.size ≤ 8) : 1 ≤ t.heaps := by
  have h1 := heaps_hooks t h
  have h2 := fct_pos t.size
  rcases Nat.eq_zero_or_pos t.heaps with e | e
  · rw [e, Nat.zero_mul] at h1; omega
  · exact e
theorem heaps_le {t : Tw} (h : t.size ≤ 8) : t.heaps ≤ fct t.size := by
  rw [← heaps_hooks t h]; exact Nat.le_mul_of_pos_right _ t.hooks_pos
theorem hooks_le {t : Tw} (h : t.size ≤ 8) : t.hooks ≤ fct t.size := by
  rw [← heaps_hooks t h]; exact Nat.le_mul_of_pos_left _ (heaps_pos h)
theorem heaps_flip : ∀ t : Tw, t.size ≤ 8 → t.flip.heaps = t.heaps
  | e, _ => rfl
  | n a b, h => by
    have hs : a.size + 1 + b.size ≤ 8 := h
    have hc := chs_back (a.size + b.size) (by omega) a.size (by omega)
    rw [Nat.add_sub_cancel_left] at hc
    rw [flip, heaps, heaps, flip_size, flip_size, heaps_flip a (by omega), heaps_flip b (by omega), Nat.add_comm b.size a.size, hc]
    ac_rfl
/-- pairs in each other, and beside each other -/
def nest : Nat → Tw
  | 0 => e
  | k + 1 => n (nest k) e
def side : Nat → Tw
  | 0 => e
  | k + 1 => n e (side k)
theorem nest_size : ∀ k, (nest k).size = k
  | 0 => rfl
  | k + 1 => by rw [nest, size, nest_size k]; rfl
theorem side_size : ∀ k, (side k).size = k
  | 0 => rfl
  | k + 1 => by rw [side, size, side_size k]; show 0 + 1 + k = k + 1; omega
theorem nest_heaps : ∀ k, k ≤ 8 → (nest k).heaps = 1 := by decide
theorem side_heaps : ∀ k, k ≤ 8 → (side k).heaps = 1 := by decide
theorem nest_lst : ∀ k, (nest k).lst = List.replicate k 40 ++ List.replicate k 41
  | 0 => rfl
  | k + 1 => by
    rw [nest, lst, nest_lst k, lst, List.replicate_succ, show List.replicate (k + 1) (41 : UInt8) = List.replicate k 41 ++ [41] from List.replicate_succ']
    simp
theorem side_lst : ∀ k, (side k).lst = (List.replicate k [(40 : UInt8), 41]).flatten
  | 0 => rfl
  | k + 1 => by rw [side, lst, side_lst k, lst, List.replicate_succ]; rfl
end Tw

end Go.Proofs.Ytafdlilojlmchaa

namespace Go.Proofs.Ytafdlilojlmchaa

def sumK (f : Nat → Nat) : Nat → Nat
  | 0 => 0
  | k + 1 => sumK f k + f k
theorem sumK_congr {f g : Nat → Nat} : ∀ k, (∀ i, i < k → f i = g i) → sumK f k = sumK g k
  | 0, _ => rfl
  | k + 1, h => by rw [sumK, sumK, sumK_congr k (fun i hi => h i (by omega)), h k (by omega)]
theorem sumK_front (f : Nat → Nat) : ∀ k, sumK f (k + 1) = f 0 + sumK (fun i => f (i + 1)) k
  | 0 => by simp [sumK]
  | k + 1 => by rw [sumK, sumK_front f k, sumK]; omega
theorem sumK_back (f : Nat → Nat) : ∀ k, sumK (fun i => f (k - 1 - i)) k = sumK f k
  | 0 => rfl
  | k + 1 => by
    rw [sumK_front, sumK]
    have := sumK_back f k
    rw [← this, sumK_congr (g := fun i => f (k - 1 - i)) k (fun i hi => by show f (k + 1 - 1 - (i + 1)) = f (k - 1 - i); congr 1; omega)]
    show f (k + 1 - 1 - 0) + _ = _ + f k
    rw [Nat.add_comm]; rfl
theorem sumK_all {f g : Nat → Nat} : ∀ k, (∀ i, i < k → f i + g i = 1) → sumK f k + sumK g k = k
  | 0, _ => rfl
  | k + 1, h => by
    have h1 := sumK_all k (fun i hi => h i (by omega))
    have h2 := h k (by omega)
    rw [sumK, sumK]; omega
/-- a fall at the k-th step -/
def fallB (l : List Int) (k : Nat) : Nat := if l.getD (k + 1) 0 < l.getD k 0 then 1 else 0
/-- how many numbers are less than the one ahead of them -/
def fallsL (l : List Int) : Nat := sumK (fallB l) (l.length - 1)
theorem falls_le (l : List Int) : ∀ k, sumK (fallB l) k ≤ k
  | 0 => Nat.le_refl _
  | k + 1 => by
    have := falls_le l k
    have h : fallB l k ≤ 1 := by rw [fallB]; split <;> omega
    rw [sumK]; omega
theorem falls_back {l : List Int} (hn : l.Nodup) : fallsL l + fallsL l.reverse = l.length - 1 := by
  rw [fallsL, fallsL, List.length_reverse, ← sumK_back (fallB l.reverse)]
  refine sumK_all _ fun i hi => ?_
  have g : ∀ j, j < l.length → l.reverse.getD (l.length - 1 - j) 0 = l.getD j 0 := fun j hj => by
    rw [getI_at _ _ (by rw [List.length_reverse]; omega), getI_at _ _ hj, List.getElem_reverse]
    congr 1; omega
  show fallB l i + fallB l.reverse (l.length - 1 - 1 - i) = 1
  rw [fallB, fallB, show l.length - 1 - 1 - i = l.length - 1 - (i + 1) by omega, show l.length - 1 - (i + 1) + 1 = l.length - 1 - i by omega, g i (by omega), g (i + 1) (by omega), getI_at _ _ (by omega), getI_at _ _ (by omega)]
  have hne : l[i] ≠ l[i + 1] := fun e => by have := nodup_at hn i (i + 1) (by omega) (by omega) e; omega
  split <;> split <;> omega
/-- as far as k numbers are looked at, the row is one -/
def rowUp (l : List Int) (k : Nat) : Prop := ∀ (j : Nat) (hj : j < l.length), j < k → 0 ≤ l[j] ∧ l[j] < l.length ∧ l[j] ∉ l.take j
theorem rowUp_zero (l : List Int) : rowUp l 0 := fun _ _ h => absurd h (Nat.not_lt_zero _)
theorem rowUp_step {l : List Int} {k : Nat} (h : rowUp l k) (hk : k < l.length) (h1 : 0 ≤ l[k]) (h2 : l[k] < l.length) (h3 : l[k] ∉ l.take k) : rowUp l (k + 1) := fun j hj hjk => by
  by_cases e : j = k
  · subst e; exact ⟨h1, h2, h3⟩
  · exact h j hj (by omega)
theorem rowB_yes {l : List Int} (h8 : l.length ≤ 8) (h : rowUp l l.length) : rowB l = true := by
  rw [rowB_iff]
  refine ⟨h8, fun x hx => ?_, ?_⟩
  · obtain ⟨i, hi, rfl⟩ := List.getElem_of_mem hx
    exact ⟨(h i hi hi).1, (h i hi hi).2.1⟩
  · rw [List.Nodup, List.pairwise_iff_getElem]
    intro i j hi hj hij e
    refine (h j hj hj).2.2 (List.mem_iff_getElem.mpr ⟨i, by rw [List.length_take]; omega, ?_⟩)
    rw [List.getElem_take]; exact e
theorem rowB_long {l : List Int} (h8 : ¬ l.length ≤ 8) : rowB l = false := by
  rw [Bool.eq_false_iff]; exact fun h => h8 ((rowB_iff l).mp h).1
theorem rowB_off {l : List Int} {k : Nat} (hk : k < l.length) (h : ¬ (0 ≤ l[k] ∧ l[k] < l.length)) : rowB l = false := by
  rw [Bool.eq_false_iff]; exact fun h' => h (((rowB_iff l).mp h').2.1 _ (List.getElem_mem hk))
theorem rowB_twice {l : List Int} {k : Nat} (hk : k < l.length) (h : l[k] ∈ l.take k) : rowB l = false := by
  rw [Bool.eq_false_iff]
  intro h'
  have hn := ((rowB_iff l).mp h').2.2
  obtain ⟨i, hi, e⟩ := List.getElem_of_mem h
  rw [List.length_take] at hi
  rw [List.getElem_take] at e
  have := nodup_at hn i k (by omega) hk e
  omega
end Go.Proofs.Ytafdlilojlmchaa

namespace Go.Proofs.Ytafdlilojlmchaa
open Go.RowKit

theorem rd_at {w : World} {H : Nat} {b off : Nat} {l : List Int} (h : RdI w H (some ⟨b, off, none⟩) l) (j : Nat) (hj : j < l.length) : w.cell? ⟨b, off + j, none⟩ = some (.int .i64 l[j]) := by
  obtain ⟨_, _, e, _, h3⟩ := h j hj
  simp only [Option.some.injEq, Addr.mk.injEq] at e
  obtain ⟨rfl, rfl, _⟩ := e
  exact h3
theorem RdI.take {w : World} {H : Nat} {a : Option Addr} {l : List Int} (h : RdI w H a l) (m : Nat) : RdI w H a (l.take m) := fun j hj => by
  rw [List.length_take] at hj
  obtain ⟨b, off, h1, h2, h3⟩ := h j (by omega)
  exact ⟨b, off, h1, h2, by rw [List.getElem_take]; exact h3⟩
theorem RdI.more {w : World} {H H' : Nat} {a : Option Addr} {l : List Int} (h : RdI w H a l) (hH : H ≤ H') : RdI w H' a l := fun j hj => by
  obtain ⟨b, off, h1, h2, h3⟩ := h j hj
  exact ⟨b, off, h1, by omega, h3⟩

theorem own_rd {w : World} {B H c : Nat} {a : Option Addr} {l : List Int} (h : Own w B H 3 (.slice a l.length c) (iv l)) : RdI w H a l := fun j hj => by
  obtain ⟨g, cap, e, _, hg, hc, _⟩ := h.cell j (by rw [iv_length]; exact hj)
  rw [iv_length] at e
  simp only [Value.slice.injEq] at e
  refine ⟨g, 0, e.1, hg, ?_⟩
  rw [Nat.zero_add, hc, iv_at l j hj]

set_option maxRecDepth 100000 in
set_option maxHeartbeats 800000 in
theorem hasIntR_any (l : List Int) (a : Option Addr) (cv : Nat) (x : Int) (w : World) {H : Nat} (hR : Hid (RdI w H a l)) (hl : l.length ≤ 1048576) :
    Calls Try.prog 55 #[.slice a l.length cv, .int .i64 x] w fun e w' => e = .returned (.bool (decide (x ∈ l))) ∧ w = w' := by
  go_enter Try.func55, Try.ntmps55
  go_wp2
  go_loop [5] (fun i => ∃ k : Nat, k ≤ l.length ∧ i = .int .i64 k ∧ Hid (∀ (j : Nat) (hj : j < l.length), j < k → l[j] ≠ x)) (fun i => l.length - (intOf i).toNat)
  case atStart => exact ⟨0, Nat.zero_le _, rfl, fun j _ h => by omega⟩
  case round =>
    obtain ⟨k, hk, rfl, HN⟩ := hrel
    by_cases hlt : k < l.length
    · obtain ⟨b, off, rfl, _, h1⟩ := hR.out k hlt
      have b1 : (k : Int) < (l.length : Int) := by omega
      obtain ⟨y, hy⟩ : ∃ y, y = l[k] := ⟨_, rfl⟩
      rw [← hy] at h1
      have HY := Lib.hid hy
      clear hy
      by_cases hyx : y = x
      · subst hyx
        have hy := Lib.hid (inI_hit hlt HY.out.symm)
        go_wp2
        go_ret
        exact ⟨by rw [hy.out]; rfl, rfl⟩
      · have q1 : (y == x) = false := beq_false_of_ne hyx
        have HN' : Hid (∀ (j : Nat) (hj : j < l.length), j < k + 1 → l[j] ≠ x) := fun j hj hjk => by
          by_cases e : j = k
          · subst e; rw [← HY.out]; exact hyx
          · exact HN.out j hj (by omega)
        clear hyx
        go_wp2
        go_round
        case rel => exact ⟨k + 1, by omega, by go_num, HN'⟩
        case measure => simp [intOf]; omega
    · obtain rfl : k = l.length := by omega
      have hy := Lib.hid (inI_miss (x := x) fun j hj => HN.out j hj hj)
      go_wp2
      go_ret
      exact ⟨by rw [hy.out]; rfl, rfl⟩

theorem RdI.drew {w : World} {H : Nat} {a : Option Addr} {l : List Int} (h : RdI w H a l) (n : Nat) : RdI (w.drewN n) H a l := fun j hj => h j hj

set_option maxRecDepth 100000 in
set_option maxHeartbeats 1600000 in
theorem validRowM_any (l : List Int) (a : Option Addr) (cv : Nat) (w : World) {H : Nat} (hR : Hid (RdI w H a l)) (hl : l.length ≤ 1048576) (hcv : l.length ≤ cv) :
    Calls Try.prog 28 #[.slice a l.length cv] w fun e w' => e = .returned (.bool (rowB l)) ∧ ∃ q, w' = w.drewN q := by
  by_cases h8 : l.length ≤ 8
  · have b8 : ¬ (8 : Int) < (l.length : Int) := by omega
    have H8 := Lib.hid h8
    go_enter Try.func28, Try.ntmps28
    go_wp2
    go_loopw [3] (fun i wr => ∃ k : Nat, k ≤ l.length ∧ i = .int .i64 k ∧ Hid (rowUp l k) ∧ Hid (∃ q, wr = w.drewN q)) (fun i _ => l.length - (intOf i).toNat)
    case atStart => exact ⟨0, Nat.zero_le _, rfl, rowUp_zero l, 0, rfl⟩
    case round =>
      obtain ⟨k, hk, rfl, HU, HS⟩ := hrel
      have hRr : Hid (RdI wr H a l) := by obtain ⟨q, hq⟩ := HS.out; rw [hq]; exact hR.out.drew q
      by_cases hlt : k < l.length
      · have hlen : (l.take k).length = k := by rw [List.length_take]; omega
        have CH := fun x (n : Nat) => hasIntR_any (l.take k) a cv x (wr.drewN n) (Lib.hid ((hRr.out.take k).drew n)) (by omega)
        rw [hlen] at CH
        clear hlen
        obtain ⟨b, off, rfl, _, h1⟩ := hRr.out k hlt
        have b1 : (k : Int) < (l.length : Int) := by omega
        have b2 : (k : Int) ≤ (cv : Int) := by omega
        have HSTEP := Lib.hid (fun (q1 : 0 ≤ l[k]) (q2 : l[k] < l.length) (q3 : l[k] ∉ l.take k) => rowUp_step HU.out hlt q1 q2 q3)
        have HOFF := Lib.hid (fun h => rowB_off (l := l) hlt h)
        have HTW := Lib.hid (fun h => rowB_twice (l := l) hlt h)
        obtain ⟨y, hy⟩ : ∃ y, y = l[k] := ⟨_, rfl⟩
        rw [← hy] at h1 HSTEP HOFF HTW
        clear hy
        have CY : Hid (∀ n, Calls Try.prog 55 #[.slice (some ⟨b, off, none⟩) k cv, .int .i64 y] (wr.drewN n) fun e w' => e = .returned (.bool (decide (y ∈ l.take k))) ∧ ∃ m, w' = (wr.drewN n).drewN m) := fun n => (CH y n).mono fun e w' h => ⟨h.1, 0, h.2.symm⟩
        clear CH
        have ew : IntKind.i64.wrap ((l.length : Int) - 1) = (l.length : Int) - 1 := by rw [IntKind.wrap_i64]; omega
        by_cases hy0 : 0 ≤ y ∧ y ≤ (l.length : Int) - 1
        · have C : Hid (∀ n, Calls Try.prog 54 #[.int .i64 y, .int .i64 0, .int .i64 ((l.length : Int) - 1)] (wr.drewN n) fun e w' => e = .returned (.bool true) ∧ ∃ m, w' = (wr.drewN n).drewN m) := fun n => (inRange_yes y 0 ((l.length : Int) - 1) _ hy0.1 hy0.2).mono fun e w' h => ⟨h.1, 0, h.2.symm⟩
          by_cases hm : y ∈ l.take k
          · have hr := Lib.hid (HTW.out hm)
            rw [show decide (y ∈ l.take k) = true from decide_eq_true hm] at CY
            clear HSTEP HOFF HTW hy0 hm hRr
            go_wp2_with fail
            go_quiet (first
              | (go_at_call 54; exact Calls.quiet_of (C.out _))
              | (go_at_call 55; exact Calls.quiet_of (CY.out _)))
            go_wp2
            go_ret
            exact ⟨(by rw [hr.out]; rfl), by obtain ⟨q, hq⟩ := HS.out; exact ⟨q + nq, by rw [hq, World.drewN_drewN]⟩⟩
          · have HU2 := Lib.hid (HSTEP.out hy0.1 (by omega) hm)
            rw [show decide (y ∈ l.take k) = false from decide_eq_false hm] at CY
            clear HSTEP HOFF HTW hy0 hm hRr
            go_wp2_with fail
            go_quiet (first
              | (go_at_call 54; exact Calls.quiet_of (C.out _))
              | (go_at_call 55; exact Calls.quiet_of (CY.out _)))
            go_wp2
            go_roundw
            case rel => exact ⟨k + 1, by omega, by go_num, HU2, by obtain ⟨q, hq⟩ := HS.out; exact ⟨q + nq, by rw [hq, World.drewN_drewN]⟩⟩
            case measure => simp [intOf]; omega
        · have C : Hid (∀ n, Calls Try.prog 54 #[.int .i64 y, .int .i64 0, .int .i64 ((l.length : Int) - 1)] (wr.drewN n) fun e w' => e = .returned (.bool false) ∧ ∃ m, w' = (wr.drewN n).drewN m) := fun n => (inRange_no y 0 ((l.length : Int) - 1) _ (by omega)).mono fun e w' h => ⟨h.1, 0, h.2.symm⟩
          have hr := Lib.hid (HOFF.out (by omega))
          clear HSTEP HOFF HTW hy0 hRr CY
          go_wp2_with fail
          go_quiet ((go_at_call 54; exact Calls.quiet_of (C.out _)))
          go_wp2
          go_ret
          exact ⟨(by rw [hr.out]; rfl), by obtain ⟨q, hq⟩ := HS.out; exact ⟨q + nq, by rw [hq, World.drewN_drewN]⟩⟩
      · obtain rfl : k = l.length := by omega
        have hy := Lib.hid (rowB_yes H8.out HU.out)
        go_wp2
        go_ret
        exact ⟨(by rw [hy.out]; rfl), HS.out⟩
  · have b8 : (8 : Int) < (l.length : Int) := by omega
    have hr := Lib.hid (rowB_long h8)
    go_enter Try.func28, Try.ntmps28
    go_wp2
    go_ret
    exact ⟨(by rw [hr.out]; rfl), 0, rfl⟩

def fallsO (l : List Int) : Int := if rowB l = true then ((fallsL l : Nat) : Int) else -1
end Go.Proofs.Ytafdlilojlmchaa
