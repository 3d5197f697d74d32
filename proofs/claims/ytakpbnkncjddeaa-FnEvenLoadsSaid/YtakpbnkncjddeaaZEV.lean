/-
  Even loads: depths of the nodes in the order of their numbers; the rows of a word's tree tell them from parents to arms.
  The contract of the model's function that counts the edges of each node.
-/
import Derived.Test.YtakpbnkncjddeaaZL
import Derived.Test.YtakpbnkncjddeaaZY
import Derived.Test.YtakpbnkncjddeaaZH
namespace Go.Proofs.Ytakpbnkncjddeaa
open Go.RowKit
namespace Tw

/-- how deep each node is, in the order of their numbers -/
def pdL : Tw → Nat → List Nat
  | e, _ => []
  | n a b, d => d :: (pdL a (d + 1) ++ pdL b (d + 1))
theorem pdL_len : ∀ (t : Tw) (d : Nat), (pdL t d).length = t.size
  | e, _ => rfl
  | n a b, d => by rw [pdL, List.length_cons, List.length_append, pdL_len a, pdL_len b]; show _ = a.size + 1 + b.size; omega
theorem pdL_up : ∀ (t : Tw) (d : Nat), pdL t (d + 1) = (pdL t d).map (· + 1)
  | e, _ => rfl
  | n a b, d => by rw [pdL, pdL, List.map_cons, List.map_append, pdL_up a, pdL_up b]
theorem pdL_sum : ∀ (t : Tw) (d : Nat), (pdL t d).sum = (stI t d).sum
  | e, _ => rfl
  | n a b, d => by
    have h1 := pdL_sum a (d + 1)
    have h2 := pdL_sum b (d + 1)
    rw [pdL, stI, List.sum_cons, List.sum_append, List.sum_append, List.sum_cons, h1, h2]; omega
theorem pdL_lt : ∀ (t : Tw) (d : Nat), ∀ x ∈ pdL t d, x < d + t.size
  | e, _, _, h => by cases h
  | n a b, d, x, h => by
    have sz : (n a b).size = a.size + 1 + b.size := rfl
    rw [pdL] at h
    rcases List.mem_cons.1 h with h | h
    · omega
    · rcases List.mem_append.1 h with h | h
      · have := pdL_lt a (d + 1) x h; omega
      · have := pdL_lt b (d + 1) x h; omega
/-- the depth of one node -/
def pd (t : Tw) (d j : Nat) : Nat := (pdL t d).getD j 0
theorem pd_top {a b : Tw} {d : Nat} : pd (n a b) d 0 = d := rfl
theorem pd_left {a b : Tw} {d j : Nat} (h : j < a.size) : pd (n a b) d (j + 1) = pd a (d + 1) j := by
  unfold pd
  rw [pdL, List.getD_cons_succ, List.getD_eq_getElem?_getD, List.getElem?_append_left (by rw [pdL_len]; exact h)]; rfl
theorem pd_right {a b : Tw} {d j : Nat} : pd (n a b) d (a.size + j + 1) = pd b (d + 1) j := by
  unfold pd
  rw [pdL, List.getD_cons_succ, List.getD_eq_getElem?_getD, List.getElem?_append_right (by rw [pdL_len]; omega), pdL_len, Nat.add_sub_cancel_left]; rfl
theorem pd_first {t : Tw} (h : 0 < t.size) (d : Nat) : pd t d 0 = d := by
  cases t with
  | e => exact absurd h (Nat.lt_irrefl 0)
  | n a b => rfl
theorem rootI_is (t : Tw) (k : Nat) : (t = e ∧ rootI t k = -1) ∨ (0 < t.size ∧ rootI t k = (k : Int)) := by
  cases t with
  | e => exact .inl ⟨rfl, rfl⟩
  | n a b => exact .inr ⟨by show 0 < a.size + 1 + b.size; omega, by rw [rootI, if_neg (by intro h; cases h)]⟩
theorem arms_child : ∀ (t : Tw) (m i : Nat) (r : List Int), (arms t m)[i]? = some r → r.length = 2 ∧ ∀ x ∈ r, x = -1 ∨ ∃ j, x = ((m + j : Nat) : Int) ∧ i < j ∧ j < t.size ∧ ∀ d, pd t d j = pd t d i + 1
  | e, _, _, _, h => by simp [arms] at h
  | n a b, m, i, r, h => by
    have sz : (n a b).size = a.size + 1 + b.size := rfl
    rw [arms] at h
    cases i with
    | zero =>
      simp only [List.getElem?_cons_zero, Option.some.injEq] at h
      subst h
      refine ⟨rfl, fun x hx => ?_⟩
      simp only [List.mem_cons, List.not_mem_nil, or_false] at hx
      rcases hx with rfl | rfl
      · rcases rootI_is a (m + 1) with ⟨_, q⟩ | ⟨h0, q⟩
        · exact .inl q
        · refine .inr ⟨1, by rw [q], by omega, by omega, fun d => ?_⟩
          rw [show (1 : Nat) = 0 + 1 from rfl, pd_left h0, pd_first h0, pd_top]
      · rcases rootI_is b (m + 1 + a.size) with ⟨_, q⟩ | ⟨h0, q⟩
        · exact .inl q
        · refine .inr ⟨a.size + 0 + 1, by rw [q]; congr 1; omega, by omega, by omega, fun d => ?_⟩
          rw [pd_right (a := a) (j := 0), pd_first h0, pd_top]
    | succ i =>
      rw [List.getElem?_cons_succ] at h
      by_cases hi : i < a.size
      · rw [List.getElem?_append_left (by rw [arms_length]; exact hi)] at h
        obtain ⟨h2, h3⟩ := arms_child a (m + 1) i r h
        refine ⟨h2, fun x hx => (h3 x hx).imp id ?_⟩
        rintro ⟨j, hj, h4, h5, h6⟩
        refine ⟨j + 1, by rw [hj]; congr 1; omega, by omega, by omega, fun d => ?_⟩
        rw [pd_left h5, pd_left hi, h6]
      · rw [List.getElem?_append_right (by rw [arms_length]; omega), arms_length] at h
        obtain ⟨h2, h3⟩ := arms_child b (m + 1 + a.size) (i - a.size) r h
        refine ⟨h2, fun x hx => (h3 x hx).imp id ?_⟩
        rintro ⟨j, hj, h4, h5, h6⟩
        refine ⟨a.size + j + 1, by rw [hj]; congr 1; omega, by omega, by omega, fun d => ?_⟩
        have : i + 1 = a.size + (i - a.size) + 1 := by omega
        rw [this, pd_right, pd_right, h6]
theorem arms_parent : ∀ (t : Tw) (m j : Nat), 0 < j → j < t.size → ∃ i r, i < j ∧ (arms t m)[i]? = some r ∧ ((m + j : Nat) : Int) ∈ r
  | e, _, _, _, h => absurd h (Nat.not_lt_zero _)
  | n a b, m, j, h0, h => by
    have sz : (n a b).size = a.size + 1 + b.size := rfl
    obtain ⟨j, rfl⟩ : ∃ k, j = k + 1 := ⟨j - 1, by omega⟩
    rw [arms]
    by_cases hj : j < a.size
    · by_cases hz : j = 0
      · subst hz
        refine ⟨0, _, by omega, rfl, ?_⟩
        rcases rootI_is a (m + 1) with ⟨q, _⟩ | ⟨_, q⟩
        · subst q; exact absurd hj (Nat.not_lt_zero _)
        · rw [q]; exact List.mem_cons.2 (.inl rfl)
      · obtain ⟨i, r, h1, h2, h3⟩ := arms_parent a (m + 1) j (by omega) hj
        refine ⟨i + 1, r, by omega, ?_, by rw [show m + (j + 1) = m + 1 + j by omega]; exact h3⟩
        rw [List.getElem?_cons_succ, List.getElem?_append_left (by rw [arms_length]; omega)]; exact h2
    · by_cases hz : j = a.size
      · subst hz
        refine ⟨0, _, by omega, rfl, ?_⟩
        rcases rootI_is b (m + 1 + a.size) with ⟨q, _⟩ | ⟨_, q⟩
        · subst q
          have : (e : Tw).size = 0 := rfl
          omega
        · rw [q, show m + (a.size + 1) = m + 1 + a.size by omega]; exact List.mem_cons.2 (.inr (List.mem_cons.2 (.inl rfl)))
      · obtain ⟨i, r, h1, h2, h3⟩ := arms_parent b (m + 1 + a.size) (j - a.size) (by omega) (by omega)
        refine ⟨a.size + i + 1, r, by omega, ?_, by rw [show m + (j + 1) = m + 1 + a.size + (j - a.size) by omega]; exact h3⟩
        rw [List.getElem?_cons_succ, List.getElem?_append_right (by rw [arms_length]; omega), arms_length, Nat.add_sub_cancel_left]; exact h2
end Tw
/-- what the law asks of the rows of a word's tree -/
structure Evn (rows : List (List Int)) (N : Nat) (p : Nat → Nat) : Prop where
  len : rows.length = N
  two : ∀ i, i < N → (rows.getD i []).length = 2
  arm : ∀ i, i < N → (armA rows i = -1 ∨ ∃ j : Nat, armA rows i = (j : Int) ∧ j < N ∧ p j = p i + 1) ∧ (armB rows i = -1 ∨ ∃ j : Nat, armB rows i = (j : Int) ∧ j < N ∧ p j = p i + 1)
  par : ∀ j, 0 < j → j < N → ∃ i, i < j ∧ (armA rows i = (j : Int) ∨ armB rows i = (j : Int))
  top : 0 < N → p 0 = 0
  low : ∀ i, i < N → p i ≤ N
theorem two_parts {r : List Int} (h : r.length = 2) : r = [r.getD 0 (-1), r.getD 1 (-1)] := by
  match r, h with
  | [_, _], _ => rfl
theorem evn_arms (t : Tw) : Evn (Tw.arms t 0) t.size (Tw.pd t 0) := by
  have key : ∀ i, i < t.size → ∃ r, (Tw.arms t 0)[i]? = some r ∧ (Tw.arms t 0).getD i [] = r := fun i hi => by
    have h : i < (Tw.arms t 0).length := by rw [Tw.arms_length]; exact hi
    exact ⟨(Tw.arms t 0)[i], List.getElem?_eq_getElem h, by rw [List.getD_eq_getElem?_getD, List.getElem?_eq_getElem h]; rfl⟩
  refine ⟨Tw.arms_length t 0, fun i hi => ?_, fun i hi => ?_, fun j h0 hj => ?_, fun h => Tw.pd_first h 0, fun i hi => ?_⟩
  · obtain ⟨r, h1, h2⟩ := key i hi
    rw [h2]; exact (Tw.arms_child t 0 i r h1).1
  · obtain ⟨r, h1, h2⟩ := key i hi
    obtain ⟨h3, h4⟩ := Tw.arms_child t 0 i r h1
    have h5 := two_parts h3
    unfold armA armB
    rw [h2]
    refine ⟨(h4 (r.getD 0 (-1)) (by rw [h5]; simp)).imp id ?_, (h4 (r.getD 1 (-1)) (by rw [h5]; simp)).imp id ?_⟩
    · rintro ⟨j, q1, _, q3, q4⟩; exact ⟨j, by rw [q1, Nat.zero_add], q3, q4 0⟩
    · rintro ⟨j, q1, _, q3, q4⟩; exact ⟨j, by rw [q1, Nat.zero_add], q3, q4 0⟩
  · obtain ⟨i, r, h1, h2, h3⟩ := Tw.arms_parent t 0 j h0 hj
    obtain ⟨r', h4, h5⟩ := key i (by omega)
    rw [h2] at h4
    cases h4
    have h6 := two_parts (Tw.arms_child t 0 i r h2).1
    refine ⟨i, h1, ?_⟩
    unfold armA armB
    rw [h5]
    rw [h6, Nat.zero_add] at h3
    simp only [List.mem_cons, List.not_mem_nil, or_false] at h3
    exact h3.imp Eq.symm Eq.symm
  · have hm : Tw.pd t 0 i ∈ Tw.pdL t 0 := by
      unfold Tw.pd
      rw [List.getD_eq_getElem?_getD, List.getElem?_eq_getElem (by rw [Tw.pdL_len]; exact hi)]
      exact List.getElem_mem _
    have := Tw.pdL_lt t 0 _ hm
    omega
/-- the sum of the depths, each one more -/
def evnS (p : Nat → Nat) : Nat → Nat
  | 0 => 0
  | k + 1 => evnS p k + 1 + p k
theorem evn_sum (t : Tw) : evnS (Tw.pd t 0) t.size = fbT t (List.replicate t.size 1) 1 := by
  have h1 : ∀ (l : List Nat) (k : Nat), k ≤ l.length → evnS (fun j => l.getD j 0) k = ((l.map (· + 1)).take k).sum := by
    intro l k
    induction k with
    | zero => intro _; simp [evnS]
    | succ k ih =>
      intro hk
      rw [evnS, ih (by omega), List.take_succ_eq_append_getElem (by rw [List.length_map]; omega), List.sum_append]
      simp [List.getElem?_eq_getElem (show k < l.length by omega)]
      omega
  have h2 := h1 (Tw.pdL t 0) t.size (by rw [Tw.pdL_len]; exact Nat.le_refl _)
  rw [← Tw.pdL_up, List.take_of_length_le (by rw [Tw.pdL_len]; exact Nat.le_refl _), Tw.pdL_sum] at h2
  have h3 : ∀ (s : List Nat), dotN s (List.replicate s.length 1) = s.sum := by
    intro s
    induction s with
    | nil => rfl
    | cons x s ih => rw [List.length_cons, List.replicate_succ, List.sum_cons]; show x * 1 + _ = _; rw [ih]; omega
  have h4 := h3 (stI t 1)
  rw [stI_len] at h4
  rw [← dot_fb t _ 1 (by rw [List.length_replicate]), h4]
  exact h2
end Go.Proofs.Ytakpbnkncjddeaa

namespace Go.Proofs.Ytakpbnkncjddeaa
open Go.RowKit

def degV (n : Nat) (d : Nat → Nat) : List Value := ints ((List.range n).map d)
theorem degV_length (n : Nat) (d : Nat → Nat) : (degV n d).length = n := by simp [degV, ints]
theorem degV_at {n i : Nat} (d : Nat → Nat) (h : i < n) : (degV n d)[i]? = some (.int .i64 (d i : Int)) := by simp [degV, ints, h]
theorem degV_set {n i : Nat} (d : Nat → Nat) (x : Nat) : (degV n d).set i (.int .i64 (x : Int)) = degV n (fun v => if v = i then x else d v) := by
  apply List.ext_getElem?
  intro j
  rw [List.getElem?_set]
  by_cases hj : j < n
  · by_cases e : i = j
    · subst e
      rw [if_pos rfl, degV_at _ hj, if_pos rfl, degV_length, if_pos hj]
    · rw [if_neg e, degV_at _ hj, degV_at _ hj, if_neg (Ne.symm e)]
  · rw [List.getElem?_eq_none (show (degV n fun v => if v = i then x else d v).length ≤ j by rw [degV_length]; omega), List.getElem?_eq_none (show (degV n d).length ≤ j by rw [degV_length]; omega), degV_length]
    split
    · rw [if_neg (by omega)]
    · rfl
theorem degV_zero (n : Nat) : List.replicate n (Value.int .i64 0) = degV n (deg []) := by
  apply List.ext_getElem?
  intro j
  by_cases hj : j < n
  · rw [degV_at _ hj, List.getElem?_replicate, if_pos hj]; rfl
  · rw [List.getElem?_eq_none (by rw [List.length_replicate]; omega), List.getElem?_eq_none (by rw [degV_length]; omega)]
theorem deg_take (E : Edges) (k : Nat) (h : k < E.length) (v : Nat) : deg (E.take (k + 1)) v = deg (E.take k) v + ((if E[k].1 = v then 1 else 0) + (if E[k].2 = v then 1 else 0)) := by
  rw [List.take_succ_eq_append_getElem h, deg_append, deg_cons, deg_nil]; rfl
theorem deg_small (E : Edges) (k v : Nat) : deg (E.take k) v ≤ 2 * k := by
  induction k with
  | zero => simp [deg]
  | succ k ih =>
    by_cases h : k < E.length
    · rw [deg_take E k h]
      have a1 : (if E[k].1 = v then 1 else 0) ≤ 1 := by split <;> omega
      have a2 : (if E[k].2 = v then 1 else 0) ≤ 1 := by split <;> omega
      omega
    · rw [List.take_of_length_le (by omega)]
      rw [List.take_of_length_le (by omega)] at ih
      omega
theorem two_store (d : Nat → Nat) (a b v : Nat) : d v + ((if a = v then 1 else 0) + (if b = v then 1 else 0)) = if v = b then (fun v => if v = a then d a + 1 else d v) b + 1 else (fun v => if v = a then d a + 1 else d v) v := by
  dsimp only
  by_cases h1 : v = b
  · rw [if_pos h1, if_pos h1.symm, h1]
    by_cases h2 : b = a
    · rw [if_pos h2, if_pos h2.symm, h2]
    · rw [if_neg h2, if_neg (Ne.symm h2)]
  · rw [if_neg h1, if_neg (Ne.symm h1)]
    by_cases h2 : v = a
    · rw [if_pos h2, if_pos h2.symm, h2]
    · rw [if_neg h2, if_neg (Ne.symm h2)]; rfl
/-- a row of the call's own that holds degrees -/
structure Dg (w0 w : World) (B G n : Nat) (d : Nat → Nat) : Prop where
  own : w.ownsRow G 3 1 (.slice (some ⟨G, 0, none⟩) n n) n (degV n d)
  below : Below B w0 w
  ge : B ≤ G
theorem Dg.store {w0 w : World} {B G n i x : Nat} {d : Nat → Nat} (h : Dg w0 w B G n d) : Dg w0 (w.setCell ⟨G, i, none⟩ (.int .i64 (x : Int))) B G n (fun v => if v = i then x else d v) := by
  refine ⟨?_, h.below.setCell (p := ⟨G, i, none⟩) h.ge _, h.ge⟩
  have := (h.own.stored i (.int .i64 (x : Int))).1
  rw [degV_set] at this
  exact this
theorem Dg.drew {w0 w : World} {B G n : Nat} {d : Nat → Nat} (h : Dg w0 w B G n d) : Dg w0 w.drew B G n d := ⟨own_of_blocks h.own fun _ _ => rfl, Below.drew h.below, h.ge⟩

end Go.Proofs.Ytakpbnkncjddeaa
