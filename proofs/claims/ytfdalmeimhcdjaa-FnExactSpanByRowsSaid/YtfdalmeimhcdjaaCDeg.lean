/-
  The contract of the model's function that counts the edges of each node.
-/
import Derived.Test.YtfdalmeimhcdjaaCReach
namespace Go.Proofs.Ytfdalmeimhcdjaa
open Go.RowKit

def degV (n : Nat) (d : Nat → Nat) : List Value := ints ((List.range n).map d)
theorem degV_length (n : Nat) (d : Nat → Nat) : (degV n d).length = n := by simp [degV, ints]
theorem degV_at {n i : Nat} (d : Nat → Nat) (h : i < n) : (degV n d)[i]? = some (.int .i64 (d i : Int)) := by simp [degV, ints, h]
theorem degV_set {n i : Nat} (d : Nat → Nat) (x : Nat) : (degV n d).set i (.int .i64 (x : Int)) = degV n (fun v => if v = i then x else d v) := by
  apply List.ext_getElem?
  intro j
  rw [List.getElem?_set]
  by_cases hj : j < n
  · by_cases e : i = j
    · subst e
      rw [if_pos rfl, degV_at _ hj, if_pos rfl, degV_length, if_pos hj]
    · rw [if_neg e, degV_at _ hj, degV_at _ hj, if_neg (Ne.symm e)]
  · rw [List.getElem?_eq_none (show (degV n fun v => if v = i then x else d v).length ≤ j by rw [degV_length]; omega), List.getElem?_eq_none (show (degV n d).length ≤ j by rw [degV_length]; omega), degV_length]
    split
    · rw [if_neg (by omega)]
    · rfl
theorem degV_zero (n : Nat) : List.replicate n (Value.int .i64 0) = degV n (deg []) := by
  apply List.ext_getElem?
  intro j
  by_cases hj : j < n
  · rw [degV_at _ hj, List.getElem?_replicate, if_pos hj]; rfl
  · rw [List.getElem?_eq_none (by rw [List.length_replicate]; omega), List.getElem?_eq_none (by rw [degV_length]; omega)]
theorem deg_take (E : Edges) (k : Nat) (h : k < E.length) (v : Nat) : deg (E.take (k + 1)) v = deg (E.take k) v + ((if E[k].1 = v then 1 else 0) + (if E[k].2 = v then 1 else 0)) := by
  rw [List.take_succ_eq_append_getElem h, deg_append, deg_cons, deg_nil]; rfl
theorem deg_small (E : Edges) (k v : Nat) : deg (E.take k) v ≤ 2 * k := by
  induction k with
  | zero => simp [deg]
  | succ k ih =>
    by_cases h : k < E.length
    · rw [deg_take E k h]
      have a1 : (if E[k].1 = v then 1 else 0) ≤ 1 := by split <;> omega
      have a2 : (if E[k].2 = v then 1 else 0) ≤ 1 := by split <;> omega
      omega
    · rw [List.take_of_length_le (by omega)]
      rw [List.take_of_length_le (by omega)] at ih
      omega
theorem two_store (d : Nat → Nat) (a b v : Nat) : d v + ((if a = v then 1 else 0) + (if b = v then 1 else 0)) = if v = b then (fun v => if v = a then d a + 1 else d v) b + 1 else (fun v => if v = a then d a + 1 else d v) v := by
  dsimp only
  by_cases h1 : v = b
  · rw [if_pos h1, if_pos h1.symm, h1]
    by_cases h2 : b = a
    · rw [if_pos h2, if_pos h2.symm, h2]
    · rw [if_neg h2, if_neg (Ne.symm h2)]
  · rw [if_neg h1, if_neg (Ne.symm h1)]
    by_cases h2 : v = a
    · rw [if_pos h2, if_pos h2.symm, h2]
    · rw [if_neg h2, if_neg (Ne.symm h2)]; rfl
/-- a row of the call's own that holds degrees -/
structure Dg (w0 w : World) (B G n : Nat) (d : Nat → Nat) : Prop where
  own : w.ownsRow G 3 1 (.slice (some ⟨G, 0, none⟩) n n) n (degV n d)
  below : Below B w0 w
  ge : B ≤ G
theorem Dg.store {w0 w : World} {B G n i x : Nat} {d : Nat → Nat} (h : Dg w0 w B G n d) : Dg w0 (w.setCell ⟨G, i, none⟩ (.int .i64 (x : Int))) B G n (fun v => if v = i then x else d v) := by
  refine ⟨?_, h.below.setCell (p := ⟨G, i, none⟩) h.ge _, h.ge⟩
  have := (h.own.stored i (.int .i64 (x : Int))).1
  rw [degV_set] at this
  exact this
theorem Dg.drew {w0 w : World} {B G n : Nat} {d : Nat → Nat} (h : Dg w0 w B G n d) : Dg w0 w.drew B G n d := ⟨own_of_blocks h.own fun _ _ => rfl, Below.drew h.below, h.ge⟩

end Go.Proofs.Ytfdalmeimhcdjaa
