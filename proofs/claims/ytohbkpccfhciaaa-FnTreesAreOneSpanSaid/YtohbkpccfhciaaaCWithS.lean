/-
  The contract of the model's function SpansWith, of any rows.
-/
import Derived.Test.YtohbkpccfhciaaaCWebS
namespace Go.Proofs.Ytohbkpccfhciaaa
open Go.RowKit

/-- how many of some sets have a place -/
def withN (L : List Nat) (k : Nat) : Nat := L.countP fun s => decide (s / 2 ^ k % 2 = 1)
theorem with_step (L : List Nat) (k i : Nat) (h : i < L.length) : withN (L.take (i + 1)) k = withN (L.take i) k + L[i] / 2 ^ k % 2 := by
  unfold withN
  rw [List.take_succ_eq_append_getElem h, List.countP_append, List.countP_singleton]
  congr 1
  by_cases hb : L[i] / 2 ^ k % 2 = 1
  · rw [if_pos (decide_eq_true hb), hb]
  · rw [if_neg (by simp [hb])]; omega
theorem with_le (L : List Nat) (k i : Nat) : withN (L.take i) k ≤ i := by
  unfold withN
  have h1 := List.countP_le_length (p := fun s => decide (s / 2 ^ k % 2 = 1)) (l := L.take i)
  rw [List.length_take] at h1
  omega
def spanW (n : Int) (rows : List (List Int)) (k : Int) : Int := if webB n rows = true ∧ 0 ≤ k ∧ k ≤ (rows.length : Int) - 1 then (withN (spansN n.toNat (edgesR rows)) k.toNat : Int) else -1
theorem spans_lt {n : Nat} {E : Edges} (h : E.length ≤ 8) : (spansN n E).length ≤ 256 ∧ ∀ s ∈ spansN n E, s < 256 := by
  have hp := pow2_le E.length h
  unfold spansN
  constructor
  · have := List.length_filter_le (fun s => spanB n (pickE E s)) (List.range (2 ^ E.length))
    rw [List.length_range] at this
    omega
  · intro s hs
    have := List.mem_range.1 (List.mem_filter.1 hs).1
    omega
end Go.Proofs.Ytohbkpccfhciaaa
