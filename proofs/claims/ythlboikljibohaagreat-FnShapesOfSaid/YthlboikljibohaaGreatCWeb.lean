/-
  The contract of the model's test of a web.
-/
import Derived.Test.YthlboikljibohaaGreatCVTree
import Derived.Test.YthlboikljibohaaGreatCVCode
namespace Go.Proofs.YthlboikljibohaaGreat
open Go.RowKit

def rowW (n : Int) (r : List Int) : Prop := r.length = 2 ∧ (0 ≤ r.getD 0 0 ∧ r.getD 0 0 ≤ n - 1) ∧ (0 ≤ r.getD 1 0 ∧ r.getD 1 0 ≤ n - 1)
instance (n : Int) (r : List Int) : Decidable (rowW n r) := by unfold rowW; infer_instance
def webB (n : Int) (rows : List (List Int)) : Bool := decide ((∀ r ∈ rows, rowW n r) ∧ (1 ≤ n ∧ n ≤ 5) ∧ rows.length ≤ 8)
theorem webB_iff {n : Int} {rows : List (List Int)} : webB n rows = true ↔ (∀ r ∈ rows, rowW n r) ∧ (1 ≤ n ∧ n ≤ 5) ∧ rows.length ≤ 8 := by unfold webB; exact decide_eq_true_iff
theorem webB_no {n m : Int} {rows : List (List Int)} {k : Nat} (hk : k < rows.length) (hm : m = IntKind.i64.wrap (n - 1)) (h : ¬ (rows[k].length = 2 ∧ (0 ≤ rows[k].getD 0 0 ∧ rows[k].getD 0 0 ≤ m) ∧ (0 ≤ rows[k].getD 1 0 ∧ rows[k].getD 1 0 ≤ m))) : webB n rows = false := by
  cases hb : webB n rows with
  | false => rfl
  | true =>
    exfalso
    obtain ⟨h1, h2, _⟩ := webB_iff.1 hb
    have e : m = n - 1 := by rw [hm, IntKind.wrap_i64]; omega
    rw [e] at h
    exact h (h1 _ (List.getElem_mem hk))
end Go.Proofs.YthlboikljibohaaGreat
