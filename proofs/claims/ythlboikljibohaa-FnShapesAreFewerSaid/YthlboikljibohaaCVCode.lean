/-
  The contract of the model's test of a code.
-/
import Derived.Test.YthlboikljibohaaZH
import Derived.Test.YthlboikljibohaaZV
namespace Go.Proofs.Ythlboikljibohaa
open Go.RowKit

def codeB (n : Int) (code : List Int) : Bool := decide ((∀ x ∈ code, 0 ≤ x ∧ x ≤ n - 1) ∧ (1 ≤ n ∧ n ≤ 7) ∧ code.length = (n - 2).toNat)
theorem codeB_no {n : Int} {code : List Int} (h : ¬ (1 ≤ n ∧ n ≤ 7)) : codeB n code = false := decide_eq_false fun hh => h hh.2.1
theorem inRB (x lo hi : Int) (w : World) {b : Bool} (hb : Hid (decide (lo ≤ x ∧ x ≤ hi) = b)) :
    Calls Try.prog 32 #[.int .i64 x, .int .i64 lo, .int .i64 hi] w fun e w' => e = .returned (.bool b) ∧ w = w' := by
  by_cases h : lo ≤ x ∧ x ≤ hi
  · obtain rfl : b = true := by rw [← hb.out]; exact decide_eq_true h
    exact inRange_yes x lo hi w h.1 h.2
  · obtain rfl : b = false := by rw [← hb.out]; exact decide_eq_false h
    exact inRange_no x lo hi w (by omega)

end Go.Proofs.Ythlboikljibohaa
