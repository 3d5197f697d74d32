/-
  The contracts of the functions that draw a word for the laws: they return some text that is not long.
-/
import Derived.Test.YtgomhleaonajjaaCDrawD
namespace Go.Proofs.Ytgomhleaonajjaa
open Go.RowKit

theorem mirror_size (s : ByteArray) : (ByteArray.mk (mirrorL s.data.toList).toArray).size = s.size := by
  show (mirrorL s.data.toList).toArray.size = _
  rw [List.size_toArray, mirrorL_length, size_list]

theorem small_list (l : List Int) (h : l.all (fun x => decide (0 ≤ x ∧ x ≤ 9)) = true) (x : Int) (hx : x ∈ l) : 0 ≤ x ∧ x ≤ 9 := of_decide_eq_true (List.all_eq_true.1 h x hx)

/-- some text that is not long, in a world that is old below B as it was -/
def Drawn (B : Nat) (w : World) (e : Ending) (w' : World) : Prop := ∃ s : ByteArray, e = .returned (.string s) ∧ s.size ≤ 60 ∧ Below B w w'

end Go.Proofs.Ytgomhleaonajjaa
