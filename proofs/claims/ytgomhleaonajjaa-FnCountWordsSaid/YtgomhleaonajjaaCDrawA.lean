/-
  The contracts of the functions that draw a word: that they return, and how long it is.
-/
import Derived.Test.YtgomhleaonajjaaCPick
import Derived.Test.YtgomhleaonajjaaWInts
import Derived.Test.YtgomhleaonajjaaCCount
import Derived.Test.YtgomhleaonajjaaCMirror
namespace Go.Proofs.Ytgomhleaonajjaa
open Go.RowKit

/-- some number -/
def SomeI (w : World) (e : Ending) (w' : World) : Prop := ∃ x : Int, e = .returned (.int .i64 x) ∧ w = w'

/-- a text's length, for a loop's measure -/
def sizeOfT : Value → Nat | .string s => s.size | _ => 0
/-- some text that is not long -/
def SomeT (k : Nat) (w : World) (e : Ending) (w' : World) : Prop := ∃ s : ByteArray, e = .returned (.string s) ∧ s.size ≤ k ∧ w = w'

end Go.Proofs.Ytgomhleaonajjaa
