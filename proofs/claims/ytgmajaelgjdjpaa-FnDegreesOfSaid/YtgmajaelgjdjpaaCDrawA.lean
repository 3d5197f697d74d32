/-
  The contracts of the functions that draw a word: that they return, and how long it is.
-/
import Derived.Test.YtgmajaelgjdjpaaCPick
import Derived.Test.YtgmajaelgjdjpaaWInts
import Derived.Test.YtgmajaelgjdjpaaCCount
import Derived.Test.YtgmajaelgjdjpaaCMirror
namespace Go.Proofs.Ytgmajaelgjdjpaa
open Go.RowKit

/-- some number -/
def SomeI (w : World) (e : Ending) (w' : World) : Prop := ∃ x : Int, e = .returned (.int .i64 x) ∧ w = w'

/-- a text's length, for a loop's measure -/
def sizeOfT : Value → Nat | .string s => s.size | _ => 0
/-- some text that is not long -/
def SomeT (k : Nat) (w : World) (e : Ending) (w' : World) : Prop := ∃ s : ByteArray, e = .returned (.string s) ∧ s.size ≤ k ∧ w = w'

end Go.Proofs.Ytgmajaelgjdjpaa
