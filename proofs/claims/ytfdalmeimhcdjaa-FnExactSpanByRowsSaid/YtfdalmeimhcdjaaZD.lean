/-
  The contracts of the functions that draw a word: that they return, and how long it is.
  The contracts of the functions that draw one of some numbers, or a word of so many pairs.
-/
import Derived.Test.YtfdalmeimhcdjaaCPick
import Derived.Test.YtfdalmeimhcdjaaZW
import Derived.Test.YtfdalmeimhcdjaaCCount
import Derived.Test.YtfdalmeimhcdjaaZV
namespace Go.Proofs.Ytfdalmeimhcdjaa
open Go.RowKit

/-- some number -/
def SomeI (w : World) (e : Ending) (w' : World) : Prop := ∃ x : Int, e = .returned (.int .i64 x) ∧ w = w'

/-- a text's length, for a loop's measure -/
def sizeOfT : Value → Nat | .string s => s.size | _ => 0
/-- some text that is not long -/
def SomeT (k : Nat) (w : World) (e : Ending) (w' : World) : Prop := ∃ s : ByteArray, e = .returned (.string s) ∧ s.size ≤ k ∧ w = w'

end Go.Proofs.Ytfdalmeimhcdjaa

namespace Go.Proofs.Ytfdalmeimhcdjaa
open Go.RowKit

theorem Own.only {w w' : World} {B H R : Nat} {t : TypeId} {v : Value} {xs : List Value} (h : Own w B H t v xs) (hb : Only R w w') (hne : v.ownBlock ≠ some R) : Own w' B H t v xs :=
  ⟨own_of_blocks h.1 fun g hg => hb.block g (fun e => hne (by rw [hg, e])), h.2⟩

end Go.Proofs.Ytfdalmeimhcdjaa
