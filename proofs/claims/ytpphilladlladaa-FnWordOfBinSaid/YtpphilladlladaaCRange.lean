/-
  The contract of the function that tells whether a number lies in a range.
-/
import Derived.Test.YtpphilladlladaaProg
import Derived.WalkKit
import Derived.WalkSpells
import Derived.WalkLawsBesides
import Derived.Lib.Hide
import Derived.BigQuiet
import Derived.Deep.QuietTactic
namespace Go.Proofs.Ytpphilladlladaa
open Go.RowKit

end Go.Proofs.Ytpphilladlladaa
