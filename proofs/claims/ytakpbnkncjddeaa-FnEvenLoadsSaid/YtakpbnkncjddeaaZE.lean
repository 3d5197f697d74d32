/-
  The contract of the laws' own test whether two lists are equal.
-/
import Derived.Test.YtakpbnkncjddeaaZW
import Derived.Test.YtakpbnkncjddeaaProg
import Derived.WalkSpells
import Derived.WalkLawsBesides
import Derived.Lib.Hide
import Derived.BigQuiet
import Derived.Deep.QuietTactic
namespace Go.Proofs.Ytakpbnkncjddeaa
open Go.RowKit

end Go.Proofs.Ytakpbnkncjddeaa
