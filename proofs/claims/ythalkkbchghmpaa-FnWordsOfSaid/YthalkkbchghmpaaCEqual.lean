/-
  The contract of the laws' own test whether two lists are equal.
-/
import Derived.Test.YthalkkbchghmpaaWInts
import Derived.Test.YthalkkbchghmpaaProg
import Derived.WalkSpells
import Derived.WalkLawsBesides
import Derived.Lib.Hide
import Derived.BigQuiet
import Derived.Deep.QuietTactic
namespace Go.Proofs.Ythalkkbchghmpaa
open Go.RowKit

end Go.Proofs.Ythalkkbchghmpaa
