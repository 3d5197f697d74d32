/-
  The contracts of the functions that draw the laws' words: they return some text that is not long.
-/
import Derived.Test.YthalkkbchghmpaaCDrawE
namespace Go.Proofs.Ythalkkbchghmpaa
open Go.RowKit

end Go.Proofs.Ythalkkbchghmpaa
