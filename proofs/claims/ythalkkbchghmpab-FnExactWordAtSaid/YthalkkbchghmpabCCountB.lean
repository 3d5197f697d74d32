/-
  The contracts of the two functions that say how many words there are of so many pairs.
-/
import Derived.Test.YthalkkbchghmpabCCount
import Derived.Test.YthalkkbchghmpabCRange
namespace Go.Proofs.Ythalkkbchghmpab
open Go.RowKit

end Go.Proofs.Ythalkkbchghmpab
