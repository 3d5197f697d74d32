/-
  The contracts of the functions that draw the laws' words: they return some text that is not long.
-/
import Derived.Test.YtgomhleaonajjaaCDrawE
namespace Go.Proofs.Ytgomhleaonajjaa
open Go.RowKit

end Go.Proofs.Ytgomhleaonajjaa
