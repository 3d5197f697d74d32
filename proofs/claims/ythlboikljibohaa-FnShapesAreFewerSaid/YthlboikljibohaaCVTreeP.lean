/-
  The program's ValidTree.
-/
import Derived.Test.YthlboikljibohaaCTreeE
namespace Go.Proofs.Ythlboikljibohaa
open Go.RowKit

end Go.Proofs.Ythlboikljibohaa
