/-
  The program's ValidTree.
-/
import Derived.Test.YthlboikljibohaaGreatCTreeE
namespace Go.Proofs.YthlboikljibohaaGreat
open Go.RowKit

end Go.Proofs.YthlboikljibohaaGreat
