/-
  The contracts of the law's own helpers on lists of rows of numbers: two lists are the same; a list is marked; it still bears its marks.
-/
import Derived.Test.YthlboikljibohaaCInts
import Derived.Test.YthlboikljibohaaZW
namespace Go.Proofs.Ythlboikljibohaa
open Go.RowKit

theorem Same.trans {a b c : World} (h : Same a b) (k : Same b c) : Same a c := ⟨k.1.trans h.1, h.2.trans (k.below _)⟩

end Go.Proofs.Ythlboikljibohaa
