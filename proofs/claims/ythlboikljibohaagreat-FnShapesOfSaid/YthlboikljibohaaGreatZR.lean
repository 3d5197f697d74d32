/-
  The program's count of the edges of each node, and its DegreesOf.
-/
import Derived.Test.YthlboikljibohaaGreatCTreeE
import Derived.Test.YthlboikljibohaaGreatZN
import Derived.Test.YthlboikljibohaaGreatCCodeS
namespace Go.Proofs.YthlboikljibohaaGreat
open Go.RowKit

theorem Dg.over {w0 w w' : World} {B G n : Nat} {d : Nat → Nat} (h : Dg w0 w B G n d) (hb : Below w.heap.size w w') (hB : B ≤ w.heap.size) : Dg w0 w' B G n d :=
  ⟨own_of_blocks h.own fun g hg => hb.block g (h.own.lt g hg).2, h.below.trans (hb.mono hB), h.ge⟩
theorem Dg.blk {w0 w : World} {B G n : Nat} {d : Nat → Nat} (h : Dg w0 w B G n d) : G < w.heap.size := (h.own.lt G rfl).2
end Go.Proofs.YthlboikljibohaaGreat
