/-
  The contract of the program's function that answers a word's triangles, as rows of numbers.
-/
import Derived.Test.YtddhiokpdhahbaaCFamI
import Derived.Test.YtddhiokpdhahbaaCFamB
namespace Go.Proofs.Ytddhiokpdhahbaa
open Go.RowKit

theorem implTriRows_any (s : ByteArray) (w : World) (hs : s.size ≤ maxLen) :
    Calls Try.prog 27 #[.string s] w (RowsOut (fanOut s.data.toList) w) := by
  refine (implTrianglesOf_any s w hs).mono ?_
  rintro e w1 ⟨v, RV, rfl, g, hb⟩
  exact ⟨v, RV, rfl, g.grid, hb⟩
end Go.Proofs.Ytddhiokpdhahbaa
