/-
  The order of edges: what the program's comparison of two edges answers.
-/
import Derived.Test.YtfdalmeimhcdjaaZW
import Derived.Test.YtfdalmeimhcdjaaCInts
import Derived.Sort.Grow
namespace Go.Proofs.Ytfdalmeimhcdjaa
open Go.RowKit

/-- how two numbers stand to each other -/
def cmpZ (x y : Int) : Int := if x < y then -1 else if y < x then 1 else 0
/-- how two edges stand to each other -/
def cmpE (x y : Nat × Nat) : Int := if x.1 = y.1 then cmpZ x.2 y.2 else cmpZ x.1 y.1
def encE (e : Nat × Nat) : List Value := [.int .i64 (e.1 : Int), .int .i64 (e.2 : Int)]

end Go.Proofs.Ytfdalmeimhcdjaa
