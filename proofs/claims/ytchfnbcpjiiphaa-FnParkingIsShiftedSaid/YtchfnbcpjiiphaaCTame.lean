/-
  The functions that go alone.
-/
import Derived.Test.YtchfnbcpjiiphaaZH
import Derived.Test.YtchfnbcpjiiphaaProg
namespace Go.Proofs.Ytchfnbcpjiiphaa
open Go
def tameL : List FuncId := [10, 12, 13, 14, 15, 17, 18, 19, 20, 21, 22, 23, 24, 26, 27, 28, 29, 31, 32, 33, 35, 36, 37, 38, 40, 41, 42, 43, 44, 45, 46, 47, 48, 50, 51, 52, 53]
set_option maxRecDepth 100000 in
theorem tameT : TameP Try.prog (inL tameL) := tameP_of tameL (by decide +kernel)
end Go.Proofs.Ytchfnbcpjiiphaa
