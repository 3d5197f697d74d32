/-
  The functions that go alone.
-/
import Derived.Test.YtchfnbcpjiiphabGTameP
import Derived.Test.YtchfnbcpjiiphabProg
namespace Go.Proofs.Ytchfnbcpjiiphab
open Go
def tameL : List FuncId := [8, 9, 11, 12, 13, 14, 16, 18, 20, 22, 23, 24, 26, 27, 28, 29, 30, 32, 33, 34]
set_option maxRecDepth 100000 in
theorem tameT : TameP Try.prog (inL tameL) := tameP_of tameL (by decide +kernel)
end Go.Proofs.Ytchfnbcpjiiphab
