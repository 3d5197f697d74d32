/-
  The walks of the laws on SpanByRows and ValidWeb, given the contracts of the program's functions (and of the model's SpanByRows).
-/
import Derived.Test.YtohbkpccfhciaaaCDrawW
import Derived.Test.YtohbkpccfhciaaaCWithS
import Derived.Test.YtohbkpccfhciaaaZW
namespace Go.Proofs.Ytohbkpccfhciaaa
open Go.RowKit

theorem wf_smallW (x : Int) (h : -1000 ≤ x ∧ x ≤ 100000) : (Lit.int .i64 x).wf = true := by
  have h1 : IntKind.i64.min = -9223372036854775808 := rfl
  have h2 : IntKind.i64.max = 9223372036854775807 := rfl
  simp [Lit.wf]; omega
end Go.Proofs.Ytohbkpccfhciaaa
