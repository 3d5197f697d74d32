/-
  The program's SpansOf and SpansWith, of any rows.
-/
import Derived.Test.YtohbkpccfhciaaaCSpansP
import Derived.Test.YtohbkpccfhciaaaCWithS
namespace Go.Proofs.Ytohbkpccfhciaaa
open Go.RowKit

theorem spansOf_p (n : Int) (rows : List (List Int)) (v : Value) (RV : List Value) (w : World) (B0 H0 : Nat) (hG : Hid (Grid w B0 H0 v RV rows)) (hH : H0 ≤ w.heap.size) (_hrl : rows.length ≤ 1048576) (_hrs : ∀ r ∈ rows, r.length ≤ 1048576) (_hwf : (Lit.int .i64 n).wf = true) :
    Calls Try.prog 15 #[.int .i64 n, v] w (IntsOut (spansL n rows) w) := by
  obtain ⟨a, cv, rfl, hR⟩ := grid_rd hG.out
  exact spansOf_r n rows a cv w (Lib.hid hR) hH
end Go.Proofs.Ytohbkpccfhciaaa
