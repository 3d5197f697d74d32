/-
  A list told backwards, among goroutines that only leave.
-/
import Derived.Test.YtchfnbcpjiiphaaCBack
import Derived.Test.YtchfnbcpjiiphaaCPlX
namespace Go.Proofs.Ytchfnbcpjiiphaa
open Go Go.Conc Go.RowKit

theorem backwards_x (l : List Int) (v : Value) (w : World) {B H : Nat} (hv : Own w B H 3 v (iv l)) (hH : H ≤ w.heap.size) (hl : l.length ≤ 1048576) (hs : SetX Try.prog w) :
    CallsX Try.prog 20 #[v] w (RowX l.reverse w) :=
  callsX_lone tameT rfl hs.set rowX_like fun w₁ hl₁ => (backwards_any l v w₁ (Lib.hid (hv.like hl₁)) (by rw [hl₁.size]; exact hH) hl).mono fun _ _ ⟨v, he, ho, hb⟩ =>
    ⟨v, he, (like_x hl₁).trans (below_x (hb.mono (Nat.le_of_eq hl₁.size.symm))), by rw [← hl₁.size]; exact ho⟩
end Go.Proofs.Ytchfnbcpjiiphaa
