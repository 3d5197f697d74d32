/-
  The contracts of the functions that draw the laws' words: they return some text that is not long.
-/
import Derived.Test.YtpphilladlladaaCDrawE
namespace Go.Proofs.Ytpphilladlladaa
open Go.RowKit

theorem drawMirrorOf (a : Option Addr) (len cap : Nat) (zs : List Int) (w : World) (hr : Hid (IsRow .u8 w a len cap zs)) (hl : len ≤ 1048576) :
    Calls Try.prog 29 #[.slice a len cap] w (Drawn w.heap.size w) := by
  go_enter Try.func29, Try.ntmps29
  go_wp2_with fail
  refine (newReader_any a len cap zs w hr.out hl).mono ?_
  rintro e w1 ⟨n, R, rfl, hrd, hb⟩
  have R1 := Lib.hid hrd
  have B1 := Lib.hid hb
  clear hrd hb
  go_wp2_with fail
  refine (someWord_any _ _ _ _ _ _ R1).mono ?_
  rintro e w2 ⟨s, rfl, hs, hb⟩
  go_wp2
  go_ret
  exact ⟨s, rfl, hs, B1.out.trans hb⟩

end Go.Proofs.Ytpphilladlladaa
