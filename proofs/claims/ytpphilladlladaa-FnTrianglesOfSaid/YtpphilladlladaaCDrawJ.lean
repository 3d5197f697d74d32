/-
  The contracts of the functions that draw the words of the laws of chapters 3 and 4: they return some text that is not long.
-/
import Derived.Test.YtpphilladlladaaCDrawE
namespace Go.Proofs.Ytpphilladlladaa
open Go.RowKit

theorem drawBinOf (a : Option Addr) (len cap : Nat) (zs : List Int) (w : World) (hr : Hid (IsRow .u8 w a len cap zs)) (hl : len ≤ 1048576) :
    Calls Try.prog 9 #[.slice a len cap] w (Drawn w.heap.size w) := by
  go_enter Try.func9, Try.ntmps9
  go_wp2_with fail
  refine (newReader_any a len cap zs w hr.out hl).mono ?_
  rintro e w1 ⟨n, R, rfl, hrd, hb⟩
  have R1 := Lib.hid hrd
  have B1 := Lib.hid hb
  clear hrd hb
  go_wp2_with fail
  refine (someWord_any _ _ _ _ _ _ R1).mono ?_
  rintro e w2 ⟨s, rfl, hs, hb⟩
  go_wp2
  go_ret
  exact ⟨s, rfl, hs, B1.out.trans hb⟩

theorem drawBetweenOf (a : Option Addr) (len cap : Nat) (zs : List Int) (w : World) (hr : Hid (IsRow .u8 w a len cap zs)) (hl : len ≤ 1048576) :
    Calls Try.prog 18 #[.slice a len cap] w (Drawn w.heap.size w) := by
  go_enter Try.func18, Try.ntmps18
  go_wp2_with fail
  refine (newReader_any a len cap zs w hr.out hl).mono ?_
  rintro e w1 ⟨n, R, rfl, hrd, hb⟩
  have R1 := Lib.hid hrd
  have B1 := Lib.hid hb
  clear hrd hb
  go_wp2_with fail
  refine (someWord_any _ _ _ _ _ _ R1).mono ?_
  rintro e w2 ⟨s, rfl, hs, hb⟩
  go_wp2
  go_ret
  exact ⟨s, rfl, hs, B1.out.trans hb⟩

theorem drawStackRow (a : Option Addr) (len cap : Nat) (zs : List Int) (w : World) (hr : Hid (IsRow .u8 w a len cap zs)) (hl : len ≤ 1048576) :
    Calls Try.prog 23 #[.slice a len cap] w (Drawn w.heap.size w) := by
  go_enter Try.func23, Try.ntmps23
  go_wp2_with fail
  refine (newReader_any a len cap zs w hr.out hl).mono ?_
  rintro e w1 ⟨n, R, rfl, hrd, hb⟩
  have R1 := Lib.hid hrd
  have B1 := Lib.hid hb
  clear hrd hb
  go_wp2_with fail
  refine (someWord_any _ _ _ _ _ _ R1).mono ?_
  rintro e w2 ⟨s, rfl, hs, hb⟩
  go_wp2
  go_ret
  exact ⟨s, rfl, hs, B1.out.trans hb⟩

theorem drawTrianglesOf (a : Option Addr) (len cap : Nat) (zs : List Int) (w : World) (hr : Hid (IsRow .u8 w a len cap zs)) (hl : len ≤ 1048576) :
    Calls Try.prog 26 #[.slice a len cap] w (Drawn w.heap.size w) := by
  go_enter Try.func26, Try.ntmps26
  go_wp2_with fail
  refine (newReader_any a len cap zs w hr.out hl).mono ?_
  rintro e w1 ⟨n, R, rfl, hrd, hb⟩
  have R1 := Lib.hid hrd
  have B1 := Lib.hid hb
  clear hrd hb
  go_wp2_with fail
  refine (someWord_any _ _ _ _ _ _ R1).mono ?_
  rintro e w2 ⟨s, rfl, hs, hb⟩
  go_wp2
  go_ret
  exact ⟨s, rfl, hs, B1.out.trans hb⟩

end Go.Proofs.Ytpphilladlladaa
