/-
  Products that come round. Nothing of the program is named here.
-/
import Derived.WalkKit
namespace Go.Proofs.Ytmlcbeekimiaiaa
open Go.RowKit
theorem wrap_dvd (x : Int) : (18446744073709551616 : Int) ∣ IntKind.i64.wrap x - x := by
  rw [IntKind.wrap_i64]; omega
theorem wrap_of {x y : Int} (h : (18446744073709551616 : Int) ∣ x - y) : IntKind.i64.wrap x = IntKind.i64.wrap y := by
  rw [IntKind.wrap_i64, IntKind.wrap_i64]; omega
theorem wrap_mul (a b : Int) : IntKind.i64.wrap (IntKind.i64.wrap a * IntKind.i64.wrap b) = IntKind.i64.wrap (a * b) := by
  apply wrap_of
  have e : IntKind.i64.wrap a * IntKind.i64.wrap b - a * b = IntKind.i64.wrap a * (IntKind.i64.wrap b - b) + (IntKind.i64.wrap a - a) * b := by
    rw [Int.mul_sub, Int.sub_mul]; omega
  rw [e]
  exact Int.dvd_add (Int.dvd_mul_of_dvd_right (wrap_dvd b)) (Int.dvd_mul_of_dvd_left (wrap_dvd a))
theorem wrap_three (P s C : Int) (hs : IntKind.i64.wrap s = s) : IntKind.i64.wrap (IntKind.i64.wrap P * IntKind.i64.wrap (s * IntKind.i64.wrap C)) = IntKind.i64.wrap (P * (s * C)) := by
  have h1 : IntKind.i64.wrap (s * IntKind.i64.wrap C) = IntKind.i64.wrap (s * C) := by
    have := wrap_mul s C
    rwa [hs] at this
  rw [h1, wrap_mul]
end Go.Proofs.Ytmlcbeekimiaiaa
