/-
  The contracts of the functions that draw a word: that they return, and how long it is.
-/
import Derived.Test.YtpphilladlladaaCPick
import Derived.Test.YtpphilladlladaaWInts
import Derived.Test.YtpphilladlladaaCCount
import Derived.Test.YtpphilladlladaaCMirror
namespace Go.Proofs.Ytpphilladlladaa
open Go.RowKit

/-- some number -/
def SomeI (w : World) (e : Ending) (w' : World) : Prop := ∃ x : Int, e = .returned (.int .i64 x) ∧ w = w'

set_option maxHeartbeats 800000 in
theorem ends_some : ∀ (f : Nat) (o l : Int) (w : World), 0 ≤ l → 2 * l + (o.toNat : Int) ≤ (f : Int) → -1000 ≤ o → o + l ≤ 1000 →
    Calls Try.prog 67 #[.int .i64 o, .int .i64 l] w (SomeI w) := by
  intro f
  induction f with
  | zero =>
    intro o l w h0 h1 h2 h3
    obtain rfl : l = 0 := by omega
    go_enter Try.func67, Try.ntmps67
    go_wp2_with fail
    go_ret
    exact ⟨_, rfl, rfl⟩
  | succ f ih =>
    intro o l w h0 h1 h2 h3
    by_cases hl : l = 0
    · subst hl
      go_enter Try.func67, Try.ntmps67
      go_wp2_with fail
      go_ret
      exact ⟨_, rfl, rfl⟩
    · have q0 : (l == 0) = false := beq_false_of_ne hl
      have g1 : 1 ≤ l := by omega
      by_cases ho : 0 < o
      · go_enter Try.func67, Try.ntmps67
        go_wp2_with fail
        refine (ih _ _ _ (by omega) (by omega) (by omega) (by omega)).mono ?_
        rintro e w1 ⟨x, rfl, rfl⟩
        go_wp2_with fail
        refine (ih _ _ _ (by omega) (by omega) (by omega) (by omega)).mono ?_
        rintro e w1 ⟨y, rfl, rfl⟩
        go_wp2_with fail
        go_ret
        exact ⟨_, rfl, rfl⟩
      · go_enter Try.func67, Try.ntmps67
        go_wp2_with fail
        refine (ih _ _ _ (by omega) (by omega) (by omega) (by omega)).mono ?_
        rintro e w1 ⟨x, rfl, rfl⟩
        go_wp2_with fail
        go_ret
        exact ⟨_, rfl, rfl⟩

/-- a text's length, for a loop's measure -/
def sizeOfT : Value → Nat | .string s => s.size | _ => 0
/-- some text that is not long -/
def SomeT (k : Nat) (w : World) (e : Ending) (w' : World) : Prop := ∃ s : ByteArray, e = .returned (.string s) ∧ s.size ≤ k ∧ w = w'

set_option maxHeartbeats 1600000 in
theorem wordAt_some (n : Nat) (hn : n ≤ 20) (r : Int) (w : World) :
    Calls Try.prog 62 #[.int .i64 n, .int .i64 r] w (SomeT (2 * n) w) := by
  go_enter Try.func62, Try.ntmps62
  go_wp2
  go_loop [1, 5, 6, 7] (fun r t o l => ∃ (x a b : Int) (s : ByteArray), r = .int .i64 x ∧ t = .string s ∧ o = .int .i64 a ∧ l = .int .i64 b ∧ s.size ≤ 2 * n ∧ -(s.size : Int) ≤ a ∧ a ≤ s.size ∧ -(s.size : Int) ≤ b ∧ b ≤ n) (fun _ t _ _ => 2 * n - (sizeOfT t))
  case atStart => exact ⟨r, 0, n, ⟨#[]⟩, rfl, rfl, rfl, rfl, Nat.zero_le _, Int.le_refl _, Int.le_refl _, by show (0 : Int) ≤ _; omega, Int.le_refl _⟩
  case round =>
    obtain ⟨x, a, b, s, rfl, rfl, rfl, rfl, hs, h1, h2, h3, h4⟩ := hrel
    by_cases hlt : s.size < 2 * n
    · have z1 : s.size + (ByteArray.mk #[40]).size ≤ 9223372036854775807 := by rw [show (ByteArray.mk #[40]).size = 1 from rfl]; omega
      have z2 : s.size + (ByteArray.mk #[41]).size ≤ 9223372036854775807 := by rw [show (ByteArray.mk #[41]).size = 1 from rfl]; omega
      have y1 : (s ++ ByteArray.mk #[40]).size = s.size + 1 := by rw [ByteArray.size_append]; rfl
      have y2 : (s ++ ByteArray.mk #[41]).size = s.size + 1 := by rw [ByteArray.size_append]; rfl
      have Y1 := Lib.hid y1
      have Y2 := Lib.hid y2
      clear y1 y2
      by_cases hb : 0 < b
      · go_wp2_with (go_at_call 67; refine (ends_some 1000 _ _ _ (by omega) (by omega) (by omega) (by omega)).mono ?_; rintro e w1 ⟨y, rfl, rfl⟩)
        all_goals first
          | (go_round
             case rel => exact ⟨_, _, _, _, rfl, rfl, rfl, rfl, by rw [Y1.out]; omega, by rw [Y1.out]; omega, by rw [Y1.out]; omega, by rw [Y1.out]; omega, by omega⟩
             case measure => simp only [sizeOfT]; have := Y1.out; omega)
          | (go_round
             case rel => exact ⟨_, _, _, _, rfl, rfl, rfl, rfl, by rw [Y2.out]; omega, by rw [Y2.out]; omega, by rw [Y2.out]; omega, by rw [Y2.out]; omega, by omega⟩
             case measure => simp only [sizeOfT]; have := Y2.out; omega)
      · go_wp2
        all_goals first
          | (go_round
             case rel => exact ⟨_, _, _, _, rfl, rfl, rfl, rfl, by rw [Y1.out]; omega, by rw [Y1.out]; omega, by rw [Y1.out]; omega, by rw [Y1.out]; omega, by omega⟩
             case measure => simp only [sizeOfT]; have := Y1.out; omega)
          | (go_round
             case rel => exact ⟨_, _, _, _, rfl, rfl, rfl, rfl, by rw [Y2.out]; omega, by rw [Y2.out]; omega, by rw [Y2.out]; omega, by rw [Y2.out]; omega, by omega⟩
             case measure => simp only [sizeOfT]; have := Y2.out; omega)
    · go_wp2
      go_ret
      exact ⟨s, rfl, hs, rfl⟩
end Go.Proofs.Ytpphilladlladaa
