/-
  The walk of the exact statement on CountTrees, given the contract of the program's CountTrees.
-/
import Derived.Test.YtpegajdjeliffaaCPow
namespace Go.Proofs.Ytpegajdjeliffaa
open Go.RowKit

set_option maxHeartbeats 800000 in
theorem exactCount_walk (HV : Hid (∀ (n : Int) (w : World), (Lit.int .i64 n).wf = true → Calls Try.prog 26 #[.int .i64 n] w fun e w' => e = .returned (.int .i64 (treesN n)) ∧ w = w'))
    (n : Int) (w : World) (hn : (Lit.int .i64 n).wf = true) :
    Calls Try.prog 7 #[.int .i64 n] w fun e w' => e = .returned (.bool true) ∧ w = w' := by
  have C0 := Lib.hid (specCountTrees_any n w)
  have C1 := Lib.hid (HV.out n w hn)
  obtain ⟨r, hr⟩ : ∃ r : Int, r = treesN n := ⟨_, rfl⟩
  rw [← hr] at C0 C1
  have q : (r == r) = true := by simp
  clear hr hn HV
  go_enter Try.func7, Try.ntmps7
  go_wp2_with fail
  refine C0.out.mono ?_
  rintro e w1 ⟨rfl, rfl⟩
  clear C0
  go_wp2_with fail
  refine C1.out.mono ?_
  rintro e w2 ⟨rfl, rfl⟩
  clear C1
  go_wp2
  go_ret
  exact ⟨rfl, rfl⟩
end Go.Proofs.Ytpegajdjeliffaa
