/-
  The walk of the law that more pairs turn more, given the contract of the program's MostTurns.
-/
import Derived.Test.YtddhiokpdhahbaaCTurnG
import Derived.Test.YtddhiokpdhahbaaCDrawK
namespace Go.Proofs.Ytddhiokpdhahbaa
open Go.RowKit

set_option maxHeartbeats 1600000 in
theorem mostTurns_walk (HI : Hid (∀ (n : Int) (w : World), -1000 ≤ n ∧ n ≤ 1000 → Calls Try.prog 21 #[.int .i64 n] w fun e w' => e = .returned (.int .i64 (mostOut n)) ∧ Below w.heap.size w w'))
    (a : Option Addr) (len cap : Nat) (zs : List Int) (w : World) (hr0 : IsRow .u8 w a len cap zs) :
    Calls Try.prog 5 #[.slice a len cap] w fun e w' => e = .returned (.bool true) ∧ Below w.heap.size w w' := by
  have hr := Lib.hid hr0
  clear hr0
  by_cases hbig : (1048576 : Int) < (len : Int)
  · go_enter Try.func5, Try.ntmps5
    go_wp2
    go_ret
    exact ⟨rfl, Below.refl _ _⟩
  · go_enter Try.func5, Try.ntmps5
    go_wp2_with fail
    refine (drawMostTurns a len cap zs w hr (by omega)).mono ?_
    rintro e w1 ⟨x, hx, rfl, hb⟩
    have B1 := Lib.hid hb
    clear hb hr
    have c1 := fun w => HI.out x w (by omega)
    have c2 := fun w => specMost_any x w
    by_cases hin : 0 ≤ x ∧ x ≤ 4
    · obtain ⟨k, rfl⟩ : ∃ k : Nat, x = k := ⟨x.toNat, by omega⟩
      have e1 : mostOut (k : Int) = (mostV k : Nat) := by rw [mostOut, if_pos hin, Int.toNat_natCast]
      rw [e1] at c1 c2
      have hk4 : k ≤ 4 := by omega
      rcases Nat.eq_zero_or_pos k with rfl | hpos
      · have C1 := Lib.hid c1
        have C2 := Lib.hid c2
        clear c1 c2 e1 hin hx
        go_wp2_with fail
        refine (C1.out _).mono ?_
        rintro e w2 ⟨rfl, hb⟩
        have B2 := Lib.hid (B1.out.trans (hb.mono B1.out.size))
        clear hb
        go_wp2_with fail
        refine (C2.out _).mono ?_
        rintro e w3 ⟨rfl, hb⟩
        have B3 := Lib.hid (B2.out.trans (hb.mono B2.out.size))
        clear hb
        go_wp2
        go_ret
        exact ⟨rfl, B3.out⟩
      · have h1 := mostV_le k hk4 hpos
        obtain ⟨j, rfl⟩ : ∃ j, k = j + 1 := ⟨k - 1, by omega⟩
        have h2 := mostV_mono j hk4
        have c3 := fun w => HI.out (j : Int) w (by omega)
        have e2 : mostOut (j : Int) = (mostV j : Nat) := by rw [mostOut, if_pos (by omega), Int.toNat_natCast]
        rw [e2] at c3
        obtain ⟨X, hX⟩ : ∃ X, X = mostV (j + 1) := ⟨_, rfl⟩
        obtain ⟨Y, hY⟩ : ∃ Y, Y = mostV j := ⟨_, rfl⟩
        rw [← hX] at c1 c2 h1 h2
        rw [← hY] at c3 h2
        have C1 := Lib.hid c1
        have C2 := Lib.hid c2
        have C3 := Lib.hid c3
        have q0 : ((((j + 1 : Nat) : Int)) == 0) = false := beq_false_of_ne (by omega)
        have q1 : (0 : Int) < ((j + 1 : Nat) : Int) := by omega
        have q2 : ((j + 1 : Nat) : Int) - 1 = (j : Int) := by omega
        have q3 : (X : Int) ≤ 2 * (j : Int) := by omega
        have q4 : (Y : Int) ≤ (X : Int) := by omega
        clear c1 c2 c3 e1 e2 hin hx hX hY h1 h2
        go_wp2_with fail
        refine (C1.out _).mono ?_
        rintro e w2 ⟨rfl, hb⟩
        have B2 := Lib.hid (B1.out.trans (hb.mono B1.out.size))
        clear hb
        go_wp2_with fail
        refine (C2.out _).mono ?_
        rintro e w3 ⟨rfl, hb⟩
        have B3 := Lib.hid (B2.out.trans (hb.mono B2.out.size))
        clear hb
        go_wp2_with fail
        refine (C3.out _).mono ?_
        rintro e w4 ⟨rfl, hb⟩
        have B4 := Lib.hid (B3.out.trans (hb.mono B3.out.size))
        clear hb
        go_wp2
        go_ret
        exact ⟨rfl, B4.out⟩
    · have e1 : mostOut x = -1 := by rw [mostOut, if_neg hin]
      rw [e1] at c1 c2
      have C1 := Lib.hid c1
      have C2 := Lib.hid c2
      clear c1 c2 e1 hin hx
      go_wp2_with fail
      refine (C1.out _).mono ?_
      rintro e w2 ⟨rfl, hb⟩
      have B2 := Lib.hid (B1.out.trans (hb.mono B1.out.size))
      clear hb
      go_wp2_with fail
      refine (C2.out _).mono ?_
      rintro e w3 ⟨rfl, hb⟩
      have B3 := Lib.hid (B2.out.trans (hb.mono B2.out.size))
      clear hb
      go_wp2_with fail
      refine (C2.out _).mono ?_
      rintro e w4 ⟨rfl, hb⟩
      have B4 := Lib.hid (B3.out.trans (hb.mono B3.out.size))
      clear hb
      go_wp2
      go_ret
      exact ⟨rfl, B4.out⟩
end Go.Proofs.Ytddhiokpdhahbaa
