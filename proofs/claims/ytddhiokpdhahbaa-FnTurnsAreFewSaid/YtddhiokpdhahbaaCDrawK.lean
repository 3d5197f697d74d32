/-
  The contracts of the functions that draw the arguments of the laws of chapter 4.
-/
import Derived.Test.YtddhiokpdhahbaaZD
namespace Go.Proofs.Ytddhiokpdhahbaa
open Go.RowKit

theorem of_listK (l : List Int) (lo hi : Int) (h : l.all (fun x => decide (lo ≤ x ∧ x ≤ hi)) = true) (x : Int) (hx : x ∈ l) : lo ≤ x ∧ x ≤ hi := of_decide_eq_true (List.all_eq_true.1 h x hx)

theorem drawTurnsOf (a : Option Addr) (len cap : Nat) (zs : List Int) (w : World) (hr : Hid (IsRow .u8 w a len cap zs)) (hl : len ≤ 1048576) :
    Calls Try.prog 9 #[.slice a len cap] w (Drawn w.heap.size w) := by
  go_enter Try.func9, Try.ntmps9
  go_wp2_with fail
  refine (newReader_any a len cap zs w hr.out hl).mono ?_
  rintro e w1 ⟨n, R, rfl, hrd, hb⟩
  have R1 := Lib.hid hrd
  have B1 := Lib.hid hb
  clear hrd hb
  go_wp2_with fail
  refine (someWord_any _ _ _ _ _ _ R1).mono ?_
  rintro e w2 ⟨s, rfl, hs, hb⟩
  go_wp2
  go_ret
  exact ⟨s, rfl, hs, B1.out.trans hb⟩

theorem drawTurnsToFlat (a : Option Addr) (len cap : Nat) (zs : List Int) (w : World) (hr : Hid (IsRow .u8 w a len cap zs)) (hl : len ≤ 1048576) :
    Calls Try.prog 23 #[.slice a len cap] w (Drawn w.heap.size w) := by
  go_enter Try.func23, Try.ntmps23
  go_wp2_with fail
  refine (newReader_any a len cap zs w hr.out hl).mono ?_
  rintro e w1 ⟨n, R, rfl, hrd, hb⟩
  have R1 := Lib.hid hrd
  have B1 := Lib.hid hb
  clear hrd hb
  go_wp2_with fail
  refine (someWord_any _ _ _ _ _ _ R1).mono ?_
  rintro e w2 ⟨s, rfl, hs, hb⟩
  go_wp2
  go_ret
  exact ⟨s, rfl, hs, B1.out.trans hb⟩

set_option maxHeartbeats 800000 in
theorem drawMostTurns (a : Option Addr) (len cap : Nat) (zs : List Int) (w : World) (hr : Hid (IsRow .u8 w a len cap zs)) (hl : len ≤ 1048576) :
    Calls Try.prog 20 #[.slice a len cap] w fun e w' => ∃ x : Int, (-1 ≤ x ∧ x ≤ 5) ∧ e = .returned (.int .i64 x) ∧ Below w.heap.size w w' := by
  go_enter Try.func20, Try.ntmps20
  go_wp2_with fail
  refine (newReader_any a len cap zs w hr.out hl).mono ?_
  rintro e w1 ⟨n, R, rfl, hrd, hb⟩
  have hlow := hrd.low
  have hRlt := hrd.lt
  have hsz1 := hb.size
  have R1 := Lib.hid (show Rd (w1.alloc (.cells #[.int .i64 3, .int .i64 2, .int .i64 4, .int .i64 1, .int .i64 0, .int .i64 5, .int .i64 (-1)] 3)) w.heap.size R a n cap 0 from (hrd).grow ((Below.refl _ _).alloc (Nat.le_refl _) _))
  have B1 := Lib.hid ((hb).alloc (show w.heap.size ≤ w1.heap.size by omega) (.cells #[.int .i64 3, .int .i64 2, .int .i64 4, .int .i64 1, .int .i64 0, .int .i64 5, .int .i64 (-1)] 3))
  have L1 := Lib.hid (show Own (w1.alloc (.cells #[.int .i64 3, .int .i64 2, .int .i64 4, .int .i64 1, .int .i64 0, .int .i64 5, .int .i64 (-1)] 3)) w1.heap.size (w1.heap.size + 1) 3 (.slice (some ⟨w1.heap.size, 0, none⟩) 7 7) (iv [3, 2, 4, 1, 0, 5, -1]) from lit_own w1 _ 3 (by decide))
  have N1 := Lib.hid (show (Value.slice (some ⟨w1.heap.size, 0, none⟩) 7 7).ownBlock ≠ some R by simp [Value.ownBlock]; omega)
  clear hrd hb
  go_wp2_with fail
  refine (one_any _ _ w.heap.size R a n cap 0 _ R1 (by omega) L1 N1.out (by decide) (by decide)).mono ?_
  rintro e w2 ⟨x, hx, rfl, hrd, honly⟩
  have B2 := Lib.hid (B1.out.trans (honly.below hlow))
  have HX := Lib.hid (of_listK _ (-1) 5 (by decide) x hx)
  clear hrd honly hx
  go_wp2
  go_ret
  exact ⟨x, HX.out, rfl, B2.out⟩

set_option maxHeartbeats 3200000 in
theorem drawTurnsBetween (a : Option Addr) (len cap : Nat) (zs : List Int) (w : World) (hr : Hid (IsRow .u8 w a len cap zs)) (hl : len ≤ 1048576) :
    Calls Try.prog 16 #[.slice a len cap] w fun e w' => ∃ s t : ByteArray, s.size ≤ 60 ∧ t.size ≤ 60 ∧ e = .returned (.tuple #[.string s, .string t]) ∧ Below w.heap.size w w' := by
  go_enter Try.func16, Try.ntmps16
  go_wp2_with fail
  refine (newReader_any a len cap zs w hr.out hl).mono ?_
  rintro e w1 ⟨n, R, rfl, hrd, hb⟩
  have hlow := hrd.low
  have hRlt := hrd.lt
  have hsz1 := hb.size
  have R1 := Lib.hid (show Rd (w1.alloc (.cells #[.int .i64 4, .int .i64 3, .int .i64 5, .int .i64 2, .int .i64 1, .int .i64 0, .int .i64 7] 3)) w.heap.size R a n cap 0 from (hrd).grow ((Below.refl _ _).alloc (Nat.le_refl _) _))
  have B1 := Lib.hid ((hb).alloc (show w.heap.size ≤ w1.heap.size by omega) (.cells #[.int .i64 4, .int .i64 3, .int .i64 5, .int .i64 2, .int .i64 1, .int .i64 0, .int .i64 7] 3))
  have L1 := Lib.hid (show Own (w1.alloc (.cells #[.int .i64 4, .int .i64 3, .int .i64 5, .int .i64 2, .int .i64 1, .int .i64 0, .int .i64 7] 3)) w1.heap.size (w1.heap.size + 1) 3 (.slice (some ⟨w1.heap.size, 0, none⟩) 7 7) (iv [4, 3, 5, 2, 1, 0, 7]) from lit_own w1 _ 3 (by decide))
  have N1 := Lib.hid (show (Value.slice (some ⟨w1.heap.size, 0, none⟩) 7 7).ownBlock ≠ some R by simp [Value.ownBlock]; omega)
  clear hrd hb
  go_wp2_with fail
  refine (one_any _ _ w.heap.size R a n cap 0 _ R1 (by omega) L1 N1.out (by decide) (by decide)).mono ?_
  rintro e w2 ⟨x, hx, rfl, hrd, honly⟩
  obtain ⟨m, rfl, hm⟩ : ∃ m : Nat, x = m ∧ m ≤ 9 := by
    have h1 := of_listK [4, 3, 5, 2, 1, 0, 7] 0 9 (by decide) x hx
    exact ⟨x.toNat, by omega, by omega⟩
  have B2 := Lib.hid (B1.out.trans (honly.below hlow))
  have R2 := Lib.hid hrd
  clear hrd honly hx
  go_wp2_with fail
  refine (goodWord_any m hm w.heap.size R a n cap (0 + 1) _ R2 (by omega)).mono ?_
  rintro e w3 ⟨s, rfl, hs0, hrd, hbel⟩
  have R3 := Lib.hid hrd
  have B3 := Lib.hid (B2.out.trans hbel)
  clear hrd hbel
  go_wp2_with fail
  refine (goodWord_any m hm w.heap.size R a n cap (0 + 1 + 1) _ R3 (by omega)).mono ?_
  rintro e w4 ⟨t, rfl, ht0, hrd, hbel⟩
  have R4 := Lib.hid hrd
  have B4 := Lib.hid (B3.out.trans hbel)
  clear hrd hbel
  go_wp2_with fail
  refine (pick_any w.heap.size R a n cap (0 + 1 + 1 + 1) _ _ R4.out (by omega) (by omega) (by omega)).mono ?_
  rintro e w5 ⟨k, rfl, _, _, hrd, honly⟩
  have R5 := Lib.hid hrd
  have B5 := Lib.hid (B4.out.trans (honly.below hlow))
  clear hrd honly
  by_cases h0 : k = 0
  · subst h0
    go_wp2
    go_ret2
    exact ⟨_, _, by omega, by rw [ByteArray.size_append]; show _ + 2 ≤ _; omega, rfl, B5.out⟩
  · by_cases h1 : k = 1
    · subst h1
      go_wp2_with fail
      refine (mutate_any s (by omega) w.heap.size R a n cap (0 + 1 + 1 + 1 + 1) _ R5 (by omega)).mono ?_
      rintro e w6 ⟨d, hd, u, rfl, hu, hrd, hbel⟩
      have B6 := Lib.hid (B5.out.trans hbel)
      clear hrd hbel
      go_wp2
      go_ret2
      exact ⟨_, _, by omega, by omega, rfl, B6.out⟩
    · have q0 : ((k : Int) == 0) = false := beq_false_of_ne (by omega)
      have q1 : ((k : Int) == 1) = false := beq_false_of_ne (by omega)
      go_wp2
      go_ret2
      exact ⟨_, _, by omega, by omega, rfl, B5.out⟩
end Go.Proofs.Ytddhiokpdhahbaa
