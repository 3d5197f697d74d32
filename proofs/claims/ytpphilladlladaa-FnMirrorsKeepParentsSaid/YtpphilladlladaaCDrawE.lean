/-
  The contracts of the functions that draw a word for the laws: they return some text that is not long.
-/
import Derived.Test.YtpphilladlladaaCDrawD
namespace Go.Proofs.Ytpphilladlladaa
open Go.RowKit

theorem mirror_size (s : ByteArray) : (ByteArray.mk (mirrorL s.data.toList).toArray).size = s.size := by
  show (mirrorL s.data.toList).toArray.size = _
  rw [List.size_toArray, mirrorL_length, size_list]

theorem small_list (l : List Int) (h : l.all (fun x => decide (0 ≤ x ∧ x ≤ 9)) = true) (x : Int) (hx : x ∈ l) : 0 ≤ x ∧ x ≤ 9 := of_decide_eq_true (List.all_eq_true.1 h x hx)

/-- some text that is not long, in a world that is old below B as it was -/
def Drawn (B : Nat) (w : World) (e : Ending) (w' : World) : Prop := ∃ s : ByteArray, e = .returned (.string s) ∧ s.size ≤ 60 ∧ Below B w w'

set_option maxHeartbeats 6400000 in
theorem someWord_any (B R : Nat) (a : Option Addr) (n c : Nat) (w : World) (h : Hid (Rd w B R a n c 0)) :
    Calls Try.prog 34 #[.pointer (some ⟨R, 0, none⟩)] w (Drawn B w) := by
  have hlow := h.out.low
  have hRlt := h.out.lt
  have l8 := lit_own w #[.int .i64 4, .int .i64 5, .int .i64 3, .int .i64 6, .int .i64 2, .int .i64 1, .int .i64 0, .int .i64 7] 3 (by decide)
  have L8 := Lib.hid (show Own (w.alloc (.cells #[.int .i64 4, .int .i64 5, .int .i64 3, .int .i64 6, .int .i64 2, .int .i64 1, .int .i64 0, .int .i64 7] 3)) w.heap.size (w.heap.size + 1) 3 (.slice (some ⟨w.heap.size, 0, none⟩) 8 8) (iv [4, 5, 3, 6, 2, 1, 0, 7]) from l8)
  have R0 := Lib.hid (show Rd (w.alloc (.cells #[.int .i64 4, .int .i64 5, .int .i64 3, .int .i64 6, .int .i64 2, .int .i64 1, .int .i64 0, .int .i64 7] 3)) B R a n c 0 from h.out.grow ((Below.refl _ _).alloc (Nat.le_refl _) _))
  have B0 := Lib.hid (show Below B w (w.alloc (.cells #[.int .i64 4, .int .i64 5, .int .i64 3, .int .i64 6, .int .i64 2, .int .i64 1, .int .i64 0, .int .i64 7] 3)) from (Below.refl _ _).alloc (by omega) _)
  have N0 := Lib.hid (show (Value.slice (some ⟨w.heap.size, 0, none⟩) 8 8).ownBlock ≠ some R by simp [Value.ownBlock]; omega)
  clear l8
  go_enter Try.func34, Try.ntmps34
  go_wp2_with fail
  refine (one_any _ _ B R a n c 0 _ R0 (by omega) L8 N0.out (by decide) (by decide)).mono ?_
  rintro e w1 ⟨x, hx, rfl, hrd, honly⟩
  obtain ⟨m, rfl, hm⟩ : ∃ m : Nat, x = m ∧ m ≤ 9 := by
    have h1 := small_list [4, 5, 3, 6, 2, 1, 0, 7] (by decide) x hx
    exact ⟨x.toNat, by omega, by omega⟩
  have R1 := Lib.hid hrd
  have B1 := Lib.hid (B0.out.trans (honly.below hlow))
  clear hrd honly hx
  go_wp2_with fail
  refine (goodWord_any m hm B R a n c (0 + 1) _ R1 (by omega)).mono ?_
  rintro e w2 ⟨s, rfl, hs0, hrd, hbel⟩
  have R2 := Lib.hid hrd
  have B2 := Lib.hid (B1.out.trans hbel)
  clear hrd hbel
  go_wp2_with fail
  refine (pick_any B R a n c (0 + 1 + 1) _ _ R2.out (by omega) (by omega) (by omega)).mono ?_
  rintro e w14 ⟨k11, rfl, _, _, hrd, honly⟩
  have R12 := Lib.hid hrd
  have B13 := Lib.hid (B2.out.trans (honly.below hlow))
  clear hrd honly
  by_cases hzk11 : k11 = 0
  · subst hzk11
    go_wp2_with fail
    refine (specMirror_any s w14 (by omega)).mono ?_
    rintro e we ⟨rfl, rfl⟩
    have hst15 : (ByteArray.mk (mirrorL s.data.toList).toArray).size ≤ 18 := by rw [mirror_size]; exact hs0
    obtain ⟨t15, ht15⟩ : ∃ t15, t15 = ByteArray.mk (mirrorL s.data.toList).toArray := ⟨_, rfl⟩
    rw [← ht15] at hst15 ⊢
    clear ht15
    go_wp2_with fail
    refine (pick_any B R a n c (0 + 1 + 1 + 1) _ _ R12.out (by omega) (by omega) (by omega)).mono ?_
    rintro e w19 ⟨k16, rfl, _, _, hrd, honly⟩
    have R17 := Lib.hid hrd
    have B18 := Lib.hid (B13.out.trans (honly.below hlow))
    clear hrd honly
    by_cases hzk16 : k16 = 0
    · subst hzk16
      go_wp2_with fail
      refine (mutate_any t15 (by omega) B R a n c (0 + 1 + 1 + 1 + 1) _ R17 (by omega)).mono ?_
      rintro e w23 ⟨d24, hdd24, t20, rfl, hst20, hrd, hbel⟩
      have R21 := Lib.hid hrd
      have B22 := Lib.hid (B18.out.trans hbel)
      clear hrd hbel
      go_wp2_with fail
      refine (pick_any B R a n c (0 + 1 + 1 + 1 + 1 + d24) _ _ R21.out (by omega) (by omega) (by omega)).mono ?_
      rintro e w28 ⟨k25, rfl, _, _, hrd, honly⟩
      have R26 := Lib.hid hrd
      have B27 := Lib.hid (B22.out.trans (honly.below hlow))
      clear hrd honly
      by_cases hzk25 : k25 = 0
      · subst hzk25
        go_wp2
        go_ret
        exact ⟨_, rfl, by decide, B27.out⟩
      · have qk25 : ((k25 : Int) == 0) = false := beq_false_of_ne (by omega)
        go_wp2
        go_ret
        exact ⟨_, rfl, by omega, B27.out⟩
    · have qk16 : ((k16 : Int) == 0) = false := beq_false_of_ne (by omega)
      go_wp2_with fail
      refine (pick_any B R a n c (0 + 1 + 1 + 1 + 1) _ _ R17.out (by omega) (by omega) (by omega)).mono ?_
      rintro e w32 ⟨k29, rfl, _, _, hrd, honly⟩
      have R30 := Lib.hid hrd
      have B31 := Lib.hid (B18.out.trans (honly.below hlow))
      clear hrd honly
      by_cases hzk29 : k29 = 0
      · subst hzk29
        go_wp2
        go_ret
        exact ⟨_, rfl, by decide, B31.out⟩
      · have qk29 : ((k29 : Int) == 0) = false := beq_false_of_ne (by omega)
        go_wp2
        go_ret
        exact ⟨_, rfl, by omega, B31.out⟩
  · have qk11 : ((k11 : Int) == 0) = false := beq_false_of_ne (by omega)
    go_wp2_with fail
    refine (pick_any B R a n c (0 + 1 + 1 + 1) _ _ R12.out (by omega) (by omega) (by omega)).mono ?_
    rintro e w36 ⟨k33, rfl, _, _, hrd, honly⟩
    have R34 := Lib.hid hrd
    have B35 := Lib.hid (B13.out.trans (honly.below hlow))
    clear hrd honly
    by_cases hzk33 : k33 = 0
    · subst hzk33
      go_wp2_with fail
      refine (mutate_any s (by omega) B R a n c (0 + 1 + 1 + 1 + 1) _ R34 (by omega)).mono ?_
      rintro e w40 ⟨d41, hdd41, t37, rfl, hst37, hrd, hbel⟩
      have R38 := Lib.hid hrd
      have B39 := Lib.hid (B35.out.trans hbel)
      clear hrd hbel
      go_wp2_with fail
      refine (pick_any B R a n c (0 + 1 + 1 + 1 + 1 + d41) _ _ R38.out (by omega) (by omega) (by omega)).mono ?_
      rintro e w45 ⟨k42, rfl, _, _, hrd, honly⟩
      have R43 := Lib.hid hrd
      have B44 := Lib.hid (B39.out.trans (honly.below hlow))
      clear hrd honly
      by_cases hzk42 : k42 = 0
      · subst hzk42
        go_wp2
        go_ret
        exact ⟨_, rfl, by decide, B44.out⟩
      · have qk42 : ((k42 : Int) == 0) = false := beq_false_of_ne (by omega)
        go_wp2
        go_ret
        exact ⟨_, rfl, by omega, B44.out⟩
    · have qk33 : ((k33 : Int) == 0) = false := beq_false_of_ne (by omega)
      go_wp2_with fail
      refine (pick_any B R a n c (0 + 1 + 1 + 1 + 1) _ _ R34.out (by omega) (by omega) (by omega)).mono ?_
      rintro e w49 ⟨k46, rfl, _, _, hrd, honly⟩
      have R47 := Lib.hid hrd
      have B48 := Lib.hid (B35.out.trans (honly.below hlow))
      clear hrd honly
      by_cases hzk46 : k46 = 0
      · subst hzk46
        go_wp2
        go_ret
        exact ⟨_, rfl, by decide, B48.out⟩
      · have qk46 : ((k46 : Int) == 0) = false := beq_false_of_ne (by omega)
        go_wp2
        go_ret
        exact ⟨_, rfl, by omega, B48.out⟩
end Go.Proofs.Ytpphilladlladaa
