/-
  The contracts of the functions that draw a text, or change one.
-/
import Derived.Test.YtpphilladlladaaCDrawB
import Derived.Deep.RegionWith
namespace Go.Proofs.Ytpphilladlladaa
open Go.RowKit

/-- short texts -/
def Short (xs : List Value) : Prop := ∀ (i : Nat) (x : Value), xs[i]? = some x → ∃ s : ByteArray, x = .string s ∧ s.size ≤ 2

set_option maxHeartbeats 800000 in
theorem of_any (xs : List Value) (v : Value) (B R : Nat) (a : Option Addr) (n c p : Nat) (w : World) {B' H : Nat} (h : Hid (Rd w B R a n c p)) (hp : p ≤ 5000) (hv : Hid (Own w B' H 9 v xs)) (hs : Hid (Short xs)) (hne : v.ownBlock ≠ some R) (hl : 0 < xs.length) (hl2 : xs.length ≤ 1000) :
    Calls Try.prog 66 #[.pointer (some ⟨R, 0, none⟩), v] w fun e w' => ∃ s : ByteArray, e = .returned (.string s) ∧ s.size ≤ 2 ∧ Rd w' B R a n c (p + 1) ∧ Only R w w' := by
  obtain ⟨av, cv, rfl, _, hcv, _, _⟩ := hv.out.slice
  have HNE := Lib.hid hne
  obtain ⟨m, hm⟩ : ∃ m, m = xs.length := ⟨_, rfl⟩
  rw [← hm] at hv hcv hl hl2 HNE ⊢
  have HM := Lib.hid hm
  clear hne hm
  go_enter Try.func66, Try.ntmps66
  go_wp2_with fail
  refine (pick_any B R a n c p _ _ h.out hp (by omega) (by omega)).mono ?_
  rintro e w1 ⟨k, rfl, hk, _, hrd, honly⟩
  have hk1 := hk (by omega)
  have hkl : k < m := by omega
  obtain ⟨g, rfl, _, _, hc, _⟩ := (hv.out.only honly HNE.out).at_ k (by rw [← HM.out]; exact hkl)
  obtain ⟨s, hs1, hs2⟩ := hs.out k xs[k] (List.getElem?_eq_getElem (by rw [← HM.out]; exact hkl))
  rw [List.getElem?_eq_getElem (by rw [← HM.out]; exact hkl), hs1] at hc
  have R1 := Lib.hid hrd
  have O1 := Lib.hid honly
  have i1 : (k : Int) < (m : Int) := by omega
  clear hk hrd honly hs1
  go_wp2
  go_ret
  exact ⟨s, rfl, hs2, R1.out, O1.out⟩

theorem lit_own (w : World) (cs : Array Value) (t : TypeId) (hm : cs.size ≤ maxLen) : Own (w.alloc (.cells cs t)) w.heap.size (w.heap.size + 1) t (.slice (some ⟨w.heap.size, 0, none⟩) cs.size cs.size) cs.toList := by
  have := World.ownsRow_lit (base := w.heap.size) (e := t) (size := 1) w cs cs.size (Nat.le_refl _) hm (by omega)
  exact ⟨by rw [Array.length_toList]; exact this, fun g hg => by simp [Value.ownBlock] at hg; omega⟩

def shortB (x : Value) : Bool := match x with | .string s => decide (s.size ≤ 2) | _ => false
theorem short_list (xs : List Value) (h : xs.all shortB = true) : Short xs := by
  intro i x hx
  have hm := List.all_eq_true.1 h x (List.mem_of_getElem? hx)
  unfold shortB at hm
  split at hm
  · exact ⟨_, rfl, of_decide_eq_true hm⟩
  · cases hm

set_option maxHeartbeats 3200000 in
theorem mutate_any (s : ByteArray) (hs : s.size ≤ 40) (B R : Nat) (a : Option Addr) (n c p : Nat) (w : World) (h : Hid (Rd w B R a n c p)) (hp : p ≤ 4000) :
    Calls Try.prog 57 #[.pointer (some ⟨R, 0, none⟩), .string s] w fun e w' => ∃ d, d ≤ 3 ∧ TextOf 50 B R a n c p d w e w' := by
  have hlow := h.out.low
  go_enter Try.func57, Try.ntmps57
  go_wp2_with fail
  refine (pick_any B R a n c p _ _ h.out (by omega) (by omega) (by omega)).mono ?_
  rintro e w1 ⟨k, rfl, hk, _, hrd, honly⟩
  have hk1 := hk (by omega)
  have hkl : k ≤ s.size := by omega
  have R1 := Lib.hid hrd
  have B1 := Lib.hid (honly.below hlow)
  clear hk hrd honly hk1
  go_wp2_with fail
  refine (pick_any B R a n c (p + 1) _ _ R1.out (by omega) (by omega) (by omega)).mono ?_
  rintro e w2 ⟨q, rfl, hq, _, hrd, honly⟩
  have hq1 := hq (by omega)
  have R2 := Lib.hid hrd
  have B2 := Lib.hid (B1.out.trans (honly.below hlow))
  have hRlt := hrd.lt
  clear hq hrd honly
  have L6 := Lib.hid (show Own (w2.alloc (.cells #[.string ⟨#[40]⟩, .string ⟨#[41]⟩, .string ⟨#[48]⟩, .string ⟨#[44]⟩, .string ⟨#[32]⟩, .string ⟨#[120]⟩] 9)).drew w2.heap.size (w2.heap.size + 1) 9 (.slice (some ⟨w2.heap.size, 0, none⟩) 6 6) (#[.string ⟨#[40]⟩, .string ⟨#[41]⟩, .string ⟨#[48]⟩, .string ⟨#[44]⟩, .string ⟨#[32]⟩, .string ⟨#[120]⟩] : Array Value).toList from lit_own w2 _ 9 (by decide))
  have L4 := Lib.hid (show Own (w2.alloc (.cells #[.string ⟨#[40, 41]⟩, .string ⟨#[41]⟩, .string ⟨#[32]⟩, .string ⟨#[49]⟩] 9)) w2.heap.size (w2.heap.size + 1) 9 (.slice (some ⟨w2.heap.size, 0, none⟩) 4 4) (#[.string ⟨#[40, 41]⟩, .string ⟨#[41]⟩, .string ⟨#[32]⟩, .string ⟨#[49]⟩] : Array Value).toList from lit_own w2 _ 9 (by decide))
  have R6 := Lib.hid (show Rd (w2.alloc (.cells #[.string ⟨#[40]⟩, .string ⟨#[41]⟩, .string ⟨#[48]⟩, .string ⟨#[44]⟩, .string ⟨#[32]⟩, .string ⟨#[120]⟩] 9)).drew B R a n c (p + 1 + 1) from (R2.out.grow ((Below.refl _ _).alloc (Nat.le_refl _) _)).drewN 1)
  have R4 := Lib.hid (show Rd (w2.alloc (.cells #[.string ⟨#[40, 41]⟩, .string ⟨#[41]⟩, .string ⟨#[32]⟩, .string ⟨#[49]⟩] 9)) B R a n c (p + 1 + 1) from R2.out.grow ((Below.refl _ _).alloc (Nat.le_refl _) _))
  have N6 := Lib.hid (show (Value.slice (some ⟨w2.heap.size, 0, none⟩) 6 6).ownBlock ≠ some R by simp [Value.ownBlock]; omega)
  have N4 := Lib.hid (show (Value.slice (some ⟨w2.heap.size, 0, none⟩) 4 4).ownBlock ≠ some R by simp [Value.ownBlock]; omega)
  have S6 := Lib.hid (short_list (#[.string ⟨#[40]⟩, .string ⟨#[41]⟩, .string ⟨#[48]⟩, .string ⟨#[44]⟩, .string ⟨#[32]⟩, .string ⟨#[120]⟩] : Array Value).toList (by decide))
  have S4 := Lib.hid (short_list (#[.string ⟨#[40, 41]⟩, .string ⟨#[41]⟩, .string ⟨#[32]⟩, .string ⟨#[49]⟩] : Array Value).toList (by decide))
  have B6 := Lib.hid (show Below B w (w2.alloc (.cells #[.string ⟨#[40]⟩, .string ⟨#[41]⟩, .string ⟨#[48]⟩, .string ⟨#[44]⟩, .string ⟨#[32]⟩, .string ⟨#[120]⟩] 9)).drew from (B2.out.alloc (by omega) _).drew)
  have B4 := Lib.hid (B2.out.alloc (show B ≤ w2.heap.size by omega) (.cells #[.string ⟨#[40, 41]⟩, .string ⟨#[41]⟩, .string ⟨#[32]⟩, .string ⟨#[49]⟩] 9))
  have E1 : (s.extract 0 k).size ≤ k := by rw [ByteArray.size_extract]; omega
  have E2 : (s.extract (k + 1) s.size).size + k ≤ s.size := by rw [ByteArray.size_extract]; omega
  rcases (show q = 0 ∨ q = 1 ∨ q = 2 ∨ q = 3 ∨ q = 4 by omega) with rfl | rfl | rfl | rfl | rfl
  · by_cases hks : k < s.size
    · have ew : IntKind.i64.wrap ((k : Int) + 1) = (k : Int) + 1 := by rw [IntKind.wrap_i64]; omega
      have u1 : (0 : Int) ≤ (k : Int) + 1 := by omega
      have u2 : (k : Int) + 1 ≤ (s.size : Int) := by omega
      have u3 : ((k : Int) + 1).toNat = k + 1 := by omega
      have u4 : k + 1 ≤ s.size := by omega
      go_wp2_with fail
      go_region_with (go_at_call 66; refine (of_any _ _ B R a n c (p + 1 + 1) _ R6.out (by omega) L6.out S6.out N6.out (by decide) (by decide)).mono ?_; rintro e w3 ⟨t, rfl, ht, hrd, ho⟩; have z1 : (s.extract 0 k).size + t.size ≤ 9223372036854775807 := by omega
                      have z2 : (s.extract 0 k ++ t).size + (s.extract (k + 1) s.size).size ≤ 9223372036854775807 := by rw [ByteArray.size_append]; omega)
      all_goals
        go_wp2
        go_ret
        have hsz : (s.extract 0 k ++ t ++ s.extract (k + 1) s.size).size ≤ 50 := by rw [ByteArray.size_append, ByteArray.size_append]; omega
        first
          | exact ⟨3, by omega, _, rfl, hsz, hrd, B6.out.trans (ho.below hlow)⟩
          | exact ⟨3, by omega, _, rfl, hsz, hrd.drewN 1, (B6.out.trans (ho.below hlow)).drew⟩
    · go_wp2
      go_ret
      exact ⟨2, by omega, s, rfl, by omega, R2.out, B2.out⟩
  · by_cases hks : k < s.size
    · have ew : IntKind.i64.wrap ((k : Int) + 1) = (k : Int) + 1 := by rw [IntKind.wrap_i64]; omega
      have u1 : (0 : Int) ≤ (k : Int) + 1 := by omega
      have u2 : (k : Int) + 1 ≤ (s.size : Int) := by omega
      have u3 : ((k : Int) + 1).toNat = k + 1 := by omega
      have u4 : k + 1 ≤ s.size := by omega
      go_wp2_with fail
      go_region_with (go_at_call 66; refine (of_any _ _ B R a n c (p + 1 + 1) _ R6.out (by omega) L6.out S6.out N6.out (by decide) (by decide)).mono ?_; rintro e w3 ⟨t, rfl, ht, hrd, ho⟩; have z1 : (s.extract 0 k).size + t.size ≤ 9223372036854775807 := by omega
                      have z2 : (s.extract 0 k ++ t).size + (s.extract (k + 1) s.size).size ≤ 9223372036854775807 := by rw [ByteArray.size_append]; omega)
      all_goals
        go_wp2
        go_ret
        have hsz : (s.extract 0 k ++ t ++ s.extract (k + 1) s.size).size ≤ 50 := by rw [ByteArray.size_append, ByteArray.size_append]; omega
        first
          | exact ⟨3, by omega, _, rfl, hsz, hrd, B6.out.trans (ho.below hlow)⟩
          | exact ⟨3, by omega, _, rfl, hsz, hrd.drewN 1, (B6.out.trans (ho.below hlow)).drew⟩
    · go_wp2
      go_ret
      exact ⟨2, by omega, s, rfl, by omega, R2.out, B2.out⟩
  · go_wp2
    go_ret
    exact ⟨2, by omega, _, rfl, by omega, R2.out, B2.out⟩
  · go_wp2_with fail
    refine (of_any _ _ B R a n c (p + 1 + 1) _ R4.out (by omega) L4.out S4.out N4.out (by decide) (by decide)).mono ?_
    rintro e w3 ⟨t, rfl, ht, hrd, ho⟩
    have z1 : s.size + t.size ≤ 9223372036854775807 := by omega
    go_wp2
    go_ret
    exact ⟨3, by omega, _, rfl, by rw [ByteArray.size_append]; omega, hrd, B4.out.trans (ho.below hlow)⟩
  · go_wp2
    go_ret
    exact ⟨2, by omega, s, rfl, by omega, R2.out, B2.out⟩
end Go.Proofs.Ytpphilladlladaa
