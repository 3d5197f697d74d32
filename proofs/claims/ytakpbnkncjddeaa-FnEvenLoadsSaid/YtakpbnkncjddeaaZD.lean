/-
  The contracts of the functions that draw a word: that they return, and how long it is.
  The contracts of the functions that draw one of some numbers, or a word of so many pairs.
  The contracts of the functions that draw a text, or change one.
  The contracts of the functions that draw the laws' words.
-/
import Derived.Test.YtakpbnkncjddeaaCPick
import Derived.Test.YtakpbnkncjddeaaZW
import Derived.Test.YtakpbnkncjddeaaCCount
import Derived.Test.YtakpbnkncjddeaaZV
import Derived.Deep.RegionWith
import Derived.OpenShut
namespace Go.Proofs.Ytakpbnkncjddeaa
open Go.RowKit

/-- some number -/
def SomeI (w : World) (e : Ending) (w' : World) : Prop := ∃ x : Int, e = .returned (.int .i64 x) ∧ w = w'

set_option maxHeartbeats 800000 in
theorem ends_some : ∀ (f : Nat) (o l : Int) (w : World), 0 ≤ l → 2 * l + (o.toNat : Int) ≤ (f : Int) → -1000 ≤ o → o + l ≤ 1000 →
    Calls Try.prog 93 #[.int .i64 o, .int .i64 l] w (SomeI w) := by
  intro f
  induction f with
  | zero =>
    intro o l w h0 h1 h2 h3
    obtain rfl : l = 0 := by omega
    go_enter Try.func93, Try.ntmps93
    go_wp2_with fail
    go_ret
    exact ⟨_, rfl, rfl⟩
  | succ f ih =>
    intro o l w h0 h1 h2 h3
    by_cases hl : l = 0
    · subst hl
      go_enter Try.func93, Try.ntmps93
      go_wp2_with fail
      go_ret
      exact ⟨_, rfl, rfl⟩
    · have q0 : (l == 0) = false := beq_false_of_ne hl
      have g1 : 1 ≤ l := by omega
      by_cases ho : 0 < o
      · go_enter Try.func93, Try.ntmps93
        go_wp2_with fail
        refine (ih _ _ _ (by omega) (by omega) (by omega) (by omega)).mono ?_
        rintro e w1 ⟨x, rfl, rfl⟩
        go_wp2_with fail
        refine (ih _ _ _ (by omega) (by omega) (by omega) (by omega)).mono ?_
        rintro e w1 ⟨y, rfl, rfl⟩
        go_wp2_with fail
        go_ret
        exact ⟨_, rfl, rfl⟩
      · go_enter Try.func93, Try.ntmps93
        go_wp2_with fail
        refine (ih _ _ _ (by omega) (by omega) (by omega) (by omega)).mono ?_
        rintro e w1 ⟨x, rfl, rfl⟩
        go_wp2_with fail
        go_ret
        exact ⟨_, rfl, rfl⟩

/-- a text's length, for a loop's measure -/
def sizeOfT : Value → Nat | .string s => s.size | _ => 0
/-- some text that is not long -/
def SomeT (k : Nat) (w : World) (e : Ending) (w' : World) : Prop := ∃ s : ByteArray, e = .returned (.string s) ∧ s.size ≤ k ∧ w = w'

set_option maxHeartbeats 1600000 in
theorem wordAt_some (n : Nat) (hn : n ≤ 20) (r : Int) (w : World) :
    Calls Try.prog 70 #[.int .i64 n, .int .i64 r] w (SomeT (2 * n) w) := by
  go_enter Try.func70, Try.ntmps70
  go_wp2
  go_loop [1, 5, 6, 7] (fun r t o l => ∃ (x a b : Int) (s : ByteArray), r = .int .i64 x ∧ t = .string s ∧ o = .int .i64 a ∧ l = .int .i64 b ∧ s.size ≤ 2 * n ∧ -(s.size : Int) ≤ a ∧ a ≤ s.size ∧ -(s.size : Int) ≤ b ∧ b ≤ n) (fun _ t _ _ => 2 * n - (sizeOfT t))
  case atStart => exact ⟨r, 0, n, ⟨#[]⟩, rfl, rfl, rfl, rfl, Nat.zero_le _, Int.le_refl _, Int.le_refl _, by show (0 : Int) ≤ _; omega, Int.le_refl _⟩
  case round =>
    obtain ⟨x, a, b, s, rfl, rfl, rfl, rfl, hs, h1, h2, h3, h4⟩ := hrel
    by_cases hlt : s.size < 2 * n
    · have z1 : s.size + (ByteArray.mk #[40]).size ≤ 9223372036854775807 := by rw [show (ByteArray.mk #[40]).size = 1 from rfl]; omega
      have z2 : s.size + (ByteArray.mk #[41]).size ≤ 9223372036854775807 := by rw [show (ByteArray.mk #[41]).size = 1 from rfl]; omega
      have y1 : (s ++ ByteArray.mk #[40]).size = s.size + 1 := by rw [ByteArray.size_append]; rfl
      have y2 : (s ++ ByteArray.mk #[41]).size = s.size + 1 := by rw [ByteArray.size_append]; rfl
      have Y1 := Lib.hid y1
      have Y2 := Lib.hid y2
      clear y1 y2
      by_cases hb : 0 < b
      · go_wp2_with (go_at_call 93; refine (ends_some 1000 _ _ _ (by omega) (by omega) (by omega) (by omega)).mono ?_; rintro e w1 ⟨y, rfl, rfl⟩)
        all_goals first
          | (go_round
             case rel => exact ⟨_, _, _, _, rfl, rfl, rfl, rfl, by rw [Y1.out]; omega, by rw [Y1.out]; omega, by rw [Y1.out]; omega, by rw [Y1.out]; omega, by omega⟩
             case measure => simp only [sizeOfT]; have := Y1.out; omega)
          | (go_round
             case rel => exact ⟨_, _, _, _, rfl, rfl, rfl, rfl, by rw [Y2.out]; omega, by rw [Y2.out]; omega, by rw [Y2.out]; omega, by rw [Y2.out]; omega, by omega⟩
             case measure => simp only [sizeOfT]; have := Y2.out; omega)
      · go_wp2
        all_goals first
          | (go_round
             case rel => exact ⟨_, _, _, _, rfl, rfl, rfl, rfl, by rw [Y1.out]; omega, by rw [Y1.out]; omega, by rw [Y1.out]; omega, by rw [Y1.out]; omega, by omega⟩
             case measure => simp only [sizeOfT]; have := Y1.out; omega)
          | (go_round
             case rel => exact ⟨_, _, _, _, rfl, rfl, rfl, rfl, by rw [Y2.out]; omega, by rw [Y2.out]; omega, by rw [Y2.out]; omega, by rw [Y2.out]; omega, by omega⟩
             case measure => simp only [sizeOfT]; have := Y2.out; omega)
    · go_wp2
      go_ret
      exact ⟨s, rfl, hs, rfl⟩
end Go.Proofs.Ytakpbnkncjddeaa

namespace Go.Proofs.Ytakpbnkncjddeaa
open Go.RowKit

theorem Own.only {w w' : World} {B H R : Nat} {t : TypeId} {v : Value} {xs : List Value} (h : Own w B H t v xs) (hb : Only R w w') (hne : v.ownBlock ≠ some R) : Own w' B H t v xs :=
  ⟨own_of_blocks h.1 fun g hg => hb.block g (fun e => hne (by rw [hg, e])), h.2⟩

/-- one of the numbers -/
def OneOf (l : List Int) (B R : Nat) (a : Option Addr) (n c p : Nat) (w : World) (e : Ending) (w' : World) : Prop :=
  ∃ x, x ∈ l ∧ e = .returned (.int .i64 x) ∧ Rd w' B R a n c (p + 1) ∧ Only R w w'

set_option maxHeartbeats 800000 in
theorem one_any (l : List Int) (v : Value) (B R : Nat) (a : Option Addr) (n c p : Nat) (w : World) {B' H : Nat} (h : Hid (Rd w B R a n c p)) (hp : p ≤ 5000) (hv : Hid (Own w B' H 3 v (iv l))) (hne : v.ownBlock ≠ some R) (hl : 0 < l.length) (hl2 : l.length ≤ 1000) :
    Calls Try.prog 61 #[.pointer (some ⟨R, 0, none⟩), v] w (OneOf l B R a n c p w) := by
  obtain ⟨av, cv, rfl, _, hcv, _, _⟩ := hv.out.slice
  have HNE := Lib.hid hne
  rw [iv_length] at hv hcv ⊢
  clear hne
  go_enter Try.func61, Try.ntmps61
  go_wp2_with fail
  refine (pick_any B R a n c p _ _ h.out hp (by omega) (by omega)).mono ?_
  rintro e w1 ⟨k, rfl, hk, _, hrd, honly⟩
  have hk1 := hk (by omega)
  have hkl : k < l.length := by omega
  obtain ⟨g, rfl, _, _, hc, _⟩ := (hv.out.only honly (by have := HNE.out; rw [iv_length] at this; exact this)).at_ k (by rw [iv_length]; exact hkl)
  rw [iv_at l k hkl] at hc
  have R1 := Lib.hid hrd
  have O1 := Lib.hid honly
  have HM := Lib.hid (show l[k] ∈ l from List.getElem_mem hkl)
  obtain ⟨x, hx⟩ : ∃ x, x = l[k] := ⟨_, rfl⟩
  rw [← hx] at hc HM
  have i1 : (k : Int) < (l.length : Int) := by omega
  clear hk hrd honly hx
  go_wp2
  go_ret
  exact ⟨x, HM.out, rfl, R1.out, O1.out⟩

/-- a text that is not long; the reader one place on -/
def TextOf (q : Nat) (B R : Nat) (a : Option Addr) (n c p d : Nat) (w : World) (e : Ending) (w' : World) : Prop :=
  ∃ s : ByteArray, e = .returned (.string s) ∧ s.size ≤ q ∧ Rd w' B R a n c (p + d) ∧ Below B w w'

theorem Rd.grow {w w' : World} {B R n c p : Nat} {a : Option Addr} (h : Rd w B R a n c p) (hb : Below w.heap.size w w') : Rd w' B R a n c p := h.below hb h.lt

set_option maxHeartbeats 1600000 in
theorem goodWord_any (m : Nat) (hm : m ≤ 9) (B R : Nat) (a : Option Addr) (n c p : Nat) (w : World) (h : Hid (Rd w B R a n c p)) (hp : p ≤ 5000) :
    Calls Try.prog 51 #[.pointer (some ⟨R, 0, none⟩), .int .i64 m] w (TextOf 18 B R a n c p 1 w) := by
  go_enter Try.func51, Try.ntmps51
  go_wp2_with fail
  refine (counts_any m hm w).mono ?_
  rintro e w1 ⟨v, rfl, hown, hb, _⟩
  rw [catV_length] at hown
  obtain ⟨g, cap, rfl, hg, hgl, hc, hcm⟩ := own_form hown (by omega)
  have hcell := (hown.cellAt m (by omega)).trans (catV_at (m + 1) m (by omega))
  have b1 : m < m + 1 := by omega
  have hcb := cat_bd m hm
  obtain ⟨K, hK⟩ : ∃ K, K = cat m := ⟨_, rfl⟩
  rw [← hK] at hcell hcb
  have R1 := Lib.hid (h.out.grow hb)
  have hlow := h.out.low
  have hlt := h.out.lt
  have B1 := Lib.hid (hb.mono (show B ≤ w.heap.size by omega))
  clear hown hb hK
  rcases (show K < 250 ∨ K = 250 ∨ 250 < K by omega) with hK250 | rfl | hK250
  all_goals
    go_wp2_with fail
    refine (pick_any B R a n c p _ _ R1.out hp (by omega) (by omega)).mono ?_
    rintro e w2 ⟨k, rfl, _, _, hrd, honly⟩
    have R2 := Lib.hid hrd
    have B2 := Lib.hid (B1.out.trans (honly.below hlow))
    clear hrd honly hcell
    go_wp2_with fail
    refine (wordAt_some m (by omega) k w2).mono ?_
    rintro e w3 ⟨s, rfl, hs, rfl⟩
    go_wp2
    go_ret
    exact ⟨s, rfl, by omega, R2.out, B2.out⟩
end Go.Proofs.Ytakpbnkncjddeaa

namespace Go.Proofs.Ytakpbnkncjddeaa
open Go.RowKit

/-- short texts -/
def Short (xs : List Value) : Prop := ∀ (i : Nat) (x : Value), xs[i]? = some x → ∃ s : ByteArray, x = .string s ∧ s.size ≤ 2

set_option maxHeartbeats 800000 in
theorem of_any (xs : List Value) (v : Value) (B R : Nat) (a : Option Addr) (n c p : Nat) (w : World) {B' H : Nat} (h : Hid (Rd w B R a n c p)) (hp : p ≤ 5000) (hv : Hid (Own w B' H 9 v xs)) (hs : Hid (Short xs)) (hne : v.ownBlock ≠ some R) (hl : 0 < xs.length) (hl2 : xs.length ≤ 1000) :
    Calls Try.prog 72 #[.pointer (some ⟨R, 0, none⟩), v] w fun e w' => ∃ s : ByteArray, e = .returned (.string s) ∧ s.size ≤ 2 ∧ Rd w' B R a n c (p + 1) ∧ Only R w w' := by
  obtain ⟨av, cv, rfl, _, hcv, _, _⟩ := hv.out.slice
  have HNE := Lib.hid hne
  obtain ⟨m, hm⟩ : ∃ m, m = xs.length := ⟨_, rfl⟩
  rw [← hm] at hv hcv hl hl2 HNE ⊢
  have HM := Lib.hid hm
  clear hne hm
  go_enter Try.func72, Try.ntmps72
  go_wp2_with fail
  refine (pick_any B R a n c p _ _ h.out hp (by omega) (by omega)).mono ?_
  rintro e w1 ⟨k, rfl, hk, _, hrd, honly⟩
  have hk1 := hk (by omega)
  have hkl : k < m := by omega
  obtain ⟨g, rfl, _, _, hc, _⟩ := (hv.out.only honly HNE.out).at_ k (by rw [← HM.out]; exact hkl)
  obtain ⟨s, hs1, hs2⟩ := hs.out k xs[k] (List.getElem?_eq_getElem (by rw [← HM.out]; exact hkl))
  rw [List.getElem?_eq_getElem (by rw [← HM.out]; exact hkl), hs1] at hc
  have R1 := Lib.hid hrd
  have O1 := Lib.hid honly
  have i1 : (k : Int) < (m : Int) := by omega
  clear hk hrd honly hs1
  go_wp2
  go_ret
  exact ⟨s, rfl, hs2, R1.out, O1.out⟩

theorem lit_own (w : World) (cs : Array Value) (t : TypeId) (hm : cs.size ≤ maxLen) : Own (w.alloc (.cells cs t)) w.heap.size (w.heap.size + 1) t (.slice (some ⟨w.heap.size, 0, none⟩) cs.size cs.size) cs.toList := by
  have := World.ownsRow_lit (base := w.heap.size) (e := t) (size := 1) w cs cs.size (Nat.le_refl _) hm (by omega)
  exact ⟨by rw [Array.length_toList]; exact this, fun g hg => by simp [Value.ownBlock] at hg; omega⟩

def shortB (x : Value) : Bool := match x with | .string s => decide (s.size ≤ 2) | _ => false
theorem short_list (xs : List Value) (h : xs.all shortB = true) : Short xs := by
  intro i x hx
  have hm := List.all_eq_true.1 h x (List.mem_of_getElem? hx)
  unfold shortB at hm
  split at hm
  · exact ⟨_, rfl, of_decide_eq_true hm⟩
  · cases hm

set_option maxHeartbeats 3200000 in
theorem mutate_any (s : ByteArray) (hs : s.size ≤ 40) (B R : Nat) (a : Option Addr) (n c p : Nat) (w : World) (h : Hid (Rd w B R a n c p)) (hp : p ≤ 4000) :
    Calls Try.prog 53 #[.pointer (some ⟨R, 0, none⟩), .string s] w fun e w' => ∃ d, d ≤ 3 ∧ TextOf 50 B R a n c p d w e w' := by
  have hlow := h.out.low
  go_enter Try.func53, Try.ntmps53
  go_wp2_with fail
  refine (pick_any B R a n c p _ _ h.out (by omega) (by omega) (by omega)).mono ?_
  rintro e w1 ⟨k, rfl, hk, _, hrd, honly⟩
  have hk1 := hk (by omega)
  have hkl : k ≤ s.size := by omega
  have R1 := Lib.hid hrd
  have B1 := Lib.hid (honly.below hlow)
  clear hk hrd honly hk1
  go_wp2_with fail
  refine (pick_any B R a n c (p + 1) _ _ R1.out (by omega) (by omega) (by omega)).mono ?_
  rintro e w2 ⟨q, rfl, hq, _, hrd, honly⟩
  have hq1 := hq (by omega)
  have R2 := Lib.hid hrd
  have B2 := Lib.hid (B1.out.trans (honly.below hlow))
  have hRlt := hrd.lt
  clear hq hrd honly
  have L6 := Lib.hid (show Own (w2.alloc (.cells #[.string ⟨#[40]⟩, .string ⟨#[41]⟩, .string ⟨#[48]⟩, .string ⟨#[44]⟩, .string ⟨#[32]⟩, .string ⟨#[120]⟩] 9)).drew w2.heap.size (w2.heap.size + 1) 9 (.slice (some ⟨w2.heap.size, 0, none⟩) 6 6) (#[.string ⟨#[40]⟩, .string ⟨#[41]⟩, .string ⟨#[48]⟩, .string ⟨#[44]⟩, .string ⟨#[32]⟩, .string ⟨#[120]⟩] : Array Value).toList from lit_own w2 _ 9 (by decide))
  have L4 := Lib.hid (show Own (w2.alloc (.cells #[.string ⟨#[40, 41]⟩, .string ⟨#[41]⟩, .string ⟨#[32]⟩, .string ⟨#[49]⟩] 9)) w2.heap.size (w2.heap.size + 1) 9 (.slice (some ⟨w2.heap.size, 0, none⟩) 4 4) (#[.string ⟨#[40, 41]⟩, .string ⟨#[41]⟩, .string ⟨#[32]⟩, .string ⟨#[49]⟩] : Array Value).toList from lit_own w2 _ 9 (by decide))
  have R6 := Lib.hid (show Rd (w2.alloc (.cells #[.string ⟨#[40]⟩, .string ⟨#[41]⟩, .string ⟨#[48]⟩, .string ⟨#[44]⟩, .string ⟨#[32]⟩, .string ⟨#[120]⟩] 9)).drew B R a n c (p + 1 + 1) from (R2.out.grow ((Below.refl _ _).alloc (Nat.le_refl _) _)).drewN 1)
  have R4 := Lib.hid (show Rd (w2.alloc (.cells #[.string ⟨#[40, 41]⟩, .string ⟨#[41]⟩, .string ⟨#[32]⟩, .string ⟨#[49]⟩] 9)) B R a n c (p + 1 + 1) from R2.out.grow ((Below.refl _ _).alloc (Nat.le_refl _) _))
  have N6 := Lib.hid (show (Value.slice (some ⟨w2.heap.size, 0, none⟩) 6 6).ownBlock ≠ some R by simp [Value.ownBlock]; omega)
  have N4 := Lib.hid (show (Value.slice (some ⟨w2.heap.size, 0, none⟩) 4 4).ownBlock ≠ some R by simp [Value.ownBlock]; omega)
  have S6 := Lib.hid (short_list (#[.string ⟨#[40]⟩, .string ⟨#[41]⟩, .string ⟨#[48]⟩, .string ⟨#[44]⟩, .string ⟨#[32]⟩, .string ⟨#[120]⟩] : Array Value).toList (by decide))
  have S4 := Lib.hid (short_list (#[.string ⟨#[40, 41]⟩, .string ⟨#[41]⟩, .string ⟨#[32]⟩, .string ⟨#[49]⟩] : Array Value).toList (by decide))
  have B6 := Lib.hid (show Below B w (w2.alloc (.cells #[.string ⟨#[40]⟩, .string ⟨#[41]⟩, .string ⟨#[48]⟩, .string ⟨#[44]⟩, .string ⟨#[32]⟩, .string ⟨#[120]⟩] 9)).drew from (B2.out.alloc (by omega) _).drew)
  have B4 := Lib.hid (B2.out.alloc (show B ≤ w2.heap.size by omega) (.cells #[.string ⟨#[40, 41]⟩, .string ⟨#[41]⟩, .string ⟨#[32]⟩, .string ⟨#[49]⟩] 9))
  have E1 : (s.extract 0 k).size ≤ k := by rw [ByteArray.size_extract]; omega
  have E2 : (s.extract (k + 1) s.size).size + k ≤ s.size := by rw [ByteArray.size_extract]; omega
  rcases (show q = 0 ∨ q = 1 ∨ q = 2 ∨ q = 3 ∨ q = 4 by omega) with rfl | rfl | rfl | rfl | rfl
  · by_cases hks : k < s.size
    · have ew : IntKind.i64.wrap ((k : Int) + 1) = (k : Int) + 1 := by rw [IntKind.wrap_i64]; omega
      have u1 : (0 : Int) ≤ (k : Int) + 1 := by omega
      have u2 : (k : Int) + 1 ≤ (s.size : Int) := by omega
      have u3 : ((k : Int) + 1).toNat = k + 1 := by omega
      have u4 : k + 1 ≤ s.size := by omega
      go_wp2_with fail
      go_region_with (go_at_call 72; refine (of_any _ _ B R a n c (p + 1 + 1) _ R6.out (by omega) L6.out S6.out N6.out (by decide) (by decide)).mono ?_; rintro e w3 ⟨t, rfl, ht, hrd, ho⟩; have z1 : (s.extract 0 k).size + t.size ≤ 9223372036854775807 := by omega
                      have z2 : (s.extract 0 k ++ t).size + (s.extract (k + 1) s.size).size ≤ 9223372036854775807 := by rw [ByteArray.size_append]; omega)
      all_goals
        go_wp2
        go_ret
        have hsz : (s.extract 0 k ++ t ++ s.extract (k + 1) s.size).size ≤ 50 := by rw [ByteArray.size_append, ByteArray.size_append]; omega
        first
          | exact ⟨3, by omega, _, rfl, hsz, hrd, B6.out.trans (ho.below hlow)⟩
          | exact ⟨3, by omega, _, rfl, hsz, hrd.drewN 1, (B6.out.trans (ho.below hlow)).drew⟩
    · go_wp2
      go_ret
      exact ⟨2, by omega, s, rfl, by omega, R2.out, B2.out⟩
  · by_cases hks : k < s.size
    · have ew : IntKind.i64.wrap ((k : Int) + 1) = (k : Int) + 1 := by rw [IntKind.wrap_i64]; omega
      have u1 : (0 : Int) ≤ (k : Int) + 1 := by omega
      have u2 : (k : Int) + 1 ≤ (s.size : Int) := by omega
      have u3 : ((k : Int) + 1).toNat = k + 1 := by omega
      have u4 : k + 1 ≤ s.size := by omega
      go_wp2_with fail
      go_region_with (go_at_call 72; refine (of_any _ _ B R a n c (p + 1 + 1) _ R6.out (by omega) L6.out S6.out N6.out (by decide) (by decide)).mono ?_; rintro e w3 ⟨t, rfl, ht, hrd, ho⟩; have z1 : (s.extract 0 k).size + t.size ≤ 9223372036854775807 := by omega
                      have z2 : (s.extract 0 k ++ t).size + (s.extract (k + 1) s.size).size ≤ 9223372036854775807 := by rw [ByteArray.size_append]; omega)
      all_goals
        go_wp2
        go_ret
        have hsz : (s.extract 0 k ++ t ++ s.extract (k + 1) s.size).size ≤ 50 := by rw [ByteArray.size_append, ByteArray.size_append]; omega
        first
          | exact ⟨3, by omega, _, rfl, hsz, hrd, B6.out.trans (ho.below hlow)⟩
          | exact ⟨3, by omega, _, rfl, hsz, hrd.drewN 1, (B6.out.trans (ho.below hlow)).drew⟩
    · go_wp2
      go_ret
      exact ⟨2, by omega, s, rfl, by omega, R2.out, B2.out⟩
  · go_wp2
    go_ret
    exact ⟨2, by omega, _, rfl, by omega, R2.out, B2.out⟩
  · go_wp2_with fail
    refine (of_any _ _ B R a n c (p + 1 + 1) _ R4.out (by omega) L4.out S4.out N4.out (by decide) (by decide)).mono ?_
    rintro e w3 ⟨t, rfl, ht, hrd, ho⟩
    have z1 : s.size + t.size ≤ 9223372036854775807 := by omega
    go_wp2
    go_ret
    exact ⟨3, by omega, _, rfl, by rw [ByteArray.size_append]; omega, hrd, B4.out.trans (ho.below hlow)⟩
  · go_wp2
    go_ret
    exact ⟨2, by omega, s, rfl, by omega, R2.out, B2.out⟩
end Go.Proofs.Ytakpbnkncjddeaa

namespace Go.Proofs.Ytakpbnkncjddeaa
open Go.RowKit

/-- a slice of bytes that came in, of whatever length -/
theorem newReader_any (a : Option Addr) (len cap : Nat) (zs : List Int) (w : World) (hr : IsRow .u8 w a len cap zs) (hl : len ≤ 1048576) :
    Calls Try.prog 37 #[.slice a len cap] w fun e w' => ∃ n R, e = .returned (.pointer (some ⟨R, 0, none⟩)) ∧ Rd w' w.heap.size R a n cap 0 ∧ Below w.heap.size w w' := by
  have hlen := hr.len
  have hby : ∀ i : Nat, i < len → ∃ b off x, a = some ⟨b, off, none⟩ ∧ b < w.heap.size ∧ w.cell? ⟨b, off + i, none⟩ = some (.int .u8 x) ∧ 0 ≤ x ∧ x ≤ 255 := by
    intro i hi
    obtain ⟨b, off, h1, h2⟩ := hr.at_ i hi
    refine ⟨b, off, zs.getD i 0, h1, World.block_lt_of_cell? w _ h2, h2, ?_⟩
    rcases hr with ⟨_, h0, _⟩ | ⟨x, _, _, _, h4, _, h6⟩
    · omega
    · have hm : zs.getD i 0 ∈ zs := by
        have hi2 : i < zs.length := by omega
        simp [List.getElem?_eq_getElem hi2]
      have hw := h6 _ hm
      have := bounds_u8 hw
      omega
  have HB := Lib.hid hby
  clear hby hr
  by_cases h2 : len ≤ 2000
  · have q1 : ¬ (2000 : Int) < (len : Int) := by omega
    go_enter Try.func37, Try.ntmps37
    go_wp2
    go_ret
    refine ⟨len, w.heap.size, rfl, ⟨heap_alloc_new w _, Nat.le_refl _, h2, fun i hi => ?_⟩, (Below.refl _ _).alloc (Nat.le_refl _) _⟩
    obtain ⟨b, off, x, e1, e2, e3, e4⟩ := HB.out i hi
    exact ⟨b, off, x, e1, e2, (World.cell?_alloc_lt w _ _ e2).trans e3, e4⟩
  · have q1 : (2000 : Int) < (len : Int) := by omega
    go_enter Try.func37, Try.ntmps37
    go_wp2
    go_ret
    refine ⟨2000, w.heap.size, rfl, ⟨heap_alloc_new w _, Nat.le_refl _, Nat.le_refl _, fun i hi => ?_⟩, (Below.refl _ _).alloc (Nat.le_refl _) _⟩
    obtain ⟨b, off, x, e1, e2, e3, e4⟩ := HB.out i (by omega)
    exact ⟨b, off, x, e1, e2, (World.cell?_alloc_lt w _ _ e2).trans e3, e4⟩
end Go.Proofs.Ytakpbnkncjddeaa
