/-
  The contracts of the functions that draw one of some numbers, or a word of so many pairs.
-/
import Derived.Test.YtgmajaelgjdjpaaCDrawA
namespace Go.Proofs.Ytgmajaelgjdjpaa
open Go.RowKit

theorem Own.only {w w' : World} {B H R : Nat} {t : TypeId} {v : Value} {xs : List Value} (h : Own w B H t v xs) (hb : Only R w w') (hne : v.ownBlock ≠ some R) : Own w' B H t v xs :=
  ⟨own_of_blocks h.1 fun g hg => hb.block g (fun e => hne (by rw [hg, e])), h.2⟩

/-- one of the numbers -/
def OneOf (l : List Int) (B R : Nat) (a : Option Addr) (n c p : Nat) (w : World) (e : Ending) (w' : World) : Prop :=
  ∃ x, x ∈ l ∧ e = .returned (.int .i64 x) ∧ Rd w' B R a n c (p + 1) ∧ Only R w w'

set_option maxHeartbeats 800000 in
theorem one_any (l : List Int) (v : Value) (B R : Nat) (a : Option Addr) (n c p : Nat) (w : World) {B' H : Nat} (h : Hid (Rd w B R a n c p)) (hp : p ≤ 5000) (hv : Hid (Own w B' H 3 v (iv l))) (hne : v.ownBlock ≠ some R) (hl : 0 < l.length) (hl2 : l.length ≤ 1000) :
    Calls Try.prog 39 #[.pointer (some ⟨R, 0, none⟩), v] w (OneOf l B R a n c p w) := by
  obtain ⟨av, cv, rfl, _, hcv, _, _⟩ := hv.out.slice
  have HNE := Lib.hid hne
  rw [iv_length] at hv hcv ⊢
  clear hne
  go_enter Try.func39, Try.ntmps39
  go_wp2_with fail
  refine (pick_any B R a n c p _ _ h.out hp (by omega) (by omega)).mono ?_
  rintro e w1 ⟨k, rfl, hk, _, hrd, honly⟩
  have hk1 := hk (by omega)
  have hkl : k < l.length := by omega
  obtain ⟨g, rfl, _, _, hc, _⟩ := (hv.out.only honly (by have := HNE.out; rw [iv_length] at this; exact this)).at_ k (by rw [iv_length]; exact hkl)
  rw [iv_at l k hkl] at hc
  have R1 := Lib.hid hrd
  have O1 := Lib.hid honly
  have HM := Lib.hid (show l[k] ∈ l from List.getElem_mem hkl)
  obtain ⟨x, hx⟩ : ∃ x, x = l[k] := ⟨_, rfl⟩
  rw [← hx] at hc HM
  have i1 : (k : Int) < (l.length : Int) := by omega
  clear hk hrd honly hx
  go_wp2
  go_ret
  exact ⟨x, HM.out, rfl, R1.out, O1.out⟩

/-- a text that is not long; the reader one place on -/
def TextOf (q : Nat) (B R : Nat) (a : Option Addr) (n c p d : Nat) (w : World) (e : Ending) (w' : World) : Prop :=
  ∃ s : ByteArray, e = .returned (.string s) ∧ s.size ≤ q ∧ Rd w' B R a n c (p + d) ∧ Below B w w'

theorem Rd.grow {w w' : World} {B R n c p : Nat} {a : Option Addr} (h : Rd w B R a n c p) (hb : Below w.heap.size w w') : Rd w' B R a n c p := h.below hb h.lt

end Go.Proofs.Ytgmajaelgjdjpaa
