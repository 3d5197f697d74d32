/-
  The contracts of the functions that draw a word: that they return, and how long it is.
  The contracts of the functions that draw one of some numbers, or a word of so many pairs.
  The contracts of the functions that draw a text, or change one.
  The contracts of the functions that draw the laws' words.
-/
import Derived.Test.YtchfnbcpjiiphaaCPick
import Derived.Test.YtchfnbcpjiiphaaZW
import Derived.Test.YtchfnbcpjiiphaaCCount
import Derived.Test.YtchfnbcpjiiphaaZV
import Derived.Deep.RegionWith
import Derived.OpenShut
namespace Go.Proofs.Ytchfnbcpjiiphaa
open Go.RowKit

/-- some number -/
def SomeI (w : World) (e : Ending) (w' : World) : Prop := ∃ x : Int, e = .returned (.int .i64 x) ∧ w = w'

/-- a text's length, for a loop's measure -/
def sizeOfT : Value → Nat | .string s => s.size | _ => 0
/-- some text that is not long -/
def SomeT (k : Nat) (w : World) (e : Ending) (w' : World) : Prop := ∃ s : ByteArray, e = .returned (.string s) ∧ s.size ≤ k ∧ w = w'

end Go.Proofs.Ytchfnbcpjiiphaa

namespace Go.Proofs.Ytchfnbcpjiiphaa
open Go.RowKit

theorem Own.only {w w' : World} {B H R : Nat} {t : TypeId} {v : Value} {xs : List Value} (h : Own w B H t v xs) (hb : Only R w w') (hne : v.ownBlock ≠ some R) : Own w' B H t v xs :=
  ⟨own_of_blocks h.1 fun g hg => hb.block g (fun e => hne (by rw [hg, e])), h.2⟩

/-- one of the numbers -/
def OneOf (l : List Int) (B R : Nat) (a : Option Addr) (n c p : Nat) (w : World) (e : Ending) (w' : World) : Prop :=
  ∃ x, x ∈ l ∧ e = .returned (.int .i64 x) ∧ Rd w' B R a n c (p + 1) ∧ Only R w w'

set_option maxHeartbeats 800000 in
theorem one_any (l : List Int) (v : Value) (B R : Nat) (a : Option Addr) (n c p : Nat) (w : World) {B' H : Nat} (h : Hid (Rd w B R a n c p)) (hp : p ≤ 5000) (hv : Hid (Own w B' H 3 v (iv l))) (hne : v.ownBlock ≠ some R) (hl : 0 < l.length) (hl2 : l.length ≤ 1000) :
    Calls Try.prog 46 #[.pointer (some ⟨R, 0, none⟩), v] w (OneOf l B R a n c p w) := by
  obtain ⟨av, cv, rfl, _, hcv, _, _⟩ := hv.out.slice
  have HNE := Lib.hid hne
  rw [iv_length] at hv hcv ⊢
  clear hne
  go_enter Try.func46, Try.ntmps46
  go_wp2_with fail
  refine (pick_any B R a n c p _ _ h.out hp (by omega) (by omega)).mono ?_
  rintro e w1 ⟨k, rfl, hk, _, hrd, honly⟩
  have hk1 := hk (by omega)
  have hkl : k < l.length := by omega
  obtain ⟨g, rfl, _, _, hc, _⟩ := (hv.out.only honly (by have := HNE.out; rw [iv_length] at this; exact this)).at_ k (by rw [iv_length]; exact hkl)
  rw [iv_at l k hkl] at hc
  have R1 := Lib.hid hrd
  have O1 := Lib.hid honly
  have HM := Lib.hid (show l[k] ∈ l from List.getElem_mem hkl)
  obtain ⟨x, hx⟩ : ∃ x, x = l[k] := ⟨_, rfl⟩
  rw [← hx] at hc HM
  have i1 : (k : Int) < (l.length : Int) := by omega
  clear hk hrd honly hx
  go_wp2
  go_ret
  exact ⟨x, HM.out, rfl, R1.out, O1.out⟩

/-- a text that is not long; the reader one place on -/
def TextOf (q : Nat) (B R : Nat) (a : Option Addr) (n c p d : Nat) (w : World) (e : Ending) (w' : World) : Prop :=
  ∃ s : ByteArray, e = .returned (.string s) ∧ s.size ≤ q ∧ Rd w' B R a n c (p + d) ∧ Below B w w'

theorem Rd.grow {w w' : World} {B R n c p : Nat} {a : Option Addr} (h : Rd w B R a n c p) (hb : Below w.heap.size w w') : Rd w' B R a n c p := h.below hb h.lt

end Go.Proofs.Ytchfnbcpjiiphaa

namespace Go.Proofs.Ytchfnbcpjiiphaa
open Go.RowKit

/-- short texts -/
def Short (xs : List Value) : Prop := ∀ (i : Nat) (x : Value), xs[i]? = some x → ∃ s : ByteArray, x = .string s ∧ s.size ≤ 2

theorem lit_own (w : World) (cs : Array Value) (t : TypeId) (hm : cs.size ≤ maxLen) : Own (w.alloc (.cells cs t)) w.heap.size (w.heap.size + 1) t (.slice (some ⟨w.heap.size, 0, none⟩) cs.size cs.size) cs.toList := by
  have := World.ownsRow_lit (base := w.heap.size) (e := t) (size := 1) w cs cs.size (Nat.le_refl _) hm (by omega)
  exact ⟨by rw [Array.length_toList]; exact this, fun g hg => by simp [Value.ownBlock] at hg; omega⟩

def shortB (x : Value) : Bool := match x with | .string s => decide (s.size ≤ 2) | _ => false
theorem short_list (xs : List Value) (h : xs.all shortB = true) : Short xs := by
  intro i x hx
  have hm := List.all_eq_true.1 h x (List.mem_of_getElem? hx)
  unfold shortB at hm
  split at hm
  · exact ⟨_, rfl, of_decide_eq_true hm⟩
  · cases hm

end Go.Proofs.Ytchfnbcpjiiphaa

namespace Go.Proofs.Ytchfnbcpjiiphaa
open Go.RowKit

/-- a slice of bytes that came in, of whatever length -/
theorem newReader_any (a : Option Addr) (len cap : Nat) (zs : List Int) (w : World) (hr : IsRow .u8 w a len cap zs) (hl : len ≤ 1048576) :
    Calls Try.prog 38 #[.slice a len cap] w fun e w' => ∃ n R, e = .returned (.pointer (some ⟨R, 0, none⟩)) ∧ Rd w' w.heap.size R a n cap 0 ∧ Below w.heap.size w w' := by
  have hlen := hr.len
  have hby : ∀ i : Nat, i < len → ∃ b off x, a = some ⟨b, off, none⟩ ∧ b < w.heap.size ∧ w.cell? ⟨b, off + i, none⟩ = some (.int .u8 x) ∧ 0 ≤ x ∧ x ≤ 255 := by
    intro i hi
    obtain ⟨b, off, h1, h2⟩ := hr.at_ i hi
    refine ⟨b, off, zs.getD i 0, h1, World.block_lt_of_cell? w _ h2, h2, ?_⟩
    rcases hr with ⟨_, h0, _⟩ | ⟨x, _, _, _, h4, _, h6⟩
    · omega
    · have hm : zs.getD i 0 ∈ zs := by
        have hi2 : i < zs.length := by omega
        simp [List.getElem?_eq_getElem hi2]
      have hw := h6 _ hm
      have := bounds_u8 hw
      omega
  have HB := Lib.hid hby
  clear hby hr
  by_cases h2 : len ≤ 2000
  · have q1 : ¬ (2000 : Int) < (len : Int) := by omega
    go_enter Try.func38, Try.ntmps38
    go_wp2
    go_ret
    refine ⟨len, w.heap.size, rfl, ⟨heap_alloc_new w _, Nat.le_refl _, h2, fun i hi => ?_⟩, (Below.refl _ _).alloc (Nat.le_refl _) _⟩
    obtain ⟨b, off, x, e1, e2, e3, e4⟩ := HB.out i hi
    exact ⟨b, off, x, e1, e2, (World.cell?_alloc_lt w _ _ e2).trans e3, e4⟩
  · have q1 : (2000 : Int) < (len : Int) := by omega
    go_enter Try.func38, Try.ntmps38
    go_wp2
    go_ret
    refine ⟨2000, w.heap.size, rfl, ⟨heap_alloc_new w _, Nat.le_refl _, Nat.le_refl _, fun i hi => ?_⟩, (Below.refl _ _).alloc (Nat.le_refl _) _⟩
    obtain ⟨b, off, x, e1, e2, e3, e4⟩ := HB.out i (by omega)
    exact ⟨b, off, x, e1, e2, (World.cell?_alloc_lt w _ _ e2).trans e3, e4⟩
end Go.Proofs.Ytchfnbcpjiiphaa
