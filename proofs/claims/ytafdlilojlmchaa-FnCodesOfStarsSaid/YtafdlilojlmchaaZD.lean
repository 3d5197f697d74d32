/-
  The contract of the reader's function that draws a number: whatever the code, it lies in the range.
  The contracts of the functions that count the words of so many pairs.
  The contracts of the functions that draw a word: that they return, and how long it is.
  The contracts of the functions that draw one of some numbers, or a word of so many pairs.
  The contracts of the functions that draw a text, or change one.
  The contracts of the functions that draw the laws' words.
  Rows of numbers beside a reader: what drawing leaves alone, and a row put in the place of another one.
-/
import Derived.Test.YtafdlilojlmchaaZW
import Derived.Test.YtafdlilojlmchaaProg
import Derived.WalkSpells
import Derived.WalkLawsBesides
import Derived.Lib.Hide
import Derived.BigQuiet
import Derived.Deep.QuietTactic
import Derived.Test.YtafdlilojlmchaaZV
import Derived.BigRegion
import Derived.Deep.RegionWith
import Derived.OpenShut
namespace Go.Proofs.Ytafdlilojlmchaa
open Go.RowKit

/-- a reader in block R: its bytes (below block B), and its place -/
structure Rd (w : World) (B R : Nat) (a : Option Addr) (n c : Nat) (p : Nat) : Prop where
  blk : w.heap[R]? = some (.cells #[.slice a n c, .int .i64 p] 86 (0, 0))
  low : B ≤ R
  len : n ≤ 2000
  bytes : ∀ i : Nat, i < n → ∃ b off x, a = some ⟨b, off, none⟩ ∧ b < B ∧ w.cell? ⟨b, off + i, none⟩ = some (.int .u8 x) ∧ 0 ≤ x ∧ x ≤ 255

/-- nothing has changed but block R -/
structure Only (R : Nat) (w w' : World) : Prop where
  os : w'.os = w.os
  tape : w'.tape = w.tape
  output : w'.output = w.output
  size : w'.heap.size = w.heap.size
  block : ∀ k, k ≠ R → w'.heap[k]? = w.heap[k]?
theorem Only.below {R B : Nat} {w w' : World} (h : Only R w w') (hB : B ≤ R) : Below B w w' := ⟨h.os, h.tape, h.output, by rw [h.size]; exact Nat.le_refl _, fun k hk => h.block k (by omega)⟩
theorem Only.refl (R : Nat) (w : World) : Only R w w := ⟨rfl, rfl, rfl, rfl, fun _ _ => rfl⟩
theorem Only.trans {R : Nat} {a b c : World} (h : Only R a b) (k : Only R b c) : Only R a c := ⟨k.os.trans h.os, k.tape.trans h.tape, k.output.trans h.output, k.size.trans h.size, fun q hq => (k.block q hq).trans (h.block q hq)⟩
theorem Only.drewN {R : Nat} {w w' : World} (h : Only R w w') (n : Nat) : Only R w (w'.drewN n) := ⟨h.os, h.tape, h.output, h.size, h.block⟩

section
variable {w w' : World} {B R n c p : Nat} {a : Option Addr}
theorem Rd.lt (h : Rd w B R a n c p) : R < w.heap.size := (Array.getElem?_eq_some_iff.1 h.blk).1
theorem Rd.below {H : Nat} (h : Rd w B R a n c p) (hb : Below H w w') (hR : R < H) : Rd w' B R a n c p :=
  ⟨by rw [hb.block R hR]; exact h.blk, h.low, h.len, fun i hi => by
    obtain ⟨b, off, x, h1, h2, h3, h4⟩ := h.bytes i hi
    exact ⟨b, off, x, h1, h2, (hb.cell (p := ⟨b, off + i, none⟩) (by show b < H; have := h.low; omega)).trans h3, h4⟩⟩
theorem Rd.cell0 (h : Rd w B R a n c p) : w.cell? ⟨R, 0, none⟩ = some (.slice a n c) := by rw [cell_of_row w R 0 _ _ _ h.blk]; rfl
theorem Rd.cell1 (h : Rd w B R a n c p) : w.cell? ⟨R, 1, none⟩ = some (.int .i64 p) := by rw [cell_of_row w R 1 _ _ _ h.blk]; rfl
theorem Rd.free (h : Rd w B R a n c p) (j : Nat) : w.frozen? ⟨R, j, none⟩ = false := frozen_of_row w R j _ _ h.blk
theorem Rd.step (h : Rd w B R a n c p) (q : Nat) : Rd (w.setCell ⟨R, 1, none⟩ (.int .i64 q)) B R a n c q ∧ Only R w (w.setCell ⟨R, 1, none⟩ (.int .i64 q)) := by
  refine ⟨⟨?_, h.low, h.len, fun i hi => ?_⟩, ⟨rfl, rfl, rfl, by simp [World.setCell], fun k hk => Below.heap_setCell _ _ _ _ hk⟩⟩
  · rw [heap_setCell_same w R 1 _ _ _ h.blk]; rfl
  · obtain ⟨b, off, x, h1, h2, h3, h4⟩ := h.bytes i hi
    refine ⟨b, off, x, h1, h2, ?_, h4⟩
    rw [World.cell?_of_block (w := w) (Below.heap_setCell _ _ _ _ (by show b ≠ R; have := h.low; omega))]
    exact h3
theorem Rd.drewN (h : Rd w B R a n c p) (k : Nat) : Rd (w.drewN k) B R a n c p := ⟨h.blk, h.low, h.len, h.bytes⟩
end

/-- a number has been drawn -/
def Picked (B R : Nat) (a : Option Addr) (n c p : Nat) (m : Int) (w : World) (e : Ending) (w' : World) : Prop :=
  ∃ x : Nat, e = .returned (.int .i64 x) ∧ (1 ≤ m → (x : Int) < m) ∧ (m < 1 → x = 0) ∧ Rd w' B R a n c (p + 1) ∧ Only R w w'

theorem xor_i64 (a b : Nat) (ha : a < 2 ^ 62) (hb : b < 2 ^ 62) : bits .xor .i64 (a : Int) (b : Int) = ((a ^^^ b : Nat) : Int) := by
  have hx : a ^^^ b < 2 ^ 62 := Nat.xor_lt_two_pow ha hb
  show IntKind.i64.wrap ((BitVec.ofInt 64 (a : Int) ^^^ BitVec.ofInt 64 (b : Int)).toNat : Int) = _
  have h1 : (BitVec.ofInt 64 (a : Int)).toNat = a := by
    rw [BitVec.ofInt_natCast, BitVec.toNat_ofNat]; exact Nat.mod_eq_of_lt (by omega)
  have h2 : (BitVec.ofInt 64 (b : Int)).toNat = b := by
    rw [BitVec.ofInt_natCast, BitVec.toNat_ofNat]; exact Nat.mod_eq_of_lt (by omega)
  rw [BitVec.toNat_xor, h1, h2, IntKind.wrap_i64]
  omega
theorem ret_i64 {a b : Int} (h : a = b) : Ending.returned (.int .i64 a) = .returned (.int .i64 b) := by rw [h]
theorem emod_nat (x m : Int) (_hx : 0 ≤ x) (hm : 1 ≤ m) : ∃ k : Nat, x % m = k ∧ (k : Int) < m := ⟨(x % m).toNat, by have := Int.emod_nonneg x (show m ≠ 0 by omega); omega, by have := Int.emod_nonneg x (show m ≠ 0 by omega); have := Int.emod_lt_of_pos x (show 0 < m by omega); omega⟩

theorem pick_val (X m : Int) (h0 : 0 ≤ X) (hX : X < 1000000000) (hm : 1 ≤ m) : ∃ k : Nat, (bits .xor .i64 X (X / 64)).tmod m = k ∧ (k : Int) < m := by
  obtain ⟨a, rfl⟩ : ∃ a : Nat, X = a := ⟨X.toNat, by omega⟩
  rw [show (a : Int) / 64 = ((a / 64 : Nat) : Int) by omega, xor_i64 a (a / 64) (by omega) (by omega), Int.tmod_eq_emod_of_nonneg (by omega)]
  exact emod_nat _ m (by omega) hm

set_option maxRecDepth 100000 in
set_option maxHeartbeats 3200000 in
theorem pick_any (B R : Nat) (a : Option Addr) (n c p : Nat) (m : Int) (w : World) (h : Rd w B R a n c p) (hp : p ≤ 5000) (hm : m ≤ 9223372036854775807) (hm' : -9223372036854775808 ≤ m) :
    Calls Try.prog 26 #[.pointer (some ⟨R, 0, none⟩), .int .i64 m] w (Picked B R a n c p m w) := by
  have c0 := h.cell0
  have c1 := h.cell1
  have f1 := h.free 1
  have hst := h.step (p + 1)
  rw [show ((p + 1 : Nat) : Int) = (p : Int) + 1 by omega] at hst
  have HST := Lib.hid hst
  have hlen := h.len
  clear hst
  by_cases h1 : m < 1
  · have d1 : decide (m < 1) = true := decide_eq_true h1
    go_enter Try.func26, Try.ntmps26
    go_wp2
    go_ret
    exact ⟨0, rfl, fun h => by omega, fun _ => rfl, HST.out.1, HST.out.2⟩
  · have d1 : decide (m < 1) = false := decide_eq_false h1
    have hm0 : (m == 0) = false := beq_false_of_ne (by omega)
    by_cases hn : n = 0
    · subst hn
      go_enter Try.func26, Try.ntmps26
      go_wp2
      go_ret
      exact ⟨0, rfl, fun _ => by omega, fun _ => rfl, HST.out.1, HST.out.2⟩
    · have hn0 : ((n : Int) == 0) = false := beq_false_of_ne (by omega)
      by_cases hpn : p < n
      · obtain ⟨b, off, x, rfl, hbB, hx, hx0, hx1⟩ := HST.out.1.bytes p hpn
        have i1 : (p : Int) < (n : Int) := by omega
        obtain ⟨k, hk, hkm⟩ := emod_nat x m hx0 (by omega)
        have HK := Lib.hid hk
        clear hk
        go_enter Try.func26, Try.ntmps26
        go_wp2
        go_ret
        exact ⟨k, ret_i64 HK.out, fun _ => hkm, fun h => by omega, HST.out.1, HST.out.2⟩
      · obtain ⟨b, off, x, rfl, hbB, hx, hx0, hx1⟩ := HST.out.1.bytes (p % n) (Nat.mod_lt _ (by omega))
        obtain ⟨b', off', y, hbb, hbB', hy, hy0, hy1⟩ := HST.out.1.bytes ((p * 7 + 3) % n) (Nat.mod_lt _ (by omega))
        simp only [Option.some.injEq, Addr.mk.injEq, and_true] at hbb
        obtain ⟨rfl, rfl⟩ := hbb
        have i0 : ¬ (p : Int) < (n : Int) := by omega
        have i1 : (0 : Int) ≤ (p : Int) % (n : Int) := by omega
        have i2 : (p : Int) % (n : Int) < (n : Int) := Int.emod_lt_of_pos _ (by omega)
        have j1 : (0 : Int) ≤ ((p : Int) * 7 + 3) % (n : Int) := Int.emod_nonneg _ (by omega)
        have j2 : ((p : Int) * 7 + 3) % (n : Int) < (n : Int) := Int.emod_lt_of_pos _ (by omega)
        have e1 : ((p : Int) % (n : Int)).toNat = p % n := by omega
        have e2 : (((p : Int) * 7 + 3) % (n : Int)).toNat = (p * 7 + 3) % n := by
          rw [show ((p : Int) * 7 + 3) % (n : Int) = (((p * 7 + 3) % n : Nat) : Int) by push_cast; rfl]; rfl
        have q1 : (0 : Int) ≤ (p : Int) / (n : Int) := Int.ediv_nonneg (by omega) (by omega)
        have q2 : (p : Int) / (n : Int) ≤ (p : Int) := Int.ediv_le_self _ (by omega)
        clear hbB'
        go_enter Try.func26, Try.ntmps26
        go_wp2
        go_quiet (fail)
        go_wp2
        go_ret
        obtain ⟨k, hk, hkm⟩ := pick_val (x * 131 + y * 1117 + (p : Int) * 29 + (p : Int) / (n : Int) * 53) m (by omega) (by omega) (by omega)
        exact ⟨k, ret_i64 hk, fun _ => hkm, fun h => by omega, HST.out.1.drewN _, HST.out.2.drewN _⟩
end Go.Proofs.Ytafdlilojlmchaa

namespace Go.Proofs.Ytafdlilojlmchaa
open Go.RowKit

theorem Try.infoInt : (Try.prog.info? 3).map (fun i => (i.zero, i.size, i.bytes)) = some (some (.int .i64 0), 1, 8) := by kernel_rfl

/-- a slice of the call's own whose cells are xs -/
def Owns (w : World) (t : TypeId) (xs : List Value) (P : Value → Prop) (e : Ending) (w' : World) : Prop := ∃ v, e = .returned v ∧ w'.ownsRow w.heap.size t 1 v xs.length xs ∧ Below w.heap.size w w' ∧ P v

theorem below_drewN {B : Nat} {a w : World} (h : Below B a w) (n : Nat) : Below B a (w.drewN n) := h.trans ⟨rfl, rfl, rfl, Nat.le_refl _, fun _ _ => rfl⟩
theorem own_form {w : World} {base : Nat} {e : TypeId} {size : Nat} {v : Value} {n : Nat} {xs : List Value} (h : w.ownsRow base e size v n xs) (hn : 0 < n) : ∃ g cap, v = .slice (some ⟨g, 0, none⟩) n cap ∧ base ≤ g ∧ g < w.heap.size ∧ n ≤ cap ∧ cap ≤ maxLen := by
  rcases h.2 with ⟨_, h0⟩ | ⟨g, cap, cur, rfl, hg, hh, hc, hm, _⟩
  · omega
  · exact ⟨g, cap, rfl, hg, (Array.getElem?_eq_some_iff.1 hh).1, hc, hm⟩

end Go.Proofs.Ytafdlilojlmchaa

namespace Go.Proofs.Ytafdlilojlmchaa
open Go.RowKit

/-- some number -/
def SomeI (w : World) (e : Ending) (w' : World) : Prop := ∃ x : Int, e = .returned (.int .i64 x) ∧ w = w'

/-- a text's length, for a loop's measure -/
def sizeOfT : Value → Nat | .string s => s.size | _ => 0
/-- some text that is not long -/
def SomeT (k : Nat) (w : World) (e : Ending) (w' : World) : Prop := ∃ s : ByteArray, e = .returned (.string s) ∧ s.size ≤ k ∧ w = w'

end Go.Proofs.Ytafdlilojlmchaa

namespace Go.Proofs.Ytafdlilojlmchaa
open Go.RowKit

theorem Own.only {w w' : World} {B H R : Nat} {t : TypeId} {v : Value} {xs : List Value} (h : Own w B H t v xs) (hb : Only R w w') (hne : v.ownBlock ≠ some R) : Own w' B H t v xs :=
  ⟨own_of_blocks h.1 fun g hg => hb.block g (fun e => hne (by rw [hg, e])), h.2⟩

/-- one of the numbers -/
def OneOf (l : List Int) (B R : Nat) (a : Option Addr) (n c p : Nat) (w : World) (e : Ending) (w' : World) : Prop :=
  ∃ x, x ∈ l ∧ e = .returned (.int .i64 x) ∧ Rd w' B R a n c (p + 1) ∧ Only R w w'

set_option maxHeartbeats 800000 in
theorem one_any (l : List Int) (v : Value) (B R : Nat) (a : Option Addr) (n c p : Nat) (w : World) {B' H : Nat} (h : Hid (Rd w B R a n c p)) (hp : p ≤ 5000) (hv : Hid (Own w B' H 3 v (iv l))) (hne : v.ownBlock ≠ some R) (hl : 0 < l.length) (hl2 : l.length ≤ 1000) :
    Calls Try.prog 24 #[.pointer (some ⟨R, 0, none⟩), v] w (OneOf l B R a n c p w) := by
  obtain ⟨av, cv, rfl, _, hcv, _, _⟩ := hv.out.slice
  have HNE := Lib.hid hne
  rw [iv_length] at hv hcv ⊢
  clear hne
  go_enter Try.func24, Try.ntmps24
  go_wp2_with fail
  refine (pick_any B R a n c p _ _ h.out hp (by omega) (by omega)).mono ?_
  rintro e w1 ⟨k, rfl, hk, _, hrd, honly⟩
  have hk1 := hk (by omega)
  have hkl : k < l.length := by omega
  obtain ⟨g, rfl, _, _, hc, _⟩ := (hv.out.only honly (by have := HNE.out; rw [iv_length] at this; exact this)).at_ k (by rw [iv_length]; exact hkl)
  rw [iv_at l k hkl] at hc
  have R1 := Lib.hid hrd
  have O1 := Lib.hid honly
  have HM := Lib.hid (show l[k] ∈ l from List.getElem_mem hkl)
  obtain ⟨x, hx⟩ : ∃ x, x = l[k] := ⟨_, rfl⟩
  rw [← hx] at hc HM
  have i1 : (k : Int) < (l.length : Int) := by omega
  clear hk hrd honly hx
  go_wp2
  go_ret
  exact ⟨x, HM.out, rfl, R1.out, O1.out⟩

/-- a text that is not long; the reader one place on -/
def TextOf (q : Nat) (B R : Nat) (a : Option Addr) (n c p d : Nat) (w : World) (e : Ending) (w' : World) : Prop :=
  ∃ s : ByteArray, e = .returned (.string s) ∧ s.size ≤ q ∧ Rd w' B R a n c (p + d) ∧ Below B w w'

theorem Rd.grow {w w' : World} {B R n c p : Nat} {a : Option Addr} (h : Rd w B R a n c p) (hb : Below w.heap.size w w') : Rd w' B R a n c p := h.below hb h.lt

end Go.Proofs.Ytafdlilojlmchaa

namespace Go.Proofs.Ytafdlilojlmchaa
open Go.RowKit

/-- short texts -/
def Short (xs : List Value) : Prop := ∀ (i : Nat) (x : Value), xs[i]? = some x → ∃ s : ByteArray, x = .string s ∧ s.size ≤ 2

theorem lit_own (w : World) (cs : Array Value) (t : TypeId) (hm : cs.size ≤ maxLen) : Own (w.alloc (.cells cs t)) w.heap.size (w.heap.size + 1) t (.slice (some ⟨w.heap.size, 0, none⟩) cs.size cs.size) cs.toList := by
  have := World.ownsRow_lit (base := w.heap.size) (e := t) (size := 1) w cs cs.size (Nat.le_refl _) hm (by omega)
  exact ⟨by rw [Array.length_toList]; exact this, fun g hg => by simp [Value.ownBlock] at hg; omega⟩

def shortB (x : Value) : Bool := match x with | .string s => decide (s.size ≤ 2) | _ => false
theorem short_list (xs : List Value) (h : xs.all shortB = true) : Short xs := by
  intro i x hx
  have hm := List.all_eq_true.1 h x (List.mem_of_getElem? hx)
  unfold shortB at hm
  split at hm
  · exact ⟨_, rfl, of_decide_eq_true hm⟩
  · cases hm

end Go.Proofs.Ytafdlilojlmchaa

namespace Go.Proofs.Ytafdlilojlmchaa
open Go.RowKit

/-- a slice of bytes that came in, of whatever length -/
theorem newReader_any (a : Option Addr) (len cap : Nat) (zs : List Int) (w : World) (hr : IsRow .u8 w a len cap zs) (hl : len ≤ 1048576) :
    Calls Try.prog 23 #[.slice a len cap] w fun e w' => ∃ n R, e = .returned (.pointer (some ⟨R, 0, none⟩)) ∧ Rd w' w.heap.size R a n cap 0 ∧ Below w.heap.size w w' := by
  have hlen := hr.len
  have hby : ∀ i : Nat, i < len → ∃ b off x, a = some ⟨b, off, none⟩ ∧ b < w.heap.size ∧ w.cell? ⟨b, off + i, none⟩ = some (.int .u8 x) ∧ 0 ≤ x ∧ x ≤ 255 := by
    intro i hi
    obtain ⟨b, off, h1, h2⟩ := hr.at_ i hi
    refine ⟨b, off, zs.getD i 0, h1, World.block_lt_of_cell? w _ h2, h2, ?_⟩
    rcases hr with ⟨_, h0, _⟩ | ⟨x, _, _, _, h4, _, h6⟩
    · omega
    · have hm : zs.getD i 0 ∈ zs := by
        have hi2 : i < zs.length := by omega
        simp [List.getElem?_eq_getElem hi2]
      have hw := h6 _ hm
      have := bounds_u8 hw
      omega
  have HB := Lib.hid hby
  clear hby hr
  by_cases h2 : len ≤ 2000
  · have q1 : ¬ (2000 : Int) < (len : Int) := by omega
    go_enter Try.func23, Try.ntmps23
    go_wp2
    go_ret
    refine ⟨len, w.heap.size, rfl, ⟨heap_alloc_new w _, Nat.le_refl _, h2, fun i hi => ?_⟩, (Below.refl _ _).alloc (Nat.le_refl _) _⟩
    obtain ⟨b, off, x, e1, e2, e3, e4⟩ := HB.out i hi
    exact ⟨b, off, x, e1, e2, (World.cell?_alloc_lt w _ _ e2).trans e3, e4⟩
  · have q1 : (2000 : Int) < (len : Int) := by omega
    go_enter Try.func23, Try.ntmps23
    go_wp2
    go_ret
    refine ⟨2000, w.heap.size, rfl, ⟨heap_alloc_new w _, Nat.le_refl _, Nat.le_refl _, fun i hi => ?_⟩, (Below.refl _ _).alloc (Nat.le_refl _) _⟩
    obtain ⟨b, off, x, e1, e2, e3, e4⟩ := HB.out i (by omega)
    exact ⟨b, off, x, e1, e2, (World.cell?_alloc_lt w _ _ e2).trans e3, e4⟩
end Go.Proofs.Ytafdlilojlmchaa

namespace Go.Proofs.Ytafdlilojlmchaa
open Go.RowKit

theorem rd_ne {w : World} {B B1 H R n c p : Nat} {a : Option Addr} {t : TypeId} {v : Value} {xs : List Value} (hO : Own w B1 H t v xs) (h : Rd w B R a n c p) (ht : t ≠ 86) : v.ownBlock ≠ some R := by
  rcases hO.1.2 with ⟨h0, _⟩ | ⟨g, cap, cur, e, _, hb, _⟩
  · subst h0; simp [Value.ownBlock]
  · subst e
    intro e
    simp only [Value.ownBlock, Option.some.injEq] at e
    subst e
    have := h.blk
    rw [hb] at this
    simp only [Option.some.injEq, Obj.cells.injEq] at this
    exact ht this.2.1
theorem Grid.only {w w' : World} {B B1 H R n c p : Nat} {a : Option Addr} {v : Value} {RV : List Value} {rows : List (List Int)} (hG : Grid w B1 H v RV rows) (h : Rd w B R a n c p) (ho : Only R w w') : Grid w' B1 H v RV rows :=
  ⟨hG.1.only ho (rd_ne hG.1 h (by decide)), hG.2.1, fun i u r h1 h2 => (hG.2.2 i u r h1 h2).only ho (rd_ne (hG.2.2 i u r h1 h2) h (by decide))⟩
/-- one row is put in the place of another one -/
theorem Grid.put {w : World} {B H g c0 k : Nat} {u : Value} {r : List Int} {RV : List Value} {rows : List (List Int)} (hG : Grid w B H (.slice (some ⟨g, 0, none⟩) rows.length c0) RV rows) (hk : k < rows.length) (hu : Own w B H 3 u (iv r)) :
    Grid (w.setCell ⟨g, k, none⟩ u) B H (.slice (some ⟨g, 0, none⟩) rows.length c0) (RV.set k u) (rows.set k r) := by
  have lu := hG.2.1
  have ho1 := hG.1.1
  rw [lu] at ho1
  have st := ho1.stored k u
  have far : ∀ {v : Value} {xs : List Value}, Own w B H 3 v xs → Own (w.setCell ⟨g, k, none⟩ u) B H 3 v xs := fun {v xs} h => by
    have hne := h.ne hG.1 (by decide)
    exact ⟨own_of_blocks h.1 (fun q hq => Below.heap_setCell _ _ _ _ (fun e => by
      rcases hne with h0 | h0
      · rw [h0] at hq; cases hq
      · apply h0; rw [hq, e]; rfl)), h.2⟩
  refine ⟨⟨by rw [List.length_set, lu]; exact st.1, hG.1.2⟩, by rw [List.length_set, List.length_set]; exact lu, fun i v x h1 h2 => ?_⟩
  by_cases e : i = k
  · subst e
    rw [List.getElem?_set_self (by omega)] at h1 h2
    cases h1; cases h2
    exact far hu
  · rw [List.getElem?_set_ne (by omega)] at h1 h2
    exact far (hG.2.2 i v x h1 h2)
end Go.Proofs.Ytafdlilojlmchaa
