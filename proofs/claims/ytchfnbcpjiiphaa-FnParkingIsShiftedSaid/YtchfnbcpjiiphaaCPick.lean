/-
  The contract of the reader's function that draws a number: whatever the code, it lies in the range.
-/
import Derived.Test.YtchfnbcpjiiphaaZW
import Derived.Test.YtchfnbcpjiiphaaProg
import Derived.WalkSpells
import Derived.WalkLawsBesides
import Derived.Lib.Hide
import Derived.BigQuiet
import Derived.Deep.QuietTactic
namespace Go.Proofs.Ytchfnbcpjiiphaa
open Go.RowKit

/-- a reader in block R: its bytes (below block B), and its place -/
structure Rd (w : World) (B R : Nat) (a : Option Addr) (n c : Nat) (p : Nat) : Prop where
  blk : w.heap[R]? = some (.cells #[.slice a n c, .int .i64 p] 45 (0, 0))
  low : B ≤ R
  len : n ≤ 2000
  bytes : ∀ i : Nat, i < n → ∃ b off x, a = some ⟨b, off, none⟩ ∧ b < B ∧ w.cell? ⟨b, off + i, none⟩ = some (.int .u8 x) ∧ 0 ≤ x ∧ x ≤ 255

/-- nothing has changed but block R -/
structure Only (R : Nat) (w w' : World) : Prop where
  os : w'.os = w.os
  tape : w'.tape = w.tape
  output : w'.output = w.output
  size : w'.heap.size = w.heap.size
  block : ∀ k, k ≠ R → w'.heap[k]? = w.heap[k]?
theorem Only.below {R B : Nat} {w w' : World} (h : Only R w w') (hB : B ≤ R) : Below B w w' := ⟨h.os, h.tape, h.output, by rw [h.size]; exact Nat.le_refl _, fun k hk => h.block k (by omega)⟩
theorem Only.refl (R : Nat) (w : World) : Only R w w := ⟨rfl, rfl, rfl, rfl, fun _ _ => rfl⟩
theorem Only.trans {R : Nat} {a b c : World} (h : Only R a b) (k : Only R b c) : Only R a c := ⟨k.os.trans h.os, k.tape.trans h.tape, k.output.trans h.output, k.size.trans h.size, fun q hq => (k.block q hq).trans (h.block q hq)⟩
theorem Only.drewN {R : Nat} {w w' : World} (h : Only R w w') (n : Nat) : Only R w (w'.drewN n) := ⟨h.os, h.tape, h.output, h.size, h.block⟩

section
variable {w w' : World} {B R n c p : Nat} {a : Option Addr}
theorem Rd.lt (h : Rd w B R a n c p) : R < w.heap.size := (Array.getElem?_eq_some_iff.1 h.blk).1
theorem Rd.below {H : Nat} (h : Rd w B R a n c p) (hb : Below H w w') (hR : R < H) : Rd w' B R a n c p :=
  ⟨by rw [hb.block R hR]; exact h.blk, h.low, h.len, fun i hi => by
    obtain ⟨b, off, x, h1, h2, h3, h4⟩ := h.bytes i hi
    exact ⟨b, off, x, h1, h2, (hb.cell (p := ⟨b, off + i, none⟩) (by show b < H; have := h.low; omega)).trans h3, h4⟩⟩
theorem Rd.cell0 (h : Rd w B R a n c p) : w.cell? ⟨R, 0, none⟩ = some (.slice a n c) := by rw [cell_of_row w R 0 _ _ _ h.blk]; rfl
theorem Rd.cell1 (h : Rd w B R a n c p) : w.cell? ⟨R, 1, none⟩ = some (.int .i64 p) := by rw [cell_of_row w R 1 _ _ _ h.blk]; rfl
theorem Rd.free (h : Rd w B R a n c p) (j : Nat) : w.frozen? ⟨R, j, none⟩ = false := frozen_of_row w R j _ _ h.blk
theorem Rd.step (h : Rd w B R a n c p) (q : Nat) : Rd (w.setCell ⟨R, 1, none⟩ (.int .i64 q)) B R a n c q ∧ Only R w (w.setCell ⟨R, 1, none⟩ (.int .i64 q)) := by
  refine ⟨⟨?_, h.low, h.len, fun i hi => ?_⟩, ⟨rfl, rfl, rfl, by simp [World.setCell], fun k hk => Below.heap_setCell _ _ _ _ hk⟩⟩
  · rw [heap_setCell_same w R 1 _ _ _ h.blk]; rfl
  · obtain ⟨b, off, x, h1, h2, h3, h4⟩ := h.bytes i hi
    refine ⟨b, off, x, h1, h2, ?_, h4⟩
    rw [World.cell?_of_block (w := w) (Below.heap_setCell _ _ _ _ (by show b ≠ R; have := h.low; omega))]
    exact h3
theorem Rd.drewN (h : Rd w B R a n c p) (k : Nat) : Rd (w.drewN k) B R a n c p := ⟨h.blk, h.low, h.len, h.bytes⟩
end

/-- a number has been drawn -/
def Picked (B R : Nat) (a : Option Addr) (n c p : Nat) (m : Int) (w : World) (e : Ending) (w' : World) : Prop :=
  ∃ x : Nat, e = .returned (.int .i64 x) ∧ (1 ≤ m → (x : Int) < m) ∧ (m < 1 → x = 0) ∧ Rd w' B R a n c (p + 1) ∧ Only R w w'

theorem xor_i64 (a b : Nat) (ha : a < 2 ^ 62) (hb : b < 2 ^ 62) : bits .xor .i64 (a : Int) (b : Int) = ((a ^^^ b : Nat) : Int) := by
  have hx : a ^^^ b < 2 ^ 62 := Nat.xor_lt_two_pow ha hb
  show IntKind.i64.wrap ((BitVec.ofInt 64 (a : Int) ^^^ BitVec.ofInt 64 (b : Int)).toNat : Int) = _
  have h1 : (BitVec.ofInt 64 (a : Int)).toNat = a := by
    rw [BitVec.ofInt_natCast, BitVec.toNat_ofNat]; exact Nat.mod_eq_of_lt (by omega)
  have h2 : (BitVec.ofInt 64 (b : Int)).toNat = b := by
    rw [BitVec.ofInt_natCast, BitVec.toNat_ofNat]; exact Nat.mod_eq_of_lt (by omega)
  rw [BitVec.toNat_xor, h1, h2, IntKind.wrap_i64]
  omega
theorem ret_i64 {a b : Int} (h : a = b) : Ending.returned (.int .i64 a) = .returned (.int .i64 b) := by rw [h]
theorem emod_nat (x m : Int) (_hx : 0 ≤ x) (hm : 1 ≤ m) : ∃ k : Nat, x % m = k ∧ (k : Int) < m := ⟨(x % m).toNat, by have := Int.emod_nonneg x (show m ≠ 0 by omega); omega, by have := Int.emod_nonneg x (show m ≠ 0 by omega); have := Int.emod_lt_of_pos x (show 0 < m by omega); omega⟩

theorem pick_val (X m : Int) (h0 : 0 ≤ X) (hX : X < 1000000000) (hm : 1 ≤ m) : ∃ k : Nat, (bits .xor .i64 X (X / 64)).tmod m = k ∧ (k : Int) < m := by
  obtain ⟨a, rfl⟩ : ∃ a : Nat, X = a := ⟨X.toNat, by omega⟩
  rw [show (a : Int) / 64 = ((a / 64 : Nat) : Int) by omega, xor_i64 a (a / 64) (by omega) (by omega), Int.tmod_eq_emod_of_nonneg (by omega)]
  exact emod_nat _ m (by omega) hm

set_option maxRecDepth 100000 in
set_option maxHeartbeats 3200000 in
theorem pick_any (B R : Nat) (a : Option Addr) (n c p : Nat) (m : Int) (w : World) (h : Rd w B R a n c p) (hp : p ≤ 5000) (hm : m ≤ 9223372036854775807) (hm' : -9223372036854775808 ≤ m) :
    Calls Try.prog 51 #[.pointer (some ⟨R, 0, none⟩), .int .i64 m] w (Picked B R a n c p m w) := by
  have c0 := h.cell0
  have c1 := h.cell1
  have f1 := h.free 1
  have hst := h.step (p + 1)
  rw [show ((p + 1 : Nat) : Int) = (p : Int) + 1 by omega] at hst
  have HST := Lib.hid hst
  have hlen := h.len
  clear hst
  by_cases h1 : m < 1
  · have d1 : decide (m < 1) = true := decide_eq_true h1
    go_enter Try.func51, Try.ntmps51
    go_wp2
    go_ret
    exact ⟨0, rfl, fun h => by omega, fun _ => rfl, HST.out.1, HST.out.2⟩
  · have d1 : decide (m < 1) = false := decide_eq_false h1
    have hm0 : (m == 0) = false := beq_false_of_ne (by omega)
    by_cases hn : n = 0
    · subst hn
      go_enter Try.func51, Try.ntmps51
      go_wp2
      go_ret
      exact ⟨0, rfl, fun _ => by omega, fun _ => rfl, HST.out.1, HST.out.2⟩
    · have hn0 : ((n : Int) == 0) = false := beq_false_of_ne (by omega)
      by_cases hpn : p < n
      · obtain ⟨b, off, x, rfl, hbB, hx, hx0, hx1⟩ := HST.out.1.bytes p hpn
        have i1 : (p : Int) < (n : Int) := by omega
        obtain ⟨k, hk, hkm⟩ := emod_nat x m hx0 (by omega)
        have HK := Lib.hid hk
        clear hk
        go_enter Try.func51, Try.ntmps51
        go_wp2
        go_ret
        exact ⟨k, ret_i64 HK.out, fun _ => hkm, fun h => by omega, HST.out.1, HST.out.2⟩
      · obtain ⟨b, off, x, rfl, hbB, hx, hx0, hx1⟩ := HST.out.1.bytes (p % n) (Nat.mod_lt _ (by omega))
        obtain ⟨b', off', y, hbb, hbB', hy, hy0, hy1⟩ := HST.out.1.bytes ((p * 7 + 3) % n) (Nat.mod_lt _ (by omega))
        simp only [Option.some.injEq, Addr.mk.injEq, and_true] at hbb
        obtain ⟨rfl, rfl⟩ := hbb
        have i0 : ¬ (p : Int) < (n : Int) := by omega
        have i1 : (0 : Int) ≤ (p : Int) % (n : Int) := by omega
        have i2 : (p : Int) % (n : Int) < (n : Int) := Int.emod_lt_of_pos _ (by omega)
        have j1 : (0 : Int) ≤ ((p : Int) * 7 + 3) % (n : Int) := Int.emod_nonneg _ (by omega)
        have j2 : ((p : Int) * 7 + 3) % (n : Int) < (n : Int) := Int.emod_lt_of_pos _ (by omega)
        have e1 : ((p : Int) % (n : Int)).toNat = p % n := by omega
        have e2 : (((p : Int) * 7 + 3) % (n : Int)).toNat = (p * 7 + 3) % n := by
          rw [show ((p : Int) * 7 + 3) % (n : Int) = (((p * 7 + 3) % n : Nat) : Int) by push_cast; rfl]; rfl
        have q1 : (0 : Int) ≤ (p : Int) / (n : Int) := Int.ediv_nonneg (by omega) (by omega)
        have q2 : (p : Int) / (n : Int) ≤ (p : Int) := Int.ediv_le_self _ (by omega)
        clear hbB'
        go_enter Try.func51, Try.ntmps51
        go_wp2
        go_quiet (fail)
        go_wp2
        go_ret
        obtain ⟨k, hk, hkm⟩ := pick_val (x * 131 + y * 1117 + (p : Int) * 29 + (p : Int) / (n : Int) * 53) m (by omega) (by omega) (by omega)
        exact ⟨k, ret_i64 hk, fun _ => hkm, fun h => by omega, HST.out.1.drewN _, HST.out.2.drewN _⟩
end Go.Proofs.Ytchfnbcpjiiphaa
