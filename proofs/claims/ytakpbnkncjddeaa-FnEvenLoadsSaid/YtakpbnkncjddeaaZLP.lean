/-
  Numbers of a literal, and the shape of an own row.
  The library's least of a row of the call's own.
-/
import Derived.Test.YtakpbnkncjddeaaZR
import Derived.Test.YtakpbnkncjddeaaCJcS
import Derived.Test.YtakpbnkncjddeaaZLS
import Derived.Test.YtakpbnkncjddeaaZL
import Derived.Test.YtakpbnkncjddeaaShelf
namespace Go.Proofs.Ytakpbnkncjddeaa
open Go.RowKit

theorem lit_rdP (W : World) (x : Int) : RdI (W.alloc (.cells #[.int .i64 x] 3)) (W.heap.size + 1) (some ⟨W.heap.size, 0, none⟩) [x] := fun j hj => by
  obtain rfl : j = 0 := by simp at hj; exact hj
  exact ⟨_, _, rfl, by omega, by rw [World.cell?_alloc_new]; rfl⟩
theorem own_formN {w : World} {base n : Nat} {e : TypeId} {v : Value} {xs : List Value} (h : w.ownsRow base e 1 v n xs) : ∃ av cv, v = .slice av n cv := by
  rcases h.2 with ⟨rfl, rfl⟩ | ⟨g, cap, cur, rfl, _⟩
  · exact ⟨_, _, rfl⟩
  · exact ⟨_, _, rfl⟩
/-- an own row of numbers can be read -/
theorem row_rdP {w : World} {B : Nat} {a : Option Addr} {n c : Nat} {l : List Int} (h : w.ownsRow B 3 1 (.slice a n c) n (iv l)) : RdI w w.heap.size a l := (own_rdG (Own.of_own (by have := h.1; rw [iv_length, Nat.mul_one] at this; rw [iv_length, this]; exact h))).2
theorem bsP_le {L : List Nat} (h7 : L.length ≤ 7) (h20 : ∀ x ∈ L, x ≤ 20) : bsC L ≤ 980 := by
  have := bsC_most L.length L (Nat.le_refl _)
  have := sum_bd h20
  have h : L.length * L.sum ≤ 7 * (20 * 7) := Nat.mul_le_mul h7 (Nat.le_trans this (Nat.mul_le_mul_left _ h7))
  omega
theorem fcP_le {L : List Nat} (h7 : L.length ≤ 7) (h20 : ∀ x ∈ L, x ≤ 20) : fcC L ≤ 980 := by
  have := fcC_most L.length L (Nat.le_refl _)
  have := sum_bd h20
  have h : L.length * L.sum ≤ 7 * (20 * 7) := Nat.mul_le_mul h7 (Nat.le_trans this (Nat.mul_le_mul_left _ h7))
  omega
theorem fcC_none {w : List Nat} (h : w.length = 0) : fcC w = 0 := by rw [List.eq_nil_of_length_eq_zero h]; rfl
end Go.Proofs.Ytakpbnkncjddeaa

namespace Go.Proofs.Ytakpbnkncjddeaa
open Go.RowKit

theorem rd_cellsP {w : World} {H : Nat} {b off : Nat} {l : List Int} (h : RdI w H (some ⟨b, off, none⟩) l) : ∀ j, j < l.length → w.cell? ⟨b, off + j, none⟩ = some (.int .i64 (l.getD j 0)) := fun j hj => by
  obtain ⟨b', o', e, _, h3⟩ := h j hj
  simp only [Option.some.injEq, Addr.mk.injEq] at e
  obtain ⟨rfl, rfl, _⟩ := e
  rw [h3, List.getD_eq_getElem?_getD, List.getElem?_eq_getElem hj]; rfl
theorem minRow_p (Q : List Nat) (a : Option Addr) (n c B : Nat) (w : World) (h : w.ownsRow B 3 1 (.slice a n c) n (iv (ldI Q))) (hn : 0 < n) (hb : n ≤ 1000) :
    Calls Try.prog 50 #[.slice a n c] w fun e w' => e = .returned (.int .i64 (Lib.minOf (ldI Q))) ∧ w' = w := by
  have hl := h.1
  rw [iv_length, Nat.mul_one] at hl
  have hr := row_rdP h
  rcases h.2 with ⟨_, h0⟩ | ⟨g, cap, cur, e, _⟩
  · omega
  · cases e
    refine (Try.slices_Min_int g 0 n c (ldI Q) w hn (by omega) (by omega) (rd_cellsP hr)).mono ?_
    rintro e w' ⟨rfl, rfl⟩
    rw [List.take_of_length_le (by omega)]
    exact ⟨rfl, rfl⟩
end Go.Proofs.Ytakpbnkncjddeaa
