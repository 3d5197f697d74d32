/-
  The contract of the function that draws a web.
-/
import Derived.Test.YtohbkpccfhciaaaZD
import Derived.Test.YtohbkpccfhciaaaCGridPut
import Derived.Test.YtohbkpccfhciaaaCGridA
import Derived.Test.YtohbkpccfhciaaaZN
namespace Go.Proofs.Ytohbkpccfhciaaa
open Go.RowKit

theorem GridA.only {w w' : World} {B H R n c p : Nat} {a : Option Addr} {v : Value} {RV : List Value} {rows : List (List Int)} (h : GridA w H v RV rows) (hr : Rd w B R a n c p) (ho : Only R w w') : GridA w' H v RV rows :=
  ⟨(h.grid.only hr ho).more (Nat.le_of_eq ho.size.symm), h.dist⟩
theorem GridA.litW {w : World} {H : Nat} (hH : H ≤ w.heap.size) : GridA (w.alloc (.cells #[] 32)) H (.slice (some ⟨w.heap.size, 0, none⟩) 0 0) [] [] := by
  have h1 := World.ownsRow_lit (base := H) (e := 32) (size := 1) w #[] 0 hH (by decide) rfl
  exact ⟨⟨⟨h1, fun q hq => (h1.lt q hq).2⟩, RowsI.nil⟩, fun i j u v _ h => by simp at h⟩
/-- a number of nodes and some rows of two numbers -/
def WebDrawn (B R : Nat) (a : Option Addr) (n c : Nat) (w : World) (e : Ending) (w' : World) : Prop :=
  ∃ (m : Int) (rows : List (List Int)) (v : Value) (RV : List Value) (p H : Nat), e = .returned (.tuple #[.int .i64 m, v]) ∧ Grid w' H w'.heap.size v RV rows ∧ (1 ≤ m ∧ m ≤ 5) ∧ rows.length ≤ 9 ∧ (∀ r ∈ rows, r.length = 2) ∧ Below B w w' ∧ p ≤ 100 ∧ Rd w' B R a n c p ∧ R < H ∧ B ≤ H

/-- what the laws on webs are handed -/
def WebIn (B : Nat) (w : World) (e : Ending) (w' : World) : Prop :=
  ∃ (m : Int) (rows : List (List Int)) (v : Value) (RV : List Value), e = .returned (.tuple #[.int .i64 m, v]) ∧ Grid w' B w'.heap.size v RV rows ∧ (1 ≤ m ∧ m ≤ 5) ∧ rows.length ≤ 9 ∧ (∀ r ∈ rows, r.length = 2) ∧ Below B w w'
def WebInK (B : Nat) (w : World) (e : Ending) (w' : World) : Prop :=
  ∃ (m k : Int) (rows : List (List Int)) (v : Value) (RV : List Value), e = .returned (.tuple #[.int .i64 m, v, .int .i64 k]) ∧ Grid w' B w'.heap.size v RV rows ∧ (1 ≤ m ∧ m ≤ 5) ∧ (-1 ≤ k ∧ k ≤ 9) ∧ rows.length ≤ 9 ∧ (∀ r ∈ rows, r.length = 2) ∧ Below B w w'
end Go.Proofs.Ytohbkpccfhciaaa
