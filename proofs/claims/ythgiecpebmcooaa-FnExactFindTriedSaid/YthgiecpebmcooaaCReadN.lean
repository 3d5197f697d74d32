/-
  The contracts of the functions that go through a word's tree: a node's number, how many nodes, the nodes' arms, the nodes between their arms, the triangles.
-/
import Derived.Test.YthgiecpebmcooaaZN
import Derived.Test.YthgiecpebmcooaaZB
import Derived.Test.YthgiecpebmcooaaZY
namespace Go.Proofs.Ythgiecpebmcooaa
open Go.RowKit

theorem TA.nil {w : World} {B H f n : Nat} {p : Option Addr} (h : TA w B H f [] n p) : p = none := by
  cases f with
  | zero => exact h
  | succ f =>
    rcases h with h | ⟨h0, _⟩
    · exact h.2
    · exact absurd rfl h0
theorem TA.drewN {w : World} {B H : Nat} {f : Nat} {s : List UInt8} {n : Nat} {p : Option Addr} (h : TA w B H f s n p) (m : Nat) : TA (w.drewN m) B H f s n p := by
  have hb : Below H w (w.drewN m) := ⟨rfl, rfl, rfl, Nat.le_refl _, fun _ _ => rfl⟩
  exact TA.below hb f s n p h
/-- a row in the call's own memory, from the block H on -/
def RowFrom (H : Nat) (xs : List Nat) (w : World) (e : Ending) (w' : World) : Prop := ∃ v, e = .returned v ∧ w'.ownsRow H 3 1 v xs.length (ints xs) ∧ Below H w w'
end Go.Proofs.Ythgiecpebmcooaa
