/-
  The contract of the function that appends the arms of a word's nodes to a list of rows.
-/
import Derived.Test.YtddhiokpdhahbaaCRowsN
import Derived.Deep.RegionLaw
import Derived.Deep.AppendLies
namespace Go.Proofs.Ytddhiokpdhahbaa
open Go.RowKit

theorem TA.same {w w' : World} {B H : Nat} {f : Nat} {s : List UInt8} {n : Nat} {p : Option Addr} (h : TA w B H f s n p) (e : w'.heap = w.heap) : TA w' B H f s n p := by
  revert h
  revert s n p
  induction f with
  | zero => intro s n p h; exact h
  | succ f ih =>
    intro s n p h
    have c : ∀ a, w'.cell? a = w.cell? a := fun a => World.cell?_of_block (by rw [e])
    rcases h with h | ⟨h0, b, l, r, h1, h2, h3, h4, h5, h6, h7, h8⟩
    · exact .inl h
    · exact .inr ⟨h0, b, l, r, h1, h2, h3, (c _).trans h4, (c _).trans h5, (c _).trans h6, ih h7, ih h8⟩
theorem rootA_lo (s : List UInt8) (n : Nat) : -1 ≤ rootA s n := by unfold rootA; split <;> omega

theorem grown_drew {w w' : World} {row : Option Nat} (h : w.drew.grownBy w' row) : w.grownBy w' row := ⟨h.1, h.2, h.3, h.4, h.5⟩
end Go.Proofs.Ytddhiokpdhahbaa
