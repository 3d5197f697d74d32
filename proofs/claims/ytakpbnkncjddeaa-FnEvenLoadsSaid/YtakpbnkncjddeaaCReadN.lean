/-
  The contracts of the functions that go through a word's tree: a node's number, how many nodes, the nodes' arms, the nodes between their arms, the triangles.
-/
import Derived.Test.YtakpbnkncjddeaaZN
import Derived.Test.YtakpbnkncjddeaaZB
import Derived.Test.YtakpbnkncjddeaaZY
namespace Go.Proofs.Ytakpbnkncjddeaa
open Go.RowKit

theorem TA.nil {w : World} {B H f n : Nat} {p : Option Addr} (h : TA w B H f [] n p) : p = none := by
  cases f with
  | zero => exact h
  | succ f =>
    rcases h with h | ⟨h0, _⟩
    · exact h.2
    · exact absurd rfl h0
theorem TA.drewN {w : World} {B H : Nat} {f : Nat} {s : List UInt8} {n : Nat} {p : Option Addr} (h : TA w B H f s n p) (m : Nat) : TA (w.drewN m) B H f s n p := by
  have hb : Below H w (w.drewN m) := ⟨rfl, rfl, rfl, Nat.le_refl _, fun _ _ => rfl⟩
  exact TA.below hb f s n p h
theorem numberOf_any {B H : Nat} (f : Nat) (s : List UInt8) (n : Nat) (p : Option Addr) (w : World) (hT : Hid (TA w B H f s n p)) (hf : Hid (scan s = some 0 ∧ s.length ≤ f)) :
    Calls Try.prog 76 #[.pointer p] w fun e w' => e = .returned (.int .i64 (rootA s n)) ∧ w' = w := by
  cases f with
  | zero =>
    have h0 : s = [] := List.eq_nil_of_length_eq_zero (by have := hf.out.2; omega)
    subst h0
    obtain rfl := hT.out.nil
    go_enter Try.func76, Try.ntmps76
    go_wp2
    go_ret
    exact ⟨rfl, rfl⟩
  | succ f =>
    rcases hT.out with ⟨rfl, rfl⟩ | ⟨h0, b, l, r, rfl, _, _, h4, _, _, _, _⟩
    · go_enter Try.func76, Try.ntmps76
      go_wp2
      go_ret
      exact ⟨rfl, rfl⟩
    · rw [rootA_cons n h0]
      clear h0
      go_enter Try.func76, Try.ntmps76
      go_wp2
      go_ret
      exact ⟨rfl, rfl⟩
/-- a row in the call's own memory, from the block H on -/
def RowFrom (H : Nat) (xs : List Nat) (w : World) (e : Ending) (w' : World) : Prop := ∃ v, e = .returned v ∧ w'.ownsRow H 3 1 v xs.length (ints xs) ∧ Below H w w'
end Go.Proofs.Ytakpbnkncjddeaa
