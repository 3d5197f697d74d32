/-
  The contracts of the functions that go through a word's tree: a node's number, how many nodes, the nodes' arms, the nodes between their arms, the triangles.
-/
import Derived.Test.YtmlcbeekimiaiaaCFirstN
import Derived.Test.YtmlcbeekimiaiaaZB
import Derived.Test.YtmlcbeekimiaiaaWOos
namespace Go.Proofs.Ytmlcbeekimiaiaa
open Go.RowKit

theorem TA.nil {w : World} {B H f n : Nat} {p : Option Addr} (h : TA w B H f [] n p) : p = none := by
  cases f with
  | zero => exact h
  | succ f =>
    rcases h with h | ⟨h0, _⟩
    · exact h.2
    · exact absurd rfl h0
theorem TA.drewN {w : World} {B H : Nat} {f : Nat} {s : List UInt8} {n : Nat} {p : Option Addr} (h : TA w B H f s n p) (m : Nat) : TA (w.drewN m) B H f s n p := by
  have hb : Below H w (w.drewN m) := ⟨rfl, rfl, rfl, Nat.le_refl _, fun _ _ => rfl⟩
  exact TA.below hb f s n p h
set_option maxHeartbeats 800000 in
theorem countNodes_any {B H : Nat} : ∀ (f : Nat) (s : List UInt8) (n : Nat) (p : Option Addr) (w : World), Hid (TA w B H f s n p) → Hid (scan s = some 0 ∧ s.length ≤ f) → f ≤ 18 →
    Calls Try.prog 48 #[.pointer p] w fun e w' => e = .returned (.int .i64 ((s.length / 2 : Nat) : Int)) ∧ ∃ m, w' = w.drewN m := by
  intro f
  induction f with
  | zero =>
    intro s n p w hT hf _
    have h0 : s = [] := List.eq_nil_of_length_eq_zero (by have := hf.out.2; omega)
    subst h0
    obtain rfl := hT.out.nil
    go_enter Try.func48, Try.ntmps48
    go_wp2
    go_ret
    exact ⟨rfl, 0, rfl⟩
  | succ f ih =>
    intro s n p w hT hf h18
    rcases hT.out with ⟨rfl, rfl⟩ | ⟨h0, b, l, r, rfl, _, _, h4, h5, h6, h7, h8⟩
    · clear ih
      go_enter Try.func48, Try.ntmps48
      go_wp2
      go_ret
      exact ⟨rfl, 0, rfl⟩
    · obtain ⟨_, _, k3, k4, _, k6⟩ := parts_ok hf.out.1 h0
      have e1 := fold_even _ 0 0 k3
      have e2 := fold_even _ 0 0 k4
      have hl := hf.out.2
      have I1 := Lib.hid (fun m => ih (fstL s) (n + 1) l (w.drewN m) (Lib.hid (h7.drewN m)) ⟨k3, by omega⟩ (by omega))
      have I2 := Lib.hid (fun m => ih (rstL s) (n + 1 + (fstL s).length / 2) r (w.drewN m) (Lib.hid (h8.drewN m)) ⟨k4, by omega⟩ (by omega))
      obtain ⟨a, ha⟩ : ∃ a, a = (fstL s).length / 2 := ⟨_, rfl⟩
      obtain ⟨c, hc⟩ : ∃ c, c = (rstL s).length / 2 := ⟨_, rfl⟩
      have e3 : s.length / 2 = a + 1 + c := by omega
      have b1 : a ≤ 9 := by omega
      have b2 : c ≤ 9 := by omega
      rw [e3]
      rw [← ha] at I1
      rw [← hc] at I2
      clear ih h7 h8 h0 k3 k4 k6 e1 e2 hl ha hc e3
      go_enter Try.func48, Try.ntmps48
      go_wp2
      go_quiet (first | (go_at_call_of 48 l; exact Calls.quiet_of (I1.out _)) | (go_at_call_of 48 r; exact Calls.quiet_of (I2.out _)))
      go_wp2
      go_ret
      exact ⟨rfl, nq, rfl⟩

/-- a row in the call's own memory, from the block H on -/
def RowFrom (H : Nat) (xs : List Nat) (w : World) (e : Ending) (w' : World) : Prop := ∃ v, e = .returned v ∧ w'.ownsRow H 3 1 v xs.length (ints xs) ∧ Below H w w'
end Go.Proofs.Ytmlcbeekimiaiaa
