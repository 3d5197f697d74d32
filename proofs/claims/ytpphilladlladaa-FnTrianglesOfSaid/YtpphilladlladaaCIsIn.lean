/-
  The contract of the laws' own test whether a number is in a list.
-/
import Derived.Test.YtpphilladlladaaCEqual
import Derived.Test.YtpphilladlladaaWFactsD
namespace Go.Proofs.Ytpphilladlladaa
open Go.RowKit

theorem ret_b {a b : Bool} (h : a = b) : Ending.returned (.bool a) = .returned (.bool b) := by rw [h]
theorem isInB_hit {l : List Int} {k : Nat} {x : Int} (hk : k < l.length) (h : l[k] = x) : isInB l x = true := by
  unfold isInB
  exact List.any_eq_true.2 ⟨l[k], List.getElem_mem hk, by rw [h]; exact beq_self_eq_true x⟩
theorem isInB_miss {l : List Int} {x : Int} (h : ∀ (k : Nat) (hk : k < l.length), l[k] ≠ x) : isInB l x = false := by
  cases e : isInB l x with
  | false => rfl
  | true =>
    obtain ⟨y, hy, hyx⟩ := List.any_eq_true.1 e
    obtain ⟨k, hk, rfl⟩ := List.getElem_of_mem hy
    exact absurd (eq_of_beq hyx) (h k hk)

set_option maxHeartbeats 800000 in
theorem isIn_any (l : List Int) (v : Value) (x : Int) (w : World) {B H : Nat} (hv : Hid (Own w B H 3 v (iv l))) (hl : l.length ≤ 1048576) :
    Calls Try.prog 15 #[v, .int .i64 x] w fun e w' => e = .returned (.bool (isInB l x)) ∧ w = w' := by
  obtain ⟨av, cv, rfl, _, hcv, _, _⟩ := hv.out.slice
  rw [iv_length] at hv hcv ⊢
  go_enter Try.func15, Try.ntmps15
  go_wp2
  go_loop [5] (fun i => ∃ k : Nat, k ≤ l.length ∧ i = .int .i64 k ∧ Hid (∀ (j : Nat) (hj : j < l.length), j < k → l[j] ≠ x)) (fun i => l.length - (intOf i).toNat)
  case atStart => exact ⟨0, Nat.zero_le _, rfl, fun j _ h => by omega⟩
  case round =>
    obtain ⟨k, hk, rfl, HN⟩ := hrel
    by_cases hlt : k < l.length
    · obtain ⟨g1, rfl, _, _, h1, _⟩ := hv.out.at_ k (by rw [iv_length]; exact hlt)
      rw [iv_at l k hlt] at h1
      have b1 : (k : Int) < (l.length : Int) := by omega
      obtain ⟨y, hy⟩ : ∃ y, y = l[k] := ⟨_, rfl⟩
      rw [← hy] at h1
      have HY := Lib.hid hy
      clear hy
      by_cases hyx : y = x
      · subst hyx
        go_wp2
        go_ret
        exact ⟨ret_b (isInB_hit hlt HY.out.symm).symm, rfl⟩
      · have q1 : (y == x) = false := beq_false_of_ne hyx
        have HN' : Hid (∀ (j : Nat) (hj : j < l.length), j < k + 1 → l[j] ≠ x) := fun j hj hjk => by
          by_cases e : j = k
          · subst e; rw [← HY.out]; exact hyx
          · exact HN.out j hj (by omega)
        clear hyx
        go_wp2
        go_round
        case rel => exact ⟨k + 1, by omega, by go_num, HN'⟩
        case measure => simp [intOf]; omega
    · obtain rfl : k = l.length := by omega
      go_wp2
      go_ret
      exact ⟨ret_b (isInB_miss fun j hj => HN.out j hj hj).symm, rfl⟩
end Go.Proofs.Ytpphilladlladaa
