/-
  The contracts of the counts of bits, the model's and the laws' own.
  The contracts of the model's count of bits, of its test whether a set watches all, and of its LeastWatch.
  The contract of the model's LeastWatch.
-/
import Derived.Test.YtafdlilojlmchaaZH
import Derived.Test.YtafdlilojlmchaaZ4
namespace Go.Proofs.Ytafdlilojlmchaa
open Go.RowKit

/-- how many of the first bits of a number are 1 -/
def popN (s : Nat) : Nat → Nat
  | 0 => 0
  | k + 1 => popN s k + s / 2 ^ k % 2
theorem pop_le (s : Nat) : ∀ k, popN s k ≤ k
  | 0 => Nat.le_refl _
  | k + 1 => by rw [popN]; have := pop_le s k; omega
theorem pop_zero {s j : Nat} (h : s / 2 ^ j = 0) : ∀ d, popN s (j + d) = popN s j
  | 0 => rfl
  | d + 1 => by
    have hz : s / 2 ^ (j + d) % 2 = 0 := by
      rw [Nat.pow_add, ← Nat.div_div_eq_div_mul, h]
      simp
    rw [← Nat.add_assoc, popN, pop_zero h d, hz, Nat.add_zero]
theorem pow2M_le : ∀ k, k ≤ 8 → 2 ^ k ≤ 256 := by
  intro k hk
  have h2 : 2 ^ k ≤ 2 ^ 8 := Nat.pow_le_pow_right (by omega) hk
  have h3 : (2 : Nat) ^ 8 = 256 := by decide
  omega
end Go.Proofs.Ytafdlilojlmchaa

namespace Go.Proofs.Ytafdlilojlmchaa
open Go.RowKit

/-! ### sets that watch all -/
def bitT (s i : Nat) : Bool := decide (s / 2 ^ i % 2 = 1)
def seenK (E : Edges) (s v k : Nat) : Bool := bitT s v || ((nb E v).take k).any (bitT s)
def seenB (E : Edges) (s v : Nat) : Bool := bitT s v || (nb E v).any (bitT s)
theorem seenK_next {E : Edges} {s v k : Nat} (hk : k < (nb E v).length) : seenK E s v (k + 1) = (seenK E s v k || bitT s (nb E v)[k]) := by
  unfold seenK
  rw [List.take_succ_eq_append_getElem hk, List.any_append, Bool.or_assoc]; simp
theorem seenK_all (E : Edges) (s v : Nat) : seenK E s v (nb E v).length = seenB E s v := by unfold seenK seenB; rw [List.take_length]
def watchB (n : Nat) (E : Edges) (s : Nat) : Bool := (List.range n).all (seenB E s)
theorem watch_no {n : Nat} {E : Edges} {s v : Nat} (hv : v < n) (h : seenB E s v = false) : watchB n E s = false := by
  unfold watchB
  rw [List.all_eq_false]
  exact ⟨v, List.mem_range.2 hv, by rw [h]; exact Bool.false_ne_true⟩
theorem watch_yes {n : Nat} {E : Edges} {s : Nat} (h : ∀ v, v < n → seenB E s v = true) : watchB n E s = true := by
  unfold watchB
  rw [List.all_eq_true]
  exact fun v hv => h v (List.mem_range.1 hv)
/-- a bit of a number, as the model asks it -/
theorem bit_ask (s i : Nat) (hs : s ≤ 256) (hi : i ≤ 8) : ∃ p d : Nat, p = 2 ^ i ∧ 0 < p ∧ p ≤ 256 ∧ IntKind.i64.wrap ((s : Int) / (p : Int)) = (d : Int) ∧ d ≤ 256 ∧ ((d : Int) % 2 == 1) = bitT s i := by
  refine ⟨2 ^ i, s / 2 ^ i, rfl, Nat.two_pow_pos i, pow2M_le i hi, ?_, Nat.le_trans (Nat.div_le_self _ _) hs, ?_⟩
  · have h1 : s / 2 ^ i ≤ s := Nat.div_le_self _ _
    obtain ⟨d, hd⟩ : ∃ d, d = s / 2 ^ i := ⟨_, rfl⟩
    rw [← Int.natCast_ediv, ← hd, IntKind.wrap_i64]
    rw [← hd] at h1
    omega
  · unfold bitT
    by_cases h : s / 2 ^ i % 2 = 1
    · rw [decide_eq_true h, beq_iff_eq]; omega
    · rw [decide_eq_false h, beq_eq_false_iff_ne]; omega
end Go.Proofs.Ytafdlilojlmchaa

namespace Go.Proofs.Ytafdlilojlmchaa
open Go.RowKit

def lstN (n : Nat) (E : Edges) (k : Nat) : Nat := (List.range k).foldl (fun b s => if watchB n E s = true then min b (popN s n) else b) n
def leastN (n : Nat) (E : Edges) : Nat := lstN n E (2 ^ n)
theorem lst_next (n : Nat) (E : Edges) (k : Nat) : lstN n E (k + 1) = if watchB n E k = true then min (lstN n E k) (popN k n) else lstN n E k := by
  unfold lstN
  rw [List.range_succ, List.foldl_append]; rfl
theorem lst_le (n : Nat) (E : Edges) : ∀ k, lstN n E k ≤ n
  | 0 => Nat.le_refl _
  | k + 1 => by
    rw [lst_next]
    have := lst_le n E k
    split <;> omega
end Go.Proofs.Ytafdlilojlmchaa
