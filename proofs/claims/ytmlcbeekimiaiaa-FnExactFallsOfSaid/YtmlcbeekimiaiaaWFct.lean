/-
  Plain: the product of the numbers up to one. Nothing of the program is named here.
-/
import Derived.Test.YtmlcbeekimiaiaaWords
namespace Go.Proofs.Ytmlcbeekimiaiaa

/-- the product of the numbers up to one -/
def fct : Nat → Nat
  | 0 => 1
  | n + 1 => (n + 1) * fct n
theorem fct_pos : ∀ n, 0 < fct n
  | 0 => Nat.one_pos
  | n + 1 => Nat.mul_pos (Nat.succ_pos n) (fct_pos n)
theorem fct_le : ∀ n, n ≤ 7 → fct n ≤ 5040 := by decide
end Go.Proofs.Ytmlcbeekimiaiaa
