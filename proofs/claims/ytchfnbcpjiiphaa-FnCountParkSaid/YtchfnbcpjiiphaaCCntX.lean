/-
  Trees of one node more are as many as the wishes of which all park.
-/
import Derived.Test.YtchfnbcpjiiphaaCCountT
import Derived.Test.YtchfnbcpjiiphaaZW
namespace Go.Proofs.Ytchfnbcpjiiphaa

theorem trees_park {n : Int} (h : 0 ≤ treesN (n + 1)) : treesN (n + 1) = parkN n := by
  unfold treesN at h ⊢
  unfold parkN
  by_cases h3 : 1 ≤ n + 1 ∧ n + 1 ≤ 7
  · rw [if_pos h3, if_pos (by omega)]
    have : (n + 1).toNat = n.toNat + 1 := by omega
    rw [this]
    rfl
  · rw [if_neg h3] at h
    simp at h
end Go.Proofs.Ytchfnbcpjiiphaa
