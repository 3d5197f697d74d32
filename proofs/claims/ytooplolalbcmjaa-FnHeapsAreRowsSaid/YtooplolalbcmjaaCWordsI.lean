/-
  The contract of the program's function that lists all words of so many pairs.
-/
import Derived.Test.YtooplolalbcmjaaCWFrom
import Derived.Test.YtooplolalbcmjaaCColl
namespace Go.Proofs.Ytooplolalbcmjaa
open Go.RowKit

theorem implWords_any (n : Int) (w : World) :
    Calls Try.prog 44 #[.int .i64 n] w (TextsOut (wordsOut n) w) := by
  by_cases h : 0 ≤ n ∧ n ≤ 6
  · obtain ⟨k, rfl⟩ : ∃ k : Nat, n = k := ⟨n.toNat, by omega⟩
    refine (implWords_in k (by omega) w).mono ?_
    rintro e w1 ⟨v, rfl, ho, hb⟩
    rw [wordsOut, if_pos h, Int.toNat_natCast]
    exact ⟨_, rfl, Own.of_own (by rw [sv_length]; exact ho), hb⟩
  · have e : wordsOut n = [] := by rw [wordsOut, if_neg h]
    rw [e]
    clear e
    by_cases h0 : n < 0
    · have d1 : decide (n < 0) = true := decide_eq_true h0
      clear h
      go_enter Try.func44, Try.ntmps44
      go_wp2
      go_ret
      exact noTexts _ _ (Below.refl _ _)
    · have d1 : decide (n < 0) = false := decide_eq_false h0
      have d2 : 6 < n := by omega
      clear h h0
      go_enter Try.func44, Try.ntmps44
      go_wp2
      go_ret
      exact noTexts _ _ (Below.refl _ _)

end Go.Proofs.Ytooplolalbcmjaa
