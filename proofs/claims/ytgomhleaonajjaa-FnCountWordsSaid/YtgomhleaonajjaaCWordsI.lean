/-
  The contract of the program's function that lists all words of so many pairs.
-/
import Derived.Test.YtgomhleaonajjaaCWords
import Derived.Test.YtgomhleaonajjaaCColl
namespace Go.Proofs.Ytgomhleaonajjaa
open Go.RowKit

/-- what both answer -/
def wordsOut (n : Int) : List (List UInt8) := if 0 ≤ n ∧ n ≤ 6 then wordsL (2 * n.toNat) [] 0 n.toNat else []
theorem wordsOut_length (n : Int) : (wordsOut n).length ≤ 4096 := by
  unfold wordsOut
  split
  · exact Nat.le_trans (wordsL_le _ _ _ _) (Nat.pow_le_pow_right (by decide) (by omega : 2 * n.toNat ≤ 12))
  · simp
/-- a list of texts in new memory -/
def TextsOut (L : List (List UInt8)) (w : World) (e : Ending) (w' : World) : Prop :=
  ∃ v, e = .returned v ∧ Own w' w.heap.size w'.heap.size 9 v (sv L) ∧ Below w.heap.size w w'
theorem noTexts (w w' : World) (hb : Below w.heap.size w w') : TextsOut [] w (.returned (.slice none 0 0)) w' := ⟨_, rfl, ⟨World.ownsRow_nil _ _ _ _, fun g hg => by simp [Value.ownBlock] at hg⟩, hb⟩

theorem implWords_any (n : Int) (w : World) :
    Calls Try.prog 7 #[.int .i64 n] w (TextsOut (wordsOut n) w) := by
  by_cases h : 0 ≤ n ∧ n ≤ 6
  · obtain ⟨k, rfl⟩ : ∃ k : Nat, n = k := ⟨n.toNat, by omega⟩
    refine (implWords_in k (by omega) w).mono ?_
    rintro e w1 ⟨v, rfl, ho, hb⟩
    rw [wordsOut, if_pos h, Int.toNat_natCast]
    exact ⟨_, rfl, Own.of_own (by rw [sv_length]; exact ho), hb⟩
  · have e : wordsOut n = [] := by rw [wordsOut, if_neg h]
    rw [e]
    clear e
    by_cases h0 : n < 0
    · have d1 : decide (n < 0) = true := decide_eq_true h0
      clear h
      go_enter Try.func7, Try.ntmps7
      go_wp2
      go_ret
      exact noTexts _ _ (Below.refl _ _)
    · have d1 : decide (n < 0) = false := decide_eq_false h0
      have d2 : 6 < n := by omega
      clear h h0
      go_enter Try.func7, Try.ntmps7
      go_wp2
      go_ret
      exact noTexts _ _ (Below.refl _ _)

end Go.Proofs.Ytgomhleaonajjaa
