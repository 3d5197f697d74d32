/-
  The contracts of the two functions that count the leaves of a word.
-/
import Derived.Test.YthlboikljibohaaZV
import Derived.Test.YthlboikljibohaaWCount
import Derived.Test.YthlboikljibohaaShelf
import Derived.ChangeAgain
namespace Go.Proofs.Ythlboikljibohaa
open Go.RowKit

/-- the library's own variables stand as they stood -/
theorem shaped_below {w w1 : World} (h : w.ShapedOpen Try.prog) (hb : Below w.heap.size w w1) : w1.ShapedOpen Try.prog := h.keptBut (hb.frame (fun _ => False)) (fun _ hp => hp.elim)

def leaf (a b : UInt8) : Nat := if a.toNat = 40 ∧ b.toNat = 41 then 1 else 0
theorem leavesL_two (a b : UInt8) (r : List UInt8) : leavesL (a :: b :: r) = leaf a b + leavesL (b :: r) := rfl
theorem leavesL_snoc : ∀ (l : List UInt8) (a b : UInt8), leavesL (l ++ [a] ++ [b]) = leavesL (l ++ [a]) + leaf a b
  | [], a, b => by show leavesL [a, b] = leavesL [a] + leaf a b; simp [leavesL, leaf]
  | [x], a, b => by show leavesL [x, a, b] = leavesL [x, a] + leaf a b; simp [leavesL, leaf]
  | x :: y :: r, a, b => by
    have ih := leavesL_snoc (y :: r) a b
    show leavesL (x :: y :: (r ++ [a] ++ [b])) = leavesL (x :: y :: (r ++ [a])) + leaf a b
    rw [leavesL_two, leavesL_two]
    have ih' : leavesL (y :: (r ++ [a] ++ [b])) = leavesL (y :: (r ++ [a])) + leaf a b := ih
    omega
theorem leavesL_le : ∀ l : List UInt8, leavesL l ≤ l.length
  | [] => by simp [leavesL]
  | [_] => by simp [leavesL]
  | a :: b :: r => by
    have := leavesL_le (b :: r)
    rw [leavesL_two]
    have h : leaf a b ≤ 1 := by unfold leaf; split <;> omega
    simp only [List.length_cons] at *; omega
theorem leaves_step (s : ByteArray) (k : Nat) (h1 : 1 ≤ k) (hk : k < s.size) : leavesL (s.data.toList.take (k + 1)) = leavesL (s.data.toList.take k) + leaf (s[k - 1]'(by omega)) s[k] := by
  obtain ⟨j, rfl⟩ : ∃ j, k = j + 1 := ⟨k - 1, by omega⟩
  have e1 : s.data.toList.take (j + 1) = s.data.toList.take j ++ [s[j]'(by omega)] := take_snoc s.data.toList j (by rw [size_list]; omega)
  have e2 : s.data.toList.take (j + 1 + 1) = s.data.toList.take (j + 1) ++ [s[j + 1]] := take_snoc s.data.toList (j + 1) hk
  rw [e2, e1]
  exact leavesL_snoc _ _ _

theorem implLeaves_yes (s : ByteArray) (w : World) (hv : Hid (valid s.data.toList = true)) (hsh : w.ShapedOpen Try.prog) :
    Calls Try.prog 24 #[.string s] w fun e w' => e = .returned (.int .i64 (leavesL s.data.toList)) ∧ Below w.heap.size w w' := by
  have h18 := valid_size hv.out
  have hsm : s.size ≤ maxLen := by unfold maxLen; omega
  go_enter Try.func24, Try.ntmps24
  go_wp2_with (first
    | (go_at_call 53; refine (implValid_is true _ _ hsm hv).mono ?_; rintro e w1 ⟨rfl, hb⟩)
    | (go_at_call 54; refine (Try.strings_Count_shaped _ _ _ (shaped_below hsh hb) (by omega) (by decide)).mono ?_; rintro e w2 ⟨rfl, rfl⟩))
  go_ret
  exact ⟨ret_int (by rw [← count_leaves hv.out]), hb⟩
theorem implLeaves_no (s : ByteArray) (w : World) (hs : s.size ≤ maxLen) (hv : Hid (valid s.data.toList = false)) :
    Calls Try.prog 24 #[.string s] w fun e w' => e = .returned (.int .i64 (-1)) ∧ Below w.heap.size w w' := by
  go_enter Try.func24, Try.ntmps24
  go_wp2_with (go_at_call 53; refine (implValid_is false _ _ hs hv).mono ?_; rintro e w1 ⟨rfl, hb⟩)
  go_ret
  exact ⟨rfl, by assumption⟩

/-- what both answer -/
def leafOut (l : List UInt8) : Int := if valid l then leavesL l else -1
theorem implLeaves_any (s : ByteArray) (w : World) (hs : s.size ≤ maxLen) (hsh : w.ShapedOpen Try.prog) :
    Calls Try.prog 24 #[.string s] w fun e w' => e = .returned (.int .i64 (leafOut s.data.toList)) ∧ Below w.heap.size w w' := by
  cases hv : valid s.data.toList with
  | true => rw [leafOut, if_pos hv]; exact implLeaves_yes s w hv hsh
  | false => rw [leafOut, if_neg (by rw [hv]; decide)]; exact implLeaves_no s w hs hv
end Go.Proofs.Ythlboikljibohaa
