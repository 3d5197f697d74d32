/-
  The contracts of the law's own helpers on lists of numbers: two lists are the same; a list is marked; it still bears its marks.
-/
import Derived.Test.YtchfnbcpjiiphaaZW
import Derived.Test.YtchfnbcpjiiphaaProg
import Derived.WalkSpells
import Derived.WalkLawsBesides
import Derived.Lib.Hide
import Derived.BigQuiet
import Derived.Deep.QuietTactic
namespace Go.Proofs.Ytchfnbcpjiiphaa
open Go.RowKit

/-- j marks set -/
def mk (l : List Int) (j : Nat) : List Int := (List.range j).map (fun (i : Nat) => (i : Int) + 1) ++ l.drop j
theorem mk_zero (l : List Int) : mk l 0 = l := by simp [mk]
theorem mk_length (l : List Int) (j : Nat) (h : j ≤ l.length) : (mk l j).length = l.length := by simp [mk]; omega
theorem mk_set (l : List Int) (j : Nat) (h : j < l.length) : (mk l j).set j ((j : Int) + 1) = mk l (j + 1) := by
  simp only [mk]
  rw [List.set_append_right _ _ (by simp), List.length_map, List.length_range, Nat.sub_self, List.drop_eq_getElem_cons h, List.set_cons_zero, List.range_succ, List.map_append, List.append_assoc]
  rfl
/-- n marks -/
def marks (n : Nat) : List Int := (List.range n).map fun (i : Nat) => (i : Int) + 1
theorem mk_full (l : List Int) : mk l l.length = marks l.length := by simp [mk, marks]
theorem marks_length (n : Nat) : (marks n).length = n := by simp [marks]
theorem marks_at (n k : Nat) (h : k < n) : (iv (marks n))[k]? = some (.int .i64 ((k : Int) + 1)) := by simp [iv, marks, h]

end Go.Proofs.Ytchfnbcpjiiphaa
