/-
  Plain facts on words of so many leaves, by trying all numbers. Nothing of the program is named here.
-/
import Derived.Test.YthalkkbchghmpaaWNext
import Derived.Lib.IndexMore
namespace Go.Proofs.Ythalkkbchghmpaa
/-- beginnings of too many leaves -/
def many (k : Nat) (h : List UInt8) : Bool := Nat.blt k (Lib.count h [40, 41])
def evL (n k : Nat) : Nat := ([[1], [0, 1], [0, 1, 1], [0, 1, 3, 1], [0, 1, 6, 6, 1], [0, 1, 10, 20, 10, 1], [0, 1, 15, 50, 50, 15, 1]].getD n []).getD k 0
def cntL (k : Nat) (L : List (List UInt8)) : Nat := L.countP fun x => valid x && Nat.beq (leavesL x) k
theorem cntL_snoc (k : Nat) (L : List (List UInt8)) (x : List UInt8) : cntL k (L ++ [x]) = cntL k L + (if (valid x && Nat.beq (leavesL x) k) = true then 1 else 0) := by
  simp only [cntL, List.countP_append, List.countP_cons, List.countP_nil, Nat.zero_add]
theorem cntL_le (k : Nat) (L : List (List UInt8)) : cntL k L ≤ L.length := List.countP_le_length
set_option maxRecDepth 100000 in
theorem many_all : ∀ n, n ≤ 6 → ∀ k, k ≤ 6 → cntL k (gw (cutOf (many k)) (2 * n) () [] 0 n).1 = evL n k := by decide +kernel
end Go.Proofs.Ythalkkbchghmpaa
