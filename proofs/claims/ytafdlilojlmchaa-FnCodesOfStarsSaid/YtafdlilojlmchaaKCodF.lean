/-
  Trees of the codes of rows and of stars, by trying.
-/
import Derived.Test.YtafdlilojlmchaaZ1
import Derived.Test.YtafdlilojlmchaaZ2
import Derived.Test.YtafdlilojlmchaaZT
import Derived.Test.YtafdlilojlmchaaZK
import Derived.Test.YtafdlilojlmchaaZWF
namespace Go.Proofs.Ytafdlilojlmchaa
open Go.RowKit

/-- the code of a row: all nodes but the first and the last one -/
def rowC (n : Nat) : List Int := (List.range (n - 2)).map fun (i : Nat) => ((i + 1 : Nat) : Int)
/-- the code of a star -/
def starC (n c : Nat) : List Int := List.replicate (n - 2) (c : Int)
def rowsC (k : Nat) : List (List Int) := treeOut ((k + 3 : Nat) : Int) (rowC (k + 3))
def starR (k c : Nat) : List (List Int) := treeOut ((k + 3 : Nat) : Int) (starC (k + 3) c)
theorem rowC_tree : ∀ k : Nat, k < 5 → treeV pairsN ((k + 3 : Nat) : Int) (rowsC k) = (((k + 3) / 2 : Nat) : Int) ∧ mapsOut ((k + 3 : Nat) : Int) (rowsC k) = 2 ∧ (centsOut ((k + 3 : Nat) : Int) (rowsC k)).length = 2 - (k + 3) % 2 := by decide +kernel
theorem rowC_ways : ∀ k : Nat, k < 5 → treeV waysN ((k + 3 : Nat) : Int) (rowsC k) = ((((k + 3) * (k + 3) * (k + 3) - (k + 3)) / 6 : Nat) : Int) := by decide +kernel
theorem starC_tree : ∀ k : Nat, k < 5 → ∀ c : Nat, c < k + 3 → centsOut ((k + 3 : Nat) : Int) (starR k c) = [(c : Int)] ∧ (degOut ((k + 3 : Nat) : Int) (starR k c))[c]? = some ((k + 2 : Nat) : Int) ∧ (degOut ((k + 3 : Nat) : Int) (starR k c)).length = k + 3 := by decide +kernel
theorem starC_ways : ∀ k : Nat, k < 5 → ∀ c : Nat, c < k + 3 → treeV waysN ((k + 3 : Nat) : Int) (starR k c) = (((k + 2) * (k + 2) : Nat) : Int) := by decide +kernel
theorem starC_least : ∀ k : Nat, k < 5 → ∀ c : Nat, c < k + 3 → treeV leastN ((k + 3 : Nat) : Int) (starR k c) = 1 := by decide +kernel
theorem starC_maps : ∀ k : Nat, k < 5 → ∀ c : Nat, c < k + 3 → mapsOut ((k + 3 : Nat) : Int) (starR k c) = ([2, 6, 24, 120, 720].getD k 0 : Nat) := by decide +kernel
end Go.Proofs.Ytafdlilojlmchaa
