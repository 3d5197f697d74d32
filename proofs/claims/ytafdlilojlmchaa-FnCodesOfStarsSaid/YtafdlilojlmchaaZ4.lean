/-
  The contracts of the model's searches from a node: alone, aloneSets, pairUp.
  What is answered of weights of trees, of any rows; the contracts of the model's MostAlone, CountAlone and MostPairs.
-/
import Derived.Test.YtafdlilojlmchaaZK
import Derived.Test.YtafdlilojlmchaaZW
namespace Go.Proofs.Ytafdlilojlmchaa
open Go.RowKit

theorem ret_two {a b c d : Int} (h1 : a = c) (h2 : b = d) : Ending.returned (.tuple #[.int .i64 a, .int .i64 b]) = .returned (.tuple #[.int .i64 c, .int .i64 d]) := by rw [h1, h2]
end Go.Proofs.Ytafdlilojlmchaa

namespace Go.Proofs.Ytafdlilojlmchaa
open Go.RowKit

def treeV (g : Nat → Edges → Nat) (n : Int) (rows : List (List Int)) : Int := if treeB n rows = true then ((g n.toNat (edgesR rows) : Nat) : Int) else -1
def aloneN (_ : Nat) (E : Edges) : Nat := max (alnF E 14 0 (-1)).1 (alnF E 14 0 (-1)).2
def countN (_ : Nat) (E : Edges) : Nat := (setF E 14 0 (-1)).1 + (setF E 14 0 (-1)).2
def pairsN (_ : Nat) (E : Edges) : Nat := (pairF E 14 0 (-1)).1
/-- a function of a tree, by its answer -/
def TreeFn (f : FuncId) (val : Int → List (List Int) → Int) : Prop :=
  ∀ (n : Int) (rows : List (List Int)) (v : Value) (RV : List Value) (w : World) (B0 H0 : Nat), Hid (Grid w B0 H0 v RV rows) → H0 ≤ w.heap.size → rows.length ≤ 1048576 → (∀ r ∈ rows, r.length ≤ 1048576) → (Lit.int .i64 n).wf = true →
    Calls Try.prog f #[.int .i64 n, v] w fun e w' => e = .returned (.int .i64 (val n rows)) ∧ Below w.heap.size w w'
theorem tree_start {n : Nat} {E : Edges} (h : TreeS n E) : Brn E 14 0 (-1) ∧ sz E 14 0 (-1) ≤ 7 := by
  have hn : 0 < n := by have := h.v.len; omega
  exact ⟨valid_brn h.v h.h7 0 (-1), by have := sz_all h.v h.h7 hn; have := h.h7; omega⟩
theorem start_le {n : Nat} {E : Edges} (h : TreeS n E) : (alnF E 14 0 (-1)).1 ≤ 7 ∧ (alnF E 14 0 (-1)).2 ≤ 7 ∧ (pairF E 14 0 (-1)).1 ≤ 7 ∧ (setF E 14 0 (-1)).1 + (setF E 14 0 (-1)).2 ≤ 128 := by
  obtain ⟨h1, h2⟩ := tree_start h
  have h3 := aln_le h1
  have h4 := set_le 14 0 (-1) h1
  have h5 : 2 ^ sz E 14 0 (-1) ≤ 2 ^ 7 := Nat.pow_le_pow_right (by decide) h2
  omega
end Go.Proofs.Ytafdlilojlmchaa
