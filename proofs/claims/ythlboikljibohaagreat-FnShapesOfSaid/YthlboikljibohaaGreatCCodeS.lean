/-
  The contracts of the model's functions ValidTree, DegreesOf and CodeOf, of any rows.
-/
import Derived.Test.YthlboikljibohaaGreatZN
import Derived.Test.YthlboikljibohaaGreatCVTree
import Derived.Test.YthlboikljibohaaGreatZPD
namespace Go.Proofs.YthlboikljibohaaGreat
open Go.RowKit

theorem own_baseR {w : World} {B B' n : Nat} {t : TypeId} {v : Value} {xs : List Value} (h : w.ownsRow B' t 1 v n xs) (hB : B ≤ B') : w.ownsRow B t 1 v n xs :=
  ⟨h.1, h.2.imp id (fun ⟨g, cap, cur, a, b, c⟩ => ⟨g, cap, cur, a, by omega, c⟩)⟩
/-! ### what both answer, of any rows -/
def codeOut (n : Int) (rows : List (List Int)) : List Int := if treeB n rows = true then (codeN n.toNat (edgesR rows)).map fun (k : Nat) => (k : Int) else []
def degOut (n : Int) (rows : List (List Int)) : List Int := if treeB n rows = true then ((List.range n.toNat).map (deg (edgesR rows))).map fun (k : Nat) => (k : Int) else []
theorem valid_one {E : Edges} (h : ValidT 1 E) : E = [] := List.eq_nil_of_length_eq_zero (by have := h.len; omega)
end Go.Proofs.YthlboikljibohaaGreat
