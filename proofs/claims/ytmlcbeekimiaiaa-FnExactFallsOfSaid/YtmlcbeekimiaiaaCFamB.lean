/-
  The contracts of the model's functions that answer a word's arms, its triangles and its row behind a stack.
-/
import Derived.Test.YtmlcbeekimiaiaaCFans
import Derived.Test.YtmlcbeekimiaiaaCStack
import Derived.Test.YtmlcbeekimiaiaaCDepths
namespace Go.Proofs.Ytmlcbeekimiaiaa
open Go.RowKit

/-- a list of rows in the call's own memory -/
def RowsOut (rows : List (List Int)) (w : World) (e : Ending) (w' : World) : Prop :=
  ∃ v RV, e = .returned v ∧ Grid w' w.heap.size w'.heap.size v RV rows ∧ Below w.heap.size w w'
theorem GridOut.rows {rows : List (List Int)} {w : World} {e : Ending} {w' : World} (h : GridOut w.heap.size rows w e w') : RowsOut rows w e w' := by
  obtain ⟨g, c, RV, rfl, hG, hb⟩ := h
  exact ⟨_, RV, rfl, hG, hb⟩
theorem nilRows (w w' : World) (hb : Below w.heap.size w w') : RowsOut [] w (.returned (.slice none 0 0)) w' :=
  ⟨_, [], rfl, ⟨⟨World.ownsRow_nil _ _ _ _, fun q hq => by simp [Value.ownBlock] at hq⟩, RowsI.nil⟩, hb⟩

def binOut (l : List UInt8) : List (List Int) := if valid l then binL 18 l 0 else []
def fanOut (l : List UInt8) : List (List Int) := if valid l then fansL 18 l 0 (l.length / 2 + 1) else []
def stackOut (l : List UInt8) : List Int := if valid l then stackL l else []

end Go.Proofs.Ytmlcbeekimiaiaa
