/-
  PlacesOf of whatever numbers, the model's and the program's in the crowd; copies of rows in the crowd.
-/
import Derived.Test.YtchfnbcpjiiphaaCAllX
import Derived.Test.YtchfnbcpjiiphaaCSpecP
import Derived.Test.YtchfnbcpjiiphaaCToInts
namespace Go.Proofs.Ytchfnbcpjiiphaa
open Go Go.Conc Go.RowKit

/-- the places, none for what are no wishes -/
def plB (l : List Int) : List Int := if wishB l = true then placesB l else []
theorem plB_length (l : List Int) : (plB l).length ≤ l.length := by
  unfold plB
  split
  · rw [placesB_length]; exact Nat.le_refl _
  · exact Nat.zero_le _
theorem own_nil (w : World) (B H : Nat) (t : TypeId) : Own w B H t (.slice none 0 0) [] := ⟨World.ownsRow_nil _ _ _ _, fun g hg => by cases hg⟩
theorem specPl_any (l : List Int) (v : Value) (w : World) {B0 H0 : Nat} (hv : Hid (Own w B0 H0 3 v (iv l))) (hH : H0 ≤ w.heap.size) (hl : l.length ≤ 1048576) :
    Calls Try.prog 13 #[v] w fun e w' => ∃ y, e = .returned y ∧ Own w' w.heap.size w'.heap.size 3 y (iv (plB l)) ∧ Below w.heap.size w w' := by
  refine (specPlacesOf_any l v w hv hH hl).mono ?_
  rintro e w' ⟨y, rfl, h1, h2, hb⟩
  refine ⟨y, rfl, ?_, hb⟩
  unfold plB
  cases hw : wishB l with
  | true => exact h1 hw
  | false => rw [h2 hw]; exact own_nil _ _ _ _
/-- a row of the call's own -/
def RowX (l : List Int) (w : World) (v' : Value) (w' : World) : Prop := BelowX w.heap.size w w' ∧ Own w' w.heap.size w'.heap.size 3 v' (iv l)
theorem rowX_like {l : List Int} {w : World} (v' : Value) (w' w₁ : World) (hl : Like w' w₁) (h : RowX l w v' w') : RowX l w v' w₁ := ⟨h.1.like hl, by rw [hl.size]; exact h.2.like hl⟩
theorem placesPl_x (l : List Int) (v : Value) (w : World) {B H : Nat} (hv : Own w B H 3 v (iv l)) (hH : H ≤ w.heap.size) (hl : l.length ≤ 1048576) (hs : SetX Try.prog w) :
    CallsX Try.prog 11 #[v] w (RowX (plB l) w) :=
  (placesOf_x l v w hv hH hl hs).mono fun v' w' ⟨h0, h1, h2⟩ => ⟨h0, by
    unfold plB
    cases hw : wishB l with
    | true => exact h1 hw
    | false => rw [h2 hw]; exact own_nil _ _ _ _⟩
end Go.Proofs.Ytchfnbcpjiiphaa
