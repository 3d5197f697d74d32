/-
  The contract of the model's function that lists all words of so many pairs; what answers a list of texts in new memory.
-/
import Derived.Test.YthlboikljibohaaGreatCWords
import Derived.Test.YthlboikljibohaaGreatZV
import Derived.Maps.AppendAt
namespace Go.Proofs.YthlboikljibohaaGreat
open Go.RowKit

/-- what both answer -/
def wordsOut (n : Int) : List (List UInt8) := if 0 ≤ n ∧ n ≤ 6 then wordsL (2 * n.toNat) [] 0 n.toNat else []
theorem wordsOut_length (n : Int) : (wordsOut n).length ≤ 4096 := by
  unfold wordsOut
  split
  · exact Nat.le_trans (wordsL_le _ _ _ _) (Nat.pow_le_pow_right (by decide) (by omega : 2 * n.toNat ≤ 12))
  · simp
/-- a list of texts in new memory -/
def TextsOut (L : List (List UInt8)) (w : World) (e : Ending) (w' : World) : Prop :=
  ∃ v, e = .returned v ∧ Own w' w.heap.size w'.heap.size 9 v (sv L) ∧ Below w.heap.size w w'
theorem noTexts (w w' : World) (hb : Below w.heap.size w w') : TextsOut [] w (.returned (.slice none 0 0)) w' := ⟨_, rfl, ⟨World.ownsRow_nil _ _ _ _, fun g hg => by simp [Value.ownBlock] at hg⟩, hb⟩

/-- a list of texts in new memory, not nil -/
def Fresh (L : List (List UInt8)) (w : World) (e : Ending) (w' : World) : Prop :=
  ∃ g cap, e = .returned (.slice (some ⟨g, 0, none⟩) L.length cap) ∧ w'.ownsRow w.heap.size 9 1 (.slice (some ⟨g, 0, none⟩) L.length cap) L.length (sv L) ∧ Below w.heap.size w w'

theorem own_keep {w w' : World} {B n H : Nat} {t : TypeId} {v : Value} {xs : List Value} (h : w.ownsRow B t 1 v n xs) (hb : Below H w w') (hH : w.heap.size ≤ H) : w'.ownsRow B t 1 v n xs :=
  own_of_blocks h fun g hg => hb.block g (by have := (h.lt g hg).2; omega)
theorem own_some {w : World} {B n : Nat} {t : TypeId} {v : Value} {xs : List Value} (h : w.ownsRow B t 1 v n xs) (hv : v ≠ .slice none 0 0) : ∃ g cap, v = .slice (some ⟨g, 0, none⟩) n cap := by
  rcases h.2 with ⟨h0, _⟩ | ⟨g, cap, cur, h1, _⟩
  · exact absurd h0 hv
  · exact ⟨g, cap, h1⟩

end Go.Proofs.YthlboikljibohaaGreat
