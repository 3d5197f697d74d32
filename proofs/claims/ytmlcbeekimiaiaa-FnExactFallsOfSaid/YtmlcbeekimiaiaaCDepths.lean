/-
  The contracts of the two functions that tell the depths of a word's nodes.
-/
import Derived.Test.YtmlcbeekimiaiaaCPairs
import Derived.Test.YtmlcbeekimiaiaaZW
namespace Go.Proofs.Ytmlcbeekimiaiaa
open Go.RowKit

/-- a list of numbers in new memory -/
def IntsOut (l : List Int) (w : World) (e : Ending) (w' : World) : Prop :=
  ∃ v, e = .returned v ∧ Own w' w.heap.size w'.heap.size 3 v (iv l) ∧ Below w.heap.size w w'

theorem depths_opn {s : ByteArray} {k : Nat} (hk : k < s.size) (hc : s[k].toNat = 40) : depthsL (s.data.toList.take (k + 1)) = depthsL (s.data.toList.take k) ++ [((openP (s.data.toList.take k)).2.length : Int)] := by
  rw [depthsL, openP_next hk, stepOP, if_neg (by omega)]; simp [depthsL]
theorem depths_cls {s : ByteArray} {k : Nat} (hk : k < s.size) (hc : s[k].toNat = 41) : depthsL (s.data.toList.take (k + 1)) = depthsL (s.data.toList.take k) := by
  rw [depthsL, openP_next hk, stepOP, if_pos hc]; rfl
theorem open_opn {s : ByteArray} {k : Nat} (hk : k < s.size) (hc : s[k].toNat = 40) : (openP (s.data.toList.take (k + 1))).2.length = (openP (s.data.toList.take k)).2.length + 1 := by
  rw [openP_next hk, stepOP, if_neg (by omega)]; simp
theorem open_cls {s : ByteArray} {k : Nat} (hk : k < s.size) (hc : s[k].toNat = 41) : (openP (s.data.toList.take (k + 1))).2.length = (openP (s.data.toList.take k)).2.length - 1 := by
  rw [openP_next hk, stepOP, if_pos hc]; simp
theorem depthsL_length (l : List UInt8) : (depthsL l).length = (openP l).1.length := by simp [depthsL]

theorem nilOut (w w' : World) (hb : Below w.heap.size w w') : IntsOut [] w (.returned (.slice none 0 0)) w' := ⟨_, rfl, ⟨World.ownsRow_nil _ _ _ _, fun g hg => by simp [Value.ownBlock] at hg⟩, hb⟩
theorem IntsOut.of_below {l : List Int} {w w1 : World} {e : Ending} {w' : World} (hb : Below w.heap.size w w1) (h : IntsOut l w1 e w') : IntsOut l w e w' := by
  obtain ⟨v, he, ho, hb'⟩ := h
  refine ⟨v, he, ⟨⟨ho.1.1, ?_⟩, ho.2⟩, hb.trans (hb'.mono hb.size)⟩
  have := hb.size
  rcases ho.1.2 with h | ⟨g, cap, cur, a, b, c⟩
  · exact .inl h
  · exact .inr ⟨g, cap, cur, a, by omega, c⟩

/-- what both answer -/
def depOut (l : List UInt8) : List Int := if valid l then depthsL l else []
theorem depOut_length (s : ByteArray) : (depOut s.data.toList).length ≤ 18 := by
  unfold depOut
  split
  · rename_i h
    have h1 := valid_size h
    have h2 := (openP_le s.data.toList).1
    rw [size_list] at h2
    rw [depthsL_length]; omega
  · simp
end Go.Proofs.Ytmlcbeekimiaiaa
