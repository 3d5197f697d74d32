/-
  The contracts of the functions that draw a text, or change one.
-/
import Derived.Test.YtgmajaelgjdjpaaCDrawB
import Derived.Deep.RegionWith
namespace Go.Proofs.Ytgmajaelgjdjpaa
open Go.RowKit

/-- short texts -/
def Short (xs : List Value) : Prop := ∀ (i : Nat) (x : Value), xs[i]? = some x → ∃ s : ByteArray, x = .string s ∧ s.size ≤ 2

theorem lit_own (w : World) (cs : Array Value) (t : TypeId) (hm : cs.size ≤ maxLen) : Own (w.alloc (.cells cs t)) w.heap.size (w.heap.size + 1) t (.slice (some ⟨w.heap.size, 0, none⟩) cs.size cs.size) cs.toList := by
  have := World.ownsRow_lit (base := w.heap.size) (e := t) (size := 1) w cs cs.size (Nat.le_refl _) hm (by omega)
  exact ⟨by rw [Array.length_toList]; exact this, fun g hg => by simp [Value.ownBlock] at hg; omega⟩

def shortB (x : Value) : Bool := match x with | .string s => decide (s.size ≤ 2) | _ => false
theorem short_list (xs : List Value) (h : xs.all shortB = true) : Short xs := by
  intro i x hx
  have hm := List.all_eq_true.1 h x (List.mem_of_getElem? hx)
  unfold shortB at hm
  split at hm
  · exact ⟨_, rfl, of_decide_eq_true hm⟩
  · cases hm

end Go.Proofs.Ytgmajaelgjdjpaa
