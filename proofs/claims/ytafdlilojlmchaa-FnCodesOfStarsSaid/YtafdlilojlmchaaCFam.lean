/-
  The contracts of the model's functions on words as two-armed trees.
-/
import Derived.Test.YtafdlilojlmchaaZV
import Derived.Test.YtafdlilojlmchaaZY
import Derived.Test.YtafdlilojlmchaaZPD
import Derived.Test.YtafdlilojlmchaaZW
namespace Go.Proofs.Ytafdlilojlmchaa
open Go.RowKit

theorem of_scan {l : List UInt8} (h : scan l = some 0) (h18 : l.length ≤ 18) : valid l = true := by simp [valid, h, h18]

theorem Try.infoRowF : (Try.prog.info? 30).map (fun i => (i.zero, i.size, i.bytes)) = some (some (.slice none 0 0), 1, 24) := by kernel_rfl
theorem extract_list (s : ByteArray) (a b : Nat) : (s.extract a b).data.toList = (s.data.toList.drop a).take (b - a) := by
  rw [ByteArray.data_extract]; simp [List.extract_eq_take_drop]
/-- a list of rows, new or handed on -/
def GridOut (B : Nat) (rows : List (List Int)) (w : World) (e : Ending) (w' : World) : Prop :=
  ∃ g c RV, e = .returned (.slice (some ⟨g, 0, none⟩) rows.length c) ∧ Grid w' B w'.heap.size (.slice (some ⟨g, 0, none⟩) rows.length c) RV rows ∧ Below w.heap.size w w'

theorem own_some3 {w : World} {B n : Nat} {t : TypeId} {v : Value} {xs : List Value} (h : w.ownsRow B t 1 v n xs) (hv : v ≠ .slice none 0 0) : ∃ g cap, v = .slice (some ⟨g, 0, none⟩) n cap := by
  rcases h.2 with ⟨h0, _⟩ | ⟨g, cap, cur, h1, _⟩
  · exact absurd h0 hv
  · exact ⟨g, cap, h1⟩
theorem lit_own2 (w : World) (cs : Array Value) (t : TypeId) (hm : cs.size ≤ maxLen) : Own (w.alloc (.cells cs t)) w.heap.size (w.heap.size + 1) t (.slice (some ⟨w.heap.size, 0, none⟩) cs.size cs.size) cs.toList := by
  have := World.ownsRow_lit (base := w.heap.size) (e := t) (size := 1) w cs cs.size (Nat.le_refl _) hm (by omega)
  exact ⟨by rw [Array.length_toList]; exact this, fun g hg => by simp [Value.ownBlock] at hg; omega⟩

end Go.Proofs.Ytafdlilojlmchaa
