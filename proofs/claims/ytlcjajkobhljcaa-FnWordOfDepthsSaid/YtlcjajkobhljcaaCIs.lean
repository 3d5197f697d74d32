/-
  The contract of the model's test of a word, at a text whose answer is known.
-/
import Derived.Test.YtlcjajkobhljcaaCMirrorB
namespace Go.Proofs.Ytlcjajkobhljcaa
open Go.RowKit
theorem specValidWord_is (b : Bool) (s : ByteArray) (w : World) (hs : s.size ≤ maxLen) (hv : Hid (valid s.data.toList = b)) :
    Calls Try.prog 13 #[.string s] w fun e w' => e = .returned (.bool b) ∧ w = w' :=
  (specValidWord_any s w hs).mono fun _ _ ⟨he, hb⟩ => ⟨by rw [he, hv.out], hb⟩
end Go.Proofs.Ytlcjajkobhljcaa
