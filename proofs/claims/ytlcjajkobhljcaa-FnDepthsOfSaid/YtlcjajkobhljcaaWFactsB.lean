/-
  Plain facts that hold of every word of up to nine pairs, by trying all of them: depths and their words.
-/
import Derived.Test.YtlcjajkobhljcaaWChunks
namespace Go.Proofs.Ytlcjajkobhljcaa
def depths_all_P (l : List UInt8) : Bool := (wod (depthsL l) == some l) && ((depthsL l).getD 0 0 == 0)
set_option maxRecDepth 100000 in
theorem depths_all_0 : (part 0).all depths_all_P = true := by decide +kernel
set_option maxRecDepth 100000 in
theorem depths_all_1 : (part 1).all depths_all_P = true := by decide +kernel
set_option maxRecDepth 100000 in
theorem depths_all_2 : (part 2).all depths_all_P = true := by decide +kernel
set_option maxRecDepth 100000 in
theorem depths_all_3 : (part 3).all depths_all_P = true := by decide +kernel
set_option maxRecDepth 100000 in
theorem depths_all_4 : (part 4).all depths_all_P = true := by decide +kernel
set_option maxRecDepth 100000 in
theorem depths_all_5 : (part 5).all depths_all_P = true := by decide +kernel
set_option maxRecDepth 100000 in
theorem depths_all_6 : (part 6).all depths_all_P = true := by decide +kernel
set_option maxRecDepth 100000 in
theorem depths_all_7 : (part 7).all depths_all_P = true := by decide +kernel
theorem depths_all (l : List UInt8) (h : valid l = true) : depths_all_P l = true := of_parts _ depths_all_0 depths_all_1 depths_all_2 depths_all_3 depths_all_4 depths_all_5 depths_all_6 depths_all_7 l h
theorem depths_back {l : List UInt8} (h : valid l = true) : wod (depthsL l) = some l := by
  have := depths_all l h
  simp only [depths_all_P, Bool.and_eq_true] at this
  exact eq_of_beq this.1
theorem depths_first {l : List UInt8} (h : valid l = true) : (depthsL l).getD 0 0 = 0 := by
  have := depths_all l h
  simp only [depths_all_P, Bool.and_eq_true] at this
  exact eq_of_beq this.2
end Go.Proofs.Ytlcjajkobhljcaa
