/-
  Plain facts that hold of every word of up to nine pairs, by trying all of them: mirrors.
-/
import Derived.Test.YtlcjajkobhljcaaWords
namespace Go.Proofs.Ytlcjajkobhljcaa
set_option maxRecDepth 100000 in
theorem mirror_all : allW.all (fun l => valid (mirrorL l) && (mirrorL (mirrorL l) == l) && (leavesL (mirrorL l) == leavesL l)) = true := by decide +kernel
theorem mirror_valid {l : List UInt8} (h : valid l = true) : valid (mirrorL l) = true := by
  have := of_all _ mirror_all l h
  simp only [Bool.and_eq_true] at this
  exact this.1.1
theorem mirror_twice {l : List UInt8} (h : valid l = true) : mirrorL (mirrorL l) = l := by
  have := of_all _ mirror_all l h
  simp only [Bool.and_eq_true] at this
  exact eq_of_beq this.1.2
theorem mirror_leaves {l : List UInt8} (h : valid l = true) : leavesL (mirrorL l) = leavesL l := by
  have := of_all _ mirror_all l h
  simp only [Bool.and_eq_true] at this
  exact eq_of_beq this.2
set_option maxRecDepth 100000 in
theorem wrap_all : allW.all (fun l => valid ([40] ++ l ++ [41]) == decide (l.length < 18)) = true := by decide +kernel
theorem wrap_valid {l : List UInt8} (h : valid l = true) : valid ([40] ++ l ++ [41]) = decide (l.length < 18) := eq_of_beq (of_all _ wrap_all l h)
end Go.Proofs.Ytlcjajkobhljcaa
