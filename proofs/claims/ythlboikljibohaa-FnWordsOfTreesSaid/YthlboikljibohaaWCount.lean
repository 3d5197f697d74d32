/-
  Of every word of up to nine pairs: the library's count of () is the number of its leaves. By trying all of them.
-/
import Derived.Test.YthlboikljibohaaWords
import Derived.Lib.IndexMore
namespace Go.Proofs.Ythlboikljibohaa
set_option maxRecDepth 100000 in
theorem count_all : allW.all (fun l => Lib.count l [40, 41] == leavesL l) = true := by decide +kernel
theorem count_leaves {l : List UInt8} (h : valid l = true) : Lib.count l [40, 41] = leavesL l := eq_of_beq (of_all _ count_all l h)
end Go.Proofs.Ythlboikljibohaa
