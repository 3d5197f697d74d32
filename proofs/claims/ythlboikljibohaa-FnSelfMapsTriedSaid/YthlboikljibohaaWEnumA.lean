/-
  Plain facts: maps tried and maps told by texts are as many, for all trees of up to five nodes and some of six (by reckoning). Nothing of the program is named here.
-/
import Derived.Test.YthlboikljibohaaZM
namespace Go.Proofs.Ythlboikljibohaa
theorem same2 : samesF 2 0 1 = true := by decide +kernel
theorem same3 : samesF 3 0 3 = true := by decide +kernel
theorem same4 : samesF 4 0 16 = true := by decide +kernel
theorem same5 : samesF 5 0 125 = true := by decide +kernel
theorem same6a : samesF 6 0 324 = true := by decide +kernel
end Go.Proofs.Ythlboikljibohaa
