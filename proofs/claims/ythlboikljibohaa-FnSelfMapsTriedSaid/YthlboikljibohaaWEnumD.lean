/-
  Plain facts: maps tried and maps told by texts are as many, for some trees of six nodes (by reckoning). Nothing of the program is named here.
-/
import Derived.Test.YthlboikljibohaaZM
namespace Go.Proofs.Ythlboikljibohaa
theorem same6d : samesF 6 972 324 = true := by decide +kernel
end Go.Proofs.Ythlboikljibohaa
