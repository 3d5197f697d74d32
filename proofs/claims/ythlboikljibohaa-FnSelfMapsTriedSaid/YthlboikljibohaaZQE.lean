/-
  Plain facts: maps tried and maps told by texts are as many, for all trees of up to six nodes. Nothing of the program is named here.
  What the laws on maps ask: the numbers of maps told by texts and of those that are tried.
-/
import Derived.Test.YthlboikljibohaaWEnumA
import Derived.Test.YthlboikljibohaaWEnumB
import Derived.Test.YthlboikljibohaaWEnumC
import Derived.Test.YthlboikljibohaaWEnumD
import Derived.Test.YthlboikljibohaaCFreeO
import Derived.Test.YthlboikljibohaaZQ
import Derived.Test.YthlboikljibohaaKFact
namespace Go.Proofs.Ythlboikljibohaa
theorem maps_tried {n : Nat} {E : Edges} (h : ValidT n E) (h1 : 1 ≤ n) (h6 : n ≤ 6) : tryP E n n [] = mapsN n E := by
  by_cases hn1 : n = 1
  · subst hn1
    rw [one_num h]
    decide +kernel
  · obtain ⟨w, hw, ht⟩ := tree_num h (by omega)
    refine same_maps h (by omega) ht ?_
    obtain rfl | rfl | rfl | rfl | rfl : n = 2 ∨ n = 3 ∨ n = 4 ∨ n = 5 ∨ n = 6 := by omega
    · exact sames_at same2 (Nat.zero_le _) (by simpa using hw)
    · exact sames_at same3 (Nat.zero_le _) (by simpa using hw)
    · exact sames_at same4 (Nat.zero_le _) (by simpa using hw)
    · exact sames_at same5 (Nat.zero_le _) (by simpa using hw)
    · have hw' : w < 1296 := by simpa using hw
      by_cases a1 : w < 324
      · exact sames_at same6a (Nat.zero_le _) (by omega)
      · by_cases a2 : w < 648
        · exact sames_at same6b (by omega) (by omega)
        · by_cases a3 : w < 972
          · exact sames_at same6c (by omega) (by omega)
          · exact sames_at same6d (by omega) (by omega)
end Go.Proofs.Ythlboikljibohaa

namespace Go.Proofs.Ythlboikljibohaa
open Go.RowKit

theorem self_facts (n : Int) (rows : List (List Int)) : (mapsOut n rows = -1 ∧ triedOut n rows = -1) ∨
    ∃ (k m : Nat), n = (k : Int) ∧ 1 ≤ k ∧ k ≤ 7 ∧ mapsOut n rows = (m : Int) ∧ 1 ≤ m ∧ m ≤ 5040 ∧ m ∣ fct k ∧ (k ≤ 6 → triedOut n rows = (m : Int)) ∧ rows.length + 1 = k := by
  unfold mapsOut triedOut
  by_cases ht : treeB n rows = true
  · right
    rw [if_pos ht, if_pos ht]
    obtain ⟨hn, _, hv⟩ := treeB_iff.1 ht
    have hrl : rows.length = (edgesR rows).length := by unfold edgesR; rw [List.length_map]
    have hvl := hv.len
    obtain ⟨k, rfl⟩ : ∃ k : Nat, n = (k : Int) := ⟨n.toNat, by omega⟩
    rw [Int.toNat_natCast] at hv ⊢
    have hk7 : k ≤ 7 := by omega
    have hp := maps_pos hv hk7
    refine ⟨k, mapsN k (edgesR rows), rfl, by omega, hk7, ?_, hp.1, hp.2, maps_dvd hv hk7, fun h6 => ?_, by omega⟩
    · rw [IntKind.wrap_i64]; omega
    · rw [maps_tried hv (by omega) h6]
  · left
    rw [if_neg ht, if_neg ht]
    exact ⟨rfl, rfl⟩

end Go.Proofs.Ythlboikljibohaa
