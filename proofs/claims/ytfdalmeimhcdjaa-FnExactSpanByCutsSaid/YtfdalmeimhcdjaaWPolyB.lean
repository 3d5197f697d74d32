/-
  What an edge more does to the determinant of five nodes' rows, for letters. Nothing of the program is named here.
-/
import Derived.Test.YtfdalmeimhcdjaaWPoly
namespace Go.Proofs.Ytfdalmeimhcdjaa

theorem id_51 : idB 5 0 1 = true := by decide +kernel
theorem id_52 : ((List.range 2).all fun a => idB 5 a 2) = true := by decide +kernel
theorem id_53 : ((List.range 3).all fun a => idB 5 a 3) = true := by decide +kernel
theorem id_54 : ((List.range 4).all fun a => idB 5 a 4) = true := by decide +kernel
/-- .. and to all numbers of nodes up to five -/
theorem all_ids {n a b : Nat} (hn : n ≤ 5) (hb : b < n) (ha : a < b) : idB n a b = true := by
  by_cases h5 : n < 5
  · have h1 := List.all_eq_true.1 id_small n (List.mem_range.2 h5)
    have h2 := List.all_eq_true.1 h1 b (List.mem_range.2 hb)
    exact List.all_eq_true.1 h2 a (List.mem_range.2 ha)
  · obtain rfl : n = 5 := by omega
    match b, hb, ha with
    | 1, _, ha => obtain rfl : a = 0 := by omega
                  exact id_51
    | 2, _, ha => exact List.all_eq_true.1 id_52 a (List.mem_range.2 ha)
    | 3, _, ha => exact List.all_eq_true.1 id_53 a (List.mem_range.2 ha)
    | 4, _, ha => exact List.all_eq_true.1 id_54 a (List.mem_range.2 ha)
end Go.Proofs.Ytfdalmeimhcdjaa
