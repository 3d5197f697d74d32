/-
  The contract of the law's own helper that copies a list of numbers.
-/
import Derived.Test.YtchfnbcpjiiphaaCInts
import Derived.Test.YtchfnbcpjiiphaaZW
namespace Go.Proofs.Ytchfnbcpjiiphaa
open Go.RowKit

theorem Try.infoIntT : (Try.prog.info? 3).map (fun i => (i.zero, i.size, i.bytes)) = some (some (.int .i64 0), 1, 8) := by kernel_rfl

/-- j numbers copied -/
def cp (zs : List Int) (n j : Nat) : List Int := zs.take j ++ List.replicate (n - j) 0
theorem cp_zero (zs : List Int) (n : Nat) : cp zs n 0 = List.replicate n 0 := by simp [cp]
theorem cp_full (zs : List Int) (n : Nat) : cp zs n n = zs.take n := by simp [cp]
theorem cp_length (zs : List Int) (n j : Nat) (hn : n ≤ zs.length) (h : j ≤ n) : (cp zs n j).length = n := by simp [cp]; omega
theorem cp_set (zs : List Int) (n j : Nat) (hn : n ≤ zs.length) (h : j < n) : (cp zs n j).set j (zs.getD j 0) = cp zs n (j + 1) := by
  have e : zs.take (j + 1) = zs.take j ++ [zs.getD j 0] := by
    rw [List.take_succ_eq_append_getElem (by omega)]; simp [List.getElem?_eq_getElem (show j < zs.length by omega)]
  rw [cp, cp, e, show n - j = (n - (j + 1)) + 1 by omega, List.replicate_succ, List.set_append_right _ _ (by simp; omega), List.length_take, Nat.min_eq_left (by omega), Nat.sub_self, List.set_cons_zero, List.append_assoc]
  rfl

end Go.Proofs.Ytchfnbcpjiiphaa
