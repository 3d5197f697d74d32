/-
  Plain facts that hold of every word of up to nine pairs, by trying all of them: words of their ranks.
-/
import Derived.Test.YthalkkbchghmpaaWChunks
import Derived.Test.YthalkkbchghmpaaWNext
namespace Go.Proofs.Ythalkkbchghmpaa
def rankOk (l : List UInt8) : Bool := eqL (watT (2 * (l.length / 2)) (rankT l) 0 (l.length / 2)) l && Nat.blt (rankT l) (eT (l.length / 2) 0)
set_option maxRecDepth 100000 in
theorem rankOk0 : (part 0).all rankOk = true := by decide +kernel
set_option maxRecDepth 100000 in
theorem rankOk1 : (part 1).all rankOk = true := by decide +kernel
set_option maxRecDepth 100000 in
theorem rankOk2 : (part 2).all rankOk = true := by decide +kernel
set_option maxRecDepth 100000 in
theorem rankOk3 : (part 3).all rankOk = true := by decide +kernel
set_option maxRecDepth 100000 in
theorem rankOk4 : (part 4).all rankOk = true := by decide +kernel
set_option maxRecDepth 100000 in
theorem rankOk5 : (part 5).all rankOk = true := by decide +kernel
set_option maxRecDepth 100000 in
theorem rankOk6 : (part 6).all rankOk = true := by decide +kernel
set_option maxRecDepth 100000 in
theorem rankOk7 : (part 7).all rankOk = true := by decide +kernel
theorem rank_ok {l : List UInt8} (hv : valid l = true) : wat (2 * (l.length / 2)) (rankL l) 0 (l.length / 2) = l ∧ rankL l < ee (l.length / 2) 0 := by
  have h := of_parts _ rankOk0 rankOk1 rankOk2 rankOk3 rankOk4 rankOk5 rankOk6 rankOk7 l hv
  have h18 := (valid_scan hv).2
  rw [rankOk, Bool.and_eq_true] at h
  rw [rankL_T hv, wat_T _ _ _ _ (by omega), ee_eT _ (by omega) _ (by omega)]
  exact ⟨eq_of_beq (by rw [eqL_eq]; exact h.1), by simpa using h.2⟩
end Go.Proofs.Ythalkkbchghmpaa
