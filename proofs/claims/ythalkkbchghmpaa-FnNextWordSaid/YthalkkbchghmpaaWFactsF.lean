/-
  Plain facts that hold of every word of up to nine pairs, by trying all of them: the word behind.
-/
import Derived.Test.YthalkkbchghmpaaWChunks
import Derived.Test.YthalkkbchghmpaaWNext
namespace Go.Proofs.Ythalkkbchghmpaa
def nextOk (l : List UInt8) : Bool :=
  (match nextAt l l.length with | none => Nat.beq (rankT l + 1) (eT (l.length / 2) 0) | some x => valid x && Nat.beq (rankT x) (rankT l + 1) && Nat.beq x.length l.length && Nat.blt (rankT l + 1) (eT (l.length / 2) 0))
set_option maxRecDepth 100000 in
theorem nextOk0 : (part 0).all nextOk = true := by decide +kernel
set_option maxRecDepth 100000 in
theorem nextOk1 : (part 1).all nextOk = true := by decide +kernel
set_option maxRecDepth 100000 in
theorem nextOk2 : (part 2).all nextOk = true := by decide +kernel
set_option maxRecDepth 100000 in
theorem nextOk3 : (part 3).all nextOk = true := by decide +kernel
set_option maxRecDepth 100000 in
theorem nextOk4 : (part 4).all nextOk = true := by decide +kernel
set_option maxRecDepth 100000 in
theorem nextOk5 : (part 5).all nextOk = true := by decide +kernel
set_option maxRecDepth 100000 in
theorem nextOk6 : (part 6).all nextOk = true := by decide +kernel
set_option maxRecDepth 100000 in
theorem nextOk7 : (part 7).all nextOk = true := by decide +kernel
theorem next_of {l : List UInt8} (hv : valid l = true) : nextOk l = true := of_parts _ nextOk0 nextOk1 nextOk2 nextOk3 nextOk4 nextOk5 nextOk6 nextOk7 l hv
theorem next_last {l : List UInt8} (hv : valid l = true) (hn : nextAt l l.length = none) : rankL l + 1 = ee (l.length / 2) 0 := by
  have h := next_of hv
  have h18 := (valid_scan hv).2
  rw [nextOk, hn] at h
  rw [rankL_T hv, ee_eT _ (by omega) _ (by omega)]
  simpa using h
theorem next_some {l x : List UInt8} (hv : valid l = true) (hn : nextAt l l.length = some x) : valid x = true ∧ rankL x = rankL l + 1 ∧ x.length = l.length ∧ rankL l + 1 < ee (l.length / 2) 0 := by
  have h := next_of hv
  have h18 := (valid_scan hv).2
  rw [nextOk, hn] at h
  simp only [Bool.and_eq_true] at h
  obtain ⟨⟨⟨h1, h2⟩, h3⟩, h4⟩ := h
  rw [rankL_T hv, rankL_T h1, ee_eT _ (by omega) _ (by omega)]
  exact ⟨h1, by simpa using h2, by simpa using h3, by simpa using h4⟩
end Go.Proofs.Ythalkkbchghmpaa
