/-
  Plain facts that hold of every word of up to nine pairs, by trying all of them: parents.
-/
import Derived.Test.YtlcjajkobhljcaaWChunks
namespace Go.Proofs.Ytlcjajkobhljcaa
/-- what the law on parents asks at one place -/
def parAt (p d : List Int) (i : Nat) : Bool :=
  let x := p.getD i 0
  if x < 0 then x == -1 && d.getD i 0 == 0 else decide (x < i) && (d.getD i 0 == d.getD x.toNat 0 + 1)
def par_all_P (l : List UInt8) : Bool := (List.range (parentsL l).length).all (parAt (parentsL l) (depthsL l)) && (2 * (parentsL l).length == l.length) && ((depthsL l).length == (parentsL l).length)
set_option maxRecDepth 100000 in
theorem par_all_0 : (part 0).all par_all_P = true := by decide +kernel
set_option maxRecDepth 100000 in
theorem par_all_1 : (part 1).all par_all_P = true := by decide +kernel
set_option maxRecDepth 100000 in
theorem par_all_2 : (part 2).all par_all_P = true := by decide +kernel
set_option maxRecDepth 100000 in
theorem par_all_3 : (part 3).all par_all_P = true := by decide +kernel
set_option maxRecDepth 100000 in
theorem par_all_4 : (part 4).all par_all_P = true := by decide +kernel
set_option maxRecDepth 100000 in
theorem par_all_5 : (part 5).all par_all_P = true := by decide +kernel
set_option maxRecDepth 100000 in
theorem par_all_6 : (part 6).all par_all_P = true := by decide +kernel
set_option maxRecDepth 100000 in
theorem par_all_7 : (part 7).all par_all_P = true := by decide +kernel
theorem par_all (l : List UInt8) (h : valid l = true) : par_all_P l = true := of_parts _ par_all_0 par_all_1 par_all_2 par_all_3 par_all_4 par_all_5 par_all_6 par_all_7 l h
theorem par_at {l : List UInt8} (h : valid l = true) (i : Nat) (hi : i < (parentsL l).length) : parAt (parentsL l) (depthsL l) i = true := by
  have := par_all l h
  simp only [par_all_P, Bool.and_eq_true] at this
  exact List.all_eq_true.1 this.1.1 i (List.mem_range.2 hi)
theorem par_len {l : List UInt8} (h : valid l = true) : 2 * (parentsL l).length = l.length := by
  have := par_all l h
  simp only [par_all_P, Bool.and_eq_true] at this
  exact eq_of_beq this.1.2
theorem par_dep {l : List UInt8} (h : valid l = true) : (depthsL l).length = (parentsL l).length := by
  have := par_all l h
  simp only [par_all_P, Bool.and_eq_true] at this
  exact eq_of_beq this.2
end Go.Proofs.Ytlcjajkobhljcaa
