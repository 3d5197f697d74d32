/-
  Plain facts that hold of every word of up to nine pairs, by trying all of them: leaves, and the ways to roots.
-/
import Derived.Test.YtchfnbcpjiiphaaWChunks
namespace Go.Proofs.Ytchfnbcpjiiphaa
def isInB (l : List Int) (x : Int) : Bool := l.any (· == x)
/-- how many of the first k places are in no place of p -/
def lone (p : List Int) : Nat → Nat
  | 0 => 0
  | k + 1 => lone p k + if isInB p k then 0 else 1
/-- the way from a place to its root -/
def way (p : List Int) : Nat → Int → Nat
  | 0, _ => 0
  | f + 1, x => if x < 0 then 0 else 1 + way p f (p.getD x.toNat (-1))
def ways (p : List Int) : Nat → Nat
  | 0 => 0
  | k + 1 => ways p k + way p 10 (p.getD k (-1))
def sumI : List Int → Nat → Int
  | _, 0 => 0
  | d, k + 1 => sumI d k + d.getD k 0
def leaf_all_P (l : List UInt8) : Bool := lone (parentsL l) (parentsL l).length == leavesL l
set_option maxRecDepth 100000 in
theorem leaf_all_0 : (part 0).all leaf_all_P = true := by decide +kernel
set_option maxRecDepth 100000 in
theorem leaf_all_1 : (part 1).all leaf_all_P = true := by decide +kernel
set_option maxRecDepth 100000 in
theorem leaf_all_2 : (part 2).all leaf_all_P = true := by decide +kernel
set_option maxRecDepth 100000 in
theorem leaf_all_3 : (part 3).all leaf_all_P = true := by decide +kernel
set_option maxRecDepth 100000 in
theorem leaf_all_4 : (part 4).all leaf_all_P = true := by decide +kernel
set_option maxRecDepth 100000 in
theorem leaf_all_5 : (part 5).all leaf_all_P = true := by decide +kernel
set_option maxRecDepth 100000 in
theorem leaf_all_6 : (part 6).all leaf_all_P = true := by decide +kernel
set_option maxRecDepth 100000 in
theorem leaf_all_7 : (part 7).all leaf_all_P = true := by decide +kernel
theorem leaf_all (l : List UInt8) (h : valid l = true) : leaf_all_P l = true := of_parts _ leaf_all_0 leaf_all_1 leaf_all_2 leaf_all_3 leaf_all_4 leaf_all_5 leaf_all_6 leaf_all_7 l h
theorem leaf_lone {l : List UInt8} (h : valid l = true) : lone (parentsL l) (parentsL l).length = leavesL l := eq_of_beq (leaf_all l h)
def ways_all_P (l : List UInt8) : Bool := sumI (depthsL l) (depthsL l).length == (ways (parentsL l) (parentsL l).length : Int)
set_option maxRecDepth 100000 in
theorem ways_all_0 : (part 0).all ways_all_P = true := by decide +kernel
set_option maxRecDepth 100000 in
theorem ways_all_1 : (part 1).all ways_all_P = true := by decide +kernel
set_option maxRecDepth 100000 in
theorem ways_all_2 : (part 2).all ways_all_P = true := by decide +kernel
set_option maxRecDepth 100000 in
theorem ways_all_3 : (part 3).all ways_all_P = true := by decide +kernel
set_option maxRecDepth 100000 in
theorem ways_all_4 : (part 4).all ways_all_P = true := by decide +kernel
set_option maxRecDepth 100000 in
theorem ways_all_5 : (part 5).all ways_all_P = true := by decide +kernel
set_option maxRecDepth 100000 in
theorem ways_all_6 : (part 6).all ways_all_P = true := by decide +kernel
set_option maxRecDepth 100000 in
theorem ways_all_7 : (part 7).all ways_all_P = true := by decide +kernel
theorem ways_all (l : List UInt8) (h : valid l = true) : ways_all_P l = true := of_parts _ ways_all_0 ways_all_1 ways_all_2 ways_all_3 ways_all_4 ways_all_5 ways_all_6 ways_all_7 l h
theorem ways_sum {l : List UInt8} (h : valid l = true) : sumI (depthsL l) (depthsL l).length = (ways (parentsL l) (parentsL l).length : Int) := eq_of_beq (ways_all l h)
end Go.Proofs.Ytchfnbcpjiiphaa
