/-
  Plain facts that hold of every word of up to nine pairs, by trying all of them: in the mirrored word each node has the mirrored parent.
-/
import Derived.Test.YtpphilladlladaaWTree
import Derived.Test.YtpphilladlladaaWChunks
namespace Go.Proofs.Ytpphilladlladaa

/-- parents, one more than they are (0: none), and the open nodes, one more than they are, the last one first -/
def stepPN (st : List Nat × List Nat) (c : UInt8) : List Nat × List Nat :=
  if c.toNat = 41 then (st.1, st.2.tail) else (st.1 ++ [st.2.headD 0], (st.1.length + 1) :: st.2)
def parN (s : List UInt8) : List Nat := (s.foldl stepPN ([], [])).1
def mirOk (n : Nat) (a p q : List Nat) : Bool :=
  p.length == n && q.length == n && a.length == n && (List.range n).all fun v =>
    decide (a.findIdx (· == v) < n) && match p.getD v 0 with
      | 0 => q.getD (n - 1 - a.findIdx (· == v)) 0 == 0
      | y + 1 => decide (a.findIdx (· == y) < n) && q.getD (n - 1 - a.findIdx (· == v)) 0 == n - a.findIdx (· == y)
def mirGood (s : List UInt8) : Bool := valid (mirrorL s) && mirOk (s.length / 2) (stackF s).2.1 (parN s) (parN (mirrorL s))

set_option maxRecDepth 100000 in
theorem mir_p0 : (part 0).all mirGood = true := by decide +kernel
set_option maxRecDepth 100000 in
theorem mir_p1 : (part 1).all mirGood = true := by decide +kernel
set_option maxRecDepth 100000 in
theorem mir_p2 : (part 2).all mirGood = true := by decide +kernel
set_option maxRecDepth 100000 in
theorem mir_p3 : (part 3).all mirGood = true := by decide +kernel
set_option maxRecDepth 100000 in
theorem mir_p4 : (part 4).all mirGood = true := by decide +kernel
set_option maxRecDepth 100000 in
theorem mir_p5 : (part 5).all mirGood = true := by decide +kernel
set_option maxRecDepth 100000 in
theorem mir_p6 : (part 6).all mirGood = true := by decide +kernel
set_option maxRecDepth 100000 in
theorem mir_p7 : (part 7).all mirGood = true := by decide +kernel
theorem mir_good (l : List UInt8) (hv : valid l = true) : mirGood l = true := of_parts mirGood mir_p0 mir_p1 mir_p2 mir_p3 mir_p4 mir_p5 mir_p6 mir_p7 l hv
end Go.Proofs.Ytpphilladlladaa
