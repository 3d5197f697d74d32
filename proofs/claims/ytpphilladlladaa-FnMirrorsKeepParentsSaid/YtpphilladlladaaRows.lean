/-
  No cell of these rows narrows 'for every input' (looked for: loops, veiled, ifaces, maps, wideKeys, modest, calm, conditions, laid).
  DERIVED. THE GIVEN ROWS OF THIS SEAT. 6 by the template 'for every input the law returns true; each argument reads behind the call as it read before'; 0 by the template 'total and deterministic' (their statements: YtpphilladlladaaTotals.lean).
  GIVEN WITH THE SEED: the statements are not yours to turn. If you find one false, say at which input.
  Laid BY PROGRAM, IN A SANDBOX (cutbox-rows.mjs): the forced cells as the released guide's own fill.sh prints them over the translation dc00ebaeb0a13a1f… (all of the seat's roots in one cut). By AI agents, Wed Nov 11 2026. No macro, syntax, notation, axiom, sorry.
-/
import Derived.Test.YtpphilladlladaaChecked
import GoSem.Claim
import GoSem.ClaimJoined
import GoSem.ClaimMapViews
import Derived.JoinedTies
import Derived.KernelRfl
namespace Go.Proofs.Ytpphilladlladaa
/- THE CELL 'sum', in the pinned program and in every row, IS THE sha256 OF THE DUMP (.gsa) THAT YtpphilladlladaaProg.lean LOADS. Nothing in Lean hashes anything: it is a label: what it is worth is what the hold of that sum in a sandbox is worth. -/
noncomputable def Try.pinned : Pinned := { name := "ytpphilladlladaa", sum := "dc00ebaeb0a13a1fb3fb2c538124ef71259424d6786282cf862173788883097a", checked := Try.checked }
namespace Rows
def none {H : Type} : Left H := { results := [], args := [] }

/-- 'laws.FnBinOf': WHATEVER THE INPUT: true; the input reads as it did. -/
def fnBinOfSpec : ChangeSpec := { name := "fnBinOf", fn := fun _ => fun
  | [d] => { results := [.lit (.bool true)], args := [d] }
  | _ => none }
def fnBinOfRow : OpenClaim := { program := "ytpphilladlladaa", sum := "dc00ebaeb0a13a1fb3fb2c538124ef71259424d6786282cf862173788883097a", func := "loop.example/shapesoftrees/laws.FnBinOf", spec := "fnBinOf", recurses := true, apart := false }
def FnBinOfSaid : Prop := fnBinOfRow.holds Try.pinned (OpenSpec.ofChange fnBinOfSpec)

/-- ITS FALSE NEIGHBOUR: 'it returns false'. Refute it at one input. -/
def fnBinOfWrong : ChangeSpec := { name := "fnBinOf", fn := fun _ => fun
  | [d] => { results := [.lit (.bool false)], args := [d] }
  | _ => none }
def FnBinOfWrongFalsely : Prop := fnBinOfRow.holds Try.pinned (OpenSpec.ofChange fnBinOfWrong)

/-- 'laws.FnWordOfBin': WHATEVER THE INPUT: true; the input reads as it did. -/
def fnWordOfBinSpec : ChangeSpec := { name := "fnWordOfBin", fn := fun _ => fun
  | [d] => { results := [.lit (.bool true)], args := [d] }
  | _ => none }
def fnWordOfBinRow : OpenClaim := { program := "ytpphilladlladaa", sum := "dc00ebaeb0a13a1fb3fb2c538124ef71259424d6786282cf862173788883097a", func := "loop.example/shapesoftrees/laws.FnWordOfBin", spec := "fnWordOfBin", recurses := true, apart := false }
def FnWordOfBinSaid : Prop := fnWordOfBinRow.holds Try.pinned (OpenSpec.ofChange fnWordOfBinSpec)

/-- ITS FALSE NEIGHBOUR: 'it returns false'. Refute it at one input. -/
def fnWordOfBinWrong : ChangeSpec := { name := "fnWordOfBin", fn := fun _ => fun
  | [d] => { results := [.lit (.bool false)], args := [d] }
  | _ => none }
def FnWordOfBinWrongFalsely : Prop := fnWordOfBinRow.holds Try.pinned (OpenSpec.ofChange fnWordOfBinWrong)

/-- 'laws.FnBetweenOf': WHATEVER THE INPUT: true; the input reads as it did. -/
def fnBetweenOfSpec : ChangeSpec := { name := "fnBetweenOf", fn := fun _ => fun
  | [d] => { results := [.lit (.bool true)], args := [d] }
  | _ => none }
def fnBetweenOfRow : OpenClaim := { program := "ytpphilladlladaa", sum := "dc00ebaeb0a13a1fb3fb2c538124ef71259424d6786282cf862173788883097a", func := "loop.example/shapesoftrees/laws.FnBetweenOf", spec := "fnBetweenOf", recurses := true, apart := false }
def FnBetweenOfSaid : Prop := fnBetweenOfRow.holds Try.pinned (OpenSpec.ofChange fnBetweenOfSpec)

/-- ITS FALSE NEIGHBOUR: 'it returns false'. Refute it at one input. -/
def fnBetweenOfWrong : ChangeSpec := { name := "fnBetweenOf", fn := fun _ => fun
  | [d] => { results := [.lit (.bool false)], args := [d] }
  | _ => none }
def FnBetweenOfWrongFalsely : Prop := fnBetweenOfRow.holds Try.pinned (OpenSpec.ofChange fnBetweenOfWrong)

/-- 'laws.FnStackRow': WHATEVER THE INPUT: true; the input reads as it did. -/
def fnStackRowSpec : ChangeSpec := { name := "fnStackRow", fn := fun _ => fun
  | [d] => { results := [.lit (.bool true)], args := [d] }
  | _ => none }
def fnStackRowRow : OpenClaim := { program := "ytpphilladlladaa", sum := "dc00ebaeb0a13a1fb3fb2c538124ef71259424d6786282cf862173788883097a", func := "loop.example/shapesoftrees/laws.FnStackRow", spec := "fnStackRow", recurses := true, apart := false }
def FnStackRowSaid : Prop := fnStackRowRow.holds Try.pinned (OpenSpec.ofChange fnStackRowSpec)

/-- ITS FALSE NEIGHBOUR: 'it returns false'. Refute it at one input. -/
def fnStackRowWrong : ChangeSpec := { name := "fnStackRow", fn := fun _ => fun
  | [d] => { results := [.lit (.bool false)], args := [d] }
  | _ => none }
def FnStackRowWrongFalsely : Prop := fnStackRowRow.holds Try.pinned (OpenSpec.ofChange fnStackRowWrong)

/-- 'laws.FnTrianglesOf': WHATEVER THE INPUT: true; the input reads as it did. -/
def fnTrianglesOfSpec : ChangeSpec := { name := "fnTrianglesOf", fn := fun _ => fun
  | [d] => { results := [.lit (.bool true)], args := [d] }
  | _ => none }
def fnTrianglesOfRow : OpenClaim := { program := "ytpphilladlladaa", sum := "dc00ebaeb0a13a1fb3fb2c538124ef71259424d6786282cf862173788883097a", func := "loop.example/shapesoftrees/laws.FnTrianglesOf", spec := "fnTrianglesOf", recurses := true, apart := false }
def FnTrianglesOfSaid : Prop := fnTrianglesOfRow.holds Try.pinned (OpenSpec.ofChange fnTrianglesOfSpec)

/-- ITS FALSE NEIGHBOUR: 'it returns false'. Refute it at one input. -/
def fnTrianglesOfWrong : ChangeSpec := { name := "fnTrianglesOf", fn := fun _ => fun
  | [d] => { results := [.lit (.bool false)], args := [d] }
  | _ => none }
def FnTrianglesOfWrongFalsely : Prop := fnTrianglesOfRow.holds Try.pinned (OpenSpec.ofChange fnTrianglesOfWrong)

/-- 'laws.FnMirrorsKeepParents': WHATEVER THE INPUT: true; the input reads as it did. -/
def fnMirrorsKeepParentsSpec : ChangeSpec := { name := "fnMirrorsKeepParents", fn := fun _ => fun
  | [d] => { results := [.lit (.bool true)], args := [d] }
  | _ => none }
def fnMirrorsKeepParentsRow : OpenClaim := { program := "ytpphilladlladaa", sum := "dc00ebaeb0a13a1fb3fb2c538124ef71259424d6786282cf862173788883097a", func := "loop.example/shapesoftrees/laws.FnMirrorsKeepParents", spec := "fnMirrorsKeepParents", recurses := true, apart := false }
def FnMirrorsKeepParentsSaid : Prop := fnMirrorsKeepParentsRow.holds Try.pinned (OpenSpec.ofChange fnMirrorsKeepParentsSpec)

/-- ITS FALSE NEIGHBOUR: 'it returns false'. Refute it at one input. -/
def fnMirrorsKeepParentsWrong : ChangeSpec := { name := "fnMirrorsKeepParents", fn := fun _ => fun
  | [d] => { results := [.lit (.bool false)], args := [d] }
  | _ => none }
def FnMirrorsKeepParentsWrongFalsely : Prop := fnMirrorsKeepParentsRow.holds Try.pinned (OpenSpec.ofChange fnMirrorsKeepParentsWrong)

/- THE SECOND FORM. 'bulk': how many values and letters a reading holds, each counted each time it is reached (what is shared counts as often as it is met; a slice's spare places count too). A statement '..UptoSaid' is the law's where the arguments, and the package variables that the reading takes, are together of bulk at most 1048576: NARROWER than '..Said'. Prove '..Said' where nothing that the law and all that it calls make is longer than what came in: it says more and counts as full. Else prove '..UptoSaid'. A law counts once. -/
mutual
def uptoBulk {H : Type} : DataW H → Nat
  | .lit (.string bytes) => bytes.length + 1
  | .lit _ => 1
  | .nil => 1
  | .ptr d => uptoBulk d + 1
  | .slice elems spare => uptoBulkAll elems + uptoBulkAll spare + 1
  | .agg parts => uptoBulkAll parts + 1
  | .iface _ d => uptoBulk d + 1
  | .map entries => uptoBulkEntries entries + 1
  | .held _ => 1
def uptoBulkAll {H : Type} : List (DataW H) → Nat
  | [] => 0
  | d :: r => uptoBulk d + uptoBulkAll r
def uptoBulkEntries {H : Type} : List (Lit × DataW H) → Nat
  | [] => 0
  | x :: r => uptoBulkEntry x + uptoBulkEntries r
def uptoBulkEntry {H : Type} : Lit × DataW H → Nat
  | (.string bytes, d) => bytes.length + uptoBulk d + 1
  | (_, d) => uptoBulk d + 1
 end
def uptoSmall : (H : Type) → List (DataW H) → Bool := fun _ ds => decide (uptoBulkAll ds ≤ 1048576)
def OpenSpec.upto (s : _root_.Go.ChangeSpec) : _root_.Go.OpenSpec := { _root_.Go.OpenSpec.ofChange s with cond := some uptoSmall }

/-- 'laws.FnBinOf', WHERE WHAT IT READS IS OF BULK AT MOST 1048576: true; the input reads as it did. -/
def fnBinOfUptoRow : OpenClaim := { program := "ytpphilladlladaa", sum := "dc00ebaeb0a13a1fb3fb2c538124ef71259424d6786282cf862173788883097a", func := "loop.example/shapesoftrees/laws.FnBinOf", spec := "fnBinOf", recurses := true, apart := false, narrowed := true }
def FnBinOfUptoSaid : Prop := fnBinOfUptoRow.holds Try.pinned (OpenSpec.upto fnBinOfSpec)

/-- 'laws.FnWordOfBin', WHERE WHAT IT READS IS OF BULK AT MOST 1048576: true; the input reads as it did. -/
def fnWordOfBinUptoRow : OpenClaim := { program := "ytpphilladlladaa", sum := "dc00ebaeb0a13a1fb3fb2c538124ef71259424d6786282cf862173788883097a", func := "loop.example/shapesoftrees/laws.FnWordOfBin", spec := "fnWordOfBin", recurses := true, apart := false, narrowed := true }
def FnWordOfBinUptoSaid : Prop := fnWordOfBinUptoRow.holds Try.pinned (OpenSpec.upto fnWordOfBinSpec)

/-- 'laws.FnBetweenOf', WHERE WHAT IT READS IS OF BULK AT MOST 1048576: true; the input reads as it did. -/
def fnBetweenOfUptoRow : OpenClaim := { program := "ytpphilladlladaa", sum := "dc00ebaeb0a13a1fb3fb2c538124ef71259424d6786282cf862173788883097a", func := "loop.example/shapesoftrees/laws.FnBetweenOf", spec := "fnBetweenOf", recurses := true, apart := false, narrowed := true }
def FnBetweenOfUptoSaid : Prop := fnBetweenOfUptoRow.holds Try.pinned (OpenSpec.upto fnBetweenOfSpec)

/-- 'laws.FnStackRow', WHERE WHAT IT READS IS OF BULK AT MOST 1048576: true; the input reads as it did. -/
def fnStackRowUptoRow : OpenClaim := { program := "ytpphilladlladaa", sum := "dc00ebaeb0a13a1fb3fb2c538124ef71259424d6786282cf862173788883097a", func := "loop.example/shapesoftrees/laws.FnStackRow", spec := "fnStackRow", recurses := true, apart := false, narrowed := true }
def FnStackRowUptoSaid : Prop := fnStackRowUptoRow.holds Try.pinned (OpenSpec.upto fnStackRowSpec)

/-- 'laws.FnTrianglesOf', WHERE WHAT IT READS IS OF BULK AT MOST 1048576: true; the input reads as it did. -/
def fnTrianglesOfUptoRow : OpenClaim := { program := "ytpphilladlladaa", sum := "dc00ebaeb0a13a1fb3fb2c538124ef71259424d6786282cf862173788883097a", func := "loop.example/shapesoftrees/laws.FnTrianglesOf", spec := "fnTrianglesOf", recurses := true, apart := false, narrowed := true }
def FnTrianglesOfUptoSaid : Prop := fnTrianglesOfUptoRow.holds Try.pinned (OpenSpec.upto fnTrianglesOfSpec)

/-- 'laws.FnMirrorsKeepParents', WHERE WHAT IT READS IS OF BULK AT MOST 1048576: true; the input reads as it did. -/
def fnMirrorsKeepParentsUptoRow : OpenClaim := { program := "ytpphilladlladaa", sum := "dc00ebaeb0a13a1fb3fb2c538124ef71259424d6786282cf862173788883097a", func := "loop.example/shapesoftrees/laws.FnMirrorsKeepParents", spec := "fnMirrorsKeepParents", recurses := true, apart := false, narrowed := true }
def FnMirrorsKeepParentsUptoSaid : Prop := fnMirrorsKeepParentsUptoRow.holds Try.pinned (OpenSpec.upto fnMirrorsKeepParentsSpec)

end Rows
end Go.Proofs.Ytpphilladlladaa
