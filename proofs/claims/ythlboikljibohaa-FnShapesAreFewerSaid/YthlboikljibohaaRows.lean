/-
  No cell of these rows narrows 'for every input' (looked for: loops, veiled, ifaces, maps, wideKeys, modest, calm, conditions, laid).
  DERIVED. THE GIVEN ROWS OF THIS SEAT. 5 by the template 'for every input the law returns true; each argument reads behind the call as it read before'; 0 by the template 'total and deterministic' (their statements: YthlboikljibohaaTotals.lean).
  GIVEN WITH THE SEED: the statements are not yours to turn. If you find one false, say at which input.
  Laid BY PROGRAM, IN A SANDBOX (cutbox-rows.mjs): the forced cells as the released guide's own fill.sh prints them over the translation 7ccb3a0e580c1cca… (all of the seat's roots in one cut). By AI agents, Wed Nov 11 2026. No macro, syntax, notation, axiom, sorry.
-/
import Derived.Test.YthlboikljibohaaChecked
import GoSem.Claim
import GoSem.ClaimJoined
import GoSem.ClaimMapViews
import Derived.JoinedTies
import Derived.KernelRfl
namespace Go.Proofs.Ythlboikljibohaa
/- THE CELL 'sum', in the pinned program and in every row, IS THE sha256 OF THE DUMP (.gsa) THAT YthlboikljibohaaProg.lean LOADS. Nothing in Lean hashes anything: it is a label: what it is worth is what the hold of that sum in a sandbox is worth. -/
noncomputable def Try.pinned : Pinned := { name := "ythlboikljibohaa", sum := "7ccb3a0e580c1cca1f5e7771adc09b2356d6e2fddba56a1470188a775850e742", checked := Try.checked }
namespace Rows
def none {H : Type} : Left H := { results := [], args := [] }

/-- 'laws.FnCountTrees': WHATEVER THE INPUT: true; the input reads as it did. -/
def fnCountTreesSpec : ChangeSpec := { name := "fnCountTrees", fn := fun _ => fun
  | [d] => { results := [.lit (.bool true)], args := [d] }
  | _ => none }
def fnCountTreesRow : OpenClaim := { program := "ythlboikljibohaa", sum := "7ccb3a0e580c1cca1f5e7771adc09b2356d6e2fddba56a1470188a775850e742", func := "loop.example/shapesoftrees/laws.FnCountTrees", spec := "fnCountTrees", recurses := true, apart := false }
def FnCountTreesSaid : Prop := fnCountTreesRow.holds Try.pinned (OpenSpec.ofChange fnCountTreesSpec)

/-- ITS FALSE NEIGHBOUR: 'it returns false'. Refute it at one input. -/
def fnCountTreesWrong : ChangeSpec := { name := "fnCountTrees", fn := fun _ => fun
  | [d] => { results := [.lit (.bool false)], args := [d] }
  | _ => none }
def FnCountTreesWrongFalsely : Prop := fnCountTreesRow.holds Try.pinned (OpenSpec.ofChange fnCountTreesWrong)

/-- 'laws.FnSelfMaps': WHATEVER THE INPUT: true; the input reads as it did. -/
def fnSelfMapsSpec : ChangeSpec := { name := "fnSelfMaps", fn := fun _ => fun
  | [d] => { results := [.lit (.bool true)], args := [d] }
  | _ => none }
def fnSelfMapsRow : OpenClaim := { program := "ythlboikljibohaa", sum := "7ccb3a0e580c1cca1f5e7771adc09b2356d6e2fddba56a1470188a775850e742", func := "loop.example/shapesoftrees/laws.FnSelfMaps", spec := "fnSelfMaps", inPlace := ["internal/abi.NoEscape", "internal/bytealg.MakeNoZero"], unfollowed := true, recurses := true, apart := false }
def FnSelfMapsSaid : Prop := fnSelfMapsRow.holds Try.pinned (OpenSpec.ofChange fnSelfMapsSpec)

/-- ITS FALSE NEIGHBOUR: 'it returns false'. Refute it at one input. -/
def fnSelfMapsWrong : ChangeSpec := { name := "fnSelfMaps", fn := fun _ => fun
  | [d] => { results := [.lit (.bool false)], args := [d] }
  | _ => none }
def FnSelfMapsWrongFalsely : Prop := fnSelfMapsRow.holds Try.pinned (OpenSpec.ofChange fnSelfMapsWrong)

/-- 'laws.FnSelfMapsTried': WHATEVER THE INPUT: true; the input reads as it did. -/
def fnSelfMapsTriedSpec : ChangeSpec := { name := "fnSelfMapsTried", fn := fun _ => fun
  | [d] => { results := [.lit (.bool true)], args := [d] }
  | _ => none }
def fnSelfMapsTriedRow : OpenClaim := { program := "ythlboikljibohaa", sum := "7ccb3a0e580c1cca1f5e7771adc09b2356d6e2fddba56a1470188a775850e742", func := "loop.example/shapesoftrees/laws.FnSelfMapsTried", spec := "fnSelfMapsTried", inPlace := ["internal/abi.NoEscape", "internal/bytealg.MakeNoZero"], unfollowed := true, recurses := true, apart := false }
def FnSelfMapsTriedSaid : Prop := fnSelfMapsTriedRow.holds Try.pinned (OpenSpec.ofChange fnSelfMapsTriedSpec)

/-- ITS FALSE NEIGHBOUR: 'it returns false'. Refute it at one input. -/
def fnSelfMapsTriedWrong : ChangeSpec := { name := "fnSelfMapsTried", fn := fun _ => fun
  | [d] => { results := [.lit (.bool false)], args := [d] }
  | _ => none }
def FnSelfMapsTriedWrongFalsely : Prop := fnSelfMapsTriedRow.holds Try.pinned (OpenSpec.ofChange fnSelfMapsTriedWrong)

/-- 'laws.FnWordsOfTrees': WHATEVER THE INPUT: true; the input reads as it did. -/
def fnWordsOfTreesSpec : ChangeSpec := { name := "fnWordsOfTrees", fn := fun _ => fun
  | [d] => { results := [.lit (.bool true)], args := [d] }
  | _ => none }
def fnWordsOfTreesRow : OpenClaim := { program := "ythlboikljibohaa", sum := "7ccb3a0e580c1cca1f5e7771adc09b2356d6e2fddba56a1470188a775850e742", func := "loop.example/shapesoftrees/laws.FnWordsOfTrees", spec := "fnWordsOfTrees", inPlace := ["internal/abi.NoEscape", "internal/bytealg.MakeNoZero", "internal/bytealg.CountString", "internal/bytealg.IndexByteString", "internal/bytealg.IndexString"], unfollowed := true, recurses := true, named := ["internal/bytealg.MaxLen"], apart := false }
def FnWordsOfTreesSaid : Prop := fnWordsOfTreesRow.holds Try.pinned (OpenSpec.ofChange fnWordsOfTreesSpec)

/-- ITS FALSE NEIGHBOUR: 'it returns false'. Refute it at one input. -/
def fnWordsOfTreesWrong : ChangeSpec := { name := "fnWordsOfTrees", fn := fun _ => fun
  | [d] => { results := [.lit (.bool false)], args := [d] }
  | _ => none }
def FnWordsOfTreesWrongFalsely : Prop := fnWordsOfTreesRow.holds Try.pinned (OpenSpec.ofChange fnWordsOfTreesWrong)

/-- 'laws.FnShapesAreFewer': WHATEVER THE INPUT: true; the input reads as it did. -/
def fnShapesAreFewerSpec : ChangeSpec := { name := "fnShapesAreFewer", fn := fun _ => fun
  | [d] => { results := [.lit (.bool true)], args := [d] }
  | _ => none }
def fnShapesAreFewerRow : OpenClaim := { program := "ythlboikljibohaa", sum := "7ccb3a0e580c1cca1f5e7771adc09b2356d6e2fddba56a1470188a775850e742", func := "loop.example/shapesoftrees/laws.FnShapesAreFewer", spec := "fnShapesAreFewer", inPlace := ["internal/abi.NoEscape", "internal/bytealg.MakeNoZero"], unfollowed := true, recurses := true, apart := false }
def FnShapesAreFewerSaid : Prop := fnShapesAreFewerRow.holds Try.pinned (OpenSpec.ofChange fnShapesAreFewerSpec)

/-- ITS FALSE NEIGHBOUR: 'it returns false'. Refute it at one input. -/
def fnShapesAreFewerWrong : ChangeSpec := { name := "fnShapesAreFewer", fn := fun _ => fun
  | [d] => { results := [.lit (.bool false)], args := [d] }
  | _ => none }
def FnShapesAreFewerWrongFalsely : Prop := fnShapesAreFewerRow.holds Try.pinned (OpenSpec.ofChange fnShapesAreFewerWrong)

/- THE SECOND FORM. 'bulk': how many values and letters a reading holds, each counted each time it is reached (what is shared counts as often as it is met; a slice's spare places count too). A statement '..UptoSaid' is the law's where the arguments, and the package variables that the reading takes, are together of bulk at most 1048576: NARROWER than '..Said'. Prove '..Said' where nothing that the law and all that it calls make is longer than what came in: it says more and counts as full. Else prove '..UptoSaid'. A law counts once. -/
mutual
def uptoBulk {H : Type} : DataW H → Nat
  | .lit (.string bytes) => bytes.length + 1
  | .lit _ => 1
  | .nil => 1
  | .ptr d => uptoBulk d + 1
  | .slice elems spare => uptoBulkAll elems + uptoBulkAll spare + 1
  | .agg parts => uptoBulkAll parts + 1
  | .iface _ d => uptoBulk d + 1
  | .map entries => uptoBulkEntries entries + 1
  | .held _ => 1
def uptoBulkAll {H : Type} : List (DataW H) → Nat
  | [] => 0
  | d :: r => uptoBulk d + uptoBulkAll r
def uptoBulkEntries {H : Type} : List (Lit × DataW H) → Nat
  | [] => 0
  | x :: r => uptoBulkEntry x + uptoBulkEntries r
def uptoBulkEntry {H : Type} : Lit × DataW H → Nat
  | (.string bytes, d) => bytes.length + uptoBulk d + 1
  | (_, d) => uptoBulk d + 1
 end
def uptoSmall : (H : Type) → List (DataW H) → Bool := fun _ ds => decide (uptoBulkAll ds ≤ 1048576)
def OpenSpec.upto (s : _root_.Go.ChangeSpec) : _root_.Go.OpenSpec := { _root_.Go.OpenSpec.ofChange s with cond := some uptoSmall }

/-- 'laws.FnCountTrees', WHERE WHAT IT READS IS OF BULK AT MOST 1048576: true; the input reads as it did. -/
def fnCountTreesUptoRow : OpenClaim := { program := "ythlboikljibohaa", sum := "7ccb3a0e580c1cca1f5e7771adc09b2356d6e2fddba56a1470188a775850e742", func := "loop.example/shapesoftrees/laws.FnCountTrees", spec := "fnCountTrees", recurses := true, apart := false, narrowed := true }
def FnCountTreesUptoSaid : Prop := fnCountTreesUptoRow.holds Try.pinned (OpenSpec.upto fnCountTreesSpec)

/-- 'laws.FnSelfMaps', WHERE WHAT IT READS IS OF BULK AT MOST 1048576: true; the input reads as it did. -/
def fnSelfMapsUptoRow : OpenClaim := { program := "ythlboikljibohaa", sum := "7ccb3a0e580c1cca1f5e7771adc09b2356d6e2fddba56a1470188a775850e742", func := "loop.example/shapesoftrees/laws.FnSelfMaps", spec := "fnSelfMaps", inPlace := ["internal/abi.NoEscape", "internal/bytealg.MakeNoZero"], unfollowed := true, recurses := true, apart := false, narrowed := true }
def FnSelfMapsUptoSaid : Prop := fnSelfMapsUptoRow.holds Try.pinned (OpenSpec.upto fnSelfMapsSpec)

/-- 'laws.FnSelfMapsTried', WHERE WHAT IT READS IS OF BULK AT MOST 1048576: true; the input reads as it did. -/
def fnSelfMapsTriedUptoRow : OpenClaim := { program := "ythlboikljibohaa", sum := "7ccb3a0e580c1cca1f5e7771adc09b2356d6e2fddba56a1470188a775850e742", func := "loop.example/shapesoftrees/laws.FnSelfMapsTried", spec := "fnSelfMapsTried", inPlace := ["internal/abi.NoEscape", "internal/bytealg.MakeNoZero"], unfollowed := true, recurses := true, apart := false, narrowed := true }
def FnSelfMapsTriedUptoSaid : Prop := fnSelfMapsTriedUptoRow.holds Try.pinned (OpenSpec.upto fnSelfMapsTriedSpec)

/-- 'laws.FnWordsOfTrees', WHERE WHAT IT READS IS OF BULK AT MOST 1048576: true; the input reads as it did. -/
def fnWordsOfTreesUptoRow : OpenClaim := { program := "ythlboikljibohaa", sum := "7ccb3a0e580c1cca1f5e7771adc09b2356d6e2fddba56a1470188a775850e742", func := "loop.example/shapesoftrees/laws.FnWordsOfTrees", spec := "fnWordsOfTrees", inPlace := ["internal/abi.NoEscape", "internal/bytealg.MakeNoZero", "internal/bytealg.CountString", "internal/bytealg.IndexByteString", "internal/bytealg.IndexString"], unfollowed := true, recurses := true, named := ["internal/bytealg.MaxLen"], apart := false, narrowed := true }
def FnWordsOfTreesUptoSaid : Prop := fnWordsOfTreesUptoRow.holds Try.pinned (OpenSpec.upto fnWordsOfTreesSpec)

/-- 'laws.FnShapesAreFewer', WHERE WHAT IT READS IS OF BULK AT MOST 1048576: true; the input reads as it did. -/
def fnShapesAreFewerUptoRow : OpenClaim := { program := "ythlboikljibohaa", sum := "7ccb3a0e580c1cca1f5e7771adc09b2356d6e2fddba56a1470188a775850e742", func := "loop.example/shapesoftrees/laws.FnShapesAreFewer", spec := "fnShapesAreFewer", inPlace := ["internal/abi.NoEscape", "internal/bytealg.MakeNoZero"], unfollowed := true, recurses := true, apart := false, narrowed := true }
def FnShapesAreFewerUptoSaid : Prop := fnShapesAreFewerUptoRow.holds Try.pinned (OpenSpec.upto fnShapesAreFewerSpec)

end Rows
end Go.Proofs.Ythlboikljibohaa
