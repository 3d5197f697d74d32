/-
  No cell of these rows narrows 'for every input' (looked for: loops, veiled, ifaces, maps, wideKeys, modest, calm, conditions, laid).
  DERIVED. THE GIVEN ROWS OF THIS SEAT. 9 by the template 'for every input the law returns true; each argument reads behind the call as it read before'; 0 by the template 'total and deterministic' (their statements: YtakpbnkncjddeaaTotals.lean).
  GIVEN WITH THE SEED: the statements are not yours to turn. If you find one false, say at which input.
  Laid BY PROGRAM, IN A SANDBOX (cutbox-rows.mjs): the forced cells as the released guide's own fill.sh prints them over the translation c5cbc2d15223a11f… (all of the seat's roots in one cut). By AI agents, Wed Nov 11 2026. No macro, syntax, notation, axiom, sorry.
-/
import Derived.Test.YtakpbnkncjddeaaChecked
import GoSem.Claim
import GoSem.ClaimJoined
import GoSem.ClaimMapViews
import Derived.JoinedTies
import Derived.KernelRfl
namespace Go.Proofs.Ytakpbnkncjddeaa
/- THE CELL 'sum', in the pinned program and in every row, IS THE sha256 OF THE DUMP (.gsa) THAT YtakpbnkncjddeaaProg.lean LOADS. Nothing in Lean hashes anything: it is a label: what it is worth is what the hold of that sum in a sandbox is worth. -/
noncomputable def Try.pinned : Pinned := { name := "ytakpbnkncjddeaa", sum := "c5cbc2d15223a11f42aa2d8d1c075f658423d4c657d8c64524199ba017075678", checked := Try.checked }
namespace Rows
def none {H : Type} : Left H := { results := [], args := [] }

/-- 'laws.FnValidLoads': WHATEVER THE INPUT: true; the input reads as it did. -/
def fnValidLoadsSpec : ChangeSpec := { name := "fnValidLoads", fn := fun _ => fun
  | [d] => { results := [.lit (.bool true)], args := [d] }
  | _ => none }
def fnValidLoadsRow : OpenClaim := { program := "ytakpbnkncjddeaa", sum := "c5cbc2d15223a11f42aa2d8d1c075f658423d4c657d8c64524199ba017075678", func := "loop.example/shapesoftrees/laws.FnValidLoads", spec := "fnValidLoads", apart := false }
def FnValidLoadsSaid : Prop := fnValidLoadsRow.holds Try.pinned (OpenSpec.ofChange fnValidLoadsSpec)

/-- ITS FALSE NEIGHBOUR: 'it returns false'. Refute it at one input. -/
def fnValidLoadsWrong : ChangeSpec := { name := "fnValidLoads", fn := fun _ => fun
  | [d] => { results := [.lit (.bool false)], args := [d] }
  | _ => none }
def FnValidLoadsWrongFalsely : Prop := fnValidLoadsRow.holds Try.pinned (OpenSpec.ofChange fnValidLoadsWrong)

/-- 'laws.FnJoinCost': WHATEVER THE INPUT: true; the input reads as it did. -/
def fnJoinCostSpec : ChangeSpec := { name := "fnJoinCost", fn := fun _ => fun
  | [d] => { results := [.lit (.bool true)], args := [d] }
  | _ => none }
def fnJoinCostRow : OpenClaim := { program := "ytakpbnkncjddeaa", sum := "c5cbc2d15223a11f42aa2d8d1c075f658423d4c657d8c64524199ba017075678", func := "loop.example/shapesoftrees/laws.FnJoinCost", spec := "fnJoinCost", recurses := true, apart := false }
def FnJoinCostSaid : Prop := fnJoinCostRow.holds Try.pinned (OpenSpec.ofChange fnJoinCostSpec)

/-- ITS FALSE NEIGHBOUR: 'it returns false'. Refute it at one input. -/
def fnJoinCostWrong : ChangeSpec := { name := "fnJoinCost", fn := fun _ => fun
  | [d] => { results := [.lit (.bool false)], args := [d] }
  | _ => none }
def FnJoinCostWrongFalsely : Prop := fnJoinCostRow.holds Try.pinned (OpenSpec.ofChange fnJoinCostWrong)

/-- 'laws.FnJoinTried': WHATEVER THE INPUT: true; the input reads as it did. -/
def fnJoinTriedSpec : ChangeSpec := { name := "fnJoinTried", fn := fun _ => fun
  | [d] => { results := [.lit (.bool true)], args := [d] }
  | _ => none }
def fnJoinTriedRow : OpenClaim := { program := "ytakpbnkncjddeaa", sum := "c5cbc2d15223a11f42aa2d8d1c075f658423d4c657d8c64524199ba017075678", func := "loop.example/shapesoftrees/laws.FnJoinTried", spec := "fnJoinTried", recurses := true, apart := false }
def FnJoinTriedSaid : Prop := fnJoinTriedRow.holds Try.pinned (OpenSpec.ofChange fnJoinTriedSpec)

/-- ITS FALSE NEIGHBOUR: 'it returns false'. Refute it at one input. -/
def fnJoinTriedWrong : ChangeSpec := { name := "fnJoinTried", fn := fun _ => fun
  | [d] => { results := [.lit (.bool false)], args := [d] }
  | _ => none }
def FnJoinTriedWrongFalsely : Prop := fnJoinTriedRow.holds Try.pinned (OpenSpec.ofChange fnJoinTriedWrong)

/-- 'laws.FnBesideCost': WHATEVER THE INPUT: true; the input reads as it did. -/
def fnBesideCostSpec : ChangeSpec := { name := "fnBesideCost", fn := fun _ => fun
  | [d] => { results := [.lit (.bool true)], args := [d] }
  | _ => none }
def fnBesideCostRow : OpenClaim := { program := "ytakpbnkncjddeaa", sum := "c5cbc2d15223a11f42aa2d8d1c075f658423d4c657d8c64524199ba017075678", func := "loop.example/shapesoftrees/laws.FnBesideCost", spec := "fnBesideCost", recurses := true, apart := false }
def FnBesideCostSaid : Prop := fnBesideCostRow.holds Try.pinned (OpenSpec.ofChange fnBesideCostSpec)

/-- ITS FALSE NEIGHBOUR: 'it returns false'. Refute it at one input. -/
def fnBesideCostWrong : ChangeSpec := { name := "fnBesideCost", fn := fun _ => fun
  | [d] => { results := [.lit (.bool false)], args := [d] }
  | _ => none }
def FnBesideCostWrongFalsely : Prop := fnBesideCostRow.holds Try.pinned (OpenSpec.ofChange fnBesideCostWrong)

/-- 'laws.FnFindCost': WHATEVER THE INPUT: true; the input reads as it did. -/
def fnFindCostSpec : ChangeSpec := { name := "fnFindCost", fn := fun _ => fun
  | [d] => { results := [.lit (.bool true)], args := [d] }
  | _ => none }
def fnFindCostRow : OpenClaim := { program := "ytakpbnkncjddeaa", sum := "c5cbc2d15223a11f42aa2d8d1c075f658423d4c657d8c64524199ba017075678", func := "loop.example/shapesoftrees/laws.FnFindCost", spec := "fnFindCost", unfollowed := true, recurses := true, apart := false }
def FnFindCostSaid : Prop := fnFindCostRow.holds Try.pinned (OpenSpec.ofChange fnFindCostSpec)

/-- ITS FALSE NEIGHBOUR: 'it returns false'. Refute it at one input. -/
def fnFindCostWrong : ChangeSpec := { name := "fnFindCost", fn := fun _ => fun
  | [d] => { results := [.lit (.bool false)], args := [d] }
  | _ => none }
def FnFindCostWrongFalsely : Prop := fnFindCostRow.holds Try.pinned (OpenSpec.ofChange fnFindCostWrong)

/-- 'laws.FnFindBy': WHATEVER THE INPUT: true; the input reads as it did. -/
def fnFindBySpec : ChangeSpec := { name := "fnFindBy", fn := fun _ => fun
  | [d] => { results := [.lit (.bool true)], args := [d] }
  | _ => none }
def fnFindByRow : OpenClaim := { program := "ytakpbnkncjddeaa", sum := "c5cbc2d15223a11f42aa2d8d1c075f658423d4c657d8c64524199ba017075678", func := "loop.example/shapesoftrees/laws.FnFindBy", spec := "fnFindBy", recurses := true, apart := false }
def FnFindBySaid : Prop := fnFindByRow.holds Try.pinned (OpenSpec.ofChange fnFindBySpec)

/-- ITS FALSE NEIGHBOUR: 'it returns false'. Refute it at one input. -/
def fnFindByWrong : ChangeSpec := { name := "fnFindBy", fn := fun _ => fun
  | [d] => { results := [.lit (.bool false)], args := [d] }
  | _ => none }
def FnFindByWrongFalsely : Prop := fnFindByRow.holds Try.pinned (OpenSpec.ofChange fnFindByWrong)

/-- 'laws.FnFindTried': WHATEVER THE INPUT: true; the input reads as it did. -/
def fnFindTriedSpec : ChangeSpec := { name := "fnFindTried", fn := fun _ => fun
  | [d] => { results := [.lit (.bool true)], args := [d] }
  | _ => none }
def fnFindTriedRow : OpenClaim := { program := "ytakpbnkncjddeaa", sum := "c5cbc2d15223a11f42aa2d8d1c075f658423d4c657d8c64524199ba017075678", func := "loop.example/shapesoftrees/laws.FnFindTried", spec := "fnFindTried", unfollowed := true, recurses := true, apart := false }
def FnFindTriedSaid : Prop := fnFindTriedRow.holds Try.pinned (OpenSpec.ofChange fnFindTriedSpec)

/-- ITS FALSE NEIGHBOUR: 'it returns false'. Refute it at one input. -/
def fnFindTriedWrong : ChangeSpec := { name := "fnFindTried", fn := fun _ => fun
  | [d] => { results := [.lit (.bool false)], args := [d] }
  | _ => none }
def FnFindTriedWrongFalsely : Prop := fnFindTriedRow.holds Try.pinned (OpenSpec.ofChange fnFindTriedWrong)

/-- 'laws.FnLoadsScale': WHATEVER THE INPUT: true; the input reads as it did. -/
def fnLoadsScaleSpec : ChangeSpec := { name := "fnLoadsScale", fn := fun _ => fun
  | [d] => { results := [.lit (.bool true)], args := [d] }
  | _ => none }
def fnLoadsScaleRow : OpenClaim := { program := "ytakpbnkncjddeaa", sum := "c5cbc2d15223a11f42aa2d8d1c075f658423d4c657d8c64524199ba017075678", func := "loop.example/shapesoftrees/laws.FnLoadsScale", spec := "fnLoadsScale", recurses := true, apart := false }
def FnLoadsScaleSaid : Prop := fnLoadsScaleRow.holds Try.pinned (OpenSpec.ofChange fnLoadsScaleSpec)

/-- ITS FALSE NEIGHBOUR: 'it returns false'. Refute it at one input. -/
def fnLoadsScaleWrong : ChangeSpec := { name := "fnLoadsScale", fn := fun _ => fun
  | [d] => { results := [.lit (.bool false)], args := [d] }
  | _ => none }
def FnLoadsScaleWrongFalsely : Prop := fnLoadsScaleRow.holds Try.pinned (OpenSpec.ofChange fnLoadsScaleWrong)

/-- 'laws.FnEvenLoads': WHATEVER THE INPUT: true; the input reads as it did. -/
def fnEvenLoadsSpec : ChangeSpec := { name := "fnEvenLoads", fn := fun _ => fun
  | [d] => { results := [.lit (.bool true)], args := [d] }
  | _ => none }
def fnEvenLoadsRow : OpenClaim := { program := "ytakpbnkncjddeaa", sum := "c5cbc2d15223a11f42aa2d8d1c075f658423d4c657d8c64524199ba017075678", func := "loop.example/shapesoftrees/laws.FnEvenLoads", spec := "fnEvenLoads", recurses := true, apart := false }
def FnEvenLoadsSaid : Prop := fnEvenLoadsRow.holds Try.pinned (OpenSpec.ofChange fnEvenLoadsSpec)

/-- ITS FALSE NEIGHBOUR: 'it returns false'. Refute it at one input. -/
def fnEvenLoadsWrong : ChangeSpec := { name := "fnEvenLoads", fn := fun _ => fun
  | [d] => { results := [.lit (.bool false)], args := [d] }
  | _ => none }
def FnEvenLoadsWrongFalsely : Prop := fnEvenLoadsRow.holds Try.pinned (OpenSpec.ofChange fnEvenLoadsWrong)

/- THE SECOND FORM. 'bulk': how many values and letters a reading holds, each counted each time it is reached (what is shared counts as often as it is met; a slice's spare places count too). A statement '..UptoSaid' is the law's where the arguments, and the package variables that the reading takes, are together of bulk at most 1048576: NARROWER than '..Said'. Prove '..Said' where nothing that the law and all that it calls make is longer than what came in: it says more and counts as full. Else prove '..UptoSaid'. A law counts once. -/
mutual
def uptoBulk {H : Type} : DataW H → Nat
  | .lit (.string bytes) => bytes.length + 1
  | .lit _ => 1
  | .nil => 1
  | .ptr d => uptoBulk d + 1
  | .slice elems spare => uptoBulkAll elems + uptoBulkAll spare + 1
  | .agg parts => uptoBulkAll parts + 1
  | .iface _ d => uptoBulk d + 1
  | .map entries => uptoBulkEntries entries + 1
  | .held _ => 1
def uptoBulkAll {H : Type} : List (DataW H) → Nat
  | [] => 0
  | d :: r => uptoBulk d + uptoBulkAll r
def uptoBulkEntries {H : Type} : List (Lit × DataW H) → Nat
  | [] => 0
  | x :: r => uptoBulkEntry x + uptoBulkEntries r
def uptoBulkEntry {H : Type} : Lit × DataW H → Nat
  | (.string bytes, d) => bytes.length + uptoBulk d + 1
  | (_, d) => uptoBulk d + 1
 end
def uptoSmall : (H : Type) → List (DataW H) → Bool := fun _ ds => decide (uptoBulkAll ds ≤ 1048576)
def OpenSpec.upto (s : _root_.Go.ChangeSpec) : _root_.Go.OpenSpec := { _root_.Go.OpenSpec.ofChange s with cond := some uptoSmall }

/-- 'laws.FnValidLoads', WHERE WHAT IT READS IS OF BULK AT MOST 1048576: true; the input reads as it did. -/
def fnValidLoadsUptoRow : OpenClaim := { program := "ytakpbnkncjddeaa", sum := "c5cbc2d15223a11f42aa2d8d1c075f658423d4c657d8c64524199ba017075678", func := "loop.example/shapesoftrees/laws.FnValidLoads", spec := "fnValidLoads", apart := false, narrowed := true }
def FnValidLoadsUptoSaid : Prop := fnValidLoadsUptoRow.holds Try.pinned (OpenSpec.upto fnValidLoadsSpec)

/-- 'laws.FnJoinCost', WHERE WHAT IT READS IS OF BULK AT MOST 1048576: true; the input reads as it did. -/
def fnJoinCostUptoRow : OpenClaim := { program := "ytakpbnkncjddeaa", sum := "c5cbc2d15223a11f42aa2d8d1c075f658423d4c657d8c64524199ba017075678", func := "loop.example/shapesoftrees/laws.FnJoinCost", spec := "fnJoinCost", recurses := true, apart := false, narrowed := true }
def FnJoinCostUptoSaid : Prop := fnJoinCostUptoRow.holds Try.pinned (OpenSpec.upto fnJoinCostSpec)

/-- 'laws.FnJoinTried', WHERE WHAT IT READS IS OF BULK AT MOST 1048576: true; the input reads as it did. -/
def fnJoinTriedUptoRow : OpenClaim := { program := "ytakpbnkncjddeaa", sum := "c5cbc2d15223a11f42aa2d8d1c075f658423d4c657d8c64524199ba017075678", func := "loop.example/shapesoftrees/laws.FnJoinTried", spec := "fnJoinTried", recurses := true, apart := false, narrowed := true }
def FnJoinTriedUptoSaid : Prop := fnJoinTriedUptoRow.holds Try.pinned (OpenSpec.upto fnJoinTriedSpec)

/-- 'laws.FnBesideCost', WHERE WHAT IT READS IS OF BULK AT MOST 1048576: true; the input reads as it did. -/
def fnBesideCostUptoRow : OpenClaim := { program := "ytakpbnkncjddeaa", sum := "c5cbc2d15223a11f42aa2d8d1c075f658423d4c657d8c64524199ba017075678", func := "loop.example/shapesoftrees/laws.FnBesideCost", spec := "fnBesideCost", recurses := true, apart := false, narrowed := true }
def FnBesideCostUptoSaid : Prop := fnBesideCostUptoRow.holds Try.pinned (OpenSpec.upto fnBesideCostSpec)

/-- 'laws.FnFindCost', WHERE WHAT IT READS IS OF BULK AT MOST 1048576: true; the input reads as it did. -/
def fnFindCostUptoRow : OpenClaim := { program := "ytakpbnkncjddeaa", sum := "c5cbc2d15223a11f42aa2d8d1c075f658423d4c657d8c64524199ba017075678", func := "loop.example/shapesoftrees/laws.FnFindCost", spec := "fnFindCost", unfollowed := true, recurses := true, apart := false, narrowed := true }
def FnFindCostUptoSaid : Prop := fnFindCostUptoRow.holds Try.pinned (OpenSpec.upto fnFindCostSpec)

/-- 'laws.FnFindBy', WHERE WHAT IT READS IS OF BULK AT MOST 1048576: true; the input reads as it did. -/
def fnFindByUptoRow : OpenClaim := { program := "ytakpbnkncjddeaa", sum := "c5cbc2d15223a11f42aa2d8d1c075f658423d4c657d8c64524199ba017075678", func := "loop.example/shapesoftrees/laws.FnFindBy", spec := "fnFindBy", recurses := true, apart := false, narrowed := true }
def FnFindByUptoSaid : Prop := fnFindByUptoRow.holds Try.pinned (OpenSpec.upto fnFindBySpec)

/-- 'laws.FnFindTried', WHERE WHAT IT READS IS OF BULK AT MOST 1048576: true; the input reads as it did. -/
def fnFindTriedUptoRow : OpenClaim := { program := "ytakpbnkncjddeaa", sum := "c5cbc2d15223a11f42aa2d8d1c075f658423d4c657d8c64524199ba017075678", func := "loop.example/shapesoftrees/laws.FnFindTried", spec := "fnFindTried", unfollowed := true, recurses := true, apart := false, narrowed := true }
def FnFindTriedUptoSaid : Prop := fnFindTriedUptoRow.holds Try.pinned (OpenSpec.upto fnFindTriedSpec)

/-- 'laws.FnLoadsScale', WHERE WHAT IT READS IS OF BULK AT MOST 1048576: true; the input reads as it did. -/
def fnLoadsScaleUptoRow : OpenClaim := { program := "ytakpbnkncjddeaa", sum := "c5cbc2d15223a11f42aa2d8d1c075f658423d4c657d8c64524199ba017075678", func := "loop.example/shapesoftrees/laws.FnLoadsScale", spec := "fnLoadsScale", recurses := true, apart := false, narrowed := true }
def FnLoadsScaleUptoSaid : Prop := fnLoadsScaleUptoRow.holds Try.pinned (OpenSpec.upto fnLoadsScaleSpec)

/-- 'laws.FnEvenLoads', WHERE WHAT IT READS IS OF BULK AT MOST 1048576: true; the input reads as it did. -/
def fnEvenLoadsUptoRow : OpenClaim := { program := "ytakpbnkncjddeaa", sum := "c5cbc2d15223a11f42aa2d8d1c075f658423d4c657d8c64524199ba017075678", func := "loop.example/shapesoftrees/laws.FnEvenLoads", spec := "fnEvenLoads", recurses := true, apart := false, narrowed := true }
def FnEvenLoadsUptoSaid : Prop := fnEvenLoadsUptoRow.holds Try.pinned (OpenSpec.upto fnEvenLoadsSpec)

end Rows
end Go.Proofs.Ytakpbnkncjddeaa
