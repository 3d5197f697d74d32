/-
  No cell of these rows narrows 'for every input' (looked for: loops, veiled, ifaces, maps, wideKeys, modest, calm, conditions, laid).
  DERIVED. THE GIVEN ROWS OF THIS SEAT. 7 by the template 'for every input the law returns true; each argument reads behind the call as it read before'; 0 by the template 'total and deterministic' (their statements: YthgiecpebmcooaaTotals.lean).
  GIVEN WITH THE SEED: the statements are not yours to turn. If you find one false, say at which input.
  Laid BY PROGRAM, IN A SANDBOX (cutbox-rows.mjs): the forced cells as the released guide's own fill.sh prints them over the translation e44701a5afe62ba1… (all of the seat's roots in one cut). By AI agents, Wed Nov 11 2026. No macro, syntax, notation, axiom, sorry.
-/
import Derived.Test.YthgiecpebmcooaaChecked
import GoSem.Claim
import GoSem.ClaimJoined
import GoSem.ClaimMapViews
import Derived.JoinedTies
import Derived.KernelRfl
namespace Go.Proofs.Ythgiecpebmcooaa
/- THE CELL 'sum', in the pinned program and in every row, IS THE sha256 OF THE DUMP (.gsa) THAT YthgiecpebmcooaaProg.lean LOADS. Nothing in Lean hashes anything: it is a label: what it is worth is what the hold of that sum in a sandbox is worth. -/
noncomputable def Try.pinned : Pinned := { name := "ythgiecpebmcooaa", sum := "e44701a5afe62ba11332c3d6affb545b9b4416c1744238b06c001542f136cf28", checked := Try.checked }
namespace Rows
def none {H : Type} : Left H := { results := [], args := [] }

/-- 'laws.FnExactValidLoads': WHATEVER THE INPUT: true; the input reads as it did. -/
def fnExactValidLoadsSpec : ChangeSpec := { name := "fnExactValidLoads", fn := fun _ => fun
  | [d] => { results := [.lit (.bool true)], args := [d] }
  | _ => none }
def fnExactValidLoadsRow : OpenClaim := { program := "ythgiecpebmcooaa", sum := "e44701a5afe62ba11332c3d6affb545b9b4416c1744238b06c001542f136cf28", func := "loop.example/shapesoftrees/laws.FnExactValidLoads", spec := "fnExactValidLoads", apart := false }
def FnExactValidLoadsSaid : Prop := fnExactValidLoadsRow.holds Try.pinned (OpenSpec.ofChange fnExactValidLoadsSpec)

/-- ITS FALSE NEIGHBOUR: 'it returns false'. Refute it at one input. -/
def fnExactValidLoadsWrong : ChangeSpec := { name := "fnExactValidLoads", fn := fun _ => fun
  | [d] => { results := [.lit (.bool false)], args := [d] }
  | _ => none }
def FnExactValidLoadsWrongFalsely : Prop := fnExactValidLoadsRow.holds Try.pinned (OpenSpec.ofChange fnExactValidLoadsWrong)

/-- 'laws.FnExactJoinCost': WHATEVER THE INPUT: true; the input reads as it did. -/
def fnExactJoinCostSpec : ChangeSpec := { name := "fnExactJoinCost", fn := fun _ => fun
  | [d] => { results := [.lit (.bool true)], args := [d] }
  | _ => none }
def fnExactJoinCostRow : OpenClaim := { program := "ythgiecpebmcooaa", sum := "e44701a5afe62ba11332c3d6affb545b9b4416c1744238b06c001542f136cf28", func := "loop.example/shapesoftrees/laws.FnExactJoinCost", spec := "fnExactJoinCost", recurses := true, apart := false }
def FnExactJoinCostSaid : Prop := fnExactJoinCostRow.holds Try.pinned (OpenSpec.ofChange fnExactJoinCostSpec)

/-- ITS FALSE NEIGHBOUR: 'it returns false'. Refute it at one input. -/
def fnExactJoinCostWrong : ChangeSpec := { name := "fnExactJoinCost", fn := fun _ => fun
  | [d] => { results := [.lit (.bool false)], args := [d] }
  | _ => none }
def FnExactJoinCostWrongFalsely : Prop := fnExactJoinCostRow.holds Try.pinned (OpenSpec.ofChange fnExactJoinCostWrong)

/-- 'laws.FnExactJoinTried': WHATEVER THE INPUT: true; the input reads as it did. -/
def fnExactJoinTriedSpec : ChangeSpec := { name := "fnExactJoinTried", fn := fun _ => fun
  | [d] => { results := [.lit (.bool true)], args := [d] }
  | _ => none }
def fnExactJoinTriedRow : OpenClaim := { program := "ythgiecpebmcooaa", sum := "e44701a5afe62ba11332c3d6affb545b9b4416c1744238b06c001542f136cf28", func := "loop.example/shapesoftrees/laws.FnExactJoinTried", spec := "fnExactJoinTried", recurses := true, apart := false }
def FnExactJoinTriedSaid : Prop := fnExactJoinTriedRow.holds Try.pinned (OpenSpec.ofChange fnExactJoinTriedSpec)

/-- ITS FALSE NEIGHBOUR: 'it returns false'. Refute it at one input. -/
def fnExactJoinTriedWrong : ChangeSpec := { name := "fnExactJoinTried", fn := fun _ => fun
  | [d] => { results := [.lit (.bool false)], args := [d] }
  | _ => none }
def FnExactJoinTriedWrongFalsely : Prop := fnExactJoinTriedRow.holds Try.pinned (OpenSpec.ofChange fnExactJoinTriedWrong)

/-- 'laws.FnExactBesideCost': WHATEVER THE INPUT: true; the input reads as it did. -/
def fnExactBesideCostSpec : ChangeSpec := { name := "fnExactBesideCost", fn := fun _ => fun
  | [d] => { results := [.lit (.bool true)], args := [d] }
  | _ => none }
def fnExactBesideCostRow : OpenClaim := { program := "ythgiecpebmcooaa", sum := "e44701a5afe62ba11332c3d6affb545b9b4416c1744238b06c001542f136cf28", func := "loop.example/shapesoftrees/laws.FnExactBesideCost", spec := "fnExactBesideCost", recurses := true, apart := false }
def FnExactBesideCostSaid : Prop := fnExactBesideCostRow.holds Try.pinned (OpenSpec.ofChange fnExactBesideCostSpec)

/-- ITS FALSE NEIGHBOUR: 'it returns false'. Refute it at one input. -/
def fnExactBesideCostWrong : ChangeSpec := { name := "fnExactBesideCost", fn := fun _ => fun
  | [d] => { results := [.lit (.bool false)], args := [d] }
  | _ => none }
def FnExactBesideCostWrongFalsely : Prop := fnExactBesideCostRow.holds Try.pinned (OpenSpec.ofChange fnExactBesideCostWrong)

/-- 'laws.FnExactFindCost': WHATEVER THE INPUT: true; the input reads as it did. -/
def fnExactFindCostSpec : ChangeSpec := { name := "fnExactFindCost", fn := fun _ => fun
  | [d] => { results := [.lit (.bool true)], args := [d] }
  | _ => none }
def fnExactFindCostRow : OpenClaim := { program := "ythgiecpebmcooaa", sum := "e44701a5afe62ba11332c3d6affb545b9b4416c1744238b06c001542f136cf28", func := "loop.example/shapesoftrees/laws.FnExactFindCost", spec := "fnExactFindCost", recurses := true, apart := false }
def FnExactFindCostSaid : Prop := fnExactFindCostRow.holds Try.pinned (OpenSpec.ofChange fnExactFindCostSpec)

/-- ITS FALSE NEIGHBOUR: 'it returns false'. Refute it at one input. -/
def fnExactFindCostWrong : ChangeSpec := { name := "fnExactFindCost", fn := fun _ => fun
  | [d] => { results := [.lit (.bool false)], args := [d] }
  | _ => none }
def FnExactFindCostWrongFalsely : Prop := fnExactFindCostRow.holds Try.pinned (OpenSpec.ofChange fnExactFindCostWrong)

/-- 'laws.FnExactFindBy': WHATEVER THE INPUT: true; the input reads as it did. -/
def fnExactFindBySpec : ChangeSpec := { name := "fnExactFindBy", fn := fun _ => fun
  | [d1, d2] => { results := [.lit (.bool true)], args := [d1, d2] }
  | _ => none }
def fnExactFindByRow : OpenClaim := { program := "ythgiecpebmcooaa", sum := "e44701a5afe62ba11332c3d6affb545b9b4416c1744238b06c001542f136cf28", func := "loop.example/shapesoftrees/laws.FnExactFindBy", spec := "fnExactFindBy", recurses := true, apart := false }
def FnExactFindBySaid : Prop := fnExactFindByRow.holds Try.pinned (OpenSpec.ofChange fnExactFindBySpec)

/-- ITS FALSE NEIGHBOUR: 'it returns false'. Refute it at one input. -/
def fnExactFindByWrong : ChangeSpec := { name := "fnExactFindBy", fn := fun _ => fun
  | [d1, d2] => { results := [.lit (.bool false)], args := [d1, d2] }
  | _ => none }
def FnExactFindByWrongFalsely : Prop := fnExactFindByRow.holds Try.pinned (OpenSpec.ofChange fnExactFindByWrong)

/-- 'laws.FnExactFindTried': WHATEVER THE INPUT: true; the input reads as it did. -/
def fnExactFindTriedSpec : ChangeSpec := { name := "fnExactFindTried", fn := fun _ => fun
  | [d] => { results := [.lit (.bool true)], args := [d] }
  | _ => none }
def fnExactFindTriedRow : OpenClaim := { program := "ythgiecpebmcooaa", sum := "e44701a5afe62ba11332c3d6affb545b9b4416c1744238b06c001542f136cf28", func := "loop.example/shapesoftrees/laws.FnExactFindTried", spec := "fnExactFindTried", unfollowed := true, recurses := true, apart := false }
def FnExactFindTriedSaid : Prop := fnExactFindTriedRow.holds Try.pinned (OpenSpec.ofChange fnExactFindTriedSpec)

/-- ITS FALSE NEIGHBOUR: 'it returns false'. Refute it at one input. -/
def fnExactFindTriedWrong : ChangeSpec := { name := "fnExactFindTried", fn := fun _ => fun
  | [d] => { results := [.lit (.bool false)], args := [d] }
  | _ => none }
def FnExactFindTriedWrongFalsely : Prop := fnExactFindTriedRow.holds Try.pinned (OpenSpec.ofChange fnExactFindTriedWrong)

/- THE SECOND FORM. 'bulk': how many values and letters a reading holds, each counted each time it is reached (what is shared counts as often as it is met; a slice's spare places count too). A statement '..UptoSaid' is the law's where the arguments, and the package variables that the reading takes, are together of bulk at most 1048576: NARROWER than '..Said'. Prove '..Said' where nothing that the law and all that it calls make is longer than what came in: it says more and counts as full. Else prove '..UptoSaid'. A law counts once. -/
mutual
def uptoBulk {H : Type} : DataW H → Nat
  | .lit (.string bytes) => bytes.length + 1
  | .lit _ => 1
  | .nil => 1
  | .ptr d => uptoBulk d + 1
  | .slice elems spare => uptoBulkAll elems + uptoBulkAll spare + 1
  | .agg parts => uptoBulkAll parts + 1
  | .iface _ d => uptoBulk d + 1
  | .map entries => uptoBulkEntries entries + 1
  | .held _ => 1
def uptoBulkAll {H : Type} : List (DataW H) → Nat
  | [] => 0
  | d :: r => uptoBulk d + uptoBulkAll r
def uptoBulkEntries {H : Type} : List (Lit × DataW H) → Nat
  | [] => 0
  | x :: r => uptoBulkEntry x + uptoBulkEntries r
def uptoBulkEntry {H : Type} : Lit × DataW H → Nat
  | (.string bytes, d) => bytes.length + uptoBulk d + 1
  | (_, d) => uptoBulk d + 1
 end
def uptoSmall : (H : Type) → List (DataW H) → Bool := fun _ ds => decide (uptoBulkAll ds ≤ 1048576)
def OpenSpec.upto (s : _root_.Go.ChangeSpec) : _root_.Go.OpenSpec := { _root_.Go.OpenSpec.ofChange s with cond := some uptoSmall }

/-- 'laws.FnExactValidLoads', WHERE WHAT IT READS IS OF BULK AT MOST 1048576: true; the input reads as it did. -/
def fnExactValidLoadsUptoRow : OpenClaim := { program := "ythgiecpebmcooaa", sum := "e44701a5afe62ba11332c3d6affb545b9b4416c1744238b06c001542f136cf28", func := "loop.example/shapesoftrees/laws.FnExactValidLoads", spec := "fnExactValidLoads", apart := false, narrowed := true }
def FnExactValidLoadsUptoSaid : Prop := fnExactValidLoadsUptoRow.holds Try.pinned (OpenSpec.upto fnExactValidLoadsSpec)

/-- 'laws.FnExactJoinCost', WHERE WHAT IT READS IS OF BULK AT MOST 1048576: true; the input reads as it did. -/
def fnExactJoinCostUptoRow : OpenClaim := { program := "ythgiecpebmcooaa", sum := "e44701a5afe62ba11332c3d6affb545b9b4416c1744238b06c001542f136cf28", func := "loop.example/shapesoftrees/laws.FnExactJoinCost", spec := "fnExactJoinCost", recurses := true, apart := false, narrowed := true }
def FnExactJoinCostUptoSaid : Prop := fnExactJoinCostUptoRow.holds Try.pinned (OpenSpec.upto fnExactJoinCostSpec)

/-- 'laws.FnExactJoinTried', WHERE WHAT IT READS IS OF BULK AT MOST 1048576: true; the input reads as it did. -/
def fnExactJoinTriedUptoRow : OpenClaim := { program := "ythgiecpebmcooaa", sum := "e44701a5afe62ba11332c3d6affb545b9b4416c1744238b06c001542f136cf28", func := "loop.example/shapesoftrees/laws.FnExactJoinTried", spec := "fnExactJoinTried", recurses := true, apart := false, narrowed := true }
def FnExactJoinTriedUptoSaid : Prop := fnExactJoinTriedUptoRow.holds Try.pinned (OpenSpec.upto fnExactJoinTriedSpec)

/-- 'laws.FnExactBesideCost', WHERE WHAT IT READS IS OF BULK AT MOST 1048576: true; the input reads as it did. -/
def fnExactBesideCostUptoRow : OpenClaim := { program := "ythgiecpebmcooaa", sum := "e44701a5afe62ba11332c3d6affb545b9b4416c1744238b06c001542f136cf28", func := "loop.example/shapesoftrees/laws.FnExactBesideCost", spec := "fnExactBesideCost", recurses := true, apart := false, narrowed := true }
def FnExactBesideCostUptoSaid : Prop := fnExactBesideCostUptoRow.holds Try.pinned (OpenSpec.upto fnExactBesideCostSpec)

/-- 'laws.FnExactFindCost', WHERE WHAT IT READS IS OF BULK AT MOST 1048576: true; the input reads as it did. -/
def fnExactFindCostUptoRow : OpenClaim := { program := "ythgiecpebmcooaa", sum := "e44701a5afe62ba11332c3d6affb545b9b4416c1744238b06c001542f136cf28", func := "loop.example/shapesoftrees/laws.FnExactFindCost", spec := "fnExactFindCost", recurses := true, apart := false, narrowed := true }
def FnExactFindCostUptoSaid : Prop := fnExactFindCostUptoRow.holds Try.pinned (OpenSpec.upto fnExactFindCostSpec)

/-- 'laws.FnExactFindBy', WHERE WHAT IT READS IS OF BULK AT MOST 1048576: true; the input reads as it did. -/
def fnExactFindByUptoRow : OpenClaim := { program := "ythgiecpebmcooaa", sum := "e44701a5afe62ba11332c3d6affb545b9b4416c1744238b06c001542f136cf28", func := "loop.example/shapesoftrees/laws.FnExactFindBy", spec := "fnExactFindBy", recurses := true, apart := false, narrowed := true }
def FnExactFindByUptoSaid : Prop := fnExactFindByUptoRow.holds Try.pinned (OpenSpec.upto fnExactFindBySpec)

/-- 'laws.FnExactFindTried', WHERE WHAT IT READS IS OF BULK AT MOST 1048576: true; the input reads as it did. -/
def fnExactFindTriedUptoRow : OpenClaim := { program := "ythgiecpebmcooaa", sum := "e44701a5afe62ba11332c3d6affb545b9b4416c1744238b06c001542f136cf28", func := "loop.example/shapesoftrees/laws.FnExactFindTried", spec := "fnExactFindTried", unfollowed := true, recurses := true, apart := false, narrowed := true }
def FnExactFindTriedUptoSaid : Prop := fnExactFindTriedUptoRow.holds Try.pinned (OpenSpec.upto fnExactFindTriedSpec)

end Rows
end Go.Proofs.Ythgiecpebmcooaa
