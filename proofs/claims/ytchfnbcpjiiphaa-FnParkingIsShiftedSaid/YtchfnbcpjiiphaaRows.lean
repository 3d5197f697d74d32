/-
  No cell of these rows narrows 'for every input' (looked for: loops, veiled, ifaces, maps, wideKeys, modest, calm, conditions, laid).
  DERIVED. THE GIVEN ROWS OF THIS SEAT. 7 by the template 'for every input the law returns true; each argument reads behind the call as it read before'; 0 by the template 'total and deterministic' (their statements: YtchfnbcpjiiphaaTotals.lean).
  GIVEN WITH THE SEED: the statements are not yours to turn. If you find one false, say at which input.
  Laid BY PROGRAM, IN A SANDBOX (cutbox-rows.mjs): the forced cells as the released guide's own fill.sh prints them over the translation ec258e6b50536e44… (all of the seat's roots in one cut). By AI agents, Wed Nov 11 2026. No macro, syntax, notation, axiom, sorry.
-/
import Derived.Test.YtchfnbcpjiiphaaChecked
import GoSem.Claim
import GoSem.ClaimJoined
import GoSem.ClaimMapViews
import Derived.JoinedTies
import Derived.KernelRfl
namespace Go.Proofs.Ytchfnbcpjiiphaa
/- THE CELL 'sum', in the pinned program and in every row, IS THE sha256 OF THE DUMP (.gsa) THAT YtchfnbcpjiiphaaProg.lean LOADS. Nothing in Lean hashes anything: it is a label: what it is worth is what the hold of that sum in a sandbox is worth. -/
noncomputable def Try.pinned : Pinned := { name := "ytchfnbcpjiiphaa", sum := "ec258e6b50536e44fa1013ca595a6b8d0b70fb9b8146a02cc4eaf1f9fcb2d3d4", checked := Try.checked }
namespace Rows
def none {H : Type} : Left H := { results := [], args := [] }

/-- 'laws.FnPlacesOf': WHATEVER THE INPUT: true; the input reads as it did. -/
def fnPlacesOfSpec : ChangeSpec := { name := "fnPlacesOf", fn := fun _ => fun
  | [d] => { results := [.lit (.bool true)], args := [d] }
  | _ => none }
def fnPlacesOfRow : OpenClaim := { program := "ytchfnbcpjiiphaa", sum := "ec258e6b50536e44fa1013ca595a6b8d0b70fb9b8146a02cc4eaf1f9fcb2d3d4", func := "loop.example/shapesoftrees/laws.FnPlacesOf", spec := "fnPlacesOf", leaving := true, apart := false }
def FnPlacesOfSaid : Prop := fnPlacesOfRow.holds Try.pinned (OpenSpec.ofChange fnPlacesOfSpec)

/-- ITS FALSE NEIGHBOUR: 'it returns false'. Refute it at one input. -/
def fnPlacesOfWrong : ChangeSpec := { name := "fnPlacesOf", fn := fun _ => fun
  | [d] => { results := [.lit (.bool false)], args := [d] }
  | _ => none }
def FnPlacesOfWrongFalsely : Prop := fnPlacesOfRow.holds Try.pinned (OpenSpec.ofChange fnPlacesOfWrong)

/-- 'laws.FnAllPark': WHATEVER THE INPUT: true; the input reads as it did. -/
def fnAllParkSpec : ChangeSpec := { name := "fnAllPark", fn := fun _ => fun
  | [d] => { results := [.lit (.bool true)], args := [d] }
  | _ => none }
def fnAllParkRow : OpenClaim := { program := "ytchfnbcpjiiphaa", sum := "ec258e6b50536e44fa1013ca595a6b8d0b70fb9b8146a02cc4eaf1f9fcb2d3d4", func := "loop.example/shapesoftrees/laws.FnAllPark", spec := "fnAllPark", leaving := true, apart := false }
def FnAllParkSaid : Prop := fnAllParkRow.holds Try.pinned (OpenSpec.ofChange fnAllParkSpec)

/-- ITS FALSE NEIGHBOUR: 'it returns false'. Refute it at one input. -/
def fnAllParkWrong : ChangeSpec := { name := "fnAllPark", fn := fun _ => fun
  | [d] => { results := [.lit (.bool false)], args := [d] }
  | _ => none }
def FnAllParkWrongFalsely : Prop := fnAllParkRow.holds Try.pinned (OpenSpec.ofChange fnAllParkWrong)

/-- 'laws.FnCountPark': WHATEVER THE INPUT: true; the input reads as it did. -/
def fnCountParkSpec : ChangeSpec := { name := "fnCountPark", fn := fun _ => fun
  | [d] => { results := [.lit (.bool true)], args := [d] }
  | _ => none }
def fnCountParkRow : OpenClaim := { program := "ytchfnbcpjiiphaa", sum := "ec258e6b50536e44fa1013ca595a6b8d0b70fb9b8146a02cc4eaf1f9fcb2d3d4", func := "loop.example/shapesoftrees/laws.FnCountPark", spec := "fnCountPark", recurses := true, leaving := true, apart := false }
def FnCountParkSaid : Prop := fnCountParkRow.holds Try.pinned (OpenSpec.ofChange fnCountParkSpec)

/-- ITS FALSE NEIGHBOUR: 'it returns false'. Refute it at one input. -/
def fnCountParkWrong : ChangeSpec := { name := "fnCountPark", fn := fun _ => fun
  | [d] => { results := [.lit (.bool false)], args := [d] }
  | _ => none }
def FnCountParkWrongFalsely : Prop := fnCountParkRow.holds Try.pinned (OpenSpec.ofChange fnCountParkWrong)

/-- 'laws.FnParkTried': WHATEVER THE INPUT: true; the input reads as it did. -/
def fnParkTriedSpec : ChangeSpec := { name := "fnParkTried", fn := fun _ => fun
  | [d] => { results := [.lit (.bool true)], args := [d] }
  | _ => none }
def fnParkTriedRow : OpenClaim := { program := "ytchfnbcpjiiphaa", sum := "ec258e6b50536e44fa1013ca595a6b8d0b70fb9b8146a02cc4eaf1f9fcb2d3d4", func := "loop.example/shapesoftrees/laws.FnParkTried", spec := "fnParkTried", recurses := true, leaving := true, apart := false }
def FnParkTriedSaid : Prop := fnParkTriedRow.holds Try.pinned (OpenSpec.ofChange fnParkTriedSpec)

/-- ITS FALSE NEIGHBOUR: 'it returns false'. Refute it at one input. -/
def fnParkTriedWrong : ChangeSpec := { name := "fnParkTried", fn := fun _ => fun
  | [d] => { results := [.lit (.bool false)], args := [d] }
  | _ => none }
def FnParkTriedWrongFalsely : Prop := fnParkTriedRow.holds Try.pinned (OpenSpec.ofChange fnParkTriedWrong)

/-- 'laws.FnDriftOf': WHATEVER THE INPUT: true; the input reads as it did. -/
def fnDriftOfSpec : ChangeSpec := { name := "fnDriftOf", fn := fun _ => fun
  | [d] => { results := [.lit (.bool true)], args := [d] }
  | _ => none }
def fnDriftOfRow : OpenClaim := { program := "ytchfnbcpjiiphaa", sum := "ec258e6b50536e44fa1013ca595a6b8d0b70fb9b8146a02cc4eaf1f9fcb2d3d4", func := "loop.example/shapesoftrees/laws.FnDriftOf", spec := "fnDriftOf", leaving := true, apart := false }
def FnDriftOfSaid : Prop := fnDriftOfRow.holds Try.pinned (OpenSpec.ofChange fnDriftOfSpec)

/-- ITS FALSE NEIGHBOUR: 'it returns false'. Refute it at one input. -/
def fnDriftOfWrong : ChangeSpec := { name := "fnDriftOf", fn := fun _ => fun
  | [d] => { results := [.lit (.bool false)], args := [d] }
  | _ => none }
def FnDriftOfWrongFalsely : Prop := fnDriftOfRow.holds Try.pinned (OpenSpec.ofChange fnDriftOfWrong)

/-- 'laws.FnShiftFor': WHATEVER THE INPUT: true; the input reads as it did. -/
def fnShiftForSpec : ChangeSpec := { name := "fnShiftFor", fn := fun _ => fun
  | [d] => { results := [.lit (.bool true)], args := [d] }
  | _ => none }
def fnShiftForRow : OpenClaim := { program := "ytchfnbcpjiiphaa", sum := "ec258e6b50536e44fa1013ca595a6b8d0b70fb9b8146a02cc4eaf1f9fcb2d3d4", func := "loop.example/shapesoftrees/laws.FnShiftFor", spec := "fnShiftFor", leaving := true, apart := false }
def FnShiftForSaid : Prop := fnShiftForRow.holds Try.pinned (OpenSpec.ofChange fnShiftForSpec)

/-- ITS FALSE NEIGHBOUR: 'it returns false'. Refute it at one input. -/
def fnShiftForWrong : ChangeSpec := { name := "fnShiftFor", fn := fun _ => fun
  | [d] => { results := [.lit (.bool false)], args := [d] }
  | _ => none }
def FnShiftForWrongFalsely : Prop := fnShiftForRow.holds Try.pinned (OpenSpec.ofChange fnShiftForWrong)

/-- 'laws.FnParkingIsShifted': WHATEVER THE INPUT: true; the input reads as it did. -/
def fnParkingIsShiftedSpec : ChangeSpec := { name := "fnParkingIsShifted", fn := fun _ => fun
  | [d] => { results := [.lit (.bool true)], args := [d] }
  | _ => none }
def fnParkingIsShiftedRow : OpenClaim := { program := "ytchfnbcpjiiphaa", sum := "ec258e6b50536e44fa1013ca595a6b8d0b70fb9b8146a02cc4eaf1f9fcb2d3d4", func := "loop.example/shapesoftrees/laws.FnParkingIsShifted", spec := "fnParkingIsShifted", leaving := true, apart := false }
def FnParkingIsShiftedSaid : Prop := fnParkingIsShiftedRow.holds Try.pinned (OpenSpec.ofChange fnParkingIsShiftedSpec)

/-- ITS FALSE NEIGHBOUR: 'it returns false'. Refute it at one input. -/
def fnParkingIsShiftedWrong : ChangeSpec := { name := "fnParkingIsShifted", fn := fun _ => fun
  | [d] => { results := [.lit (.bool false)], args := [d] }
  | _ => none }
def FnParkingIsShiftedWrongFalsely : Prop := fnParkingIsShiftedRow.holds Try.pinned (OpenSpec.ofChange fnParkingIsShiftedWrong)

/- THE SECOND FORM. 'bulk': how many values and letters a reading holds, each counted each time it is reached (what is shared counts as often as it is met; a slice's spare places count too). A statement '..UptoSaid' is the law's where the arguments, and the package variables that the reading takes, are together of bulk at most 1048576: NARROWER than '..Said'. Prove '..Said' where nothing that the law and all that it calls make is longer than what came in: it says more and counts as full. Else prove '..UptoSaid'. A law counts once. -/
mutual
def uptoBulk {H : Type} : DataW H → Nat
  | .lit (.string bytes) => bytes.length + 1
  | .lit _ => 1
  | .nil => 1
  | .ptr d => uptoBulk d + 1
  | .slice elems spare => uptoBulkAll elems + uptoBulkAll spare + 1
  | .agg parts => uptoBulkAll parts + 1
  | .iface _ d => uptoBulk d + 1
  | .map entries => uptoBulkEntries entries + 1
  | .held _ => 1
def uptoBulkAll {H : Type} : List (DataW H) → Nat
  | [] => 0
  | d :: r => uptoBulk d + uptoBulkAll r
def uptoBulkEntries {H : Type} : List (Lit × DataW H) → Nat
  | [] => 0
  | x :: r => uptoBulkEntry x + uptoBulkEntries r
def uptoBulkEntry {H : Type} : Lit × DataW H → Nat
  | (.string bytes, d) => bytes.length + uptoBulk d + 1
  | (_, d) => uptoBulk d + 1
 end
def uptoSmall : (H : Type) → List (DataW H) → Bool := fun _ ds => decide (uptoBulkAll ds ≤ 1048576)
def OpenSpec.upto (s : _root_.Go.ChangeSpec) : _root_.Go.OpenSpec := { _root_.Go.OpenSpec.ofChange s with cond := some uptoSmall }

/-- 'laws.FnPlacesOf', WHERE WHAT IT READS IS OF BULK AT MOST 1048576: true; the input reads as it did. -/
def fnPlacesOfUptoRow : OpenClaim := { program := "ytchfnbcpjiiphaa", sum := "ec258e6b50536e44fa1013ca595a6b8d0b70fb9b8146a02cc4eaf1f9fcb2d3d4", func := "loop.example/shapesoftrees/laws.FnPlacesOf", spec := "fnPlacesOf", leaving := true, apart := false, narrowed := true }
def FnPlacesOfUptoSaid : Prop := fnPlacesOfUptoRow.holds Try.pinned (OpenSpec.upto fnPlacesOfSpec)

/-- 'laws.FnAllPark', WHERE WHAT IT READS IS OF BULK AT MOST 1048576: true; the input reads as it did. -/
def fnAllParkUptoRow : OpenClaim := { program := "ytchfnbcpjiiphaa", sum := "ec258e6b50536e44fa1013ca595a6b8d0b70fb9b8146a02cc4eaf1f9fcb2d3d4", func := "loop.example/shapesoftrees/laws.FnAllPark", spec := "fnAllPark", leaving := true, apart := false, narrowed := true }
def FnAllParkUptoSaid : Prop := fnAllParkUptoRow.holds Try.pinned (OpenSpec.upto fnAllParkSpec)

/-- 'laws.FnCountPark', WHERE WHAT IT READS IS OF BULK AT MOST 1048576: true; the input reads as it did. -/
def fnCountParkUptoRow : OpenClaim := { program := "ytchfnbcpjiiphaa", sum := "ec258e6b50536e44fa1013ca595a6b8d0b70fb9b8146a02cc4eaf1f9fcb2d3d4", func := "loop.example/shapesoftrees/laws.FnCountPark", spec := "fnCountPark", recurses := true, leaving := true, apart := false, narrowed := true }
def FnCountParkUptoSaid : Prop := fnCountParkUptoRow.holds Try.pinned (OpenSpec.upto fnCountParkSpec)

/-- 'laws.FnParkTried', WHERE WHAT IT READS IS OF BULK AT MOST 1048576: true; the input reads as it did. -/
def fnParkTriedUptoRow : OpenClaim := { program := "ytchfnbcpjiiphaa", sum := "ec258e6b50536e44fa1013ca595a6b8d0b70fb9b8146a02cc4eaf1f9fcb2d3d4", func := "loop.example/shapesoftrees/laws.FnParkTried", spec := "fnParkTried", recurses := true, leaving := true, apart := false, narrowed := true }
def FnParkTriedUptoSaid : Prop := fnParkTriedUptoRow.holds Try.pinned (OpenSpec.upto fnParkTriedSpec)

/-- 'laws.FnDriftOf', WHERE WHAT IT READS IS OF BULK AT MOST 1048576: true; the input reads as it did. -/
def fnDriftOfUptoRow : OpenClaim := { program := "ytchfnbcpjiiphaa", sum := "ec258e6b50536e44fa1013ca595a6b8d0b70fb9b8146a02cc4eaf1f9fcb2d3d4", func := "loop.example/shapesoftrees/laws.FnDriftOf", spec := "fnDriftOf", leaving := true, apart := false, narrowed := true }
def FnDriftOfUptoSaid : Prop := fnDriftOfUptoRow.holds Try.pinned (OpenSpec.upto fnDriftOfSpec)

/-- 'laws.FnShiftFor', WHERE WHAT IT READS IS OF BULK AT MOST 1048576: true; the input reads as it did. -/
def fnShiftForUptoRow : OpenClaim := { program := "ytchfnbcpjiiphaa", sum := "ec258e6b50536e44fa1013ca595a6b8d0b70fb9b8146a02cc4eaf1f9fcb2d3d4", func := "loop.example/shapesoftrees/laws.FnShiftFor", spec := "fnShiftFor", leaving := true, apart := false, narrowed := true }
def FnShiftForUptoSaid : Prop := fnShiftForUptoRow.holds Try.pinned (OpenSpec.upto fnShiftForSpec)

/-- 'laws.FnParkingIsShifted', WHERE WHAT IT READS IS OF BULK AT MOST 1048576: true; the input reads as it did. -/
def fnParkingIsShiftedUptoRow : OpenClaim := { program := "ytchfnbcpjiiphaa", sum := "ec258e6b50536e44fa1013ca595a6b8d0b70fb9b8146a02cc4eaf1f9fcb2d3d4", func := "loop.example/shapesoftrees/laws.FnParkingIsShifted", spec := "fnParkingIsShifted", leaving := true, apart := false, narrowed := true }
def FnParkingIsShiftedUptoSaid : Prop := fnParkingIsShiftedUptoRow.holds Try.pinned (OpenSpec.upto fnParkingIsShiftedSpec)

end Rows
end Go.Proofs.Ytchfnbcpjiiphaa
