/-
  No cell of these rows narrows 'for every input' (looked for: loops, veiled, ifaces, maps, wideKeys, modest, calm, conditions, laid).
  DERIVED. THE GIVEN ROWS OF THIS SEAT. 5 by the template 'for every input the law returns true; each argument reads behind the call as it read before'; 0 by the template 'total and deterministic' (their statements: YtchfnbcpjiiphabTotals.lean).
  GIVEN WITH THE SEED: the statements are not yours to turn. If you find one false, say at which input.
  Laid BY PROGRAM, IN A SANDBOX (cutbox-rows.mjs): the forced cells as the released guide's own fill.sh prints them over the translation ff0a1fa89fb398b4… (all of the seat's roots in one cut). By AI agents, Wed Nov 11 2026. No macro, syntax, notation, axiom, sorry.
-/
import Derived.Test.YtchfnbcpjiiphabChecked
import GoSem.Claim
import GoSem.ClaimJoined
import GoSem.ClaimMapViews
import Derived.JoinedTies
import Derived.KernelRfl
namespace Go.Proofs.Ytchfnbcpjiiphab
/- THE CELL 'sum', in the pinned program and in every row, IS THE sha256 OF THE DUMP (.gsa) THAT YtchfnbcpjiiphabProg.lean LOADS. Nothing in Lean hashes anything: it is a label: what it is worth is what the hold of that sum in a sandbox is worth. -/
noncomputable def Try.pinned : Pinned := { name := "ytchfnbcpjiiphab", sum := "ff0a1fa89fb398b497a6aca8372e2ed844a3443078db411191cf82e3ae38b485", checked := Try.checked }
namespace Rows
def none {H : Type} : Left H := { results := [], args := [] }

/-- 'laws.FnExactPlacesOf': WHATEVER THE INPUT: true; the input reads as it did. -/
def fnExactPlacesOfSpec : ChangeSpec := { name := "fnExactPlacesOf", fn := fun _ => fun
  | [d] => { results := [.lit (.bool true)], args := [d] }
  | _ => none }
def fnExactPlacesOfRow : OpenClaim := { program := "ytchfnbcpjiiphab", sum := "ff0a1fa89fb398b497a6aca8372e2ed844a3443078db411191cf82e3ae38b485", func := "loop.example/shapesoftrees/laws.FnExactPlacesOf", spec := "fnExactPlacesOf", leaving := true, apart := false }
def FnExactPlacesOfSaid : Prop := fnExactPlacesOfRow.holds Try.pinned (OpenSpec.ofChange fnExactPlacesOfSpec)

/-- ITS FALSE NEIGHBOUR: 'it returns false'. Refute it at one input. -/
def fnExactPlacesOfWrong : ChangeSpec := { name := "fnExactPlacesOf", fn := fun _ => fun
  | [d] => { results := [.lit (.bool false)], args := [d] }
  | _ => none }
def FnExactPlacesOfWrongFalsely : Prop := fnExactPlacesOfRow.holds Try.pinned (OpenSpec.ofChange fnExactPlacesOfWrong)

/-- 'laws.FnExactAllPark': WHATEVER THE INPUT: true; the input reads as it did. -/
def fnExactAllParkSpec : ChangeSpec := { name := "fnExactAllPark", fn := fun _ => fun
  | [d] => { results := [.lit (.bool true)], args := [d] }
  | _ => none }
def fnExactAllParkRow : OpenClaim := { program := "ytchfnbcpjiiphab", sum := "ff0a1fa89fb398b497a6aca8372e2ed844a3443078db411191cf82e3ae38b485", func := "loop.example/shapesoftrees/laws.FnExactAllPark", spec := "fnExactAllPark", leaving := true, apart := false }
def FnExactAllParkSaid : Prop := fnExactAllParkRow.holds Try.pinned (OpenSpec.ofChange fnExactAllParkSpec)

/-- ITS FALSE NEIGHBOUR: 'it returns false'. Refute it at one input. -/
def fnExactAllParkWrong : ChangeSpec := { name := "fnExactAllPark", fn := fun _ => fun
  | [d] => { results := [.lit (.bool false)], args := [d] }
  | _ => none }
def FnExactAllParkWrongFalsely : Prop := fnExactAllParkRow.holds Try.pinned (OpenSpec.ofChange fnExactAllParkWrong)

/-- 'laws.FnExactParkTried': WHATEVER THE INPUT: true; the input reads as it did. -/
def fnExactParkTriedSpec : ChangeSpec := { name := "fnExactParkTried", fn := fun _ => fun
  | [d] => { results := [.lit (.bool true)], args := [d] }
  | _ => none }
def fnExactParkTriedRow : OpenClaim := { program := "ytchfnbcpjiiphab", sum := "ff0a1fa89fb398b497a6aca8372e2ed844a3443078db411191cf82e3ae38b485", func := "loop.example/shapesoftrees/laws.FnExactParkTried", spec := "fnExactParkTried", recurses := true, leaving := true, apart := false }
def FnExactParkTriedSaid : Prop := fnExactParkTriedRow.holds Try.pinned (OpenSpec.ofChange fnExactParkTriedSpec)

/-- ITS FALSE NEIGHBOUR: 'it returns false'. Refute it at one input. -/
def fnExactParkTriedWrong : ChangeSpec := { name := "fnExactParkTried", fn := fun _ => fun
  | [d] => { results := [.lit (.bool false)], args := [d] }
  | _ => none }
def FnExactParkTriedWrongFalsely : Prop := fnExactParkTriedRow.holds Try.pinned (OpenSpec.ofChange fnExactParkTriedWrong)

/-- 'laws.FnExactDriftOf': WHATEVER THE INPUT: true; the input reads as it did. -/
def fnExactDriftOfSpec : ChangeSpec := { name := "fnExactDriftOf", fn := fun _ => fun
  | [d] => { results := [.lit (.bool true)], args := [d] }
  | _ => none }
def fnExactDriftOfRow : OpenClaim := { program := "ytchfnbcpjiiphab", sum := "ff0a1fa89fb398b497a6aca8372e2ed844a3443078db411191cf82e3ae38b485", func := "loop.example/shapesoftrees/laws.FnExactDriftOf", spec := "fnExactDriftOf", leaving := true, apart := false }
def FnExactDriftOfSaid : Prop := fnExactDriftOfRow.holds Try.pinned (OpenSpec.ofChange fnExactDriftOfSpec)

/-- ITS FALSE NEIGHBOUR: 'it returns false'. Refute it at one input. -/
def fnExactDriftOfWrong : ChangeSpec := { name := "fnExactDriftOf", fn := fun _ => fun
  | [d] => { results := [.lit (.bool false)], args := [d] }
  | _ => none }
def FnExactDriftOfWrongFalsely : Prop := fnExactDriftOfRow.holds Try.pinned (OpenSpec.ofChange fnExactDriftOfWrong)

/-- 'laws.FnExactShiftFor': WHATEVER THE INPUT: true; the input reads as it did. -/
def fnExactShiftForSpec : ChangeSpec := { name := "fnExactShiftFor", fn := fun _ => fun
  | [d] => { results := [.lit (.bool true)], args := [d] }
  | _ => none }
def fnExactShiftForRow : OpenClaim := { program := "ytchfnbcpjiiphab", sum := "ff0a1fa89fb398b497a6aca8372e2ed844a3443078db411191cf82e3ae38b485", func := "loop.example/shapesoftrees/laws.FnExactShiftFor", spec := "fnExactShiftFor", leaving := true, apart := false }
def FnExactShiftForSaid : Prop := fnExactShiftForRow.holds Try.pinned (OpenSpec.ofChange fnExactShiftForSpec)

/-- ITS FALSE NEIGHBOUR: 'it returns false'. Refute it at one input. -/
def fnExactShiftForWrong : ChangeSpec := { name := "fnExactShiftFor", fn := fun _ => fun
  | [d] => { results := [.lit (.bool false)], args := [d] }
  | _ => none }
def FnExactShiftForWrongFalsely : Prop := fnExactShiftForRow.holds Try.pinned (OpenSpec.ofChange fnExactShiftForWrong)

/- THE SECOND FORM. 'bulk': how many values and letters a reading holds, each counted each time it is reached (what is shared counts as often as it is met; a slice's spare places count too). A statement '..UptoSaid' is the law's where the arguments, and the package variables that the reading takes, are together of bulk at most 1048576: NARROWER than '..Said'. Prove '..Said' where nothing that the law and all that it calls make is longer than what came in: it says more and counts as full. Else prove '..UptoSaid'. A law counts once. -/
mutual
def uptoBulk {H : Type} : DataW H → Nat
  | .lit (.string bytes) => bytes.length + 1
  | .lit _ => 1
  | .nil => 1
  | .ptr d => uptoBulk d + 1
  | .slice elems spare => uptoBulkAll elems + uptoBulkAll spare + 1
  | .agg parts => uptoBulkAll parts + 1
  | .iface _ d => uptoBulk d + 1
  | .map entries => uptoBulkEntries entries + 1
  | .held _ => 1
def uptoBulkAll {H : Type} : List (DataW H) → Nat
  | [] => 0
  | d :: r => uptoBulk d + uptoBulkAll r
def uptoBulkEntries {H : Type} : List (Lit × DataW H) → Nat
  | [] => 0
  | x :: r => uptoBulkEntry x + uptoBulkEntries r
def uptoBulkEntry {H : Type} : Lit × DataW H → Nat
  | (.string bytes, d) => bytes.length + uptoBulk d + 1
  | (_, d) => uptoBulk d + 1
 end
def uptoSmall : (H : Type) → List (DataW H) → Bool := fun _ ds => decide (uptoBulkAll ds ≤ 1048576)
def OpenSpec.upto (s : _root_.Go.ChangeSpec) : _root_.Go.OpenSpec := { _root_.Go.OpenSpec.ofChange s with cond := some uptoSmall }

/-- 'laws.FnExactPlacesOf', WHERE WHAT IT READS IS OF BULK AT MOST 1048576: true; the input reads as it did. -/
def fnExactPlacesOfUptoRow : OpenClaim := { program := "ytchfnbcpjiiphab", sum := "ff0a1fa89fb398b497a6aca8372e2ed844a3443078db411191cf82e3ae38b485", func := "loop.example/shapesoftrees/laws.FnExactPlacesOf", spec := "fnExactPlacesOf", leaving := true, apart := false, narrowed := true }
def FnExactPlacesOfUptoSaid : Prop := fnExactPlacesOfUptoRow.holds Try.pinned (OpenSpec.upto fnExactPlacesOfSpec)

/-- 'laws.FnExactAllPark', WHERE WHAT IT READS IS OF BULK AT MOST 1048576: true; the input reads as it did. -/
def fnExactAllParkUptoRow : OpenClaim := { program := "ytchfnbcpjiiphab", sum := "ff0a1fa89fb398b497a6aca8372e2ed844a3443078db411191cf82e3ae38b485", func := "loop.example/shapesoftrees/laws.FnExactAllPark", spec := "fnExactAllPark", leaving := true, apart := false, narrowed := true }
def FnExactAllParkUptoSaid : Prop := fnExactAllParkUptoRow.holds Try.pinned (OpenSpec.upto fnExactAllParkSpec)

/-- 'laws.FnExactParkTried', WHERE WHAT IT READS IS OF BULK AT MOST 1048576: true; the input reads as it did. -/
def fnExactParkTriedUptoRow : OpenClaim := { program := "ytchfnbcpjiiphab", sum := "ff0a1fa89fb398b497a6aca8372e2ed844a3443078db411191cf82e3ae38b485", func := "loop.example/shapesoftrees/laws.FnExactParkTried", spec := "fnExactParkTried", recurses := true, leaving := true, apart := false, narrowed := true }
def FnExactParkTriedUptoSaid : Prop := fnExactParkTriedUptoRow.holds Try.pinned (OpenSpec.upto fnExactParkTriedSpec)

/-- 'laws.FnExactDriftOf', WHERE WHAT IT READS IS OF BULK AT MOST 1048576: true; the input reads as it did. -/
def fnExactDriftOfUptoRow : OpenClaim := { program := "ytchfnbcpjiiphab", sum := "ff0a1fa89fb398b497a6aca8372e2ed844a3443078db411191cf82e3ae38b485", func := "loop.example/shapesoftrees/laws.FnExactDriftOf", spec := "fnExactDriftOf", leaving := true, apart := false, narrowed := true }
def FnExactDriftOfUptoSaid : Prop := fnExactDriftOfUptoRow.holds Try.pinned (OpenSpec.upto fnExactDriftOfSpec)

/-- 'laws.FnExactShiftFor', WHERE WHAT IT READS IS OF BULK AT MOST 1048576: true; the input reads as it did. -/
def fnExactShiftForUptoRow : OpenClaim := { program := "ytchfnbcpjiiphab", sum := "ff0a1fa89fb398b497a6aca8372e2ed844a3443078db411191cf82e3ae38b485", func := "loop.example/shapesoftrees/laws.FnExactShiftFor", spec := "fnExactShiftFor", leaving := true, apart := false, narrowed := true }
def FnExactShiftForUptoSaid : Prop := fnExactShiftForUptoRow.holds Try.pinned (OpenSpec.upto fnExactShiftForSpec)

end Rows
end Go.Proofs.Ytchfnbcpjiiphab
