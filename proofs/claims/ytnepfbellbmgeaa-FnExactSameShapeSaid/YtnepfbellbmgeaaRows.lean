/-
  No cell of these rows narrows 'for every input' (looked for: loops, veiled, ifaces, maps, wideKeys, modest, calm, conditions, laid).
  DERIVED. THE GIVEN ROWS OF THIS SEAT. 7 by the template 'for every input the law returns true; each argument reads behind the call as it read before'; 0 by the template 'total and deterministic' (their statements: YtnepfbellbmgeaaTotals.lean).
  GIVEN WITH THE SEED: the statements are not yours to turn. If you find one false, say at which input.
  Laid BY PROGRAM, IN A SANDBOX (cutbox-rows.mjs): the forced cells as the released guide's own fill.sh prints them over the translation 0f71eab9b02eb971… (all of the seat's roots in one cut). By AI agents, Wed Nov 11 2026. No macro, syntax, notation, axiom, sorry.
-/
import Derived.Test.YtnepfbellbmgeaaChecked
import GoSem.Claim
import GoSem.ClaimJoined
import GoSem.ClaimMapViews
import Derived.JoinedTies
import Derived.KernelRfl
namespace Go.Proofs.Ytnepfbellbmgeaa
/- THE CELL 'sum', in the pinned program and in every row, IS THE sha256 OF THE DUMP (.gsa) THAT YtnepfbellbmgeaaProg.lean LOADS. Nothing in Lean hashes anything: it is a label: what it is worth is what the hold of that sum in a sandbox is worth. -/
noncomputable def Try.pinned : Pinned := { name := "ytnepfbellbmgeaa", sum := "0f71eab9b02eb9710774cfe119105a078d8ce5eac5202ed9d468e0cde56f92c2", checked := Try.checked }
namespace Rows
def none {H : Type} : Left H := { results := [], args := [] }

/-- 'laws.FnExactCentersOf': WHATEVER THE INPUT: true; the input reads as it did. -/
def fnExactCentersOfSpec : ChangeSpec := { name := "fnExactCentersOf", fn := fun _ => fun
  | [d1, d2] => { results := [.lit (.bool true)], args := [d1, d2] }
  | _ => none }
def fnExactCentersOfRow : OpenClaim := { program := "ytnepfbellbmgeaa", sum := "0f71eab9b02eb9710774cfe119105a078d8ce5eac5202ed9d468e0cde56f92c2", func := "loop.example/shapesoftrees/laws.FnExactCentersOf", spec := "fnExactCentersOf", unfollowed := true, recurses := true, apart := false }
def FnExactCentersOfSaid : Prop := fnExactCentersOfRow.holds Try.pinned (OpenSpec.ofChange fnExactCentersOfSpec)

/-- ITS FALSE NEIGHBOUR: 'it returns false'. Refute it at one input. -/
def fnExactCentersOfWrong : ChangeSpec := { name := "fnExactCentersOf", fn := fun _ => fun
  | [d1, d2] => { results := [.lit (.bool false)], args := [d1, d2] }
  | _ => none }
def FnExactCentersOfWrongFalsely : Prop := fnExactCentersOfRow.holds Try.pinned (OpenSpec.ofChange fnExactCentersOfWrong)

/-- 'laws.FnExactRootText': WHATEVER THE INPUT: true; the input reads as it did. -/
def fnExactRootTextSpec : ChangeSpec := { name := "fnExactRootText", fn := fun _ => fun
  | [d1, d2, d3] => { results := [.lit (.bool true)], args := [d1, d2, d3] }
  | _ => none }
def fnExactRootTextRow : OpenClaim := { program := "ytnepfbellbmgeaa", sum := "0f71eab9b02eb9710774cfe119105a078d8ce5eac5202ed9d468e0cde56f92c2", func := "loop.example/shapesoftrees/laws.FnExactRootText", spec := "fnExactRootText", inPlace := ["internal/abi.NoEscape", "internal/bytealg.MakeNoZero"], unfollowed := true, recurses := true, apart := false }
def FnExactRootTextSaid : Prop := fnExactRootTextRow.holds Try.pinned (OpenSpec.ofChange fnExactRootTextSpec)

/-- ITS FALSE NEIGHBOUR: 'it returns false'. Refute it at one input. -/
def fnExactRootTextWrong : ChangeSpec := { name := "fnExactRootText", fn := fun _ => fun
  | [d1, d2, d3] => { results := [.lit (.bool false)], args := [d1, d2, d3] }
  | _ => none }
def FnExactRootTextWrongFalsely : Prop := fnExactRootTextRow.holds Try.pinned (OpenSpec.ofChange fnExactRootTextWrong)

/-- 'laws.FnExactFreeText': WHATEVER THE INPUT: true; the input reads as it did. -/
def fnExactFreeTextSpec : ChangeSpec := { name := "fnExactFreeText", fn := fun _ => fun
  | [d1, d2] => { results := [.lit (.bool true)], args := [d1, d2] }
  | _ => none }
def fnExactFreeTextRow : OpenClaim := { program := "ytnepfbellbmgeaa", sum := "0f71eab9b02eb9710774cfe119105a078d8ce5eac5202ed9d468e0cde56f92c2", func := "loop.example/shapesoftrees/laws.FnExactFreeText", spec := "fnExactFreeText", inPlace := ["internal/abi.NoEscape", "internal/bytealg.MakeNoZero"], unfollowed := true, recurses := true, apart := false }
def FnExactFreeTextSaid : Prop := fnExactFreeTextRow.holds Try.pinned (OpenSpec.ofChange fnExactFreeTextSpec)

/-- ITS FALSE NEIGHBOUR: 'it returns false'. Refute it at one input. -/
def fnExactFreeTextWrong : ChangeSpec := { name := "fnExactFreeText", fn := fun _ => fun
  | [d1, d2] => { results := [.lit (.bool false)], args := [d1, d2] }
  | _ => none }
def FnExactFreeTextWrongFalsely : Prop := fnExactFreeTextRow.holds Try.pinned (OpenSpec.ofChange fnExactFreeTextWrong)

/-- 'laws.FnExactSameShape': WHATEVER THE INPUT: true; the input reads as it did. -/
def fnExactSameShapeSpec : ChangeSpec := { name := "fnExactSameShape", fn := fun _ => fun
  | [d1, d2, d3] => { results := [.lit (.bool true)], args := [d1, d2, d3] }
  | _ => none }
def fnExactSameShapeRow : OpenClaim := { program := "ytnepfbellbmgeaa", sum := "0f71eab9b02eb9710774cfe119105a078d8ce5eac5202ed9d468e0cde56f92c2", func := "loop.example/shapesoftrees/laws.FnExactSameShape", spec := "fnExactSameShape", inPlace := ["internal/abi.NoEscape", "internal/bytealg.MakeNoZero"], unfollowed := true, recurses := true, apart := false }
def FnExactSameShapeSaid : Prop := fnExactSameShapeRow.holds Try.pinned (OpenSpec.ofChange fnExactSameShapeSpec)

/-- ITS FALSE NEIGHBOUR: 'it returns false'. Refute it at one input. -/
def fnExactSameShapeWrong : ChangeSpec := { name := "fnExactSameShape", fn := fun _ => fun
  | [d1, d2, d3] => { results := [.lit (.bool false)], args := [d1, d2, d3] }
  | _ => none }
def FnExactSameShapeWrongFalsely : Prop := fnExactSameShapeRow.holds Try.pinned (OpenSpec.ofChange fnExactSameShapeWrong)

/-- 'laws.FnExactSelfMaps': WHATEVER THE INPUT: true; the input reads as it did. -/
def fnExactSelfMapsSpec : ChangeSpec := { name := "fnExactSelfMaps", fn := fun _ => fun
  | [d1, d2] => { results := [.lit (.bool true)], args := [d1, d2] }
  | _ => none }
def fnExactSelfMapsRow : OpenClaim := { program := "ytnepfbellbmgeaa", sum := "0f71eab9b02eb9710774cfe119105a078d8ce5eac5202ed9d468e0cde56f92c2", func := "loop.example/shapesoftrees/laws.FnExactSelfMaps", spec := "fnExactSelfMaps", inPlace := ["internal/abi.NoEscape", "internal/bytealg.MakeNoZero"], unfollowed := true, recurses := true, apart := false }
def FnExactSelfMapsSaid : Prop := fnExactSelfMapsRow.holds Try.pinned (OpenSpec.ofChange fnExactSelfMapsSpec)

/-- ITS FALSE NEIGHBOUR: 'it returns false'. Refute it at one input. -/
def fnExactSelfMapsWrong : ChangeSpec := { name := "fnExactSelfMaps", fn := fun _ => fun
  | [d1, d2] => { results := [.lit (.bool false)], args := [d1, d2] }
  | _ => none }
def FnExactSelfMapsWrongFalsely : Prop := fnExactSelfMapsRow.holds Try.pinned (OpenSpec.ofChange fnExactSelfMapsWrong)

/-- 'laws.FnExactSelfMapsTried': WHATEVER THE INPUT: true; the input reads as it did. -/
def fnExactSelfMapsTriedSpec : ChangeSpec := { name := "fnExactSelfMapsTried", fn := fun _ => fun
  | [d1, d2] => { results := [.lit (.bool true)], args := [d1, d2] }
  | _ => none }
def fnExactSelfMapsTriedRow : OpenClaim := { program := "ytnepfbellbmgeaa", sum := "0f71eab9b02eb9710774cfe119105a078d8ce5eac5202ed9d468e0cde56f92c2", func := "loop.example/shapesoftrees/laws.FnExactSelfMapsTried", spec := "fnExactSelfMapsTried", unfollowed := true, recurses := true, apart := false }
def FnExactSelfMapsTriedSaid : Prop := fnExactSelfMapsTriedRow.holds Try.pinned (OpenSpec.ofChange fnExactSelfMapsTriedSpec)

/-- ITS FALSE NEIGHBOUR: 'it returns false'. Refute it at one input. -/
def fnExactSelfMapsTriedWrong : ChangeSpec := { name := "fnExactSelfMapsTried", fn := fun _ => fun
  | [d1, d2] => { results := [.lit (.bool false)], args := [d1, d2] }
  | _ => none }
def FnExactSelfMapsTriedWrongFalsely : Prop := fnExactSelfMapsTriedRow.holds Try.pinned (OpenSpec.ofChange fnExactSelfMapsTriedWrong)

/-- 'laws.FnExactShapesOf': WHATEVER THE INPUT: true; the input reads as it did. -/
def fnExactShapesOfSpec : ChangeSpec := { name := "fnExactShapesOf", fn := fun _ => fun
  | [d] => { results := [.lit (.bool true)], args := [d] }
  | _ => none }
def fnExactShapesOfRow : OpenClaim := { program := "ytnepfbellbmgeaa", sum := "0f71eab9b02eb9710774cfe119105a078d8ce5eac5202ed9d468e0cde56f92c2", func := "loop.example/shapesoftrees/laws.FnExactShapesOf", spec := "fnExactShapesOf", inPlace := ["internal/abi.NoEscape", "internal/bytealg.MakeNoZero"], unfollowed := true, recurses := true, apart := false }
def FnExactShapesOfSaid : Prop := fnExactShapesOfRow.holds Try.pinned (OpenSpec.ofChange fnExactShapesOfSpec)

/-- ITS FALSE NEIGHBOUR: 'it returns false'. Refute it at one input. -/
def fnExactShapesOfWrong : ChangeSpec := { name := "fnExactShapesOf", fn := fun _ => fun
  | [d] => { results := [.lit (.bool false)], args := [d] }
  | _ => none }
def FnExactShapesOfWrongFalsely : Prop := fnExactShapesOfRow.holds Try.pinned (OpenSpec.ofChange fnExactShapesOfWrong)

/- THE SECOND FORM. 'bulk': how many values and letters a reading holds, each counted each time it is reached (what is shared counts as often as it is met; a slice's spare places count too). A statement '..UptoSaid' is the law's where the arguments, and the package variables that the reading takes, are together of bulk at most 1048576: NARROWER than '..Said'. Prove '..Said' where nothing that the law and all that it calls make is longer than what came in: it says more and counts as full. Else prove '..UptoSaid'. A law counts once. -/
mutual
def uptoBulk {H : Type} : DataW H → Nat
  | .lit (.string bytes) => bytes.length + 1
  | .lit _ => 1
  | .nil => 1
  | .ptr d => uptoBulk d + 1
  | .slice elems spare => uptoBulkAll elems + uptoBulkAll spare + 1
  | .agg parts => uptoBulkAll parts + 1
  | .iface _ d => uptoBulk d + 1
  | .map entries => uptoBulkEntries entries + 1
  | .held _ => 1
def uptoBulkAll {H : Type} : List (DataW H) → Nat
  | [] => 0
  | d :: r => uptoBulk d + uptoBulkAll r
def uptoBulkEntries {H : Type} : List (Lit × DataW H) → Nat
  | [] => 0
  | x :: r => uptoBulkEntry x + uptoBulkEntries r
def uptoBulkEntry {H : Type} : Lit × DataW H → Nat
  | (.string bytes, d) => bytes.length + uptoBulk d + 1
  | (_, d) => uptoBulk d + 1
 end
def uptoSmall : (H : Type) → List (DataW H) → Bool := fun _ ds => decide (uptoBulkAll ds ≤ 1048576)
def OpenSpec.upto (s : _root_.Go.ChangeSpec) : _root_.Go.OpenSpec := { _root_.Go.OpenSpec.ofChange s with cond := some uptoSmall }

/-- 'laws.FnExactCentersOf', WHERE WHAT IT READS IS OF BULK AT MOST 1048576: true; the input reads as it did. -/
def fnExactCentersOfUptoRow : OpenClaim := { program := "ytnepfbellbmgeaa", sum := "0f71eab9b02eb9710774cfe119105a078d8ce5eac5202ed9d468e0cde56f92c2", func := "loop.example/shapesoftrees/laws.FnExactCentersOf", spec := "fnExactCentersOf", unfollowed := true, recurses := true, apart := false, narrowed := true }
def FnExactCentersOfUptoSaid : Prop := fnExactCentersOfUptoRow.holds Try.pinned (OpenSpec.upto fnExactCentersOfSpec)

/-- 'laws.FnExactRootText', WHERE WHAT IT READS IS OF BULK AT MOST 1048576: true; the input reads as it did. -/
def fnExactRootTextUptoRow : OpenClaim := { program := "ytnepfbellbmgeaa", sum := "0f71eab9b02eb9710774cfe119105a078d8ce5eac5202ed9d468e0cde56f92c2", func := "loop.example/shapesoftrees/laws.FnExactRootText", spec := "fnExactRootText", inPlace := ["internal/abi.NoEscape", "internal/bytealg.MakeNoZero"], unfollowed := true, recurses := true, apart := false, narrowed := true }
def FnExactRootTextUptoSaid : Prop := fnExactRootTextUptoRow.holds Try.pinned (OpenSpec.upto fnExactRootTextSpec)

/-- 'laws.FnExactFreeText', WHERE WHAT IT READS IS OF BULK AT MOST 1048576: true; the input reads as it did. -/
def fnExactFreeTextUptoRow : OpenClaim := { program := "ytnepfbellbmgeaa", sum := "0f71eab9b02eb9710774cfe119105a078d8ce5eac5202ed9d468e0cde56f92c2", func := "loop.example/shapesoftrees/laws.FnExactFreeText", spec := "fnExactFreeText", inPlace := ["internal/abi.NoEscape", "internal/bytealg.MakeNoZero"], unfollowed := true, recurses := true, apart := false, narrowed := true }
def FnExactFreeTextUptoSaid : Prop := fnExactFreeTextUptoRow.holds Try.pinned (OpenSpec.upto fnExactFreeTextSpec)

/-- 'laws.FnExactSameShape', WHERE WHAT IT READS IS OF BULK AT MOST 1048576: true; the input reads as it did. -/
def fnExactSameShapeUptoRow : OpenClaim := { program := "ytnepfbellbmgeaa", sum := "0f71eab9b02eb9710774cfe119105a078d8ce5eac5202ed9d468e0cde56f92c2", func := "loop.example/shapesoftrees/laws.FnExactSameShape", spec := "fnExactSameShape", inPlace := ["internal/abi.NoEscape", "internal/bytealg.MakeNoZero"], unfollowed := true, recurses := true, apart := false, narrowed := true }
def FnExactSameShapeUptoSaid : Prop := fnExactSameShapeUptoRow.holds Try.pinned (OpenSpec.upto fnExactSameShapeSpec)

/-- 'laws.FnExactSelfMaps', WHERE WHAT IT READS IS OF BULK AT MOST 1048576: true; the input reads as it did. -/
def fnExactSelfMapsUptoRow : OpenClaim := { program := "ytnepfbellbmgeaa", sum := "0f71eab9b02eb9710774cfe119105a078d8ce5eac5202ed9d468e0cde56f92c2", func := "loop.example/shapesoftrees/laws.FnExactSelfMaps", spec := "fnExactSelfMaps", inPlace := ["internal/abi.NoEscape", "internal/bytealg.MakeNoZero"], unfollowed := true, recurses := true, apart := false, narrowed := true }
def FnExactSelfMapsUptoSaid : Prop := fnExactSelfMapsUptoRow.holds Try.pinned (OpenSpec.upto fnExactSelfMapsSpec)

/-- 'laws.FnExactSelfMapsTried', WHERE WHAT IT READS IS OF BULK AT MOST 1048576: true; the input reads as it did. -/
def fnExactSelfMapsTriedUptoRow : OpenClaim := { program := "ytnepfbellbmgeaa", sum := "0f71eab9b02eb9710774cfe119105a078d8ce5eac5202ed9d468e0cde56f92c2", func := "loop.example/shapesoftrees/laws.FnExactSelfMapsTried", spec := "fnExactSelfMapsTried", unfollowed := true, recurses := true, apart := false, narrowed := true }
def FnExactSelfMapsTriedUptoSaid : Prop := fnExactSelfMapsTriedUptoRow.holds Try.pinned (OpenSpec.upto fnExactSelfMapsTriedSpec)

/-- 'laws.FnExactShapesOf', WHERE WHAT IT READS IS OF BULK AT MOST 1048576: true; the input reads as it did. -/
def fnExactShapesOfUptoRow : OpenClaim := { program := "ytnepfbellbmgeaa", sum := "0f71eab9b02eb9710774cfe119105a078d8ce5eac5202ed9d468e0cde56f92c2", func := "loop.example/shapesoftrees/laws.FnExactShapesOf", spec := "fnExactShapesOf", inPlace := ["internal/abi.NoEscape", "internal/bytealg.MakeNoZero"], unfollowed := true, recurses := true, apart := false, narrowed := true }
def FnExactShapesOfUptoSaid : Prop := fnExactShapesOfUptoRow.holds Try.pinned (OpenSpec.upto fnExactShapesOfSpec)

end Rows
end Go.Proofs.Ytnepfbellbmgeaa
