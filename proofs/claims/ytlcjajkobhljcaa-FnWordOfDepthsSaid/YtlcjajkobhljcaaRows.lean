/-
  No cell of these rows narrows 'for every input' (looked for: loops, veiled, ifaces, maps, wideKeys, modest, calm, conditions, laid).
  DERIVED. THE GIVEN ROWS OF THIS SEAT. 8 by the template 'for every input the law returns true; each argument reads behind the call as it read before'; 0 by the template 'total and deterministic' (their statements: YtlcjajkobhljcaaTotals.lean).
  GIVEN WITH THE SEED: the statements are not yours to turn. If you find one false, say at which input.
  Laid BY PROGRAM, IN A SANDBOX (cutbox-rows.mjs): the forced cells as the released guide's own fill.sh prints them over the translation b272147207e7318e… (all of the seat's roots in one cut). By AI agents, Wed Nov 11 2026. No macro, syntax, notation, axiom, sorry.
-/
import Derived.Test.YtlcjajkobhljcaaChecked
import GoSem.Claim
import GoSem.ClaimJoined
import GoSem.ClaimMapViews
import Derived.JoinedTies
import Derived.KernelRfl
namespace Go.Proofs.Ytlcjajkobhljcaa
/- THE CELL 'sum', in the pinned program and in every row, IS THE sha256 OF THE DUMP (.gsa) THAT YtlcjajkobhljcaaProg.lean LOADS. Nothing in Lean hashes anything: it is a label: what it is worth is what the hold of that sum in a sandbox is worth. -/
noncomputable def Try.pinned : Pinned := { name := "ytlcjajkobhljcaa", sum := "b272147207e7318eed2bfb8c5ac3eb9748b424ff915ee60978ae9d4e194d2ed6", checked := Try.checked }
namespace Rows
def none {H : Type} : Left H := { results := [], args := [] }

/-- 'laws.FnValidWord': WHATEVER THE INPUT: true; the input reads as it did. -/
def fnValidWordSpec : ChangeSpec := { name := "fnValidWord", fn := fun _ => fun
  | [d] => { results := [.lit (.bool true)], args := [d] }
  | _ => none }
def fnValidWordRow : OpenClaim := { program := "ytlcjajkobhljcaa", sum := "b272147207e7318eed2bfb8c5ac3eb9748b424ff915ee60978ae9d4e194d2ed6", func := "loop.example/shapesoftrees/laws.FnValidWord", spec := "fnValidWord", recurses := true, apart := false }
def FnValidWordSaid : Prop := fnValidWordRow.holds Try.pinned (OpenSpec.ofChange fnValidWordSpec)

/-- ITS FALSE NEIGHBOUR: 'it returns false'. Refute it at one input. -/
def fnValidWordWrong : ChangeSpec := { name := "fnValidWord", fn := fun _ => fun
  | [d] => { results := [.lit (.bool false)], args := [d] }
  | _ => none }
def FnValidWordWrongFalsely : Prop := fnValidWordRow.holds Try.pinned (OpenSpec.ofChange fnValidWordWrong)

/-- 'laws.FnCountWords': WHATEVER THE INPUT: true; the input reads as it did. -/
def fnCountWordsSpec : ChangeSpec := { name := "fnCountWords", fn := fun _ => fun
  | [d] => { results := [.lit (.bool true)], args := [d] }
  | _ => none }
def fnCountWordsRow : OpenClaim := { program := "ytlcjajkobhljcaa", sum := "b272147207e7318eed2bfb8c5ac3eb9748b424ff915ee60978ae9d4e194d2ed6", func := "loop.example/shapesoftrees/laws.FnCountWords", spec := "fnCountWords", recurses := true, apart := false }
def FnCountWordsSaid : Prop := fnCountWordsRow.holds Try.pinned (OpenSpec.ofChange fnCountWordsSpec)

/-- ITS FALSE NEIGHBOUR: 'it returns false'. Refute it at one input. -/
def fnCountWordsWrong : ChangeSpec := { name := "fnCountWords", fn := fun _ => fun
  | [d] => { results := [.lit (.bool false)], args := [d] }
  | _ => none }
def FnCountWordsWrongFalsely : Prop := fnCountWordsRow.holds Try.pinned (OpenSpec.ofChange fnCountWordsWrong)

/-- 'laws.FnDepthsOf': WHATEVER THE INPUT: true; the input reads as it did. -/
def fnDepthsOfSpec : ChangeSpec := { name := "fnDepthsOf", fn := fun _ => fun
  | [d] => { results := [.lit (.bool true)], args := [d] }
  | _ => none }
def fnDepthsOfRow : OpenClaim := { program := "ytlcjajkobhljcaa", sum := "b272147207e7318eed2bfb8c5ac3eb9748b424ff915ee60978ae9d4e194d2ed6", func := "loop.example/shapesoftrees/laws.FnDepthsOf", spec := "fnDepthsOf", inPlace := ["internal/abi.NoEscape", "internal/bytealg.MakeNoZero"], recurses := true, apart := false }
def FnDepthsOfSaid : Prop := fnDepthsOfRow.holds Try.pinned (OpenSpec.ofChange fnDepthsOfSpec)

/-- ITS FALSE NEIGHBOUR: 'it returns false'. Refute it at one input. -/
def fnDepthsOfWrong : ChangeSpec := { name := "fnDepthsOf", fn := fun _ => fun
  | [d] => { results := [.lit (.bool false)], args := [d] }
  | _ => none }
def FnDepthsOfWrongFalsely : Prop := fnDepthsOfRow.holds Try.pinned (OpenSpec.ofChange fnDepthsOfWrong)

/-- 'laws.FnWordOfDepths': WHATEVER THE INPUT: true; the input reads as it did. -/
def fnWordOfDepthsSpec : ChangeSpec := { name := "fnWordOfDepths", fn := fun _ => fun
  | [d] => { results := [.lit (.bool true)], args := [d] }
  | _ => none }
def fnWordOfDepthsRow : OpenClaim := { program := "ytlcjajkobhljcaa", sum := "b272147207e7318eed2bfb8c5ac3eb9748b424ff915ee60978ae9d4e194d2ed6", func := "loop.example/shapesoftrees/laws.FnWordOfDepths", spec := "fnWordOfDepths", inPlace := ["internal/abi.NoEscape", "internal/bytealg.MakeNoZero"], apart := false }
def FnWordOfDepthsSaid : Prop := fnWordOfDepthsRow.holds Try.pinned (OpenSpec.ofChange fnWordOfDepthsSpec)

/-- ITS FALSE NEIGHBOUR: 'it returns false'. Refute it at one input. -/
def fnWordOfDepthsWrong : ChangeSpec := { name := "fnWordOfDepths", fn := fun _ => fun
  | [d] => { results := [.lit (.bool false)], args := [d] }
  | _ => none }
def FnWordOfDepthsWrongFalsely : Prop := fnWordOfDepthsRow.holds Try.pinned (OpenSpec.ofChange fnWordOfDepthsWrong)

/-- 'laws.FnParentsOf': WHATEVER THE INPUT: true; the input reads as it did. -/
def fnParentsOfSpec : ChangeSpec := { name := "fnParentsOf", fn := fun _ => fun
  | [d] => { results := [.lit (.bool true)], args := [d] }
  | _ => none }
def fnParentsOfRow : OpenClaim := { program := "ytlcjajkobhljcaa", sum := "b272147207e7318eed2bfb8c5ac3eb9748b424ff915ee60978ae9d4e194d2ed6", func := "loop.example/shapesoftrees/laws.FnParentsOf", spec := "fnParentsOf", recurses := true, apart := false }
def FnParentsOfSaid : Prop := fnParentsOfRow.holds Try.pinned (OpenSpec.ofChange fnParentsOfSpec)

/-- ITS FALSE NEIGHBOUR: 'it returns false'. Refute it at one input. -/
def fnParentsOfWrong : ChangeSpec := { name := "fnParentsOf", fn := fun _ => fun
  | [d] => { results := [.lit (.bool false)], args := [d] }
  | _ => none }
def FnParentsOfWrongFalsely : Prop := fnParentsOfRow.holds Try.pinned (OpenSpec.ofChange fnParentsOfWrong)

/-- 'laws.FnMirrorOf': WHATEVER THE INPUT: true; the input reads as it did. -/
def fnMirrorOfSpec : ChangeSpec := { name := "fnMirrorOf", fn := fun _ => fun
  | [d] => { results := [.lit (.bool true)], args := [d] }
  | _ => none }
def fnMirrorOfRow : OpenClaim := { program := "ytlcjajkobhljcaa", sum := "b272147207e7318eed2bfb8c5ac3eb9748b424ff915ee60978ae9d4e194d2ed6", func := "loop.example/shapesoftrees/laws.FnMirrorOf", spec := "fnMirrorOf", inPlace := ["internal/bytealg.CountString", "internal/bytealg.IndexByteString", "internal/bytealg.IndexString"], recurses := true, named := ["internal/bytealg.MaxLen"], apart := false }
def FnMirrorOfSaid : Prop := fnMirrorOfRow.holds Try.pinned (OpenSpec.ofChange fnMirrorOfSpec)

/-- ITS FALSE NEIGHBOUR: 'it returns false'. Refute it at one input. -/
def fnMirrorOfWrong : ChangeSpec := { name := "fnMirrorOf", fn := fun _ => fun
  | [d] => { results := [.lit (.bool false)], args := [d] }
  | _ => none }
def FnMirrorOfWrongFalsely : Prop := fnMirrorOfRow.holds Try.pinned (OpenSpec.ofChange fnMirrorOfWrong)

/-- 'laws.FnLeavesOf': WHATEVER THE INPUT: true; the input reads as it did. -/
def fnLeavesOfSpec : ChangeSpec := { name := "fnLeavesOf", fn := fun _ => fun
  | [d] => { results := [.lit (.bool true)], args := [d] }
  | _ => none }
def fnLeavesOfRow : OpenClaim := { program := "ytlcjajkobhljcaa", sum := "b272147207e7318eed2bfb8c5ac3eb9748b424ff915ee60978ae9d4e194d2ed6", func := "loop.example/shapesoftrees/laws.FnLeavesOf", spec := "fnLeavesOf", inPlace := ["internal/bytealg.CountString", "internal/bytealg.IndexByteString", "internal/bytealg.IndexString"], recurses := true, named := ["internal/bytealg.MaxLen"], apart := false }
def FnLeavesOfSaid : Prop := fnLeavesOfRow.holds Try.pinned (OpenSpec.ofChange fnLeavesOfSpec)

/-- ITS FALSE NEIGHBOUR: 'it returns false'. Refute it at one input. -/
def fnLeavesOfWrong : ChangeSpec := { name := "fnLeavesOf", fn := fun _ => fun
  | [d] => { results := [.lit (.bool false)], args := [d] }
  | _ => none }
def FnLeavesOfWrongFalsely : Prop := fnLeavesOfRow.holds Try.pinned (OpenSpec.ofChange fnLeavesOfWrong)

/-- 'laws.FnDepthsSum': WHATEVER THE INPUT: true; the input reads as it did. -/
def fnDepthsSumSpec : ChangeSpec := { name := "fnDepthsSum", fn := fun _ => fun
  | [d] => { results := [.lit (.bool true)], args := [d] }
  | _ => none }
def fnDepthsSumRow : OpenClaim := { program := "ytlcjajkobhljcaa", sum := "b272147207e7318eed2bfb8c5ac3eb9748b424ff915ee60978ae9d4e194d2ed6", func := "loop.example/shapesoftrees/laws.FnDepthsSum", spec := "fnDepthsSum", recurses := true, apart := false }
def FnDepthsSumSaid : Prop := fnDepthsSumRow.holds Try.pinned (OpenSpec.ofChange fnDepthsSumSpec)

/-- ITS FALSE NEIGHBOUR: 'it returns false'. Refute it at one input. -/
def fnDepthsSumWrong : ChangeSpec := { name := "fnDepthsSum", fn := fun _ => fun
  | [d] => { results := [.lit (.bool false)], args := [d] }
  | _ => none }
def FnDepthsSumWrongFalsely : Prop := fnDepthsSumRow.holds Try.pinned (OpenSpec.ofChange fnDepthsSumWrong)

/- THE SECOND FORM. 'bulk': how many values and letters a reading holds, each counted each time it is reached (what is shared counts as often as it is met; a slice's spare places count too). A statement '..UptoSaid' is the law's where the arguments, and the package variables that the reading takes, are together of bulk at most 1048576: NARROWER than '..Said'. Prove '..Said' where nothing that the law and all that it calls make is longer than what came in: it says more and counts as full. Else prove '..UptoSaid'. A law counts once. -/
mutual
def uptoBulk {H : Type} : DataW H → Nat
  | .lit (.string bytes) => bytes.length + 1
  | .lit _ => 1
  | .nil => 1
  | .ptr d => uptoBulk d + 1
  | .slice elems spare => uptoBulkAll elems + uptoBulkAll spare + 1
  | .agg parts => uptoBulkAll parts + 1
  | .iface _ d => uptoBulk d + 1
  | .map entries => uptoBulkEntries entries + 1
  | .held _ => 1
def uptoBulkAll {H : Type} : List (DataW H) → Nat
  | [] => 0
  | d :: r => uptoBulk d + uptoBulkAll r
def uptoBulkEntries {H : Type} : List (Lit × DataW H) → Nat
  | [] => 0
  | x :: r => uptoBulkEntry x + uptoBulkEntries r
def uptoBulkEntry {H : Type} : Lit × DataW H → Nat
  | (.string bytes, d) => bytes.length + uptoBulk d + 1
  | (_, d) => uptoBulk d + 1
 end
def uptoSmall : (H : Type) → List (DataW H) → Bool := fun _ ds => decide (uptoBulkAll ds ≤ 1048576)
def OpenSpec.upto (s : _root_.Go.ChangeSpec) : _root_.Go.OpenSpec := { _root_.Go.OpenSpec.ofChange s with cond := some uptoSmall }

/-- 'laws.FnValidWord', WHERE WHAT IT READS IS OF BULK AT MOST 1048576: true; the input reads as it did. -/
def fnValidWordUptoRow : OpenClaim := { program := "ytlcjajkobhljcaa", sum := "b272147207e7318eed2bfb8c5ac3eb9748b424ff915ee60978ae9d4e194d2ed6", func := "loop.example/shapesoftrees/laws.FnValidWord", spec := "fnValidWord", recurses := true, apart := false, narrowed := true }
def FnValidWordUptoSaid : Prop := fnValidWordUptoRow.holds Try.pinned (OpenSpec.upto fnValidWordSpec)

/-- 'laws.FnCountWords', WHERE WHAT IT READS IS OF BULK AT MOST 1048576: true; the input reads as it did. -/
def fnCountWordsUptoRow : OpenClaim := { program := "ytlcjajkobhljcaa", sum := "b272147207e7318eed2bfb8c5ac3eb9748b424ff915ee60978ae9d4e194d2ed6", func := "loop.example/shapesoftrees/laws.FnCountWords", spec := "fnCountWords", recurses := true, apart := false, narrowed := true }
def FnCountWordsUptoSaid : Prop := fnCountWordsUptoRow.holds Try.pinned (OpenSpec.upto fnCountWordsSpec)

/-- 'laws.FnDepthsOf', WHERE WHAT IT READS IS OF BULK AT MOST 1048576: true; the input reads as it did. -/
def fnDepthsOfUptoRow : OpenClaim := { program := "ytlcjajkobhljcaa", sum := "b272147207e7318eed2bfb8c5ac3eb9748b424ff915ee60978ae9d4e194d2ed6", func := "loop.example/shapesoftrees/laws.FnDepthsOf", spec := "fnDepthsOf", inPlace := ["internal/abi.NoEscape", "internal/bytealg.MakeNoZero"], recurses := true, apart := false, narrowed := true }
def FnDepthsOfUptoSaid : Prop := fnDepthsOfUptoRow.holds Try.pinned (OpenSpec.upto fnDepthsOfSpec)

/-- 'laws.FnWordOfDepths', WHERE WHAT IT READS IS OF BULK AT MOST 1048576: true; the input reads as it did. -/
def fnWordOfDepthsUptoRow : OpenClaim := { program := "ytlcjajkobhljcaa", sum := "b272147207e7318eed2bfb8c5ac3eb9748b424ff915ee60978ae9d4e194d2ed6", func := "loop.example/shapesoftrees/laws.FnWordOfDepths", spec := "fnWordOfDepths", inPlace := ["internal/abi.NoEscape", "internal/bytealg.MakeNoZero"], apart := false, narrowed := true }
def FnWordOfDepthsUptoSaid : Prop := fnWordOfDepthsUptoRow.holds Try.pinned (OpenSpec.upto fnWordOfDepthsSpec)

/-- 'laws.FnParentsOf', WHERE WHAT IT READS IS OF BULK AT MOST 1048576: true; the input reads as it did. -/
def fnParentsOfUptoRow : OpenClaim := { program := "ytlcjajkobhljcaa", sum := "b272147207e7318eed2bfb8c5ac3eb9748b424ff915ee60978ae9d4e194d2ed6", func := "loop.example/shapesoftrees/laws.FnParentsOf", spec := "fnParentsOf", recurses := true, apart := false, narrowed := true }
def FnParentsOfUptoSaid : Prop := fnParentsOfUptoRow.holds Try.pinned (OpenSpec.upto fnParentsOfSpec)

/-- 'laws.FnMirrorOf', WHERE WHAT IT READS IS OF BULK AT MOST 1048576: true; the input reads as it did. -/
def fnMirrorOfUptoRow : OpenClaim := { program := "ytlcjajkobhljcaa", sum := "b272147207e7318eed2bfb8c5ac3eb9748b424ff915ee60978ae9d4e194d2ed6", func := "loop.example/shapesoftrees/laws.FnMirrorOf", spec := "fnMirrorOf", inPlace := ["internal/bytealg.CountString", "internal/bytealg.IndexByteString", "internal/bytealg.IndexString"], recurses := true, named := ["internal/bytealg.MaxLen"], apart := false, narrowed := true }
def FnMirrorOfUptoSaid : Prop := fnMirrorOfUptoRow.holds Try.pinned (OpenSpec.upto fnMirrorOfSpec)

/-- 'laws.FnLeavesOf', WHERE WHAT IT READS IS OF BULK AT MOST 1048576: true; the input reads as it did. -/
def fnLeavesOfUptoRow : OpenClaim := { program := "ytlcjajkobhljcaa", sum := "b272147207e7318eed2bfb8c5ac3eb9748b424ff915ee60978ae9d4e194d2ed6", func := "loop.example/shapesoftrees/laws.FnLeavesOf", spec := "fnLeavesOf", inPlace := ["internal/bytealg.CountString", "internal/bytealg.IndexByteString", "internal/bytealg.IndexString"], recurses := true, named := ["internal/bytealg.MaxLen"], apart := false, narrowed := true }
def FnLeavesOfUptoSaid : Prop := fnLeavesOfUptoRow.holds Try.pinned (OpenSpec.upto fnLeavesOfSpec)

/-- 'laws.FnDepthsSum', WHERE WHAT IT READS IS OF BULK AT MOST 1048576: true; the input reads as it did. -/
def fnDepthsSumUptoRow : OpenClaim := { program := "ytlcjajkobhljcaa", sum := "b272147207e7318eed2bfb8c5ac3eb9748b424ff915ee60978ae9d4e194d2ed6", func := "loop.example/shapesoftrees/laws.FnDepthsSum", spec := "fnDepthsSum", recurses := true, apart := false, narrowed := true }
def FnDepthsSumUptoSaid : Prop := fnDepthsSumUptoRow.holds Try.pinned (OpenSpec.upto fnDepthsSumSpec)

end Rows
end Go.Proofs.Ytlcjajkobhljcaa
