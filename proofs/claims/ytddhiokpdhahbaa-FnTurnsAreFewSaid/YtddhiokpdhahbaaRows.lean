/-
  No cell of these rows narrows 'for every input' (looked for: loops, veiled, ifaces, maps, wideKeys, modest, calm, conditions, laid).
  DERIVED. THE GIVEN ROWS OF THIS SEAT. 6 by the template 'for every input the law returns true; each argument reads behind the call as it read before'; 0 by the template 'total and deterministic' (their statements: YtddhiokpdhahbaaTotals.lean).
  GIVEN WITH THE SEED: the statements are not yours to turn. If you find one false, say at which input.
  Laid BY PROGRAM, IN A SANDBOX (cutbox-rows.mjs): the forced cells as the released guide's own fill.sh prints them over the translation 7c05db105e16a2ae… (all of the seat's roots in one cut). By AI agents, Wed Nov 11 2026. No macro, syntax, notation, axiom, sorry.
-/
import Derived.Test.YtddhiokpdhahbaaChecked
import GoSem.Claim
import GoSem.ClaimJoined
import GoSem.ClaimMapViews
import Derived.JoinedTies
import Derived.KernelRfl
namespace Go.Proofs.Ytddhiokpdhahbaa
/- THE CELL 'sum', in the pinned program and in every row, IS THE sha256 OF THE DUMP (.gsa) THAT YtddhiokpdhahbaaProg.lean LOADS. Nothing in Lean hashes anything: it is a label: what it is worth is what the hold of that sum in a sandbox is worth. -/
noncomputable def Try.pinned : Pinned := { name := "ytddhiokpdhahbaa", sum := "7c05db105e16a2aeaf12050f04ec294441d086443cd613f574e3b77c5db9fb5d", checked := Try.checked }
namespace Rows
def none {H : Type} : Left H := { results := [], args := [] }

/-- 'laws.FnTurnsOf': WHATEVER THE INPUT: true; the input reads as it did. -/
def fnTurnsOfSpec : ChangeSpec := { name := "fnTurnsOf", fn := fun _ => fun
  | [d] => { results := [.lit (.bool true)], args := [d] }
  | _ => none }
def fnTurnsOfRow : OpenClaim := { program := "ytddhiokpdhahbaa", sum := "7c05db105e16a2aeaf12050f04ec294441d086443cd613f574e3b77c5db9fb5d", func := "loop.example/shapesoftrees/laws.FnTurnsOf", spec := "fnTurnsOf", recurses := true, apart := false }
def FnTurnsOfSaid : Prop := fnTurnsOfRow.holds Try.pinned (OpenSpec.ofChange fnTurnsOfSpec)

/-- ITS FALSE NEIGHBOUR: 'it returns false'. Refute it at one input. -/
def fnTurnsOfWrong : ChangeSpec := { name := "fnTurnsOf", fn := fun _ => fun
  | [d] => { results := [.lit (.bool false)], args := [d] }
  | _ => none }
def FnTurnsOfWrongFalsely : Prop := fnTurnsOfRow.holds Try.pinned (OpenSpec.ofChange fnTurnsOfWrong)

/-- 'laws.FnTurnsBetween': WHATEVER THE INPUT: true; the input reads as it did. -/
def fnTurnsBetweenSpec : ChangeSpec := { name := "fnTurnsBetween", fn := fun _ => fun
  | [d] => { results := [.lit (.bool true)], args := [d] }
  | _ => none }
def fnTurnsBetweenRow : OpenClaim := { program := "ytddhiokpdhahbaa", sum := "7c05db105e16a2aeaf12050f04ec294441d086443cd613f574e3b77c5db9fb5d", func := "loop.example/shapesoftrees/laws.FnTurnsBetween", spec := "fnTurnsBetween", recurses := true, apart := false }
def FnTurnsBetweenSaid : Prop := fnTurnsBetweenRow.holds Try.pinned (OpenSpec.ofChange fnTurnsBetweenSpec)

/-- ITS FALSE NEIGHBOUR: 'it returns false'. Refute it at one input. -/
def fnTurnsBetweenWrong : ChangeSpec := { name := "fnTurnsBetween", fn := fun _ => fun
  | [d] => { results := [.lit (.bool false)], args := [d] }
  | _ => none }
def FnTurnsBetweenWrongFalsely : Prop := fnTurnsBetweenRow.holds Try.pinned (OpenSpec.ofChange fnTurnsBetweenWrong)

/-- 'laws.FnMostTurns': WHATEVER THE INPUT: true; the input reads as it did. -/
def fnMostTurnsSpec : ChangeSpec := { name := "fnMostTurns", fn := fun _ => fun
  | [d] => { results := [.lit (.bool true)], args := [d] }
  | _ => none }
def fnMostTurnsRow : OpenClaim := { program := "ytddhiokpdhahbaa", sum := "7c05db105e16a2aeaf12050f04ec294441d086443cd613f574e3b77c5db9fb5d", func := "loop.example/shapesoftrees/laws.FnMostTurns", spec := "fnMostTurns", unfollowed := true, recurses := true, apart := false }
def FnMostTurnsSaid : Prop := fnMostTurnsRow.holds Try.pinned (OpenSpec.ofChange fnMostTurnsSpec)

/-- ITS FALSE NEIGHBOUR: 'it returns false'. Refute it at one input. -/
def fnMostTurnsWrong : ChangeSpec := { name := "fnMostTurns", fn := fun _ => fun
  | [d] => { results := [.lit (.bool false)], args := [d] }
  | _ => none }
def FnMostTurnsWrongFalsely : Prop := fnMostTurnsRow.holds Try.pinned (OpenSpec.ofChange fnMostTurnsWrong)

/-- 'laws.FnTurnsToFlat': WHATEVER THE INPUT: true; the input reads as it did. -/
def fnTurnsToFlatSpec : ChangeSpec := { name := "fnTurnsToFlat", fn := fun _ => fun
  | [d] => { results := [.lit (.bool true)], args := [d] }
  | _ => none }
def fnTurnsToFlatRow : OpenClaim := { program := "ytddhiokpdhahbaa", sum := "7c05db105e16a2aeaf12050f04ec294441d086443cd613f574e3b77c5db9fb5d", func := "loop.example/shapesoftrees/laws.FnTurnsToFlat", spec := "fnTurnsToFlat", recurses := true, apart := false }
def FnTurnsToFlatSaid : Prop := fnTurnsToFlatRow.holds Try.pinned (OpenSpec.ofChange fnTurnsToFlatSpec)

/-- ITS FALSE NEIGHBOUR: 'it returns false'. Refute it at one input. -/
def fnTurnsToFlatWrong : ChangeSpec := { name := "fnTurnsToFlat", fn := fun _ => fun
  | [d] => { results := [.lit (.bool false)], args := [d] }
  | _ => none }
def FnTurnsToFlatWrongFalsely : Prop := fnTurnsToFlatRow.holds Try.pinned (OpenSpec.ofChange fnTurnsToFlatWrong)

/-- 'laws.FnTurnsCutOnce': WHATEVER THE INPUT: true; the input reads as it did. -/
def fnTurnsCutOnceSpec : ChangeSpec := { name := "fnTurnsCutOnce", fn := fun _ => fun
  | [d] => { results := [.lit (.bool true)], args := [d] }
  | _ => none }
def fnTurnsCutOnceRow : OpenClaim := { program := "ytddhiokpdhahbaa", sum := "7c05db105e16a2aeaf12050f04ec294441d086443cd613f574e3b77c5db9fb5d", func := "loop.example/shapesoftrees/laws.FnTurnsCutOnce", spec := "fnTurnsCutOnce", recurses := true, apart := false }
def FnTurnsCutOnceSaid : Prop := fnTurnsCutOnceRow.holds Try.pinned (OpenSpec.ofChange fnTurnsCutOnceSpec)

/-- ITS FALSE NEIGHBOUR: 'it returns false'. Refute it at one input. -/
def fnTurnsCutOnceWrong : ChangeSpec := { name := "fnTurnsCutOnce", fn := fun _ => fun
  | [d] => { results := [.lit (.bool false)], args := [d] }
  | _ => none }
def FnTurnsCutOnceWrongFalsely : Prop := fnTurnsCutOnceRow.holds Try.pinned (OpenSpec.ofChange fnTurnsCutOnceWrong)

/-- 'laws.FnTurnsAreFew': WHATEVER THE INPUT: true; the input reads as it did. -/
def fnTurnsAreFewSpec : ChangeSpec := { name := "fnTurnsAreFew", fn := fun _ => fun
  | [d] => { results := [.lit (.bool true)], args := [d] }
  | _ => none }
def fnTurnsAreFewRow : OpenClaim := { program := "ytddhiokpdhahbaa", sum := "7c05db105e16a2aeaf12050f04ec294441d086443cd613f574e3b77c5db9fb5d", func := "loop.example/shapesoftrees/laws.FnTurnsAreFew", spec := "fnTurnsAreFew", unfollowed := true, recurses := true, apart := false }
def FnTurnsAreFewSaid : Prop := fnTurnsAreFewRow.holds Try.pinned (OpenSpec.ofChange fnTurnsAreFewSpec)

/-- ITS FALSE NEIGHBOUR: 'it returns false'. Refute it at one input. -/
def fnTurnsAreFewWrong : ChangeSpec := { name := "fnTurnsAreFew", fn := fun _ => fun
  | [d] => { results := [.lit (.bool false)], args := [d] }
  | _ => none }
def FnTurnsAreFewWrongFalsely : Prop := fnTurnsAreFewRow.holds Try.pinned (OpenSpec.ofChange fnTurnsAreFewWrong)

/- THE SECOND FORM. 'bulk': how many values and letters a reading holds, each counted each time it is reached (what is shared counts as often as it is met; a slice's spare places count too). A statement '..UptoSaid' is the law's where the arguments, and the package variables that the reading takes, are together of bulk at most 1048576: NARROWER than '..Said'. Prove '..Said' where nothing that the law and all that it calls make is longer than what came in: it says more and counts as full. Else prove '..UptoSaid'. A law counts once. -/
mutual
def uptoBulk {H : Type} : DataW H → Nat
  | .lit (.string bytes) => bytes.length + 1
  | .lit _ => 1
  | .nil => 1
  | .ptr d => uptoBulk d + 1
  | .slice elems spare => uptoBulkAll elems + uptoBulkAll spare + 1
  | .agg parts => uptoBulkAll parts + 1
  | .iface _ d => uptoBulk d + 1
  | .map entries => uptoBulkEntries entries + 1
  | .held _ => 1
def uptoBulkAll {H : Type} : List (DataW H) → Nat
  | [] => 0
  | d :: r => uptoBulk d + uptoBulkAll r
def uptoBulkEntries {H : Type} : List (Lit × DataW H) → Nat
  | [] => 0
  | x :: r => uptoBulkEntry x + uptoBulkEntries r
def uptoBulkEntry {H : Type} : Lit × DataW H → Nat
  | (.string bytes, d) => bytes.length + uptoBulk d + 1
  | (_, d) => uptoBulk d + 1
 end
def uptoSmall : (H : Type) → List (DataW H) → Bool := fun _ ds => decide (uptoBulkAll ds ≤ 1048576)
def OpenSpec.upto (s : _root_.Go.ChangeSpec) : _root_.Go.OpenSpec := { _root_.Go.OpenSpec.ofChange s with cond := some uptoSmall }

/-- 'laws.FnTurnsOf', WHERE WHAT IT READS IS OF BULK AT MOST 1048576: true; the input reads as it did. -/
def fnTurnsOfUptoRow : OpenClaim := { program := "ytddhiokpdhahbaa", sum := "7c05db105e16a2aeaf12050f04ec294441d086443cd613f574e3b77c5db9fb5d", func := "loop.example/shapesoftrees/laws.FnTurnsOf", spec := "fnTurnsOf", recurses := true, apart := false, narrowed := true }
def FnTurnsOfUptoSaid : Prop := fnTurnsOfUptoRow.holds Try.pinned (OpenSpec.upto fnTurnsOfSpec)

/-- 'laws.FnTurnsBetween', WHERE WHAT IT READS IS OF BULK AT MOST 1048576: true; the input reads as it did. -/
def fnTurnsBetweenUptoRow : OpenClaim := { program := "ytddhiokpdhahbaa", sum := "7c05db105e16a2aeaf12050f04ec294441d086443cd613f574e3b77c5db9fb5d", func := "loop.example/shapesoftrees/laws.FnTurnsBetween", spec := "fnTurnsBetween", recurses := true, apart := false, narrowed := true }
def FnTurnsBetweenUptoSaid : Prop := fnTurnsBetweenUptoRow.holds Try.pinned (OpenSpec.upto fnTurnsBetweenSpec)

/-- 'laws.FnMostTurns', WHERE WHAT IT READS IS OF BULK AT MOST 1048576: true; the input reads as it did. -/
def fnMostTurnsUptoRow : OpenClaim := { program := "ytddhiokpdhahbaa", sum := "7c05db105e16a2aeaf12050f04ec294441d086443cd613f574e3b77c5db9fb5d", func := "loop.example/shapesoftrees/laws.FnMostTurns", spec := "fnMostTurns", unfollowed := true, recurses := true, apart := false, narrowed := true }
def FnMostTurnsUptoSaid : Prop := fnMostTurnsUptoRow.holds Try.pinned (OpenSpec.upto fnMostTurnsSpec)

/-- 'laws.FnTurnsToFlat', WHERE WHAT IT READS IS OF BULK AT MOST 1048576: true; the input reads as it did. -/
def fnTurnsToFlatUptoRow : OpenClaim := { program := "ytddhiokpdhahbaa", sum := "7c05db105e16a2aeaf12050f04ec294441d086443cd613f574e3b77c5db9fb5d", func := "loop.example/shapesoftrees/laws.FnTurnsToFlat", spec := "fnTurnsToFlat", recurses := true, apart := false, narrowed := true }
def FnTurnsToFlatUptoSaid : Prop := fnTurnsToFlatUptoRow.holds Try.pinned (OpenSpec.upto fnTurnsToFlatSpec)

/-- 'laws.FnTurnsCutOnce', WHERE WHAT IT READS IS OF BULK AT MOST 1048576: true; the input reads as it did. -/
def fnTurnsCutOnceUptoRow : OpenClaim := { program := "ytddhiokpdhahbaa", sum := "7c05db105e16a2aeaf12050f04ec294441d086443cd613f574e3b77c5db9fb5d", func := "loop.example/shapesoftrees/laws.FnTurnsCutOnce", spec := "fnTurnsCutOnce", recurses := true, apart := false, narrowed := true }
def FnTurnsCutOnceUptoSaid : Prop := fnTurnsCutOnceUptoRow.holds Try.pinned (OpenSpec.upto fnTurnsCutOnceSpec)

/-- 'laws.FnTurnsAreFew', WHERE WHAT IT READS IS OF BULK AT MOST 1048576: true; the input reads as it did. -/
def fnTurnsAreFewUptoRow : OpenClaim := { program := "ytddhiokpdhahbaa", sum := "7c05db105e16a2aeaf12050f04ec294441d086443cd613f574e3b77c5db9fb5d", func := "loop.example/shapesoftrees/laws.FnTurnsAreFew", spec := "fnTurnsAreFew", unfollowed := true, recurses := true, apart := false, narrowed := true }
def FnTurnsAreFewUptoSaid : Prop := fnTurnsAreFewUptoRow.holds Try.pinned (OpenSpec.upto fnTurnsAreFewSpec)

end Rows
end Go.Proofs.Ytddhiokpdhahbaa
