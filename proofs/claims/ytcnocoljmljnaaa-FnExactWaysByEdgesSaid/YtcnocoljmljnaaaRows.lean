/-
  No cell of these rows narrows 'for every input' (looked for: loops, veiled, ifaces, maps, wideKeys, modest, calm, conditions, laid).
  DERIVED. THE GIVEN ROWS OF THIS SEAT. 6 by the template 'for every input the law returns true; each argument reads behind the call as it read before'; 0 by the template 'total and deterministic' (their statements: YtcnocoljmljnaaaTotals.lean).
  GIVEN WITH THE SEED: the statements are not yours to turn. If you find one false, say at which input.
  Laid BY PROGRAM, IN A SANDBOX (cutbox-rows.mjs): the forced cells as the released guide's own fill.sh prints them over the translation c7ef99f1937a52b9… (all of the seat's roots in one cut). By AI agents, Wed Nov 11 2026. No macro, syntax, notation, axiom, sorry.
-/
import Derived.Test.YtcnocoljmljnaaaChecked
import GoSem.Claim
import GoSem.ClaimJoined
import GoSem.ClaimMapViews
import Derived.JoinedTies
import Derived.KernelRfl
namespace Go.Proofs.Ytcnocoljmljnaaa
/- THE CELL 'sum', in the pinned program and in every row, IS THE sha256 OF THE DUMP (.gsa) THAT YtcnocoljmljnaaaProg.lean LOADS. Nothing in Lean hashes anything: it is a label: what it is worth is what the hold of that sum in a sandbox is worth. -/
noncomputable def Try.pinned : Pinned := { name := "ytcnocoljmljnaaa", sum := "c7ef99f1937a52b904cd862521729ed3eb29516db54e8b20b3ae947b1f400803", checked := Try.checked }
namespace Rows
def none {H : Type} : Left H := { results := [], args := [] }

/-- 'laws.FnExactMostAlone': WHATEVER THE INPUT: true; the input reads as it did. -/
def fnExactMostAloneSpec : ChangeSpec := { name := "fnExactMostAlone", fn := fun _ => fun
  | [d1, d2] => { results := [.lit (.bool true)], args := [d1, d2] }
  | _ => none }
def fnExactMostAloneRow : OpenClaim := { program := "ytcnocoljmljnaaa", sum := "c7ef99f1937a52b904cd862521729ed3eb29516db54e8b20b3ae947b1f400803", func := "loop.example/shapesoftrees/laws.FnExactMostAlone", spec := "fnExactMostAlone", unfollowed := true, recurses := true, plainKeys := false, apart := false }
def FnExactMostAloneSaid : Prop := fnExactMostAloneRow.holds Try.pinned (OpenSpec.ofChange fnExactMostAloneSpec)

/-- ITS FALSE NEIGHBOUR: 'it returns false'. Refute it at one input. -/
def fnExactMostAloneWrong : ChangeSpec := { name := "fnExactMostAlone", fn := fun _ => fun
  | [d1, d2] => { results := [.lit (.bool false)], args := [d1, d2] }
  | _ => none }
def FnExactMostAloneWrongFalsely : Prop := fnExactMostAloneRow.holds Try.pinned (OpenSpec.ofChange fnExactMostAloneWrong)

/-- 'laws.FnExactCountAlone': WHATEVER THE INPUT: true; the input reads as it did. -/
def fnExactCountAloneSpec : ChangeSpec := { name := "fnExactCountAlone", fn := fun _ => fun
  | [d1, d2] => { results := [.lit (.bool true)], args := [d1, d2] }
  | _ => none }
def fnExactCountAloneRow : OpenClaim := { program := "ytcnocoljmljnaaa", sum := "c7ef99f1937a52b904cd862521729ed3eb29516db54e8b20b3ae947b1f400803", func := "loop.example/shapesoftrees/laws.FnExactCountAlone", spec := "fnExactCountAlone", unfollowed := true, recurses := true, plainKeys := false, apart := false }
def FnExactCountAloneSaid : Prop := fnExactCountAloneRow.holds Try.pinned (OpenSpec.ofChange fnExactCountAloneSpec)

/-- ITS FALSE NEIGHBOUR: 'it returns false'. Refute it at one input. -/
def fnExactCountAloneWrong : ChangeSpec := { name := "fnExactCountAlone", fn := fun _ => fun
  | [d1, d2] => { results := [.lit (.bool false)], args := [d1, d2] }
  | _ => none }
def FnExactCountAloneWrongFalsely : Prop := fnExactCountAloneRow.holds Try.pinned (OpenSpec.ofChange fnExactCountAloneWrong)

/-- 'laws.FnExactMostPairs': WHATEVER THE INPUT: true; the input reads as it did. -/
def fnExactMostPairsSpec : ChangeSpec := { name := "fnExactMostPairs", fn := fun _ => fun
  | [d1, d2] => { results := [.lit (.bool true)], args := [d1, d2] }
  | _ => none }
def fnExactMostPairsRow : OpenClaim := { program := "ytcnocoljmljnaaa", sum := "c7ef99f1937a52b904cd862521729ed3eb29516db54e8b20b3ae947b1f400803", func := "loop.example/shapesoftrees/laws.FnExactMostPairs", spec := "fnExactMostPairs", unfollowed := true, recurses := true, plainKeys := false, apart := false }
def FnExactMostPairsSaid : Prop := fnExactMostPairsRow.holds Try.pinned (OpenSpec.ofChange fnExactMostPairsSpec)

/-- ITS FALSE NEIGHBOUR: 'it returns false'. Refute it at one input. -/
def fnExactMostPairsWrong : ChangeSpec := { name := "fnExactMostPairs", fn := fun _ => fun
  | [d1, d2] => { results := [.lit (.bool false)], args := [d1, d2] }
  | _ => none }
def FnExactMostPairsWrongFalsely : Prop := fnExactMostPairsRow.holds Try.pinned (OpenSpec.ofChange fnExactMostPairsWrong)

/-- 'laws.FnExactLeastWatch': WHATEVER THE INPUT: true; the input reads as it did. -/
def fnExactLeastWatchSpec : ChangeSpec := { name := "fnExactLeastWatch", fn := fun _ => fun
  | [d1, d2] => { results := [.lit (.bool true)], args := [d1, d2] }
  | _ => none }
def fnExactLeastWatchRow : OpenClaim := { program := "ytcnocoljmljnaaa", sum := "c7ef99f1937a52b904cd862521729ed3eb29516db54e8b20b3ae947b1f400803", func := "loop.example/shapesoftrees/laws.FnExactLeastWatch", spec := "fnExactLeastWatch", unfollowed := true, recurses := true, plainKeys := false, apart := false }
def FnExactLeastWatchSaid : Prop := fnExactLeastWatchRow.holds Try.pinned (OpenSpec.ofChange fnExactLeastWatchSpec)

/-- ITS FALSE NEIGHBOUR: 'it returns false'. Refute it at one input. -/
def fnExactLeastWatchWrong : ChangeSpec := { name := "fnExactLeastWatch", fn := fun _ => fun
  | [d1, d2] => { results := [.lit (.bool false)], args := [d1, d2] }
  | _ => none }
def FnExactLeastWatchWrongFalsely : Prop := fnExactLeastWatchRow.holds Try.pinned (OpenSpec.ofChange fnExactLeastWatchWrong)

/-- 'laws.FnExactWaysOf': WHATEVER THE INPUT: true; the input reads as it did. -/
def fnExactWaysOfSpec : ChangeSpec := { name := "fnExactWaysOf", fn := fun _ => fun
  | [d1, d2] => { results := [.lit (.bool true)], args := [d1, d2] }
  | _ => none }
def fnExactWaysOfRow : OpenClaim := { program := "ytcnocoljmljnaaa", sum := "c7ef99f1937a52b904cd862521729ed3eb29516db54e8b20b3ae947b1f400803", func := "loop.example/shapesoftrees/laws.FnExactWaysOf", spec := "fnExactWaysOf", unfollowed := true, recurses := true, plainKeys := false, apart := false }
def FnExactWaysOfSaid : Prop := fnExactWaysOfRow.holds Try.pinned (OpenSpec.ofChange fnExactWaysOfSpec)

/-- ITS FALSE NEIGHBOUR: 'it returns false'. Refute it at one input. -/
def fnExactWaysOfWrong : ChangeSpec := { name := "fnExactWaysOf", fn := fun _ => fun
  | [d1, d2] => { results := [.lit (.bool false)], args := [d1, d2] }
  | _ => none }
def FnExactWaysOfWrongFalsely : Prop := fnExactWaysOfRow.holds Try.pinned (OpenSpec.ofChange fnExactWaysOfWrong)

/-- 'laws.FnExactWaysByEdges': WHATEVER THE INPUT: true; the input reads as it did. -/
def fnExactWaysByEdgesSpec : ChangeSpec := { name := "fnExactWaysByEdges", fn := fun _ => fun
  | [d1, d2] => { results := [.lit (.bool true)], args := [d1, d2] }
  | _ => none }
def fnExactWaysByEdgesRow : OpenClaim := { program := "ytcnocoljmljnaaa", sum := "c7ef99f1937a52b904cd862521729ed3eb29516db54e8b20b3ae947b1f400803", func := "loop.example/shapesoftrees/laws.FnExactWaysByEdges", spec := "fnExactWaysByEdges", unfollowed := true, recurses := true, plainKeys := false, apart := false }
def FnExactWaysByEdgesSaid : Prop := fnExactWaysByEdgesRow.holds Try.pinned (OpenSpec.ofChange fnExactWaysByEdgesSpec)

/-- ITS FALSE NEIGHBOUR: 'it returns false'. Refute it at one input. -/
def fnExactWaysByEdgesWrong : ChangeSpec := { name := "fnExactWaysByEdges", fn := fun _ => fun
  | [d1, d2] => { results := [.lit (.bool false)], args := [d1, d2] }
  | _ => none }
def FnExactWaysByEdgesWrongFalsely : Prop := fnExactWaysByEdgesRow.holds Try.pinned (OpenSpec.ofChange fnExactWaysByEdgesWrong)

/- THE SECOND FORM. 'bulk': how many values and letters a reading holds, each counted each time it is reached (what is shared counts as often as it is met; a slice's spare places count too). A statement '..UptoSaid' is the law's where the arguments, and the package variables that the reading takes, are together of bulk at most 1048576: NARROWER than '..Said'. Prove '..Said' where nothing that the law and all that it calls make is longer than what came in: it says more and counts as full. Else prove '..UptoSaid'. A law counts once. -/
mutual
def uptoBulk {H : Type} : DataW H → Nat
  | .lit (.string bytes) => bytes.length + 1
  | .lit _ => 1
  | .nil => 1
  | .ptr d => uptoBulk d + 1
  | .slice elems spare => uptoBulkAll elems + uptoBulkAll spare + 1
  | .agg parts => uptoBulkAll parts + 1
  | .iface _ d => uptoBulk d + 1
  | .map entries => uptoBulkEntries entries + 1
  | .held _ => 1
def uptoBulkAll {H : Type} : List (DataW H) → Nat
  | [] => 0
  | d :: r => uptoBulk d + uptoBulkAll r
def uptoBulkEntries {H : Type} : List (Lit × DataW H) → Nat
  | [] => 0
  | x :: r => uptoBulkEntry x + uptoBulkEntries r
def uptoBulkEntry {H : Type} : Lit × DataW H → Nat
  | (.string bytes, d) => bytes.length + uptoBulk d + 1
  | (_, d) => uptoBulk d + 1
 end
def uptoSmall : (H : Type) → List (DataW H) → Bool := fun _ ds => decide (uptoBulkAll ds ≤ 1048576)
def OpenSpec.upto (s : _root_.Go.ChangeSpec) : _root_.Go.OpenSpec := { _root_.Go.OpenSpec.ofChange s with cond := some uptoSmall }

/-- 'laws.FnExactMostAlone', WHERE WHAT IT READS IS OF BULK AT MOST 1048576: true; the input reads as it did. -/
def fnExactMostAloneUptoRow : OpenClaim := { program := "ytcnocoljmljnaaa", sum := "c7ef99f1937a52b904cd862521729ed3eb29516db54e8b20b3ae947b1f400803", func := "loop.example/shapesoftrees/laws.FnExactMostAlone", spec := "fnExactMostAlone", unfollowed := true, recurses := true, plainKeys := false, apart := false, narrowed := true }
def FnExactMostAloneUptoSaid : Prop := fnExactMostAloneUptoRow.holds Try.pinned (OpenSpec.upto fnExactMostAloneSpec)

/-- 'laws.FnExactCountAlone', WHERE WHAT IT READS IS OF BULK AT MOST 1048576: true; the input reads as it did. -/
def fnExactCountAloneUptoRow : OpenClaim := { program := "ytcnocoljmljnaaa", sum := "c7ef99f1937a52b904cd862521729ed3eb29516db54e8b20b3ae947b1f400803", func := "loop.example/shapesoftrees/laws.FnExactCountAlone", spec := "fnExactCountAlone", unfollowed := true, recurses := true, plainKeys := false, apart := false, narrowed := true }
def FnExactCountAloneUptoSaid : Prop := fnExactCountAloneUptoRow.holds Try.pinned (OpenSpec.upto fnExactCountAloneSpec)

/-- 'laws.FnExactMostPairs', WHERE WHAT IT READS IS OF BULK AT MOST 1048576: true; the input reads as it did. -/
def fnExactMostPairsUptoRow : OpenClaim := { program := "ytcnocoljmljnaaa", sum := "c7ef99f1937a52b904cd862521729ed3eb29516db54e8b20b3ae947b1f400803", func := "loop.example/shapesoftrees/laws.FnExactMostPairs", spec := "fnExactMostPairs", unfollowed := true, recurses := true, plainKeys := false, apart := false, narrowed := true }
def FnExactMostPairsUptoSaid : Prop := fnExactMostPairsUptoRow.holds Try.pinned (OpenSpec.upto fnExactMostPairsSpec)

/-- 'laws.FnExactLeastWatch', WHERE WHAT IT READS IS OF BULK AT MOST 1048576: true; the input reads as it did. -/
def fnExactLeastWatchUptoRow : OpenClaim := { program := "ytcnocoljmljnaaa", sum := "c7ef99f1937a52b904cd862521729ed3eb29516db54e8b20b3ae947b1f400803", func := "loop.example/shapesoftrees/laws.FnExactLeastWatch", spec := "fnExactLeastWatch", unfollowed := true, recurses := true, plainKeys := false, apart := false, narrowed := true }
def FnExactLeastWatchUptoSaid : Prop := fnExactLeastWatchUptoRow.holds Try.pinned (OpenSpec.upto fnExactLeastWatchSpec)

/-- 'laws.FnExactWaysOf', WHERE WHAT IT READS IS OF BULK AT MOST 1048576: true; the input reads as it did. -/
def fnExactWaysOfUptoRow : OpenClaim := { program := "ytcnocoljmljnaaa", sum := "c7ef99f1937a52b904cd862521729ed3eb29516db54e8b20b3ae947b1f400803", func := "loop.example/shapesoftrees/laws.FnExactWaysOf", spec := "fnExactWaysOf", unfollowed := true, recurses := true, plainKeys := false, apart := false, narrowed := true }
def FnExactWaysOfUptoSaid : Prop := fnExactWaysOfUptoRow.holds Try.pinned (OpenSpec.upto fnExactWaysOfSpec)

/-- 'laws.FnExactWaysByEdges', WHERE WHAT IT READS IS OF BULK AT MOST 1048576: true; the input reads as it did. -/
def fnExactWaysByEdgesUptoRow : OpenClaim := { program := "ytcnocoljmljnaaa", sum := "c7ef99f1937a52b904cd862521729ed3eb29516db54e8b20b3ae947b1f400803", func := "loop.example/shapesoftrees/laws.FnExactWaysByEdges", spec := "fnExactWaysByEdges", unfollowed := true, recurses := true, plainKeys := false, apart := false, narrowed := true }
def FnExactWaysByEdgesUptoSaid : Prop := fnExactWaysByEdgesUptoRow.holds Try.pinned (OpenSpec.upto fnExactWaysByEdgesSpec)

end Rows
end Go.Proofs.Ytcnocoljmljnaaa
