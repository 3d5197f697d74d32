/-
  No cell of these rows narrows 'for every input' (looked for: loops, veiled, ifaces, maps, wideKeys, modest, calm, conditions, laid).
  DERIVED. THE GIVEN ROWS OF THIS SEAT. 7 by the template 'for every input the law returns true; each argument reads behind the call as it read before'; 0 by the template 'total and deterministic' (their statements: YtmpppocmbdainaaTotals.lean).
  GIVEN WITH THE SEED: the statements are not yours to turn. If you find one false, say at which input.
  Laid BY PROGRAM, IN A SANDBOX (cutbox-rows.mjs): the forced cells as the released guide's own fill.sh prints them over the translation edcede13d0a179a0… (all of the seat's roots in one cut). By AI agents, Wed Nov 11 2026. No macro, syntax, notation, axiom, sorry.
-/
import Derived.Test.YtmpppocmbdainaaChecked
import GoSem.Claim
import GoSem.ClaimJoined
import GoSem.ClaimMapViews
import Derived.JoinedTies
import Derived.KernelRfl
namespace Go.Proofs.Ytmpppocmbdainaa
/- THE CELL 'sum', in the pinned program and in every row, IS THE sha256 OF THE DUMP (.gsa) THAT YtmpppocmbdainaaProg.lean LOADS. Nothing in Lean hashes anything: it is a label: what it is worth is what the hold of that sum in a sandbox is worth. -/
noncomputable def Try.pinned : Pinned := { name := "ytmpppocmbdainaa", sum := "edcede13d0a179a01a3728fef7348b93b682389117e8f13b3fd0a1aacf37e5eb", checked := Try.checked }
namespace Rows
def none {H : Type} : Left H := { results := [], args := [] }

/-- 'laws.FnMostAlone': WHATEVER THE INPUT: true; the input reads as it did. -/
def fnMostAloneSpec : ChangeSpec := { name := "fnMostAlone", fn := fun _ => fun
  | [d] => { results := [.lit (.bool true)], args := [d] }
  | _ => none }
def fnMostAloneRow : OpenClaim := { program := "ytmpppocmbdainaa", sum := "edcede13d0a179a01a3728fef7348b93b682389117e8f13b3fd0a1aacf37e5eb", func := "loop.example/shapesoftrees/laws.FnMostAlone", spec := "fnMostAlone", unfollowed := true, recurses := true, plainKeys := false, apart := false }
def FnMostAloneSaid : Prop := fnMostAloneRow.holds Try.pinned (OpenSpec.ofChange fnMostAloneSpec)

/-- ITS FALSE NEIGHBOUR: 'it returns false'. Refute it at one input. -/
def fnMostAloneWrong : ChangeSpec := { name := "fnMostAlone", fn := fun _ => fun
  | [d] => { results := [.lit (.bool false)], args := [d] }
  | _ => none }
def FnMostAloneWrongFalsely : Prop := fnMostAloneRow.holds Try.pinned (OpenSpec.ofChange fnMostAloneWrong)

/-- 'laws.FnCountAlone': WHATEVER THE INPUT: true; the input reads as it did. -/
def fnCountAloneSpec : ChangeSpec := { name := "fnCountAlone", fn := fun _ => fun
  | [d] => { results := [.lit (.bool true)], args := [d] }
  | _ => none }
def fnCountAloneRow : OpenClaim := { program := "ytmpppocmbdainaa", sum := "edcede13d0a179a01a3728fef7348b93b682389117e8f13b3fd0a1aacf37e5eb", func := "loop.example/shapesoftrees/laws.FnCountAlone", spec := "fnCountAlone", unfollowed := true, recurses := true, plainKeys := false, apart := false }
def FnCountAloneSaid : Prop := fnCountAloneRow.holds Try.pinned (OpenSpec.ofChange fnCountAloneSpec)

/-- ITS FALSE NEIGHBOUR: 'it returns false'. Refute it at one input. -/
def fnCountAloneWrong : ChangeSpec := { name := "fnCountAlone", fn := fun _ => fun
  | [d] => { results := [.lit (.bool false)], args := [d] }
  | _ => none }
def FnCountAloneWrongFalsely : Prop := fnCountAloneRow.holds Try.pinned (OpenSpec.ofChange fnCountAloneWrong)

/-- 'laws.FnMostPairs': WHATEVER THE INPUT: true; the input reads as it did. -/
def fnMostPairsSpec : ChangeSpec := { name := "fnMostPairs", fn := fun _ => fun
  | [d] => { results := [.lit (.bool true)], args := [d] }
  | _ => none }
def fnMostPairsRow : OpenClaim := { program := "ytmpppocmbdainaa", sum := "edcede13d0a179a01a3728fef7348b93b682389117e8f13b3fd0a1aacf37e5eb", func := "loop.example/shapesoftrees/laws.FnMostPairs", spec := "fnMostPairs", unfollowed := true, recurses := true, plainKeys := false, apart := false }
def FnMostPairsSaid : Prop := fnMostPairsRow.holds Try.pinned (OpenSpec.ofChange fnMostPairsSpec)

/-- ITS FALSE NEIGHBOUR: 'it returns false'. Refute it at one input. -/
def fnMostPairsWrong : ChangeSpec := { name := "fnMostPairs", fn := fun _ => fun
  | [d] => { results := [.lit (.bool false)], args := [d] }
  | _ => none }
def FnMostPairsWrongFalsely : Prop := fnMostPairsRow.holds Try.pinned (OpenSpec.ofChange fnMostPairsWrong)

/-- 'laws.FnLeastWatch': WHATEVER THE INPUT: true; the input reads as it did. -/
def fnLeastWatchSpec : ChangeSpec := { name := "fnLeastWatch", fn := fun _ => fun
  | [d] => { results := [.lit (.bool true)], args := [d] }
  | _ => none }
def fnLeastWatchRow : OpenClaim := { program := "ytmpppocmbdainaa", sum := "edcede13d0a179a01a3728fef7348b93b682389117e8f13b3fd0a1aacf37e5eb", func := "loop.example/shapesoftrees/laws.FnLeastWatch", spec := "fnLeastWatch", unfollowed := true, recurses := true, plainKeys := false, apart := false }
def FnLeastWatchSaid : Prop := fnLeastWatchRow.holds Try.pinned (OpenSpec.ofChange fnLeastWatchSpec)

/-- ITS FALSE NEIGHBOUR: 'it returns false'. Refute it at one input. -/
def fnLeastWatchWrong : ChangeSpec := { name := "fnLeastWatch", fn := fun _ => fun
  | [d] => { results := [.lit (.bool false)], args := [d] }
  | _ => none }
def FnLeastWatchWrongFalsely : Prop := fnLeastWatchRow.holds Try.pinned (OpenSpec.ofChange fnLeastWatchWrong)

/-- 'laws.FnWaysOf': WHATEVER THE INPUT: true; the input reads as it did. -/
def fnWaysOfSpec : ChangeSpec := { name := "fnWaysOf", fn := fun _ => fun
  | [d] => { results := [.lit (.bool true)], args := [d] }
  | _ => none }
def fnWaysOfRow : OpenClaim := { program := "ytmpppocmbdainaa", sum := "edcede13d0a179a01a3728fef7348b93b682389117e8f13b3fd0a1aacf37e5eb", func := "loop.example/shapesoftrees/laws.FnWaysOf", spec := "fnWaysOf", unfollowed := true, recurses := true, plainKeys := false, apart := false }
def FnWaysOfSaid : Prop := fnWaysOfRow.holds Try.pinned (OpenSpec.ofChange fnWaysOfSpec)

/-- ITS FALSE NEIGHBOUR: 'it returns false'. Refute it at one input. -/
def fnWaysOfWrong : ChangeSpec := { name := "fnWaysOf", fn := fun _ => fun
  | [d] => { results := [.lit (.bool false)], args := [d] }
  | _ => none }
def FnWaysOfWrongFalsely : Prop := fnWaysOfRow.holds Try.pinned (OpenSpec.ofChange fnWaysOfWrong)

/-- 'laws.FnWaysByEdges': WHATEVER THE INPUT: true; the input reads as it did. -/
def fnWaysByEdgesSpec : ChangeSpec := { name := "fnWaysByEdges", fn := fun _ => fun
  | [d] => { results := [.lit (.bool true)], args := [d] }
  | _ => none }
def fnWaysByEdgesRow : OpenClaim := { program := "ytmpppocmbdainaa", sum := "edcede13d0a179a01a3728fef7348b93b682389117e8f13b3fd0a1aacf37e5eb", func := "loop.example/shapesoftrees/laws.FnWaysByEdges", spec := "fnWaysByEdges", unfollowed := true, recurses := true, plainKeys := false, apart := false }
def FnWaysByEdgesSaid : Prop := fnWaysByEdgesRow.holds Try.pinned (OpenSpec.ofChange fnWaysByEdgesSpec)

/-- ITS FALSE NEIGHBOUR: 'it returns false'. Refute it at one input. -/
def fnWaysByEdgesWrong : ChangeSpec := { name := "fnWaysByEdges", fn := fun _ => fun
  | [d] => { results := [.lit (.bool false)], args := [d] }
  | _ => none }
def FnWaysByEdgesWrongFalsely : Prop := fnWaysByEdgesRow.holds Try.pinned (OpenSpec.ofChange fnWaysByEdgesWrong)

/-- 'laws.FnAloneInRows': WHATEVER THE INPUT: true; the input reads as it did. -/
def fnAloneInRowsSpec : ChangeSpec := { name := "fnAloneInRows", fn := fun _ => fun
  | [d] => { results := [.lit (.bool true)], args := [d] }
  | _ => none }
def fnAloneInRowsRow : OpenClaim := { program := "ytmpppocmbdainaa", sum := "edcede13d0a179a01a3728fef7348b93b682389117e8f13b3fd0a1aacf37e5eb", func := "loop.example/shapesoftrees/laws.FnAloneInRows", spec := "fnAloneInRows", unfollowed := true, recurses := true, plainKeys := false, apart := false }
def FnAloneInRowsSaid : Prop := fnAloneInRowsRow.holds Try.pinned (OpenSpec.ofChange fnAloneInRowsSpec)

/-- ITS FALSE NEIGHBOUR: 'it returns false'. Refute it at one input. -/
def fnAloneInRowsWrong : ChangeSpec := { name := "fnAloneInRows", fn := fun _ => fun
  | [d] => { results := [.lit (.bool false)], args := [d] }
  | _ => none }
def FnAloneInRowsWrongFalsely : Prop := fnAloneInRowsRow.holds Try.pinned (OpenSpec.ofChange fnAloneInRowsWrong)

/- THE SECOND FORM. 'bulk': how many values and letters a reading holds, each counted each time it is reached (what is shared counts as often as it is met; a slice's spare places count too). A statement '..UptoSaid' is the law's where the arguments, and the package variables that the reading takes, are together of bulk at most 1048576: NARROWER than '..Said'. Prove '..Said' where nothing that the law and all that it calls make is longer than what came in: it says more and counts as full. Else prove '..UptoSaid'. A law counts once. -/
mutual
def uptoBulk {H : Type} : DataW H → Nat
  | .lit (.string bytes) => bytes.length + 1
  | .lit _ => 1
  | .nil => 1
  | .ptr d => uptoBulk d + 1
  | .slice elems spare => uptoBulkAll elems + uptoBulkAll spare + 1
  | .agg parts => uptoBulkAll parts + 1
  | .iface _ d => uptoBulk d + 1
  | .map entries => uptoBulkEntries entries + 1
  | .held _ => 1
def uptoBulkAll {H : Type} : List (DataW H) → Nat
  | [] => 0
  | d :: r => uptoBulk d + uptoBulkAll r
def uptoBulkEntries {H : Type} : List (Lit × DataW H) → Nat
  | [] => 0
  | x :: r => uptoBulkEntry x + uptoBulkEntries r
def uptoBulkEntry {H : Type} : Lit × DataW H → Nat
  | (.string bytes, d) => bytes.length + uptoBulk d + 1
  | (_, d) => uptoBulk d + 1
 end
def uptoSmall : (H : Type) → List (DataW H) → Bool := fun _ ds => decide (uptoBulkAll ds ≤ 1048576)
def OpenSpec.upto (s : _root_.Go.ChangeSpec) : _root_.Go.OpenSpec := { _root_.Go.OpenSpec.ofChange s with cond := some uptoSmall }

/-- 'laws.FnMostAlone', WHERE WHAT IT READS IS OF BULK AT MOST 1048576: true; the input reads as it did. -/
def fnMostAloneUptoRow : OpenClaim := { program := "ytmpppocmbdainaa", sum := "edcede13d0a179a01a3728fef7348b93b682389117e8f13b3fd0a1aacf37e5eb", func := "loop.example/shapesoftrees/laws.FnMostAlone", spec := "fnMostAlone", unfollowed := true, recurses := true, plainKeys := false, apart := false, narrowed := true }
def FnMostAloneUptoSaid : Prop := fnMostAloneUptoRow.holds Try.pinned (OpenSpec.upto fnMostAloneSpec)

/-- 'laws.FnCountAlone', WHERE WHAT IT READS IS OF BULK AT MOST 1048576: true; the input reads as it did. -/
def fnCountAloneUptoRow : OpenClaim := { program := "ytmpppocmbdainaa", sum := "edcede13d0a179a01a3728fef7348b93b682389117e8f13b3fd0a1aacf37e5eb", func := "loop.example/shapesoftrees/laws.FnCountAlone", spec := "fnCountAlone", unfollowed := true, recurses := true, plainKeys := false, apart := false, narrowed := true }
def FnCountAloneUptoSaid : Prop := fnCountAloneUptoRow.holds Try.pinned (OpenSpec.upto fnCountAloneSpec)

/-- 'laws.FnMostPairs', WHERE WHAT IT READS IS OF BULK AT MOST 1048576: true; the input reads as it did. -/
def fnMostPairsUptoRow : OpenClaim := { program := "ytmpppocmbdainaa", sum := "edcede13d0a179a01a3728fef7348b93b682389117e8f13b3fd0a1aacf37e5eb", func := "loop.example/shapesoftrees/laws.FnMostPairs", spec := "fnMostPairs", unfollowed := true, recurses := true, plainKeys := false, apart := false, narrowed := true }
def FnMostPairsUptoSaid : Prop := fnMostPairsUptoRow.holds Try.pinned (OpenSpec.upto fnMostPairsSpec)

/-- 'laws.FnLeastWatch', WHERE WHAT IT READS IS OF BULK AT MOST 1048576: true; the input reads as it did. -/
def fnLeastWatchUptoRow : OpenClaim := { program := "ytmpppocmbdainaa", sum := "edcede13d0a179a01a3728fef7348b93b682389117e8f13b3fd0a1aacf37e5eb", func := "loop.example/shapesoftrees/laws.FnLeastWatch", spec := "fnLeastWatch", unfollowed := true, recurses := true, plainKeys := false, apart := false, narrowed := true }
def FnLeastWatchUptoSaid : Prop := fnLeastWatchUptoRow.holds Try.pinned (OpenSpec.upto fnLeastWatchSpec)

/-- 'laws.FnWaysOf', WHERE WHAT IT READS IS OF BULK AT MOST 1048576: true; the input reads as it did. -/
def fnWaysOfUptoRow : OpenClaim := { program := "ytmpppocmbdainaa", sum := "edcede13d0a179a01a3728fef7348b93b682389117e8f13b3fd0a1aacf37e5eb", func := "loop.example/shapesoftrees/laws.FnWaysOf", spec := "fnWaysOf", unfollowed := true, recurses := true, plainKeys := false, apart := false, narrowed := true }
def FnWaysOfUptoSaid : Prop := fnWaysOfUptoRow.holds Try.pinned (OpenSpec.upto fnWaysOfSpec)

/-- 'laws.FnWaysByEdges', WHERE WHAT IT READS IS OF BULK AT MOST 1048576: true; the input reads as it did. -/
def fnWaysByEdgesUptoRow : OpenClaim := { program := "ytmpppocmbdainaa", sum := "edcede13d0a179a01a3728fef7348b93b682389117e8f13b3fd0a1aacf37e5eb", func := "loop.example/shapesoftrees/laws.FnWaysByEdges", spec := "fnWaysByEdges", unfollowed := true, recurses := true, plainKeys := false, apart := false, narrowed := true }
def FnWaysByEdgesUptoSaid : Prop := fnWaysByEdgesUptoRow.holds Try.pinned (OpenSpec.upto fnWaysByEdgesSpec)

/-- 'laws.FnAloneInRows', WHERE WHAT IT READS IS OF BULK AT MOST 1048576: true; the input reads as it did. -/
def fnAloneInRowsUptoRow : OpenClaim := { program := "ytmpppocmbdainaa", sum := "edcede13d0a179a01a3728fef7348b93b682389117e8f13b3fd0a1aacf37e5eb", func := "loop.example/shapesoftrees/laws.FnAloneInRows", spec := "fnAloneInRows", unfollowed := true, recurses := true, plainKeys := false, apart := false, narrowed := true }
def FnAloneInRowsUptoSaid : Prop := fnAloneInRowsUptoRow.holds Try.pinned (OpenSpec.upto fnAloneInRowsSpec)

end Rows
end Go.Proofs.Ytmpppocmbdainaa
