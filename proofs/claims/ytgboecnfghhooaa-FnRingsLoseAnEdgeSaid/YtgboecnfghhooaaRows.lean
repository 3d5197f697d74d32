/-
  No cell of these rows narrows 'for every input' (looked for: loops, veiled, ifaces, maps, wideKeys, modest, calm, conditions, laid).
  DERIVED. THE GIVEN ROWS OF THIS SEAT. 8 by the template 'for every input the law returns true; each argument reads behind the call as it read before'; 0 by the template 'total and deterministic' (their statements: YtgboecnfghhooaaTotals.lean).
  GIVEN WITH THE SEED: the statements are not yours to turn. If you find one false, say at which input.
  Laid BY PROGRAM, IN A SANDBOX (cutbox-rows.mjs): the forced cells as the released guide's own fill.sh prints them over the translation 4ec79039df8e11a1… (all of the seat's roots in one cut). By AI agents, Wed Nov 11 2026. No macro, syntax, notation, axiom, sorry.
-/
import Derived.Test.YtgboecnfghhooaaChecked
import GoSem.Claim
import GoSem.ClaimJoined
import GoSem.ClaimMapViews
import Derived.JoinedTies
import Derived.KernelRfl
namespace Go.Proofs.Ytgboecnfghhooaa
/- THE CELL 'sum', in the pinned program and in every row, IS THE sha256 OF THE DUMP (.gsa) THAT YtgboecnfghhooaaProg.lean LOADS. Nothing in Lean hashes anything: it is a label: what it is worth is what the hold of that sum in a sandbox is worth. -/
noncomputable def Try.pinned : Pinned := { name := "ytgboecnfghhooaa", sum := "4ec79039df8e11a1fcfd89b573bf08590d3d7a709f9d12ff8aee238113b16fc5", checked := Try.checked }
namespace Rows
def none {H : Type} : Left H := { results := [], args := [] }

/-- 'laws.FnCountTrees': WHATEVER THE INPUT: true; the input reads as it did. -/
def fnCountTreesSpec : ChangeSpec := { name := "fnCountTrees", fn := fun _ => fun
  | [d] => { results := [.lit (.bool true)], args := [d] }
  | _ => none }
def fnCountTreesRow : OpenClaim := { program := "ytgboecnfghhooaa", sum := "4ec79039df8e11a1fcfd89b573bf08590d3d7a709f9d12ff8aee238113b16fc5", func := "loop.example/shapesoftrees/laws.FnCountTrees", spec := "fnCountTrees", recurses := true, apart := false }
def FnCountTreesSaid : Prop := fnCountTreesRow.holds Try.pinned (OpenSpec.ofChange fnCountTreesSpec)

/-- ITS FALSE NEIGHBOUR: 'it returns false'. Refute it at one input. -/
def fnCountTreesWrong : ChangeSpec := { name := "fnCountTrees", fn := fun _ => fun
  | [d] => { results := [.lit (.bool false)], args := [d] }
  | _ => none }
def FnCountTreesWrongFalsely : Prop := fnCountTreesRow.holds Try.pinned (OpenSpec.ofChange fnCountTreesWrong)

/-- 'laws.FnValidWeb': WHATEVER THE INPUT: true; the input reads as it did. -/
def fnValidWebSpec : ChangeSpec := { name := "fnValidWeb", fn := fun _ => fun
  | [d] => { results := [.lit (.bool true)], args := [d] }
  | _ => none }
def fnValidWebRow : OpenClaim := { program := "ytgboecnfghhooaa", sum := "4ec79039df8e11a1fcfd89b573bf08590d3d7a709f9d12ff8aee238113b16fc5", func := "loop.example/shapesoftrees/laws.FnValidWeb", spec := "fnValidWeb", apart := false }
def FnValidWebSaid : Prop := fnValidWebRow.holds Try.pinned (OpenSpec.ofChange fnValidWebSpec)

/-- ITS FALSE NEIGHBOUR: 'it returns false'. Refute it at one input. -/
def fnValidWebWrong : ChangeSpec := { name := "fnValidWeb", fn := fun _ => fun
  | [d] => { results := [.lit (.bool false)], args := [d] }
  | _ => none }
def FnValidWebWrongFalsely : Prop := fnValidWebRow.holds Try.pinned (OpenSpec.ofChange fnValidWebWrong)

/-- 'laws.FnSpanByRows': WHATEVER THE INPUT: true; the input reads as it did. -/
def fnSpanByRowsSpec : ChangeSpec := { name := "fnSpanByRows", fn := fun _ => fun
  | [d] => { results := [.lit (.bool true)], args := [d] }
  | _ => none }
def fnSpanByRowsRow : OpenClaim := { program := "ytgboecnfghhooaa", sum := "4ec79039df8e11a1fcfd89b573bf08590d3d7a709f9d12ff8aee238113b16fc5", func := "loop.example/shapesoftrees/laws.FnSpanByRows", spec := "fnSpanByRows", recurses := true, apart := false }
def FnSpanByRowsSaid : Prop := fnSpanByRowsRow.holds Try.pinned (OpenSpec.ofChange fnSpanByRowsSpec)

/-- ITS FALSE NEIGHBOUR: 'it returns false'. Refute it at one input. -/
def fnSpanByRowsWrong : ChangeSpec := { name := "fnSpanByRows", fn := fun _ => fun
  | [d] => { results := [.lit (.bool false)], args := [d] }
  | _ => none }
def FnSpanByRowsWrongFalsely : Prop := fnSpanByRowsRow.holds Try.pinned (OpenSpec.ofChange fnSpanByRowsWrong)

/-- 'laws.FnSpanByCuts': WHATEVER THE INPUT: true; the input reads as it did. -/
def fnSpanByCutsSpec : ChangeSpec := { name := "fnSpanByCuts", fn := fun _ => fun
  | [d] => { results := [.lit (.bool true)], args := [d] }
  | _ => none }
def fnSpanByCutsRow : OpenClaim := { program := "ytgboecnfghhooaa", sum := "4ec79039df8e11a1fcfd89b573bf08590d3d7a709f9d12ff8aee238113b16fc5", func := "loop.example/shapesoftrees/laws.FnSpanByCuts", spec := "fnSpanByCuts", recurses := true, apart := false }
def FnSpanByCutsSaid : Prop := fnSpanByCutsRow.holds Try.pinned (OpenSpec.ofChange fnSpanByCutsSpec)

/-- ITS FALSE NEIGHBOUR: 'it returns false'. Refute it at one input. -/
def fnSpanByCutsWrong : ChangeSpec := { name := "fnSpanByCuts", fn := fun _ => fun
  | [d] => { results := [.lit (.bool false)], args := [d] }
  | _ => none }
def FnSpanByCutsWrongFalsely : Prop := fnSpanByCutsRow.holds Try.pinned (OpenSpec.ofChange fnSpanByCutsWrong)

/-- 'laws.FnSpansOf': WHATEVER THE INPUT: true; the input reads as it did. -/
def fnSpansOfSpec : ChangeSpec := { name := "fnSpansOf", fn := fun _ => fun
  | [d] => { results := [.lit (.bool true)], args := [d] }
  | _ => none }
def fnSpansOfRow : OpenClaim := { program := "ytgboecnfghhooaa", sum := "4ec79039df8e11a1fcfd89b573bf08590d3d7a709f9d12ff8aee238113b16fc5", func := "loop.example/shapesoftrees/laws.FnSpansOf", spec := "fnSpansOf", recurses := true, apart := false }
def FnSpansOfSaid : Prop := fnSpansOfRow.holds Try.pinned (OpenSpec.ofChange fnSpansOfSpec)

/-- ITS FALSE NEIGHBOUR: 'it returns false'. Refute it at one input. -/
def fnSpansOfWrong : ChangeSpec := { name := "fnSpansOf", fn := fun _ => fun
  | [d] => { results := [.lit (.bool false)], args := [d] }
  | _ => none }
def FnSpansOfWrongFalsely : Prop := fnSpansOfRow.holds Try.pinned (OpenSpec.ofChange fnSpansOfWrong)

/-- 'laws.FnSpansWith': WHATEVER THE INPUT: true; the input reads as it did. -/
def fnSpansWithSpec : ChangeSpec := { name := "fnSpansWith", fn := fun _ => fun
  | [d] => { results := [.lit (.bool true)], args := [d] }
  | _ => none }
def fnSpansWithRow : OpenClaim := { program := "ytgboecnfghhooaa", sum := "4ec79039df8e11a1fcfd89b573bf08590d3d7a709f9d12ff8aee238113b16fc5", func := "loop.example/shapesoftrees/laws.FnSpansWith", spec := "fnSpansWith", recurses := true, apart := false }
def FnSpansWithSaid : Prop := fnSpansWithRow.holds Try.pinned (OpenSpec.ofChange fnSpansWithSpec)

/-- ITS FALSE NEIGHBOUR: 'it returns false'. Refute it at one input. -/
def fnSpansWithWrong : ChangeSpec := { name := "fnSpansWith", fn := fun _ => fun
  | [d] => { results := [.lit (.bool false)], args := [d] }
  | _ => none }
def FnSpansWithWrongFalsely : Prop := fnSpansWithRow.holds Try.pinned (OpenSpec.ofChange fnSpansWithWrong)

/-- 'laws.FnTreesAreOneSpan': WHATEVER THE INPUT: true; the input reads as it did. -/
def fnTreesAreOneSpanSpec : ChangeSpec := { name := "fnTreesAreOneSpan", fn := fun _ => fun
  | [d] => { results := [.lit (.bool true)], args := [d] }
  | _ => none }
def fnTreesAreOneSpanRow : OpenClaim := { program := "ytgboecnfghhooaa", sum := "4ec79039df8e11a1fcfd89b573bf08590d3d7a709f9d12ff8aee238113b16fc5", func := "loop.example/shapesoftrees/laws.FnTreesAreOneSpan", spec := "fnTreesAreOneSpan", unfollowed := true, recurses := true, apart := false }
def FnTreesAreOneSpanSaid : Prop := fnTreesAreOneSpanRow.holds Try.pinned (OpenSpec.ofChange fnTreesAreOneSpanSpec)

/-- ITS FALSE NEIGHBOUR: 'it returns false'. Refute it at one input. -/
def fnTreesAreOneSpanWrong : ChangeSpec := { name := "fnTreesAreOneSpan", fn := fun _ => fun
  | [d] => { results := [.lit (.bool false)], args := [d] }
  | _ => none }
def FnTreesAreOneSpanWrongFalsely : Prop := fnTreesAreOneSpanRow.holds Try.pinned (OpenSpec.ofChange fnTreesAreOneSpanWrong)

/-- 'laws.FnRingsLoseAnEdge': WHATEVER THE INPUT: true; the input reads as it did. -/
def fnRingsLoseAnEdgeSpec : ChangeSpec := { name := "fnRingsLoseAnEdge", fn := fun _ => fun
  | [d] => { results := [.lit (.bool true)], args := [d] }
  | _ => none }
def fnRingsLoseAnEdgeRow : OpenClaim := { program := "ytgboecnfghhooaa", sum := "4ec79039df8e11a1fcfd89b573bf08590d3d7a709f9d12ff8aee238113b16fc5", func := "loop.example/shapesoftrees/laws.FnRingsLoseAnEdge", spec := "fnRingsLoseAnEdge", recurses := true, apart := false }
def FnRingsLoseAnEdgeSaid : Prop := fnRingsLoseAnEdgeRow.holds Try.pinned (OpenSpec.ofChange fnRingsLoseAnEdgeSpec)

/-- ITS FALSE NEIGHBOUR: 'it returns false'. Refute it at one input. -/
def fnRingsLoseAnEdgeWrong : ChangeSpec := { name := "fnRingsLoseAnEdge", fn := fun _ => fun
  | [d] => { results := [.lit (.bool false)], args := [d] }
  | _ => none }
def FnRingsLoseAnEdgeWrongFalsely : Prop := fnRingsLoseAnEdgeRow.holds Try.pinned (OpenSpec.ofChange fnRingsLoseAnEdgeWrong)

/- THE SECOND FORM. 'bulk': how many values and letters a reading holds, each counted each time it is reached (what is shared counts as often as it is met; a slice's spare places count too). A statement '..UptoSaid' is the law's where the arguments, and the package variables that the reading takes, are together of bulk at most 1048576: NARROWER than '..Said'. Prove '..Said' where nothing that the law and all that it calls make is longer than what came in: it says more and counts as full. Else prove '..UptoSaid'. A law counts once. -/
mutual
def uptoBulk {H : Type} : DataW H → Nat
  | .lit (.string bytes) => bytes.length + 1
  | .lit _ => 1
  | .nil => 1
  | .ptr d => uptoBulk d + 1
  | .slice elems spare => uptoBulkAll elems + uptoBulkAll spare + 1
  | .agg parts => uptoBulkAll parts + 1
  | .iface _ d => uptoBulk d + 1
  | .map entries => uptoBulkEntries entries + 1
  | .held _ => 1
def uptoBulkAll {H : Type} : List (DataW H) → Nat
  | [] => 0
  | d :: r => uptoBulk d + uptoBulkAll r
def uptoBulkEntries {H : Type} : List (Lit × DataW H) → Nat
  | [] => 0
  | x :: r => uptoBulkEntry x + uptoBulkEntries r
def uptoBulkEntry {H : Type} : Lit × DataW H → Nat
  | (.string bytes, d) => bytes.length + uptoBulk d + 1
  | (_, d) => uptoBulk d + 1
 end
def uptoSmall : (H : Type) → List (DataW H) → Bool := fun _ ds => decide (uptoBulkAll ds ≤ 1048576)
def OpenSpec.upto (s : _root_.Go.ChangeSpec) : _root_.Go.OpenSpec := { _root_.Go.OpenSpec.ofChange s with cond := some uptoSmall }

/-- 'laws.FnCountTrees', WHERE WHAT IT READS IS OF BULK AT MOST 1048576: true; the input reads as it did. -/
def fnCountTreesUptoRow : OpenClaim := { program := "ytgboecnfghhooaa", sum := "4ec79039df8e11a1fcfd89b573bf08590d3d7a709f9d12ff8aee238113b16fc5", func := "loop.example/shapesoftrees/laws.FnCountTrees", spec := "fnCountTrees", recurses := true, apart := false, narrowed := true }
def FnCountTreesUptoSaid : Prop := fnCountTreesUptoRow.holds Try.pinned (OpenSpec.upto fnCountTreesSpec)

/-- 'laws.FnValidWeb', WHERE WHAT IT READS IS OF BULK AT MOST 1048576: true; the input reads as it did. -/
def fnValidWebUptoRow : OpenClaim := { program := "ytgboecnfghhooaa", sum := "4ec79039df8e11a1fcfd89b573bf08590d3d7a709f9d12ff8aee238113b16fc5", func := "loop.example/shapesoftrees/laws.FnValidWeb", spec := "fnValidWeb", apart := false, narrowed := true }
def FnValidWebUptoSaid : Prop := fnValidWebUptoRow.holds Try.pinned (OpenSpec.upto fnValidWebSpec)

/-- 'laws.FnSpanByRows', WHERE WHAT IT READS IS OF BULK AT MOST 1048576: true; the input reads as it did. -/
def fnSpanByRowsUptoRow : OpenClaim := { program := "ytgboecnfghhooaa", sum := "4ec79039df8e11a1fcfd89b573bf08590d3d7a709f9d12ff8aee238113b16fc5", func := "loop.example/shapesoftrees/laws.FnSpanByRows", spec := "fnSpanByRows", recurses := true, apart := false, narrowed := true }
def FnSpanByRowsUptoSaid : Prop := fnSpanByRowsUptoRow.holds Try.pinned (OpenSpec.upto fnSpanByRowsSpec)

/-- 'laws.FnSpanByCuts', WHERE WHAT IT READS IS OF BULK AT MOST 1048576: true; the input reads as it did. -/
def fnSpanByCutsUptoRow : OpenClaim := { program := "ytgboecnfghhooaa", sum := "4ec79039df8e11a1fcfd89b573bf08590d3d7a709f9d12ff8aee238113b16fc5", func := "loop.example/shapesoftrees/laws.FnSpanByCuts", spec := "fnSpanByCuts", recurses := true, apart := false, narrowed := true }
def FnSpanByCutsUptoSaid : Prop := fnSpanByCutsUptoRow.holds Try.pinned (OpenSpec.upto fnSpanByCutsSpec)

/-- 'laws.FnSpansOf', WHERE WHAT IT READS IS OF BULK AT MOST 1048576: true; the input reads as it did. -/
def fnSpansOfUptoRow : OpenClaim := { program := "ytgboecnfghhooaa", sum := "4ec79039df8e11a1fcfd89b573bf08590d3d7a709f9d12ff8aee238113b16fc5", func := "loop.example/shapesoftrees/laws.FnSpansOf", spec := "fnSpansOf", recurses := true, apart := false, narrowed := true }
def FnSpansOfUptoSaid : Prop := fnSpansOfUptoRow.holds Try.pinned (OpenSpec.upto fnSpansOfSpec)

/-- 'laws.FnSpansWith', WHERE WHAT IT READS IS OF BULK AT MOST 1048576: true; the input reads as it did. -/
def fnSpansWithUptoRow : OpenClaim := { program := "ytgboecnfghhooaa", sum := "4ec79039df8e11a1fcfd89b573bf08590d3d7a709f9d12ff8aee238113b16fc5", func := "loop.example/shapesoftrees/laws.FnSpansWith", spec := "fnSpansWith", recurses := true, apart := false, narrowed := true }
def FnSpansWithUptoSaid : Prop := fnSpansWithUptoRow.holds Try.pinned (OpenSpec.upto fnSpansWithSpec)

/-- 'laws.FnTreesAreOneSpan', WHERE WHAT IT READS IS OF BULK AT MOST 1048576: true; the input reads as it did. -/
def fnTreesAreOneSpanUptoRow : OpenClaim := { program := "ytgboecnfghhooaa", sum := "4ec79039df8e11a1fcfd89b573bf08590d3d7a709f9d12ff8aee238113b16fc5", func := "loop.example/shapesoftrees/laws.FnTreesAreOneSpan", spec := "fnTreesAreOneSpan", unfollowed := true, recurses := true, apart := false, narrowed := true }
def FnTreesAreOneSpanUptoSaid : Prop := fnTreesAreOneSpanUptoRow.holds Try.pinned (OpenSpec.upto fnTreesAreOneSpanSpec)

/-- 'laws.FnRingsLoseAnEdge', WHERE WHAT IT READS IS OF BULK AT MOST 1048576: true; the input reads as it did. -/
def fnRingsLoseAnEdgeUptoRow : OpenClaim := { program := "ytgboecnfghhooaa", sum := "4ec79039df8e11a1fcfd89b573bf08590d3d7a709f9d12ff8aee238113b16fc5", func := "loop.example/shapesoftrees/laws.FnRingsLoseAnEdge", spec := "fnRingsLoseAnEdge", recurses := true, apart := false, narrowed := true }
def FnRingsLoseAnEdgeUptoSaid : Prop := fnRingsLoseAnEdgeUptoRow.holds Try.pinned (OpenSpec.upto fnRingsLoseAnEdgeSpec)

end Rows
end Go.Proofs.Ytgboecnfghhooaa
