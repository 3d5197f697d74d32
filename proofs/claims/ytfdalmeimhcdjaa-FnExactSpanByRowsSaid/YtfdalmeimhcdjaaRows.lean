/-
  No cell of these rows narrows 'for every input' (looked for: loops, veiled, ifaces, maps, wideKeys, modest, calm, conditions, laid).
  DERIVED. THE GIVEN ROWS OF THIS SEAT. 5 by the template 'for every input the law returns true; each argument reads behind the call as it read before'; 0 by the template 'total and deterministic' (their statements: YtfdalmeimhcdjaaTotals.lean).
  GIVEN WITH THE SEED: the statements are not yours to turn. If you find one false, say at which input.
  Laid BY PROGRAM, IN A SANDBOX (cutbox-rows.mjs): the forced cells as the released guide's own fill.sh prints them over the translation d5fac3aec39f1c1a… (all of the seat's roots in one cut). By AI agents, Wed Nov 11 2026. No macro, syntax, notation, axiom, sorry.
-/
import Derived.Test.YtfdalmeimhcdjaaChecked
import GoSem.Claim
import GoSem.ClaimJoined
import GoSem.ClaimMapViews
import Derived.JoinedTies
import Derived.KernelRfl
namespace Go.Proofs.Ytfdalmeimhcdjaa
/- THE CELL 'sum', in the pinned program and in every row, IS THE sha256 OF THE DUMP (.gsa) THAT YtfdalmeimhcdjaaProg.lean LOADS. Nothing in Lean hashes anything: it is a label: what it is worth is what the hold of that sum in a sandbox is worth. -/
noncomputable def Try.pinned : Pinned := { name := "ytfdalmeimhcdjaa", sum := "d5fac3aec39f1c1ae5294ee8f5542aaadb3380dde456adab0942b8b0b39c5e75", checked := Try.checked }
namespace Rows
def none {H : Type} : Left H := { results := [], args := [] }

/-- 'laws.FnExactValidWeb': WHATEVER THE INPUT: true; the input reads as it did. -/
def fnExactValidWebSpec : ChangeSpec := { name := "fnExactValidWeb", fn := fun _ => fun
  | [d1, d2] => { results := [.lit (.bool true)], args := [d1, d2] }
  | _ => none }
def fnExactValidWebRow : OpenClaim := { program := "ytfdalmeimhcdjaa", sum := "d5fac3aec39f1c1ae5294ee8f5542aaadb3380dde456adab0942b8b0b39c5e75", func := "loop.example/shapesoftrees/laws.FnExactValidWeb", spec := "fnExactValidWeb", apart := false }
def FnExactValidWebSaid : Prop := fnExactValidWebRow.holds Try.pinned (OpenSpec.ofChange fnExactValidWebSpec)

/-- ITS FALSE NEIGHBOUR: 'it returns false'. Refute it at one input. -/
def fnExactValidWebWrong : ChangeSpec := { name := "fnExactValidWeb", fn := fun _ => fun
  | [d1, d2] => { results := [.lit (.bool false)], args := [d1, d2] }
  | _ => none }
def FnExactValidWebWrongFalsely : Prop := fnExactValidWebRow.holds Try.pinned (OpenSpec.ofChange fnExactValidWebWrong)

/-- 'laws.FnExactSpanByRows': WHATEVER THE INPUT: true; the input reads as it did. -/
def fnExactSpanByRowsSpec : ChangeSpec := { name := "fnExactSpanByRows", fn := fun _ => fun
  | [d1, d2] => { results := [.lit (.bool true)], args := [d1, d2] }
  | _ => none }
def fnExactSpanByRowsRow : OpenClaim := { program := "ytfdalmeimhcdjaa", sum := "d5fac3aec39f1c1ae5294ee8f5542aaadb3380dde456adab0942b8b0b39c5e75", func := "loop.example/shapesoftrees/laws.FnExactSpanByRows", spec := "fnExactSpanByRows", recurses := true, apart := false }
def FnExactSpanByRowsSaid : Prop := fnExactSpanByRowsRow.holds Try.pinned (OpenSpec.ofChange fnExactSpanByRowsSpec)

/-- ITS FALSE NEIGHBOUR: 'it returns false'. Refute it at one input. -/
def fnExactSpanByRowsWrong : ChangeSpec := { name := "fnExactSpanByRows", fn := fun _ => fun
  | [d1, d2] => { results := [.lit (.bool false)], args := [d1, d2] }
  | _ => none }
def FnExactSpanByRowsWrongFalsely : Prop := fnExactSpanByRowsRow.holds Try.pinned (OpenSpec.ofChange fnExactSpanByRowsWrong)

/-- 'laws.FnExactSpanByCuts': WHATEVER THE INPUT: true; the input reads as it did. -/
def fnExactSpanByCutsSpec : ChangeSpec := { name := "fnExactSpanByCuts", fn := fun _ => fun
  | [d1, d2] => { results := [.lit (.bool true)], args := [d1, d2] }
  | _ => none }
def fnExactSpanByCutsRow : OpenClaim := { program := "ytfdalmeimhcdjaa", sum := "d5fac3aec39f1c1ae5294ee8f5542aaadb3380dde456adab0942b8b0b39c5e75", func := "loop.example/shapesoftrees/laws.FnExactSpanByCuts", spec := "fnExactSpanByCuts", recurses := true, apart := false }
def FnExactSpanByCutsSaid : Prop := fnExactSpanByCutsRow.holds Try.pinned (OpenSpec.ofChange fnExactSpanByCutsSpec)

/-- ITS FALSE NEIGHBOUR: 'it returns false'. Refute it at one input. -/
def fnExactSpanByCutsWrong : ChangeSpec := { name := "fnExactSpanByCuts", fn := fun _ => fun
  | [d1, d2] => { results := [.lit (.bool false)], args := [d1, d2] }
  | _ => none }
def FnExactSpanByCutsWrongFalsely : Prop := fnExactSpanByCutsRow.holds Try.pinned (OpenSpec.ofChange fnExactSpanByCutsWrong)

/-- 'laws.FnExactSpansOf': WHATEVER THE INPUT: true; the input reads as it did. -/
def fnExactSpansOfSpec : ChangeSpec := { name := "fnExactSpansOf", fn := fun _ => fun
  | [d1, d2] => { results := [.lit (.bool true)], args := [d1, d2] }
  | _ => none }
def fnExactSpansOfRow : OpenClaim := { program := "ytfdalmeimhcdjaa", sum := "d5fac3aec39f1c1ae5294ee8f5542aaadb3380dde456adab0942b8b0b39c5e75", func := "loop.example/shapesoftrees/laws.FnExactSpansOf", spec := "fnExactSpansOf", apart := false }
def FnExactSpansOfSaid : Prop := fnExactSpansOfRow.holds Try.pinned (OpenSpec.ofChange fnExactSpansOfSpec)

/-- ITS FALSE NEIGHBOUR: 'it returns false'. Refute it at one input. -/
def fnExactSpansOfWrong : ChangeSpec := { name := "fnExactSpansOf", fn := fun _ => fun
  | [d1, d2] => { results := [.lit (.bool false)], args := [d1, d2] }
  | _ => none }
def FnExactSpansOfWrongFalsely : Prop := fnExactSpansOfRow.holds Try.pinned (OpenSpec.ofChange fnExactSpansOfWrong)

/-- 'laws.FnExactSpansWith': WHATEVER THE INPUT: true; the input reads as it did. -/
def fnExactSpansWithSpec : ChangeSpec := { name := "fnExactSpansWith", fn := fun _ => fun
  | [d1, d2, d3] => { results := [.lit (.bool true)], args := [d1, d2, d3] }
  | _ => none }
def fnExactSpansWithRow : OpenClaim := { program := "ytfdalmeimhcdjaa", sum := "d5fac3aec39f1c1ae5294ee8f5542aaadb3380dde456adab0942b8b0b39c5e75", func := "loop.example/shapesoftrees/laws.FnExactSpansWith", spec := "fnExactSpansWith", apart := false }
def FnExactSpansWithSaid : Prop := fnExactSpansWithRow.holds Try.pinned (OpenSpec.ofChange fnExactSpansWithSpec)

/-- ITS FALSE NEIGHBOUR: 'it returns false'. Refute it at one input. -/
def fnExactSpansWithWrong : ChangeSpec := { name := "fnExactSpansWith", fn := fun _ => fun
  | [d1, d2, d3] => { results := [.lit (.bool false)], args := [d1, d2, d3] }
  | _ => none }
def FnExactSpansWithWrongFalsely : Prop := fnExactSpansWithRow.holds Try.pinned (OpenSpec.ofChange fnExactSpansWithWrong)

/- THE SECOND FORM. 'bulk': how many values and letters a reading holds, each counted each time it is reached (what is shared counts as often as it is met; a slice's spare places count too). A statement '..UptoSaid' is the law's where the arguments, and the package variables that the reading takes, are together of bulk at most 1048576: NARROWER than '..Said'. Prove '..Said' where nothing that the law and all that it calls make is longer than what came in: it says more and counts as full. Else prove '..UptoSaid'. A law counts once. -/
mutual
def uptoBulk {H : Type} : DataW H → Nat
  | .lit (.string bytes) => bytes.length + 1
  | .lit _ => 1
  | .nil => 1
  | .ptr d => uptoBulk d + 1
  | .slice elems spare => uptoBulkAll elems + uptoBulkAll spare + 1
  | .agg parts => uptoBulkAll parts + 1
  | .iface _ d => uptoBulk d + 1
  | .map entries => uptoBulkEntries entries + 1
  | .held _ => 1
def uptoBulkAll {H : Type} : List (DataW H) → Nat
  | [] => 0
  | d :: r => uptoBulk d + uptoBulkAll r
def uptoBulkEntries {H : Type} : List (Lit × DataW H) → Nat
  | [] => 0
  | x :: r => uptoBulkEntry x + uptoBulkEntries r
def uptoBulkEntry {H : Type} : Lit × DataW H → Nat
  | (.string bytes, d) => bytes.length + uptoBulk d + 1
  | (_, d) => uptoBulk d + 1
 end
def uptoSmall : (H : Type) → List (DataW H) → Bool := fun _ ds => decide (uptoBulkAll ds ≤ 1048576)
def OpenSpec.upto (s : _root_.Go.ChangeSpec) : _root_.Go.OpenSpec := { _root_.Go.OpenSpec.ofChange s with cond := some uptoSmall }

/-- 'laws.FnExactValidWeb', WHERE WHAT IT READS IS OF BULK AT MOST 1048576: true; the input reads as it did. -/
def fnExactValidWebUptoRow : OpenClaim := { program := "ytfdalmeimhcdjaa", sum := "d5fac3aec39f1c1ae5294ee8f5542aaadb3380dde456adab0942b8b0b39c5e75", func := "loop.example/shapesoftrees/laws.FnExactValidWeb", spec := "fnExactValidWeb", apart := false, narrowed := true }
def FnExactValidWebUptoSaid : Prop := fnExactValidWebUptoRow.holds Try.pinned (OpenSpec.upto fnExactValidWebSpec)

/-- 'laws.FnExactSpanByRows', WHERE WHAT IT READS IS OF BULK AT MOST 1048576: true; the input reads as it did. -/
def fnExactSpanByRowsUptoRow : OpenClaim := { program := "ytfdalmeimhcdjaa", sum := "d5fac3aec39f1c1ae5294ee8f5542aaadb3380dde456adab0942b8b0b39c5e75", func := "loop.example/shapesoftrees/laws.FnExactSpanByRows", spec := "fnExactSpanByRows", recurses := true, apart := false, narrowed := true }
def FnExactSpanByRowsUptoSaid : Prop := fnExactSpanByRowsUptoRow.holds Try.pinned (OpenSpec.upto fnExactSpanByRowsSpec)

/-- 'laws.FnExactSpanByCuts', WHERE WHAT IT READS IS OF BULK AT MOST 1048576: true; the input reads as it did. -/
def fnExactSpanByCutsUptoRow : OpenClaim := { program := "ytfdalmeimhcdjaa", sum := "d5fac3aec39f1c1ae5294ee8f5542aaadb3380dde456adab0942b8b0b39c5e75", func := "loop.example/shapesoftrees/laws.FnExactSpanByCuts", spec := "fnExactSpanByCuts", recurses := true, apart := false, narrowed := true }
def FnExactSpanByCutsUptoSaid : Prop := fnExactSpanByCutsUptoRow.holds Try.pinned (OpenSpec.upto fnExactSpanByCutsSpec)

/-- 'laws.FnExactSpansOf', WHERE WHAT IT READS IS OF BULK AT MOST 1048576: true; the input reads as it did. -/
def fnExactSpansOfUptoRow : OpenClaim := { program := "ytfdalmeimhcdjaa", sum := "d5fac3aec39f1c1ae5294ee8f5542aaadb3380dde456adab0942b8b0b39c5e75", func := "loop.example/shapesoftrees/laws.FnExactSpansOf", spec := "fnExactSpansOf", apart := false, narrowed := true }
def FnExactSpansOfUptoSaid : Prop := fnExactSpansOfUptoRow.holds Try.pinned (OpenSpec.upto fnExactSpansOfSpec)

/-- 'laws.FnExactSpansWith', WHERE WHAT IT READS IS OF BULK AT MOST 1048576: true; the input reads as it did. -/
def fnExactSpansWithUptoRow : OpenClaim := { program := "ytfdalmeimhcdjaa", sum := "d5fac3aec39f1c1ae5294ee8f5542aaadb3380dde456adab0942b8b0b39c5e75", func := "loop.example/shapesoftrees/laws.FnExactSpansWith", spec := "fnExactSpansWith", apart := false, narrowed := true }
def FnExactSpansWithUptoSaid : Prop := fnExactSpansWithUptoRow.holds Try.pinned (OpenSpec.upto fnExactSpansWithSpec)

end Rows
end Go.Proofs.Ytfdalmeimhcdjaa
