/-
  No cell of these rows narrows 'for every input' (looked for: loops, veiled, ifaces, maps, wideKeys, modest, calm, conditions, laid).
  DERIVED. THE GIVEN ROWS OF THIS SEAT. 6 by the template 'for every input the law returns true; each argument reads behind the call as it read before'; 0 by the template 'total and deterministic' (their statements: YtmlcbeekimiaiaaTotals.lean).
  GIVEN WITH THE SEED: the statements are not yours to turn. If you find one false, say at which input.
  Laid BY PROGRAM, IN A SANDBOX (cutbox-rows.mjs): the forced cells as the released guide's own fill.sh prints them over the translation aafa47a98855db9f… (all of the seat's roots in one cut). By AI agents, Wed Nov 11 2026. No macro, syntax, notation, axiom, sorry.
-/
import Derived.Test.YtmlcbeekimiaiaaChecked
import GoSem.Claim
import GoSem.ClaimJoined
import GoSem.ClaimMapViews
import Derived.JoinedTies
import Derived.KernelRfl
namespace Go.Proofs.Ytmlcbeekimiaiaa
/- THE CELL 'sum', in the pinned program and in every row, IS THE sha256 OF THE DUMP (.gsa) THAT YtmlcbeekimiaiaaProg.lean LOADS. Nothing in Lean hashes anything: it is a label: what it is worth is what the hold of that sum in a sandbox is worth. -/
noncomputable def Try.pinned : Pinned := { name := "ytmlcbeekimiaiaa", sum := "aafa47a98855db9f8c2b483c68f60c45ad8d4ced90eeee6dca7b4b575422d9a6", checked := Try.checked }
namespace Rows
def none {H : Type} : Left H := { results := [], args := [] }

/-- 'laws.FnExactValidRow': WHATEVER THE INPUT: true; the input reads as it did. -/
def fnExactValidRowSpec : ChangeSpec := { name := "fnExactValidRow", fn := fun _ => fun
  | [d] => { results := [.lit (.bool true)], args := [d] }
  | _ => none }
def fnExactValidRowRow : OpenClaim := { program := "ytmlcbeekimiaiaa", sum := "aafa47a98855db9f8c2b483c68f60c45ad8d4ced90eeee6dca7b4b575422d9a6", func := "loop.example/shapesoftrees/laws.FnExactValidRow", spec := "fnExactValidRow", apart := false }
def FnExactValidRowSaid : Prop := fnExactValidRowRow.holds Try.pinned (OpenSpec.ofChange fnExactValidRowSpec)

/-- ITS FALSE NEIGHBOUR: 'it returns false'. Refute it at one input. -/
def fnExactValidRowWrong : ChangeSpec := { name := "fnExactValidRow", fn := fun _ => fun
  | [d] => { results := [.lit (.bool false)], args := [d] }
  | _ => none }
def FnExactValidRowWrongFalsely : Prop := fnExactValidRowRow.holds Try.pinned (OpenSpec.ofChange fnExactValidRowWrong)

/-- 'laws.FnExactHeapWord': WHATEVER THE INPUT: true; the input reads as it did. -/
def fnExactHeapWordSpec : ChangeSpec := { name := "fnExactHeapWord", fn := fun _ => fun
  | [d] => { results := [.lit (.bool true)], args := [d] }
  | _ => none }
def fnExactHeapWordRow : OpenClaim := { program := "ytmlcbeekimiaiaa", sum := "aafa47a98855db9f8c2b483c68f60c45ad8d4ced90eeee6dca7b4b575422d9a6", func := "loop.example/shapesoftrees/laws.FnExactHeapWord", spec := "fnExactHeapWord", recurses := true, apart := false }
def FnExactHeapWordSaid : Prop := fnExactHeapWordRow.holds Try.pinned (OpenSpec.ofChange fnExactHeapWordSpec)

/-- ITS FALSE NEIGHBOUR: 'it returns false'. Refute it at one input. -/
def fnExactHeapWordWrong : ChangeSpec := { name := "fnExactHeapWord", fn := fun _ => fun
  | [d] => { results := [.lit (.bool false)], args := [d] }
  | _ => none }
def FnExactHeapWordWrongFalsely : Prop := fnExactHeapWordRow.holds Try.pinned (OpenSpec.ofChange fnExactHeapWordWrong)

/-- 'laws.FnExactHeapsOf': WHATEVER THE INPUT: true; the input reads as it did. -/
def fnExactHeapsOfSpec : ChangeSpec := { name := "fnExactHeapsOf", fn := fun _ => fun
  | [d] => { results := [.lit (.bool true)], args := [d] }
  | _ => none }
def fnExactHeapsOfRow : OpenClaim := { program := "ytmlcbeekimiaiaa", sum := "aafa47a98855db9f8c2b483c68f60c45ad8d4ced90eeee6dca7b4b575422d9a6", func := "loop.example/shapesoftrees/laws.FnExactHeapsOf", spec := "fnExactHeapsOf", recurses := true, apart := false }
def FnExactHeapsOfSaid : Prop := fnExactHeapsOfRow.holds Try.pinned (OpenSpec.ofChange fnExactHeapsOfSpec)

/-- ITS FALSE NEIGHBOUR: 'it returns false'. Refute it at one input. -/
def fnExactHeapsOfWrong : ChangeSpec := { name := "fnExactHeapsOf", fn := fun _ => fun
  | [d] => { results := [.lit (.bool false)], args := [d] }
  | _ => none }
def FnExactHeapsOfWrongFalsely : Prop := fnExactHeapsOfRow.holds Try.pinned (OpenSpec.ofChange fnExactHeapsOfWrong)

/-- 'laws.FnExactHeapsByHooks': WHATEVER THE INPUT: true; the input reads as it did. -/
def fnExactHeapsByHooksSpec : ChangeSpec := { name := "fnExactHeapsByHooks", fn := fun _ => fun
  | [d] => { results := [.lit (.bool true)], args := [d] }
  | _ => none }
def fnExactHeapsByHooksRow : OpenClaim := { program := "ytmlcbeekimiaiaa", sum := "aafa47a98855db9f8c2b483c68f60c45ad8d4ced90eeee6dca7b4b575422d9a6", func := "loop.example/shapesoftrees/laws.FnExactHeapsByHooks", spec := "fnExactHeapsByHooks", recurses := true, apart := false }
def FnExactHeapsByHooksSaid : Prop := fnExactHeapsByHooksRow.holds Try.pinned (OpenSpec.ofChange fnExactHeapsByHooksSpec)

/-- ITS FALSE NEIGHBOUR: 'it returns false'. Refute it at one input. -/
def fnExactHeapsByHooksWrong : ChangeSpec := { name := "fnExactHeapsByHooks", fn := fun _ => fun
  | [d] => { results := [.lit (.bool false)], args := [d] }
  | _ => none }
def FnExactHeapsByHooksWrongFalsely : Prop := fnExactHeapsByHooksRow.holds Try.pinned (OpenSpec.ofChange fnExactHeapsByHooksWrong)

/-- 'laws.FnExactHeapsTried': WHATEVER THE INPUT: true; the input reads as it did. -/
def fnExactHeapsTriedSpec : ChangeSpec := { name := "fnExactHeapsTried", fn := fun _ => fun
  | [d] => { results := [.lit (.bool true)], args := [d] }
  | _ => none }
def fnExactHeapsTriedRow : OpenClaim := { program := "ytmlcbeekimiaiaa", sum := "aafa47a98855db9f8c2b483c68f60c45ad8d4ced90eeee6dca7b4b575422d9a6", func := "loop.example/shapesoftrees/laws.FnExactHeapsTried", spec := "fnExactHeapsTried", recurses := true, apart := false }
def FnExactHeapsTriedSaid : Prop := fnExactHeapsTriedRow.holds Try.pinned (OpenSpec.ofChange fnExactHeapsTriedSpec)

/-- ITS FALSE NEIGHBOUR: 'it returns false'. Refute it at one input. -/
def fnExactHeapsTriedWrong : ChangeSpec := { name := "fnExactHeapsTried", fn := fun _ => fun
  | [d] => { results := [.lit (.bool false)], args := [d] }
  | _ => none }
def FnExactHeapsTriedWrongFalsely : Prop := fnExactHeapsTriedRow.holds Try.pinned (OpenSpec.ofChange fnExactHeapsTriedWrong)

/-- 'laws.FnExactFallsOf': WHATEVER THE INPUT: true; the input reads as it did. -/
def fnExactFallsOfSpec : ChangeSpec := { name := "fnExactFallsOf", fn := fun _ => fun
  | [d] => { results := [.lit (.bool true)], args := [d] }
  | _ => none }
def fnExactFallsOfRow : OpenClaim := { program := "ytmlcbeekimiaiaa", sum := "aafa47a98855db9f8c2b483c68f60c45ad8d4ced90eeee6dca7b4b575422d9a6", func := "loop.example/shapesoftrees/laws.FnExactFallsOf", spec := "fnExactFallsOf", apart := false }
def FnExactFallsOfSaid : Prop := fnExactFallsOfRow.holds Try.pinned (OpenSpec.ofChange fnExactFallsOfSpec)

/-- ITS FALSE NEIGHBOUR: 'it returns false'. Refute it at one input. -/
def fnExactFallsOfWrong : ChangeSpec := { name := "fnExactFallsOf", fn := fun _ => fun
  | [d] => { results := [.lit (.bool false)], args := [d] }
  | _ => none }
def FnExactFallsOfWrongFalsely : Prop := fnExactFallsOfRow.holds Try.pinned (OpenSpec.ofChange fnExactFallsOfWrong)

/- THE SECOND FORM. 'bulk': how many values and letters a reading holds, each counted each time it is reached (what is shared counts as often as it is met; a slice's spare places count too). A statement '..UptoSaid' is the law's where the arguments, and the package variables that the reading takes, are together of bulk at most 1048576: NARROWER than '..Said'. Prove '..Said' where nothing that the law and all that it calls make is longer than what came in: it says more and counts as full. Else prove '..UptoSaid'. A law counts once. -/
mutual
def uptoBulk {H : Type} : DataW H → Nat
  | .lit (.string bytes) => bytes.length + 1
  | .lit _ => 1
  | .nil => 1
  | .ptr d => uptoBulk d + 1
  | .slice elems spare => uptoBulkAll elems + uptoBulkAll spare + 1
  | .agg parts => uptoBulkAll parts + 1
  | .iface _ d => uptoBulk d + 1
  | .map entries => uptoBulkEntries entries + 1
  | .held _ => 1
def uptoBulkAll {H : Type} : List (DataW H) → Nat
  | [] => 0
  | d :: r => uptoBulk d + uptoBulkAll r
def uptoBulkEntries {H : Type} : List (Lit × DataW H) → Nat
  | [] => 0
  | x :: r => uptoBulkEntry x + uptoBulkEntries r
def uptoBulkEntry {H : Type} : Lit × DataW H → Nat
  | (.string bytes, d) => bytes.length + uptoBulk d + 1
  | (_, d) => uptoBulk d + 1
 end
def uptoSmall : (H : Type) → List (DataW H) → Bool := fun _ ds => decide (uptoBulkAll ds ≤ 1048576)
def OpenSpec.upto (s : _root_.Go.ChangeSpec) : _root_.Go.OpenSpec := { _root_.Go.OpenSpec.ofChange s with cond := some uptoSmall }

/-- 'laws.FnExactValidRow', WHERE WHAT IT READS IS OF BULK AT MOST 1048576: true; the input reads as it did. -/
def fnExactValidRowUptoRow : OpenClaim := { program := "ytmlcbeekimiaiaa", sum := "aafa47a98855db9f8c2b483c68f60c45ad8d4ced90eeee6dca7b4b575422d9a6", func := "loop.example/shapesoftrees/laws.FnExactValidRow", spec := "fnExactValidRow", apart := false, narrowed := true }
def FnExactValidRowUptoSaid : Prop := fnExactValidRowUptoRow.holds Try.pinned (OpenSpec.upto fnExactValidRowSpec)

/-- 'laws.FnExactHeapWord', WHERE WHAT IT READS IS OF BULK AT MOST 1048576: true; the input reads as it did. -/
def fnExactHeapWordUptoRow : OpenClaim := { program := "ytmlcbeekimiaiaa", sum := "aafa47a98855db9f8c2b483c68f60c45ad8d4ced90eeee6dca7b4b575422d9a6", func := "loop.example/shapesoftrees/laws.FnExactHeapWord", spec := "fnExactHeapWord", recurses := true, apart := false, narrowed := true }
def FnExactHeapWordUptoSaid : Prop := fnExactHeapWordUptoRow.holds Try.pinned (OpenSpec.upto fnExactHeapWordSpec)

/-- 'laws.FnExactHeapsOf', WHERE WHAT IT READS IS OF BULK AT MOST 1048576: true; the input reads as it did. -/
def fnExactHeapsOfUptoRow : OpenClaim := { program := "ytmlcbeekimiaiaa", sum := "aafa47a98855db9f8c2b483c68f60c45ad8d4ced90eeee6dca7b4b575422d9a6", func := "loop.example/shapesoftrees/laws.FnExactHeapsOf", spec := "fnExactHeapsOf", recurses := true, apart := false, narrowed := true }
def FnExactHeapsOfUptoSaid : Prop := fnExactHeapsOfUptoRow.holds Try.pinned (OpenSpec.upto fnExactHeapsOfSpec)

/-- 'laws.FnExactHeapsByHooks', WHERE WHAT IT READS IS OF BULK AT MOST 1048576: true; the input reads as it did. -/
def fnExactHeapsByHooksUptoRow : OpenClaim := { program := "ytmlcbeekimiaiaa", sum := "aafa47a98855db9f8c2b483c68f60c45ad8d4ced90eeee6dca7b4b575422d9a6", func := "loop.example/shapesoftrees/laws.FnExactHeapsByHooks", spec := "fnExactHeapsByHooks", recurses := true, apart := false, narrowed := true }
def FnExactHeapsByHooksUptoSaid : Prop := fnExactHeapsByHooksUptoRow.holds Try.pinned (OpenSpec.upto fnExactHeapsByHooksSpec)

/-- 'laws.FnExactHeapsTried', WHERE WHAT IT READS IS OF BULK AT MOST 1048576: true; the input reads as it did. -/
def fnExactHeapsTriedUptoRow : OpenClaim := { program := "ytmlcbeekimiaiaa", sum := "aafa47a98855db9f8c2b483c68f60c45ad8d4ced90eeee6dca7b4b575422d9a6", func := "loop.example/shapesoftrees/laws.FnExactHeapsTried", spec := "fnExactHeapsTried", recurses := true, apart := false, narrowed := true }
def FnExactHeapsTriedUptoSaid : Prop := fnExactHeapsTriedUptoRow.holds Try.pinned (OpenSpec.upto fnExactHeapsTriedSpec)

/-- 'laws.FnExactFallsOf', WHERE WHAT IT READS IS OF BULK AT MOST 1048576: true; the input reads as it did. -/
def fnExactFallsOfUptoRow : OpenClaim := { program := "ytmlcbeekimiaiaa", sum := "aafa47a98855db9f8c2b483c68f60c45ad8d4ced90eeee6dca7b4b575422d9a6", func := "loop.example/shapesoftrees/laws.FnExactFallsOf", spec := "fnExactFallsOf", apart := false, narrowed := true }
def FnExactFallsOfUptoSaid : Prop := fnExactFallsOfUptoRow.holds Try.pinned (OpenSpec.upto fnExactFallsOfSpec)

end Rows
end Go.Proofs.Ytmlcbeekimiaiaa
