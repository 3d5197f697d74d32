/-
  No cell of these rows narrows 'for every input' (looked for: loops, veiled, ifaces, maps, wideKeys, modest, calm, conditions, laid).
  DERIVED. THE GIVEN ROWS OF THIS SEAT. 9 by the template 'for every input the law returns true; each argument reads behind the call as it read before'; 0 by the template 'total and deterministic' (their statements: YtooplolalbcmjaaTotals.lean).
  GIVEN WITH THE SEED: the statements are not yours to turn. If you find one false, say at which input.
  Laid BY PROGRAM, IN A SANDBOX (cutbox-rows.mjs): the forced cells as the released guide's own fill.sh prints them over the translation 6c9357efcce9f6b8… (all of the seat's roots in one cut). By AI agents, Wed Nov 11 2026. No macro, syntax, notation, axiom, sorry.
-/
import Derived.Test.YtooplolalbcmjaaChecked
import GoSem.Claim
import GoSem.ClaimJoined
import GoSem.ClaimMapViews
import Derived.JoinedTies
import Derived.KernelRfl
namespace Go.Proofs.Ytooplolalbcmjaa
/- THE CELL 'sum', in the pinned program and in every row, IS THE sha256 OF THE DUMP (.gsa) THAT YtooplolalbcmjaaProg.lean LOADS. Nothing in Lean hashes anything: it is a label: what it is worth is what the hold of that sum in a sandbox is worth. -/
noncomputable def Try.pinned : Pinned := { name := "ytooplolalbcmjaa", sum := "6c9357efcce9f6b82645bda39791fc32ec2c2fc919050a1994a22bc5e4d77c96", checked := Try.checked }
namespace Rows
def none {H : Type} : Left H := { results := [], args := [] }

/-- 'laws.FnWordOfStack': WHATEVER THE INPUT: true; the input reads as it did. -/
def fnWordOfStackSpec : ChangeSpec := { name := "fnWordOfStack", fn := fun _ => fun
  | [d] => { results := [.lit (.bool true)], args := [d] }
  | _ => none }
def fnWordOfStackRow : OpenClaim := { program := "ytooplolalbcmjaa", sum := "6c9357efcce9f6b82645bda39791fc32ec2c2fc919050a1994a22bc5e4d77c96", func := "loop.example/shapesoftrees/laws.FnWordOfStack", spec := "fnWordOfStack", recurses := true, apart := false }
def FnWordOfStackSaid : Prop := fnWordOfStackRow.holds Try.pinned (OpenSpec.ofChange fnWordOfStackSpec)

/-- ITS FALSE NEIGHBOUR: 'it returns false'. Refute it at one input. -/
def fnWordOfStackWrong : ChangeSpec := { name := "fnWordOfStack", fn := fun _ => fun
  | [d] => { results := [.lit (.bool false)], args := [d] }
  | _ => none }
def FnWordOfStackWrongFalsely : Prop := fnWordOfStackRow.holds Try.pinned (OpenSpec.ofChange fnWordOfStackWrong)

/-- 'laws.FnValidRow': WHATEVER THE INPUT: true; the input reads as it did. -/
def fnValidRowSpec : ChangeSpec := { name := "fnValidRow", fn := fun _ => fun
  | [d] => { results := [.lit (.bool true)], args := [d] }
  | _ => none }
def fnValidRowRow : OpenClaim := { program := "ytooplolalbcmjaa", sum := "6c9357efcce9f6b82645bda39791fc32ec2c2fc919050a1994a22bc5e4d77c96", func := "loop.example/shapesoftrees/laws.FnValidRow", spec := "fnValidRow", apart := false }
def FnValidRowSaid : Prop := fnValidRowRow.holds Try.pinned (OpenSpec.ofChange fnValidRowSpec)

/-- ITS FALSE NEIGHBOUR: 'it returns false'. Refute it at one input. -/
def fnValidRowWrong : ChangeSpec := { name := "fnValidRow", fn := fun _ => fun
  | [d] => { results := [.lit (.bool false)], args := [d] }
  | _ => none }
def FnValidRowWrongFalsely : Prop := fnValidRowRow.holds Try.pinned (OpenSpec.ofChange fnValidRowWrong)

/-- 'laws.FnHeapWord': WHATEVER THE INPUT: true; the input reads as it did. -/
def fnHeapWordSpec : ChangeSpec := { name := "fnHeapWord", fn := fun _ => fun
  | [d] => { results := [.lit (.bool true)], args := [d] }
  | _ => none }
def fnHeapWordRow : OpenClaim := { program := "ytooplolalbcmjaa", sum := "6c9357efcce9f6b82645bda39791fc32ec2c2fc919050a1994a22bc5e4d77c96", func := "loop.example/shapesoftrees/laws.FnHeapWord", spec := "fnHeapWord", recurses := true, apart := false }
def FnHeapWordSaid : Prop := fnHeapWordRow.holds Try.pinned (OpenSpec.ofChange fnHeapWordSpec)

/-- ITS FALSE NEIGHBOUR: 'it returns false'. Refute it at one input. -/
def fnHeapWordWrong : ChangeSpec := { name := "fnHeapWord", fn := fun _ => fun
  | [d] => { results := [.lit (.bool false)], args := [d] }
  | _ => none }
def FnHeapWordWrongFalsely : Prop := fnHeapWordRow.holds Try.pinned (OpenSpec.ofChange fnHeapWordWrong)

/-- 'laws.FnHeapsOf': WHATEVER THE INPUT: true; the input reads as it did. -/
def fnHeapsOfSpec : ChangeSpec := { name := "fnHeapsOf", fn := fun _ => fun
  | [d] => { results := [.lit (.bool true)], args := [d] }
  | _ => none }
def fnHeapsOfRow : OpenClaim := { program := "ytooplolalbcmjaa", sum := "6c9357efcce9f6b82645bda39791fc32ec2c2fc919050a1994a22bc5e4d77c96", func := "loop.example/shapesoftrees/laws.FnHeapsOf", spec := "fnHeapsOf", recurses := true, apart := false }
def FnHeapsOfSaid : Prop := fnHeapsOfRow.holds Try.pinned (OpenSpec.ofChange fnHeapsOfSpec)

/-- ITS FALSE NEIGHBOUR: 'it returns false'. Refute it at one input. -/
def fnHeapsOfWrong : ChangeSpec := { name := "fnHeapsOf", fn := fun _ => fun
  | [d] => { results := [.lit (.bool false)], args := [d] }
  | _ => none }
def FnHeapsOfWrongFalsely : Prop := fnHeapsOfRow.holds Try.pinned (OpenSpec.ofChange fnHeapsOfWrong)

/-- 'laws.FnHeapsByHooks': WHATEVER THE INPUT: true; the input reads as it did. -/
def fnHeapsByHooksSpec : ChangeSpec := { name := "fnHeapsByHooks", fn := fun _ => fun
  | [d] => { results := [.lit (.bool true)], args := [d] }
  | _ => none }
def fnHeapsByHooksRow : OpenClaim := { program := "ytooplolalbcmjaa", sum := "6c9357efcce9f6b82645bda39791fc32ec2c2fc919050a1994a22bc5e4d77c96", func := "loop.example/shapesoftrees/laws.FnHeapsByHooks", spec := "fnHeapsByHooks", recurses := true, apart := false }
def FnHeapsByHooksSaid : Prop := fnHeapsByHooksRow.holds Try.pinned (OpenSpec.ofChange fnHeapsByHooksSpec)

/-- ITS FALSE NEIGHBOUR: 'it returns false'. Refute it at one input. -/
def fnHeapsByHooksWrong : ChangeSpec := { name := "fnHeapsByHooks", fn := fun _ => fun
  | [d] => { results := [.lit (.bool false)], args := [d] }
  | _ => none }
def FnHeapsByHooksWrongFalsely : Prop := fnHeapsByHooksRow.holds Try.pinned (OpenSpec.ofChange fnHeapsByHooksWrong)

/-- 'laws.FnHeapsTried': WHATEVER THE INPUT: true; the input reads as it did. -/
def fnHeapsTriedSpec : ChangeSpec := { name := "fnHeapsTried", fn := fun _ => fun
  | [d] => { results := [.lit (.bool true)], args := [d] }
  | _ => none }
def fnHeapsTriedRow : OpenClaim := { program := "ytooplolalbcmjaa", sum := "6c9357efcce9f6b82645bda39791fc32ec2c2fc919050a1994a22bc5e4d77c96", func := "loop.example/shapesoftrees/laws.FnHeapsTried", spec := "fnHeapsTried", recurses := true, apart := false }
def FnHeapsTriedSaid : Prop := fnHeapsTriedRow.holds Try.pinned (OpenSpec.ofChange fnHeapsTriedSpec)

/-- ITS FALSE NEIGHBOUR: 'it returns false'. Refute it at one input. -/
def fnHeapsTriedWrong : ChangeSpec := { name := "fnHeapsTried", fn := fun _ => fun
  | [d] => { results := [.lit (.bool false)], args := [d] }
  | _ => none }
def FnHeapsTriedWrongFalsely : Prop := fnHeapsTriedRow.holds Try.pinned (OpenSpec.ofChange fnHeapsTriedWrong)

/-- 'laws.FnFallsOf': WHATEVER THE INPUT: true; the input reads as it did. -/
def fnFallsOfSpec : ChangeSpec := { name := "fnFallsOf", fn := fun _ => fun
  | [d] => { results := [.lit (.bool true)], args := [d] }
  | _ => none }
def fnFallsOfRow : OpenClaim := { program := "ytooplolalbcmjaa", sum := "6c9357efcce9f6b82645bda39791fc32ec2c2fc919050a1994a22bc5e4d77c96", func := "loop.example/shapesoftrees/laws.FnFallsOf", spec := "fnFallsOf", apart := false }
def FnFallsOfSaid : Prop := fnFallsOfRow.holds Try.pinned (OpenSpec.ofChange fnFallsOfSpec)

/-- ITS FALSE NEIGHBOUR: 'it returns false'. Refute it at one input. -/
def fnFallsOfWrong : ChangeSpec := { name := "fnFallsOf", fn := fun _ => fun
  | [d] => { results := [.lit (.bool false)], args := [d] }
  | _ => none }
def FnFallsOfWrongFalsely : Prop := fnFallsOfRow.holds Try.pinned (OpenSpec.ofChange fnFallsOfWrong)

/-- 'laws.FnHeapsAreRows': WHATEVER THE INPUT: true; the input reads as it did. -/
def fnHeapsAreRowsSpec : ChangeSpec := { name := "fnHeapsAreRows", fn := fun _ => fun
  | [d] => { results := [.lit (.bool true)], args := [d] }
  | _ => none }
def fnHeapsAreRowsRow : OpenClaim := { program := "ytooplolalbcmjaa", sum := "6c9357efcce9f6b82645bda39791fc32ec2c2fc919050a1994a22bc5e4d77c96", func := "loop.example/shapesoftrees/laws.FnHeapsAreRows", spec := "fnHeapsAreRows", unfollowed := true, recurses := true, apart := false }
def FnHeapsAreRowsSaid : Prop := fnHeapsAreRowsRow.holds Try.pinned (OpenSpec.ofChange fnHeapsAreRowsSpec)

/-- ITS FALSE NEIGHBOUR: 'it returns false'. Refute it at one input. -/
def fnHeapsAreRowsWrong : ChangeSpec := { name := "fnHeapsAreRows", fn := fun _ => fun
  | [d] => { results := [.lit (.bool false)], args := [d] }
  | _ => none }
def FnHeapsAreRowsWrongFalsely : Prop := fnHeapsAreRowsRow.holds Try.pinned (OpenSpec.ofChange fnHeapsAreRowsWrong)

/-- 'laws.FnHeapsTurned': WHATEVER THE INPUT: true; the input reads as it did. -/
def fnHeapsTurnedSpec : ChangeSpec := { name := "fnHeapsTurned", fn := fun _ => fun
  | [d] => { results := [.lit (.bool true)], args := [d] }
  | _ => none }
def fnHeapsTurnedRow : OpenClaim := { program := "ytooplolalbcmjaa", sum := "6c9357efcce9f6b82645bda39791fc32ec2c2fc919050a1994a22bc5e4d77c96", func := "loop.example/shapesoftrees/laws.FnHeapsTurned", spec := "fnHeapsTurned", recurses := true, apart := false }
def FnHeapsTurnedSaid : Prop := fnHeapsTurnedRow.holds Try.pinned (OpenSpec.ofChange fnHeapsTurnedSpec)

/-- ITS FALSE NEIGHBOUR: 'it returns false'. Refute it at one input. -/
def fnHeapsTurnedWrong : ChangeSpec := { name := "fnHeapsTurned", fn := fun _ => fun
  | [d] => { results := [.lit (.bool false)], args := [d] }
  | _ => none }
def FnHeapsTurnedWrongFalsely : Prop := fnHeapsTurnedRow.holds Try.pinned (OpenSpec.ofChange fnHeapsTurnedWrong)

/- THE SECOND FORM. 'bulk': how many values and letters a reading holds, each counted each time it is reached (what is shared counts as often as it is met; a slice's spare places count too). A statement '..UptoSaid' is the law's where the arguments, and the package variables that the reading takes, are together of bulk at most 1048576: NARROWER than '..Said'. Prove '..Said' where nothing that the law and all that it calls make is longer than what came in: it says more and counts as full. Else prove '..UptoSaid'. A law counts once. -/
mutual
def uptoBulk {H : Type} : DataW H → Nat
  | .lit (.string bytes) => bytes.length + 1
  | .lit _ => 1
  | .nil => 1
  | .ptr d => uptoBulk d + 1
  | .slice elems spare => uptoBulkAll elems + uptoBulkAll spare + 1
  | .agg parts => uptoBulkAll parts + 1
  | .iface _ d => uptoBulk d + 1
  | .map entries => uptoBulkEntries entries + 1
  | .held _ => 1
def uptoBulkAll {H : Type} : List (DataW H) → Nat
  | [] => 0
  | d :: r => uptoBulk d + uptoBulkAll r
def uptoBulkEntries {H : Type} : List (Lit × DataW H) → Nat
  | [] => 0
  | x :: r => uptoBulkEntry x + uptoBulkEntries r
def uptoBulkEntry {H : Type} : Lit × DataW H → Nat
  | (.string bytes, d) => bytes.length + uptoBulk d + 1
  | (_, d) => uptoBulk d + 1
 end
def uptoSmall : (H : Type) → List (DataW H) → Bool := fun _ ds => decide (uptoBulkAll ds ≤ 1048576)
def OpenSpec.upto (s : _root_.Go.ChangeSpec) : _root_.Go.OpenSpec := { _root_.Go.OpenSpec.ofChange s with cond := some uptoSmall }

/-- 'laws.FnWordOfStack', WHERE WHAT IT READS IS OF BULK AT MOST 1048576: true; the input reads as it did. -/
def fnWordOfStackUptoRow : OpenClaim := { program := "ytooplolalbcmjaa", sum := "6c9357efcce9f6b82645bda39791fc32ec2c2fc919050a1994a22bc5e4d77c96", func := "loop.example/shapesoftrees/laws.FnWordOfStack", spec := "fnWordOfStack", recurses := true, apart := false, narrowed := true }
def FnWordOfStackUptoSaid : Prop := fnWordOfStackUptoRow.holds Try.pinned (OpenSpec.upto fnWordOfStackSpec)

/-- 'laws.FnValidRow', WHERE WHAT IT READS IS OF BULK AT MOST 1048576: true; the input reads as it did. -/
def fnValidRowUptoRow : OpenClaim := { program := "ytooplolalbcmjaa", sum := "6c9357efcce9f6b82645bda39791fc32ec2c2fc919050a1994a22bc5e4d77c96", func := "loop.example/shapesoftrees/laws.FnValidRow", spec := "fnValidRow", apart := false, narrowed := true }
def FnValidRowUptoSaid : Prop := fnValidRowUptoRow.holds Try.pinned (OpenSpec.upto fnValidRowSpec)

/-- 'laws.FnHeapWord', WHERE WHAT IT READS IS OF BULK AT MOST 1048576: true; the input reads as it did. -/
def fnHeapWordUptoRow : OpenClaim := { program := "ytooplolalbcmjaa", sum := "6c9357efcce9f6b82645bda39791fc32ec2c2fc919050a1994a22bc5e4d77c96", func := "loop.example/shapesoftrees/laws.FnHeapWord", spec := "fnHeapWord", recurses := true, apart := false, narrowed := true }
def FnHeapWordUptoSaid : Prop := fnHeapWordUptoRow.holds Try.pinned (OpenSpec.upto fnHeapWordSpec)

/-- 'laws.FnHeapsOf', WHERE WHAT IT READS IS OF BULK AT MOST 1048576: true; the input reads as it did. -/
def fnHeapsOfUptoRow : OpenClaim := { program := "ytooplolalbcmjaa", sum := "6c9357efcce9f6b82645bda39791fc32ec2c2fc919050a1994a22bc5e4d77c96", func := "loop.example/shapesoftrees/laws.FnHeapsOf", spec := "fnHeapsOf", recurses := true, apart := false, narrowed := true }
def FnHeapsOfUptoSaid : Prop := fnHeapsOfUptoRow.holds Try.pinned (OpenSpec.upto fnHeapsOfSpec)

/-- 'laws.FnHeapsByHooks', WHERE WHAT IT READS IS OF BULK AT MOST 1048576: true; the input reads as it did. -/
def fnHeapsByHooksUptoRow : OpenClaim := { program := "ytooplolalbcmjaa", sum := "6c9357efcce9f6b82645bda39791fc32ec2c2fc919050a1994a22bc5e4d77c96", func := "loop.example/shapesoftrees/laws.FnHeapsByHooks", spec := "fnHeapsByHooks", recurses := true, apart := false, narrowed := true }
def FnHeapsByHooksUptoSaid : Prop := fnHeapsByHooksUptoRow.holds Try.pinned (OpenSpec.upto fnHeapsByHooksSpec)

/-- 'laws.FnHeapsTried', WHERE WHAT IT READS IS OF BULK AT MOST 1048576: true; the input reads as it did. -/
def fnHeapsTriedUptoRow : OpenClaim := { program := "ytooplolalbcmjaa", sum := "6c9357efcce9f6b82645bda39791fc32ec2c2fc919050a1994a22bc5e4d77c96", func := "loop.example/shapesoftrees/laws.FnHeapsTried", spec := "fnHeapsTried", recurses := true, apart := false, narrowed := true }
def FnHeapsTriedUptoSaid : Prop := fnHeapsTriedUptoRow.holds Try.pinned (OpenSpec.upto fnHeapsTriedSpec)

/-- 'laws.FnFallsOf', WHERE WHAT IT READS IS OF BULK AT MOST 1048576: true; the input reads as it did. -/
def fnFallsOfUptoRow : OpenClaim := { program := "ytooplolalbcmjaa", sum := "6c9357efcce9f6b82645bda39791fc32ec2c2fc919050a1994a22bc5e4d77c96", func := "loop.example/shapesoftrees/laws.FnFallsOf", spec := "fnFallsOf", apart := false, narrowed := true }
def FnFallsOfUptoSaid : Prop := fnFallsOfUptoRow.holds Try.pinned (OpenSpec.upto fnFallsOfSpec)

/-- 'laws.FnHeapsAreRows', WHERE WHAT IT READS IS OF BULK AT MOST 1048576: true; the input reads as it did. -/
def fnHeapsAreRowsUptoRow : OpenClaim := { program := "ytooplolalbcmjaa", sum := "6c9357efcce9f6b82645bda39791fc32ec2c2fc919050a1994a22bc5e4d77c96", func := "loop.example/shapesoftrees/laws.FnHeapsAreRows", spec := "fnHeapsAreRows", unfollowed := true, recurses := true, apart := false, narrowed := true }
def FnHeapsAreRowsUptoSaid : Prop := fnHeapsAreRowsUptoRow.holds Try.pinned (OpenSpec.upto fnHeapsAreRowsSpec)

/-- 'laws.FnHeapsTurned', WHERE WHAT IT READS IS OF BULK AT MOST 1048576: true; the input reads as it did. -/
def fnHeapsTurnedUptoRow : OpenClaim := { program := "ytooplolalbcmjaa", sum := "6c9357efcce9f6b82645bda39791fc32ec2c2fc919050a1994a22bc5e4d77c96", func := "loop.example/shapesoftrees/laws.FnHeapsTurned", spec := "fnHeapsTurned", recurses := true, apart := false, narrowed := true }
def FnHeapsTurnedUptoSaid : Prop := fnHeapsTurnedUptoRow.holds Try.pinned (OpenSpec.upto fnHeapsTurnedSpec)

end Rows
end Go.Proofs.Ytooplolalbcmjaa
