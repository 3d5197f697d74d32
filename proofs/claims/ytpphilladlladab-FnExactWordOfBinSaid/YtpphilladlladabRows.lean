/-
  No cell of these rows narrows 'for every input' (looked for: loops, veiled, ifaces, maps, wideKeys, modest, calm, conditions, laid).
  DERIVED. THE GIVEN ROWS OF THIS SEAT. 6 by the template 'for every input the law returns true; each argument reads behind the call as it read before'; 0 by the template 'total and deterministic' (their statements: YtpphilladlladabTotals.lean).
  GIVEN WITH THE SEED: the statements are not yours to turn. If you find one false, say at which input.
  Laid BY PROGRAM, IN A SANDBOX (cutbox-rows.mjs): the forced cells as the released guide's own fill.sh prints them over the translation b4951a2a7ceac2f1… (all of the seat's roots in one cut). By AI agents, Wed Nov 11 2026. No macro, syntax, notation, axiom, sorry.
-/
import Derived.Test.YtpphilladlladabChecked
import GoSem.Claim
import GoSem.ClaimJoined
import GoSem.ClaimMapViews
import Derived.JoinedTies
import Derived.KernelRfl
namespace Go.Proofs.Ytpphilladlladab
/- THE CELL 'sum', in the pinned program and in every row, IS THE sha256 OF THE DUMP (.gsa) THAT YtpphilladlladabProg.lean LOADS. Nothing in Lean hashes anything: it is a label: what it is worth is what the hold of that sum in a sandbox is worth. -/
noncomputable def Try.pinned : Pinned := { name := "ytpphilladlladab", sum := "b4951a2a7ceac2f15122e8bdbb8acaa7a9838db1187b0b190255d77c90df0f25", checked := Try.checked }
namespace Rows
def none {H : Type} : Left H := { results := [], args := [] }

/-- 'laws.FnExactBinOf': WHATEVER THE INPUT: true; the input reads as it did. -/
def fnExactBinOfSpec : ChangeSpec := { name := "fnExactBinOf", fn := fun _ => fun
  | [d] => { results := [.lit (.bool true)], args := [d] }
  | _ => none }
def fnExactBinOfRow : OpenClaim := { program := "ytpphilladlladab", sum := "b4951a2a7ceac2f15122e8bdbb8acaa7a9838db1187b0b190255d77c90df0f25", func := "loop.example/shapesoftrees/laws.FnExactBinOf", spec := "fnExactBinOf", recurses := true, apart := false }
def FnExactBinOfSaid : Prop := fnExactBinOfRow.holds Try.pinned (OpenSpec.ofChange fnExactBinOfSpec)

/-- ITS FALSE NEIGHBOUR: 'it returns false'. Refute it at one input. -/
def fnExactBinOfWrong : ChangeSpec := { name := "fnExactBinOf", fn := fun _ => fun
  | [d] => { results := [.lit (.bool false)], args := [d] }
  | _ => none }
def FnExactBinOfWrongFalsely : Prop := fnExactBinOfRow.holds Try.pinned (OpenSpec.ofChange fnExactBinOfWrong)

/-- 'laws.FnExactWordOfBin': WHATEVER THE INPUT: true; the input reads as it did. -/
def fnExactWordOfBinSpec : ChangeSpec := { name := "fnExactWordOfBin", fn := fun _ => fun
  | [d] => { results := [.lit (.bool true)], args := [d] }
  | _ => none }
def fnExactWordOfBinRow : OpenClaim := { program := "ytpphilladlladab", sum := "b4951a2a7ceac2f15122e8bdbb8acaa7a9838db1187b0b190255d77c90df0f25", func := "loop.example/shapesoftrees/laws.FnExactWordOfBin", spec := "fnExactWordOfBin", recurses := true, apart := false }
def FnExactWordOfBinSaid : Prop := fnExactWordOfBinRow.holds Try.pinned (OpenSpec.ofChange fnExactWordOfBinSpec)

/-- ITS FALSE NEIGHBOUR: 'it returns false'. Refute it at one input. -/
def fnExactWordOfBinWrong : ChangeSpec := { name := "fnExactWordOfBin", fn := fun _ => fun
  | [d] => { results := [.lit (.bool false)], args := [d] }
  | _ => none }
def FnExactWordOfBinWrongFalsely : Prop := fnExactWordOfBinRow.holds Try.pinned (OpenSpec.ofChange fnExactWordOfBinWrong)

/-- 'laws.FnExactBetweenOf': WHATEVER THE INPUT: true; the input reads as it did. -/
def fnExactBetweenOfSpec : ChangeSpec := { name := "fnExactBetweenOf", fn := fun _ => fun
  | [d] => { results := [.lit (.bool true)], args := [d] }
  | _ => none }
def fnExactBetweenOfRow : OpenClaim := { program := "ytpphilladlladab", sum := "b4951a2a7ceac2f15122e8bdbb8acaa7a9838db1187b0b190255d77c90df0f25", func := "loop.example/shapesoftrees/laws.FnExactBetweenOf", spec := "fnExactBetweenOf", recurses := true, apart := false }
def FnExactBetweenOfSaid : Prop := fnExactBetweenOfRow.holds Try.pinned (OpenSpec.ofChange fnExactBetweenOfSpec)

/-- ITS FALSE NEIGHBOUR: 'it returns false'. Refute it at one input. -/
def fnExactBetweenOfWrong : ChangeSpec := { name := "fnExactBetweenOf", fn := fun _ => fun
  | [d] => { results := [.lit (.bool false)], args := [d] }
  | _ => none }
def FnExactBetweenOfWrongFalsely : Prop := fnExactBetweenOfRow.holds Try.pinned (OpenSpec.ofChange fnExactBetweenOfWrong)

/-- 'laws.FnExactStackRow': WHATEVER THE INPUT: true; the input reads as it did. -/
def fnExactStackRowSpec : ChangeSpec := { name := "fnExactStackRow", fn := fun _ => fun
  | [d] => { results := [.lit (.bool true)], args := [d] }
  | _ => none }
def fnExactStackRowRow : OpenClaim := { program := "ytpphilladlladab", sum := "b4951a2a7ceac2f15122e8bdbb8acaa7a9838db1187b0b190255d77c90df0f25", func := "loop.example/shapesoftrees/laws.FnExactStackRow", spec := "fnExactStackRow", apart := false }
def FnExactStackRowSaid : Prop := fnExactStackRowRow.holds Try.pinned (OpenSpec.ofChange fnExactStackRowSpec)

/-- ITS FALSE NEIGHBOUR: 'it returns false'. Refute it at one input. -/
def fnExactStackRowWrong : ChangeSpec := { name := "fnExactStackRow", fn := fun _ => fun
  | [d] => { results := [.lit (.bool false)], args := [d] }
  | _ => none }
def FnExactStackRowWrongFalsely : Prop := fnExactStackRowRow.holds Try.pinned (OpenSpec.ofChange fnExactStackRowWrong)

/-- 'laws.FnExactWordOfStack': WHATEVER THE INPUT: true; the input reads as it did. -/
def fnExactWordOfStackSpec : ChangeSpec := { name := "fnExactWordOfStack", fn := fun _ => fun
  | [d] => { results := [.lit (.bool true)], args := [d] }
  | _ => none }
def fnExactWordOfStackRow : OpenClaim := { program := "ytpphilladlladab", sum := "b4951a2a7ceac2f15122e8bdbb8acaa7a9838db1187b0b190255d77c90df0f25", func := "loop.example/shapesoftrees/laws.FnExactWordOfStack", spec := "fnExactWordOfStack", apart := false }
def FnExactWordOfStackSaid : Prop := fnExactWordOfStackRow.holds Try.pinned (OpenSpec.ofChange fnExactWordOfStackSpec)

/-- ITS FALSE NEIGHBOUR: 'it returns false'. Refute it at one input. -/
def fnExactWordOfStackWrong : ChangeSpec := { name := "fnExactWordOfStack", fn := fun _ => fun
  | [d] => { results := [.lit (.bool false)], args := [d] }
  | _ => none }
def FnExactWordOfStackWrongFalsely : Prop := fnExactWordOfStackRow.holds Try.pinned (OpenSpec.ofChange fnExactWordOfStackWrong)

/-- 'laws.FnExactTrianglesOf': WHATEVER THE INPUT: true; the input reads as it did. -/
def fnExactTrianglesOfSpec : ChangeSpec := { name := "fnExactTrianglesOf", fn := fun _ => fun
  | [d] => { results := [.lit (.bool true)], args := [d] }
  | _ => none }
def fnExactTrianglesOfRow : OpenClaim := { program := "ytpphilladlladab", sum := "b4951a2a7ceac2f15122e8bdbb8acaa7a9838db1187b0b190255d77c90df0f25", func := "loop.example/shapesoftrees/laws.FnExactTrianglesOf", spec := "fnExactTrianglesOf", recurses := true, apart := false }
def FnExactTrianglesOfSaid : Prop := fnExactTrianglesOfRow.holds Try.pinned (OpenSpec.ofChange fnExactTrianglesOfSpec)

/-- ITS FALSE NEIGHBOUR: 'it returns false'. Refute it at one input. -/
def fnExactTrianglesOfWrong : ChangeSpec := { name := "fnExactTrianglesOf", fn := fun _ => fun
  | [d] => { results := [.lit (.bool false)], args := [d] }
  | _ => none }
def FnExactTrianglesOfWrongFalsely : Prop := fnExactTrianglesOfRow.holds Try.pinned (OpenSpec.ofChange fnExactTrianglesOfWrong)

/- THE SECOND FORM. 'bulk': how many values and letters a reading holds, each counted each time it is reached (what is shared counts as often as it is met; a slice's spare places count too). A statement '..UptoSaid' is the law's where the arguments, and the package variables that the reading takes, are together of bulk at most 1048576: NARROWER than '..Said'. Prove '..Said' where nothing that the law and all that it calls make is longer than what came in: it says more and counts as full. Else prove '..UptoSaid'. A law counts once. -/
mutual
def uptoBulk {H : Type} : DataW H → Nat
  | .lit (.string bytes) => bytes.length + 1
  | .lit _ => 1
  | .nil => 1
  | .ptr d => uptoBulk d + 1
  | .slice elems spare => uptoBulkAll elems + uptoBulkAll spare + 1
  | .agg parts => uptoBulkAll parts + 1
  | .iface _ d => uptoBulk d + 1
  | .map entries => uptoBulkEntries entries + 1
  | .held _ => 1
def uptoBulkAll {H : Type} : List (DataW H) → Nat
  | [] => 0
  | d :: r => uptoBulk d + uptoBulkAll r
def uptoBulkEntries {H : Type} : List (Lit × DataW H) → Nat
  | [] => 0
  | x :: r => uptoBulkEntry x + uptoBulkEntries r
def uptoBulkEntry {H : Type} : Lit × DataW H → Nat
  | (.string bytes, d) => bytes.length + uptoBulk d + 1
  | (_, d) => uptoBulk d + 1
 end
def uptoSmall : (H : Type) → List (DataW H) → Bool := fun _ ds => decide (uptoBulkAll ds ≤ 1048576)
def OpenSpec.upto (s : _root_.Go.ChangeSpec) : _root_.Go.OpenSpec := { _root_.Go.OpenSpec.ofChange s with cond := some uptoSmall }

/-- 'laws.FnExactBinOf', WHERE WHAT IT READS IS OF BULK AT MOST 1048576: true; the input reads as it did. -/
def fnExactBinOfUptoRow : OpenClaim := { program := "ytpphilladlladab", sum := "b4951a2a7ceac2f15122e8bdbb8acaa7a9838db1187b0b190255d77c90df0f25", func := "loop.example/shapesoftrees/laws.FnExactBinOf", spec := "fnExactBinOf", recurses := true, apart := false, narrowed := true }
def FnExactBinOfUptoSaid : Prop := fnExactBinOfUptoRow.holds Try.pinned (OpenSpec.upto fnExactBinOfSpec)

/-- 'laws.FnExactWordOfBin', WHERE WHAT IT READS IS OF BULK AT MOST 1048576: true; the input reads as it did. -/
def fnExactWordOfBinUptoRow : OpenClaim := { program := "ytpphilladlladab", sum := "b4951a2a7ceac2f15122e8bdbb8acaa7a9838db1187b0b190255d77c90df0f25", func := "loop.example/shapesoftrees/laws.FnExactWordOfBin", spec := "fnExactWordOfBin", recurses := true, apart := false, narrowed := true }
def FnExactWordOfBinUptoSaid : Prop := fnExactWordOfBinUptoRow.holds Try.pinned (OpenSpec.upto fnExactWordOfBinSpec)

/-- 'laws.FnExactBetweenOf', WHERE WHAT IT READS IS OF BULK AT MOST 1048576: true; the input reads as it did. -/
def fnExactBetweenOfUptoRow : OpenClaim := { program := "ytpphilladlladab", sum := "b4951a2a7ceac2f15122e8bdbb8acaa7a9838db1187b0b190255d77c90df0f25", func := "loop.example/shapesoftrees/laws.FnExactBetweenOf", spec := "fnExactBetweenOf", recurses := true, apart := false, narrowed := true }
def FnExactBetweenOfUptoSaid : Prop := fnExactBetweenOfUptoRow.holds Try.pinned (OpenSpec.upto fnExactBetweenOfSpec)

/-- 'laws.FnExactStackRow', WHERE WHAT IT READS IS OF BULK AT MOST 1048576: true; the input reads as it did. -/
def fnExactStackRowUptoRow : OpenClaim := { program := "ytpphilladlladab", sum := "b4951a2a7ceac2f15122e8bdbb8acaa7a9838db1187b0b190255d77c90df0f25", func := "loop.example/shapesoftrees/laws.FnExactStackRow", spec := "fnExactStackRow", apart := false, narrowed := true }
def FnExactStackRowUptoSaid : Prop := fnExactStackRowUptoRow.holds Try.pinned (OpenSpec.upto fnExactStackRowSpec)

/-- 'laws.FnExactWordOfStack', WHERE WHAT IT READS IS OF BULK AT MOST 1048576: true; the input reads as it did. -/
def fnExactWordOfStackUptoRow : OpenClaim := { program := "ytpphilladlladab", sum := "b4951a2a7ceac2f15122e8bdbb8acaa7a9838db1187b0b190255d77c90df0f25", func := "loop.example/shapesoftrees/laws.FnExactWordOfStack", spec := "fnExactWordOfStack", apart := false, narrowed := true }
def FnExactWordOfStackUptoSaid : Prop := fnExactWordOfStackUptoRow.holds Try.pinned (OpenSpec.upto fnExactWordOfStackSpec)

/-- 'laws.FnExactTrianglesOf', WHERE WHAT IT READS IS OF BULK AT MOST 1048576: true; the input reads as it did. -/
def fnExactTrianglesOfUptoRow : OpenClaim := { program := "ytpphilladlladab", sum := "b4951a2a7ceac2f15122e8bdbb8acaa7a9838db1187b0b190255d77c90df0f25", func := "loop.example/shapesoftrees/laws.FnExactTrianglesOf", spec := "fnExactTrianglesOf", recurses := true, apart := false, narrowed := true }
def FnExactTrianglesOfUptoSaid : Prop := fnExactTrianglesOfUptoRow.holds Try.pinned (OpenSpec.upto fnExactTrianglesOfSpec)

end Rows
end Go.Proofs.Ytpphilladlladab
