/-
  No cell of these rows narrows 'for every input' (looked for: loops, veiled, ifaces, maps, wideKeys, modest, calm, conditions, laid).
  DERIVED. THE GIVEN ROWS OF THIS SEAT. 4 by the template 'for every input the law returns true; each argument reads behind the call as it read before'; 0 by the template 'total and deterministic' (their statements: YtcfenbienebbjaaTotals.lean).
  GIVEN WITH THE SEED: the statements are not yours to turn. If you find one false, say at which input.
  Laid BY PROGRAM, IN A SANDBOX (cutbox-rows.mjs): the forced cells as the released guide's own fill.sh prints them over the translation 22479c2c86cd7724… (all of the seat's roots in one cut). By AI agents, Wed Nov 11 2026. No macro, syntax, notation, axiom, sorry.
-/
import Derived.Test.YtcfenbienebbjaaChecked
import GoSem.Claim
import GoSem.ClaimJoined
import GoSem.ClaimMapViews
import Derived.JoinedTies
import Derived.KernelRfl
namespace Go.Proofs.Ytcfenbienebbjaa
/- THE CELL 'sum', in the pinned program and in every row, IS THE sha256 OF THE DUMP (.gsa) THAT YtcfenbienebbjaaProg.lean LOADS. Nothing in Lean hashes anything: it is a label: what it is worth is what the hold of that sum in a sandbox is worth. -/
noncomputable def Try.pinned : Pinned := { name := "ytcfenbienebbjaa", sum := "22479c2c86cd7724d90cb4c7d611d02a60461cf3b2d29e7faaf22e3a76251363", checked := Try.checked }
namespace Rows
def none {H : Type} : Left H := { results := [], args := [] }

/-- 'laws.FnExactTurnsOf': WHATEVER THE INPUT: true; the input reads as it did. -/
def fnExactTurnsOfSpec : ChangeSpec := { name := "fnExactTurnsOf", fn := fun _ => fun
  | [d] => { results := [.lit (.bool true)], args := [d] }
  | _ => none }
def fnExactTurnsOfRow : OpenClaim := { program := "ytcfenbienebbjaa", sum := "22479c2c86cd7724d90cb4c7d611d02a60461cf3b2d29e7faaf22e3a76251363", func := "loop.example/shapesoftrees/laws.FnExactTurnsOf", spec := "fnExactTurnsOf", recurses := true, apart := false }
def FnExactTurnsOfSaid : Prop := fnExactTurnsOfRow.holds Try.pinned (OpenSpec.ofChange fnExactTurnsOfSpec)

/-- ITS FALSE NEIGHBOUR: 'it returns false'. Refute it at one input. -/
def fnExactTurnsOfWrong : ChangeSpec := { name := "fnExactTurnsOf", fn := fun _ => fun
  | [d] => { results := [.lit (.bool false)], args := [d] }
  | _ => none }
def FnExactTurnsOfWrongFalsely : Prop := fnExactTurnsOfRow.holds Try.pinned (OpenSpec.ofChange fnExactTurnsOfWrong)

/-- 'laws.FnExactTurnsBetween': WHATEVER THE INPUT: true; the input reads as it did. -/
def fnExactTurnsBetweenSpec : ChangeSpec := { name := "fnExactTurnsBetween", fn := fun _ => fun
  | [d1, d2] => { results := [.lit (.bool true)], args := [d1, d2] }
  | _ => none }
def fnExactTurnsBetweenRow : OpenClaim := { program := "ytcfenbienebbjaa", sum := "22479c2c86cd7724d90cb4c7d611d02a60461cf3b2d29e7faaf22e3a76251363", func := "loop.example/shapesoftrees/laws.FnExactTurnsBetween", spec := "fnExactTurnsBetween", recurses := true, apart := false }
def FnExactTurnsBetweenSaid : Prop := fnExactTurnsBetweenRow.holds Try.pinned (OpenSpec.ofChange fnExactTurnsBetweenSpec)

/-- ITS FALSE NEIGHBOUR: 'it returns false'. Refute it at one input. -/
def fnExactTurnsBetweenWrong : ChangeSpec := { name := "fnExactTurnsBetween", fn := fun _ => fun
  | [d1, d2] => { results := [.lit (.bool false)], args := [d1, d2] }
  | _ => none }
def FnExactTurnsBetweenWrongFalsely : Prop := fnExactTurnsBetweenRow.holds Try.pinned (OpenSpec.ofChange fnExactTurnsBetweenWrong)

/-- 'laws.FnExactMostTurns': WHATEVER THE INPUT: true; the input reads as it did. -/
def fnExactMostTurnsSpec : ChangeSpec := { name := "fnExactMostTurns", fn := fun _ => fun
  | [d] => { results := [.lit (.bool true)], args := [d] }
  | _ => none }
def fnExactMostTurnsRow : OpenClaim := { program := "ytcfenbienebbjaa", sum := "22479c2c86cd7724d90cb4c7d611d02a60461cf3b2d29e7faaf22e3a76251363", func := "loop.example/shapesoftrees/laws.FnExactMostTurns", spec := "fnExactMostTurns", unfollowed := true, recurses := true, apart := false }
def FnExactMostTurnsSaid : Prop := fnExactMostTurnsRow.holds Try.pinned (OpenSpec.ofChange fnExactMostTurnsSpec)

/-- ITS FALSE NEIGHBOUR: 'it returns false'. Refute it at one input. -/
def fnExactMostTurnsWrong : ChangeSpec := { name := "fnExactMostTurns", fn := fun _ => fun
  | [d] => { results := [.lit (.bool false)], args := [d] }
  | _ => none }
def FnExactMostTurnsWrongFalsely : Prop := fnExactMostTurnsRow.holds Try.pinned (OpenSpec.ofChange fnExactMostTurnsWrong)

/-- 'laws.FnExactTurnsToFlat': WHATEVER THE INPUT: true; the input reads as it did. -/
def fnExactTurnsToFlatSpec : ChangeSpec := { name := "fnExactTurnsToFlat", fn := fun _ => fun
  | [d] => { results := [.lit (.bool true)], args := [d] }
  | _ => none }
def fnExactTurnsToFlatRow : OpenClaim := { program := "ytcfenbienebbjaa", sum := "22479c2c86cd7724d90cb4c7d611d02a60461cf3b2d29e7faaf22e3a76251363", func := "loop.example/shapesoftrees/laws.FnExactTurnsToFlat", spec := "fnExactTurnsToFlat", apart := false }
def FnExactTurnsToFlatSaid : Prop := fnExactTurnsToFlatRow.holds Try.pinned (OpenSpec.ofChange fnExactTurnsToFlatSpec)

/-- ITS FALSE NEIGHBOUR: 'it returns false'. Refute it at one input. -/
def fnExactTurnsToFlatWrong : ChangeSpec := { name := "fnExactTurnsToFlat", fn := fun _ => fun
  | [d] => { results := [.lit (.bool false)], args := [d] }
  | _ => none }
def FnExactTurnsToFlatWrongFalsely : Prop := fnExactTurnsToFlatRow.holds Try.pinned (OpenSpec.ofChange fnExactTurnsToFlatWrong)

/- THE SECOND FORM. 'bulk': how many values and letters a reading holds, each counted each time it is reached (what is shared counts as often as it is met; a slice's spare places count too). A statement '..UptoSaid' is the law's where the arguments, and the package variables that the reading takes, are together of bulk at most 1048576: NARROWER than '..Said'. Prove '..Said' where nothing that the law and all that it calls make is longer than what came in: it says more and counts as full. Else prove '..UptoSaid'. A law counts once. -/
mutual
def uptoBulk {H : Type} : DataW H → Nat
  | .lit (.string bytes) => bytes.length + 1
  | .lit _ => 1
  | .nil => 1
  | .ptr d => uptoBulk d + 1
  | .slice elems spare => uptoBulkAll elems + uptoBulkAll spare + 1
  | .agg parts => uptoBulkAll parts + 1
  | .iface _ d => uptoBulk d + 1
  | .map entries => uptoBulkEntries entries + 1
  | .held _ => 1
def uptoBulkAll {H : Type} : List (DataW H) → Nat
  | [] => 0
  | d :: r => uptoBulk d + uptoBulkAll r
def uptoBulkEntries {H : Type} : List (Lit × DataW H) → Nat
  | [] => 0
  | x :: r => uptoBulkEntry x + uptoBulkEntries r
def uptoBulkEntry {H : Type} : Lit × DataW H → Nat
  | (.string bytes, d) => bytes.length + uptoBulk d + 1
  | (_, d) => uptoBulk d + 1
 end
def uptoSmall : (H : Type) → List (DataW H) → Bool := fun _ ds => decide (uptoBulkAll ds ≤ 1048576)
def OpenSpec.upto (s : _root_.Go.ChangeSpec) : _root_.Go.OpenSpec := { _root_.Go.OpenSpec.ofChange s with cond := some uptoSmall }

/-- 'laws.FnExactTurnsOf', WHERE WHAT IT READS IS OF BULK AT MOST 1048576: true; the input reads as it did. -/
def fnExactTurnsOfUptoRow : OpenClaim := { program := "ytcfenbienebbjaa", sum := "22479c2c86cd7724d90cb4c7d611d02a60461cf3b2d29e7faaf22e3a76251363", func := "loop.example/shapesoftrees/laws.FnExactTurnsOf", spec := "fnExactTurnsOf", recurses := true, apart := false, narrowed := true }
def FnExactTurnsOfUptoSaid : Prop := fnExactTurnsOfUptoRow.holds Try.pinned (OpenSpec.upto fnExactTurnsOfSpec)

/-- 'laws.FnExactTurnsBetween', WHERE WHAT IT READS IS OF BULK AT MOST 1048576: true; the input reads as it did. -/
def fnExactTurnsBetweenUptoRow : OpenClaim := { program := "ytcfenbienebbjaa", sum := "22479c2c86cd7724d90cb4c7d611d02a60461cf3b2d29e7faaf22e3a76251363", func := "loop.example/shapesoftrees/laws.FnExactTurnsBetween", spec := "fnExactTurnsBetween", recurses := true, apart := false, narrowed := true }
def FnExactTurnsBetweenUptoSaid : Prop := fnExactTurnsBetweenUptoRow.holds Try.pinned (OpenSpec.upto fnExactTurnsBetweenSpec)

/-- 'laws.FnExactMostTurns', WHERE WHAT IT READS IS OF BULK AT MOST 1048576: true; the input reads as it did. -/
def fnExactMostTurnsUptoRow : OpenClaim := { program := "ytcfenbienebbjaa", sum := "22479c2c86cd7724d90cb4c7d611d02a60461cf3b2d29e7faaf22e3a76251363", func := "loop.example/shapesoftrees/laws.FnExactMostTurns", spec := "fnExactMostTurns", unfollowed := true, recurses := true, apart := false, narrowed := true }
def FnExactMostTurnsUptoSaid : Prop := fnExactMostTurnsUptoRow.holds Try.pinned (OpenSpec.upto fnExactMostTurnsSpec)

/-- 'laws.FnExactTurnsToFlat', WHERE WHAT IT READS IS OF BULK AT MOST 1048576: true; the input reads as it did. -/
def fnExactTurnsToFlatUptoRow : OpenClaim := { program := "ytcfenbienebbjaa", sum := "22479c2c86cd7724d90cb4c7d611d02a60461cf3b2d29e7faaf22e3a76251363", func := "loop.example/shapesoftrees/laws.FnExactTurnsToFlat", spec := "fnExactTurnsToFlat", apart := false, narrowed := true }
def FnExactTurnsToFlatUptoSaid : Prop := fnExactTurnsToFlatUptoRow.holds Try.pinned (OpenSpec.upto fnExactTurnsToFlatSpec)

end Rows
end Go.Proofs.Ytcfenbienebbjaa
