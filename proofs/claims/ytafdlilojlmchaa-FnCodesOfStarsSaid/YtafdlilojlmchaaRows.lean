/-
  No cell of these rows narrows 'for every input' (looked for: loops, veiled, ifaces, maps, wideKeys, modest, calm, conditions, laid).
  DERIVED. THE GIVEN ROWS OF THIS SEAT. 3 by the template 'for every input the law returns true; each argument reads behind the call as it read before'; 0 by the template 'total and deterministic' (their statements: YtafdlilojlmchaaTotals.lean).
  GIVEN WITH THE SEED: the statements are not yours to turn. If you find one false, say at which input.
  Laid BY PROGRAM, IN A SANDBOX (cutbox-rows.mjs): the forced cells as the released guide's own fill.sh prints them over the translation cb6f179a2a79a39d… (all of the seat's roots in one cut). By AI agents, Wed Nov 11 2026. No macro, syntax, notation, axiom, sorry.
-/
import Derived.Test.YtafdlilojlmchaaChecked
import GoSem.Claim
import GoSem.ClaimJoined
import GoSem.ClaimMapViews
import Derived.JoinedTies
import Derived.KernelRfl
namespace Go.Proofs.Ytafdlilojlmchaa
/- THE CELL 'sum', in the pinned program and in every row, IS THE sha256 OF THE DUMP (.gsa) THAT YtafdlilojlmchaaProg.lean LOADS. Nothing in Lean hashes anything: it is a label: what it is worth is what the hold of that sum in a sandbox is worth. -/
noncomputable def Try.pinned : Pinned := { name := "ytafdlilojlmchaa", sum := "cb6f179a2a79a39dca32ef403b73084ee25c4061e0da1d28e08b4a70e7011cdd", checked := Try.checked }
namespace Rows
def none {H : Type} : Left H := { results := [], args := [] }

/-- 'laws.FnSameShape': WHATEVER THE INPUT: true; the input reads as it did. -/
def fnSameShapeSpec : ChangeSpec := { name := "fnSameShape", fn := fun _ => fun
  | [d] => { results := [.lit (.bool true)], args := [d] }
  | _ => none }
def fnSameShapeRow : OpenClaim := { program := "ytafdlilojlmchaa", sum := "cb6f179a2a79a39dca32ef403b73084ee25c4061e0da1d28e08b4a70e7011cdd", func := "loop.example/shapesoftrees/laws.FnSameShape", spec := "fnSameShape", inPlace := ["internal/abi.NoEscape", "internal/bytealg.MakeNoZero"], unfollowed := true, recurses := true, plainKeys := false, apart := false }
def FnSameShapeSaid : Prop := fnSameShapeRow.holds Try.pinned (OpenSpec.ofChange fnSameShapeSpec)

/-- ITS FALSE NEIGHBOUR: 'it returns false'. Refute it at one input. -/
def fnSameShapeWrong : ChangeSpec := { name := "fnSameShape", fn := fun _ => fun
  | [d] => { results := [.lit (.bool false)], args := [d] }
  | _ => none }
def FnSameShapeWrongFalsely : Prop := fnSameShapeRow.holds Try.pinned (OpenSpec.ofChange fnSameShapeWrong)

/-- 'laws.FnCodesOfStars': WHATEVER THE INPUT: true; the input reads as it did. -/
def fnCodesOfStarsSpec : ChangeSpec := { name := "fnCodesOfStars", fn := fun _ => fun
  | [d] => { results := [.lit (.bool true)], args := [d] }
  | _ => none }
def fnCodesOfStarsRow : OpenClaim := { program := "ytafdlilojlmchaa", sum := "cb6f179a2a79a39dca32ef403b73084ee25c4061e0da1d28e08b4a70e7011cdd", func := "loop.example/shapesoftrees/laws.FnCodesOfStars", spec := "fnCodesOfStars", inPlace := ["internal/abi.NoEscape", "internal/bytealg.MakeNoZero"], unfollowed := true, recurses := true, plainKeys := false, apart := false }
def FnCodesOfStarsSaid : Prop := fnCodesOfStarsRow.holds Try.pinned (OpenSpec.ofChange fnCodesOfStarsSpec)

/-- ITS FALSE NEIGHBOUR: 'it returns false'. Refute it at one input. -/
def fnCodesOfStarsWrong : ChangeSpec := { name := "fnCodesOfStars", fn := fun _ => fun
  | [d] => { results := [.lit (.bool false)], args := [d] }
  | _ => none }
def FnCodesOfStarsWrongFalsely : Prop := fnCodesOfStarsRow.holds Try.pinned (OpenSpec.ofChange fnCodesOfStarsWrong)

/-- 'laws.FnCodesOfRows': WHATEVER THE INPUT: true; the input reads as it did. -/
def fnCodesOfRowsSpec : ChangeSpec := { name := "fnCodesOfRows", fn := fun _ => fun
  | [d] => { results := [.lit (.bool true)], args := [d] }
  | _ => none }
def fnCodesOfRowsRow : OpenClaim := { program := "ytafdlilojlmchaa", sum := "cb6f179a2a79a39dca32ef403b73084ee25c4061e0da1d28e08b4a70e7011cdd", func := "loop.example/shapesoftrees/laws.FnCodesOfRows", spec := "fnCodesOfRows", inPlace := ["internal/abi.NoEscape", "internal/bytealg.MakeNoZero"], unfollowed := true, recurses := true, plainKeys := false, apart := false }
def FnCodesOfRowsSaid : Prop := fnCodesOfRowsRow.holds Try.pinned (OpenSpec.ofChange fnCodesOfRowsSpec)

/-- ITS FALSE NEIGHBOUR: 'it returns false'. Refute it at one input. -/
def fnCodesOfRowsWrong : ChangeSpec := { name := "fnCodesOfRows", fn := fun _ => fun
  | [d] => { results := [.lit (.bool false)], args := [d] }
  | _ => none }
def FnCodesOfRowsWrongFalsely : Prop := fnCodesOfRowsRow.holds Try.pinned (OpenSpec.ofChange fnCodesOfRowsWrong)

/- THE SECOND FORM. 'bulk': how many values and letters a reading holds, each counted each time it is reached (what is shared counts as often as it is met; a slice's spare places count too). A statement '..UptoSaid' is the law's where the arguments, and the package variables that the reading takes, are together of bulk at most 1048576: NARROWER than '..Said'. Prove '..Said' where nothing that the law and all that it calls make is longer than what came in: it says more and counts as full. Else prove '..UptoSaid'. A law counts once. -/
mutual
def uptoBulk {H : Type} : DataW H → Nat
  | .lit (.string bytes) => bytes.length + 1
  | .lit _ => 1
  | .nil => 1
  | .ptr d => uptoBulk d + 1
  | .slice elems spare => uptoBulkAll elems + uptoBulkAll spare + 1
  | .agg parts => uptoBulkAll parts + 1
  | .iface _ d => uptoBulk d + 1
  | .map entries => uptoBulkEntries entries + 1
  | .held _ => 1
def uptoBulkAll {H : Type} : List (DataW H) → Nat
  | [] => 0
  | d :: r => uptoBulk d + uptoBulkAll r
def uptoBulkEntries {H : Type} : List (Lit × DataW H) → Nat
  | [] => 0
  | x :: r => uptoBulkEntry x + uptoBulkEntries r
def uptoBulkEntry {H : Type} : Lit × DataW H → Nat
  | (.string bytes, d) => bytes.length + uptoBulk d + 1
  | (_, d) => uptoBulk d + 1
 end
def uptoSmall : (H : Type) → List (DataW H) → Bool := fun _ ds => decide (uptoBulkAll ds ≤ 1048576)
def OpenSpec.upto (s : _root_.Go.ChangeSpec) : _root_.Go.OpenSpec := { _root_.Go.OpenSpec.ofChange s with cond := some uptoSmall }

/-- 'laws.FnSameShape', WHERE WHAT IT READS IS OF BULK AT MOST 1048576: true; the input reads as it did. -/
def fnSameShapeUptoRow : OpenClaim := { program := "ytafdlilojlmchaa", sum := "cb6f179a2a79a39dca32ef403b73084ee25c4061e0da1d28e08b4a70e7011cdd", func := "loop.example/shapesoftrees/laws.FnSameShape", spec := "fnSameShape", inPlace := ["internal/abi.NoEscape", "internal/bytealg.MakeNoZero"], unfollowed := true, recurses := true, plainKeys := false, apart := false, narrowed := true }
def FnSameShapeUptoSaid : Prop := fnSameShapeUptoRow.holds Try.pinned (OpenSpec.upto fnSameShapeSpec)

/-- 'laws.FnCodesOfStars', WHERE WHAT IT READS IS OF BULK AT MOST 1048576: true; the input reads as it did. -/
def fnCodesOfStarsUptoRow : OpenClaim := { program := "ytafdlilojlmchaa", sum := "cb6f179a2a79a39dca32ef403b73084ee25c4061e0da1d28e08b4a70e7011cdd", func := "loop.example/shapesoftrees/laws.FnCodesOfStars", spec := "fnCodesOfStars", inPlace := ["internal/abi.NoEscape", "internal/bytealg.MakeNoZero"], unfollowed := true, recurses := true, plainKeys := false, apart := false, narrowed := true }
def FnCodesOfStarsUptoSaid : Prop := fnCodesOfStarsUptoRow.holds Try.pinned (OpenSpec.upto fnCodesOfStarsSpec)

/-- 'laws.FnCodesOfRows', WHERE WHAT IT READS IS OF BULK AT MOST 1048576: true; the input reads as it did. -/
def fnCodesOfRowsUptoRow : OpenClaim := { program := "ytafdlilojlmchaa", sum := "cb6f179a2a79a39dca32ef403b73084ee25c4061e0da1d28e08b4a70e7011cdd", func := "loop.example/shapesoftrees/laws.FnCodesOfRows", spec := "fnCodesOfRows", inPlace := ["internal/abi.NoEscape", "internal/bytealg.MakeNoZero"], unfollowed := true, recurses := true, plainKeys := false, apart := false, narrowed := true }
def FnCodesOfRowsUptoSaid : Prop := fnCodesOfRowsUptoRow.holds Try.pinned (OpenSpec.upto fnCodesOfRowsSpec)

end Rows
end Go.Proofs.Ytafdlilojlmchaa
