/-
  No cell of these rows narrows 'for every input' (looked for: loops, veiled, ifaces, maps, wideKeys, modest, calm, conditions, laid).
  DERIVED. THE GIVEN ROWS OF THIS SEAT. 9 by the template 'for every input the law returns true; each argument reads behind the call as it read before'; 0 by the template 'total and deterministic' (their statements: YthalkkbchghmpaaTotals.lean).
  GIVEN WITH THE SEED: the statements are not yours to turn. If you find one false, say at which input.
  Laid BY PROGRAM, IN A SANDBOX (cutbox-rows.mjs): the forced cells as the released guide's own fill.sh prints them over the translation 93dd43cbbcd3fc07… (all of the seat's roots in one cut). By AI agents, Wed Nov 11 2026. No macro, syntax, notation, axiom, sorry.
-/
import Derived.Test.YthalkkbchghmpaaChecked
import GoSem.Claim
import GoSem.ClaimJoined
import GoSem.ClaimMapViews
import Derived.JoinedTies
import Derived.KernelRfl
namespace Go.Proofs.Ythalkkbchghmpaa
/- THE CELL 'sum', in the pinned program and in every row, IS THE sha256 OF THE DUMP (.gsa) THAT YthalkkbchghmpaaProg.lean LOADS. Nothing in Lean hashes anything: it is a label: what it is worth is what the hold of that sum in a sandbox is worth. -/
noncomputable def Try.pinned : Pinned := { name := "ythalkkbchghmpaa", sum := "93dd43cbbcd3fc079e3d87312b6e2620b8952a6314b679745ed86961db014a0e", checked := Try.checked }
namespace Rows
def none {H : Type} : Left H := { results := [], args := [] }

/-- 'laws.FnWordsOf': WHATEVER THE INPUT: true; the input reads as it did. -/
def fnWordsOfSpec : ChangeSpec := { name := "fnWordsOf", fn := fun _ => fun
  | [d] => { results := [.lit (.bool true)], args := [d] }
  | _ => none }
def fnWordsOfRow : OpenClaim := { program := "ythalkkbchghmpaa", sum := "93dd43cbbcd3fc079e3d87312b6e2620b8952a6314b679745ed86961db014a0e", func := "loop.example/shapesoftrees/laws.FnWordsOf", spec := "fnWordsOf", unfollowed := true, recurses := true, apart := false }
def FnWordsOfSaid : Prop := fnWordsOfRow.holds Try.pinned (OpenSpec.ofChange fnWordsOfSpec)

/-- ITS FALSE NEIGHBOUR: 'it returns false'. Refute it at one input. -/
def fnWordsOfWrong : ChangeSpec := { name := "fnWordsOf", fn := fun _ => fun
  | [d] => { results := [.lit (.bool false)], args := [d] }
  | _ => none }
def FnWordsOfWrongFalsely : Prop := fnWordsOfRow.holds Try.pinned (OpenSpec.ofChange fnWordsOfWrong)

/-- 'laws.FnEndsOf': WHATEVER THE INPUT: true; the input reads as it did. -/
def fnEndsOfSpec : ChangeSpec := { name := "fnEndsOf", fn := fun _ => fun
  | [d] => { results := [.lit (.bool true)], args := [d] }
  | _ => none }
def fnEndsOfRow : OpenClaim := { program := "ythalkkbchghmpaa", sum := "93dd43cbbcd3fc079e3d87312b6e2620b8952a6314b679745ed86961db014a0e", func := "loop.example/shapesoftrees/laws.FnEndsOf", spec := "fnEndsOf", recurses := true, apart := false }
def FnEndsOfSaid : Prop := fnEndsOfRow.holds Try.pinned (OpenSpec.ofChange fnEndsOfSpec)

/-- ITS FALSE NEIGHBOUR: 'it returns false'. Refute it at one input. -/
def fnEndsOfWrong : ChangeSpec := { name := "fnEndsOf", fn := fun _ => fun
  | [d] => { results := [.lit (.bool false)], args := [d] }
  | _ => none }
def FnEndsOfWrongFalsely : Prop := fnEndsOfRow.holds Try.pinned (OpenSpec.ofChange fnEndsOfWrong)

/-- 'laws.FnRankOf': WHATEVER THE INPUT: true; the input reads as it did. -/
def fnRankOfSpec : ChangeSpec := { name := "fnRankOf", fn := fun _ => fun
  | [d] => { results := [.lit (.bool true)], args := [d] }
  | _ => none }
def fnRankOfRow : OpenClaim := { program := "ythalkkbchghmpaa", sum := "93dd43cbbcd3fc079e3d87312b6e2620b8952a6314b679745ed86961db014a0e", func := "loop.example/shapesoftrees/laws.FnRankOf", spec := "fnRankOf", unfollowed := true, recurses := true, apart := false }
def FnRankOfSaid : Prop := fnRankOfRow.holds Try.pinned (OpenSpec.ofChange fnRankOfSpec)

/-- ITS FALSE NEIGHBOUR: 'it returns false'. Refute it at one input. -/
def fnRankOfWrong : ChangeSpec := { name := "fnRankOf", fn := fun _ => fun
  | [d] => { results := [.lit (.bool false)], args := [d] }
  | _ => none }
def FnRankOfWrongFalsely : Prop := fnRankOfRow.holds Try.pinned (OpenSpec.ofChange fnRankOfWrong)

/-- 'laws.FnWordAt': WHATEVER THE INPUT: true; the input reads as it did. -/
def fnWordAtSpec : ChangeSpec := { name := "fnWordAt", fn := fun _ => fun
  | [d] => { results := [.lit (.bool true)], args := [d] }
  | _ => none }
def fnWordAtRow : OpenClaim := { program := "ythalkkbchghmpaa", sum := "93dd43cbbcd3fc079e3d87312b6e2620b8952a6314b679745ed86961db014a0e", func := "loop.example/shapesoftrees/laws.FnWordAt", spec := "fnWordAt", unfollowed := true, recurses := true, apart := false }
def FnWordAtSaid : Prop := fnWordAtRow.holds Try.pinned (OpenSpec.ofChange fnWordAtSpec)

/-- ITS FALSE NEIGHBOUR: 'it returns false'. Refute it at one input. -/
def fnWordAtWrong : ChangeSpec := { name := "fnWordAt", fn := fun _ => fun
  | [d] => { results := [.lit (.bool false)], args := [d] }
  | _ => none }
def FnWordAtWrongFalsely : Prop := fnWordAtRow.holds Try.pinned (OpenSpec.ofChange fnWordAtWrong)

/-- 'laws.FnNextWord': WHATEVER THE INPUT: true; the input reads as it did. -/
def fnNextWordSpec : ChangeSpec := { name := "fnNextWord", fn := fun _ => fun
  | [d] => { results := [.lit (.bool true)], args := [d] }
  | _ => none }
def fnNextWordRow : OpenClaim := { program := "ythalkkbchghmpaa", sum := "93dd43cbbcd3fc079e3d87312b6e2620b8952a6314b679745ed86961db014a0e", func := "loop.example/shapesoftrees/laws.FnNextWord", spec := "fnNextWord", unfollowed := true, recurses := true, apart := false }
def FnNextWordSaid : Prop := fnNextWordRow.holds Try.pinned (OpenSpec.ofChange fnNextWordSpec)

/-- ITS FALSE NEIGHBOUR: 'it returns false'. Refute it at one input. -/
def fnNextWordWrong : ChangeSpec := { name := "fnNextWord", fn := fun _ => fun
  | [d] => { results := [.lit (.bool false)], args := [d] }
  | _ => none }
def FnNextWordWrongFalsely : Prop := fnNextWordRow.holds Try.pinned (OpenSpec.ofChange fnNextWordWrong)

/-- 'laws.FnCountLeaves': WHATEVER THE INPUT: true; the input reads as it did. -/
def fnCountLeavesSpec : ChangeSpec := { name := "fnCountLeaves", fn := fun _ => fun
  | [d] => { results := [.lit (.bool true)], args := [d] }
  | _ => none }
def fnCountLeavesRow : OpenClaim := { program := "ythalkkbchghmpaa", sum := "93dd43cbbcd3fc079e3d87312b6e2620b8952a6314b679745ed86961db014a0e", func := "loop.example/shapesoftrees/laws.FnCountLeaves", spec := "fnCountLeaves", inPlace := ["internal/bytealg.CountString", "internal/bytealg.IndexByteString", "internal/bytealg.IndexString"], unfollowed := true, recurses := true, named := ["internal/bytealg.MaxLen"], apart := false }
def FnCountLeavesSaid : Prop := fnCountLeavesRow.holds Try.pinned (OpenSpec.ofChange fnCountLeavesSpec)

/-- ITS FALSE NEIGHBOUR: 'it returns false'. Refute it at one input. -/
def fnCountLeavesWrong : ChangeSpec := { name := "fnCountLeaves", fn := fun _ => fun
  | [d] => { results := [.lit (.bool false)], args := [d] }
  | _ => none }
def FnCountLeavesWrongFalsely : Prop := fnCountLeavesRow.holds Try.pinned (OpenSpec.ofChange fnCountLeavesWrong)

/-- 'laws.FnLeavesAreCounted': WHATEVER THE INPUT: true; the input reads as it did. -/
def fnLeavesAreCountedSpec : ChangeSpec := { name := "fnLeavesAreCounted", fn := fun _ => fun
  | [d] => { results := [.lit (.bool true)], args := [d] }
  | _ => none }
def fnLeavesAreCountedRow : OpenClaim := { program := "ythalkkbchghmpaa", sum := "93dd43cbbcd3fc079e3d87312b6e2620b8952a6314b679745ed86961db014a0e", func := "loop.example/shapesoftrees/laws.FnLeavesAreCounted", spec := "fnLeavesAreCounted", inPlace := ["internal/bytealg.CountString", "internal/bytealg.IndexByteString", "internal/bytealg.IndexString"], unfollowed := true, recurses := true, named := ["internal/bytealg.MaxLen"], apart := false }
def FnLeavesAreCountedSaid : Prop := fnLeavesAreCountedRow.holds Try.pinned (OpenSpec.ofChange fnLeavesAreCountedSpec)

/-- ITS FALSE NEIGHBOUR: 'it returns false'. Refute it at one input. -/
def fnLeavesAreCountedWrong : ChangeSpec := { name := "fnLeavesAreCounted", fn := fun _ => fun
  | [d] => { results := [.lit (.bool false)], args := [d] }
  | _ => none }
def FnLeavesAreCountedWrongFalsely : Prop := fnLeavesAreCountedRow.holds Try.pinned (OpenSpec.ofChange fnLeavesAreCountedWrong)

/-- 'laws.FnFirstAndLastWords': WHATEVER THE INPUT: true; the input reads as it did. -/
def fnFirstAndLastWordsSpec : ChangeSpec := { name := "fnFirstAndLastWords", fn := fun _ => fun
  | [d] => { results := [.lit (.bool true)], args := [d] }
  | _ => none }
def fnFirstAndLastWordsRow : OpenClaim := { program := "ythalkkbchghmpaa", sum := "93dd43cbbcd3fc079e3d87312b6e2620b8952a6314b679745ed86961db014a0e", func := "loop.example/shapesoftrees/laws.FnFirstAndLastWords", spec := "fnFirstAndLastWords", unfollowed := true, recurses := true, apart := false }
def FnFirstAndLastWordsSaid : Prop := fnFirstAndLastWordsRow.holds Try.pinned (OpenSpec.ofChange fnFirstAndLastWordsSpec)

/-- ITS FALSE NEIGHBOUR: 'it returns false'. Refute it at one input. -/
def fnFirstAndLastWordsWrong : ChangeSpec := { name := "fnFirstAndLastWords", fn := fun _ => fun
  | [d] => { results := [.lit (.bool false)], args := [d] }
  | _ => none }
def FnFirstAndLastWordsWrongFalsely : Prop := fnFirstAndLastWordsRow.holds Try.pinned (OpenSpec.ofChange fnFirstAndLastWordsWrong)

/-- 'laws.FnNextIsAll': WHATEVER THE INPUT: true; the input reads as it did. -/
def fnNextIsAllSpec : ChangeSpec := { name := "fnNextIsAll", fn := fun _ => fun
  | [d] => { results := [.lit (.bool true)], args := [d] }
  | _ => none }
def fnNextIsAllRow : OpenClaim := { program := "ythalkkbchghmpaa", sum := "93dd43cbbcd3fc079e3d87312b6e2620b8952a6314b679745ed86961db014a0e", func := "loop.example/shapesoftrees/laws.FnNextIsAll", spec := "fnNextIsAll", unfollowed := true, recurses := true, apart := false }
def FnNextIsAllSaid : Prop := fnNextIsAllRow.holds Try.pinned (OpenSpec.ofChange fnNextIsAllSpec)

/-- ITS FALSE NEIGHBOUR: 'it returns false'. Refute it at one input. -/
def fnNextIsAllWrong : ChangeSpec := { name := "fnNextIsAll", fn := fun _ => fun
  | [d] => { results := [.lit (.bool false)], args := [d] }
  | _ => none }
def FnNextIsAllWrongFalsely : Prop := fnNextIsAllRow.holds Try.pinned (OpenSpec.ofChange fnNextIsAllWrong)

/- THE SECOND FORM. 'bulk': how many values and letters a reading holds, each counted each time it is reached (what is shared counts as often as it is met; a slice's spare places count too). A statement '..UptoSaid' is the law's where the arguments, and the package variables that the reading takes, are together of bulk at most 1048576: NARROWER than '..Said'. Prove '..Said' where nothing that the law and all that it calls make is longer than what came in: it says more and counts as full. Else prove '..UptoSaid'. A law counts once. -/
mutual
def uptoBulk {H : Type} : DataW H → Nat
  | .lit (.string bytes) => bytes.length + 1
  | .lit _ => 1
  | .nil => 1
  | .ptr d => uptoBulk d + 1
  | .slice elems spare => uptoBulkAll elems + uptoBulkAll spare + 1
  | .agg parts => uptoBulkAll parts + 1
  | .iface _ d => uptoBulk d + 1
  | .map entries => uptoBulkEntries entries + 1
  | .held _ => 1
def uptoBulkAll {H : Type} : List (DataW H) → Nat
  | [] => 0
  | d :: r => uptoBulk d + uptoBulkAll r
def uptoBulkEntries {H : Type} : List (Lit × DataW H) → Nat
  | [] => 0
  | x :: r => uptoBulkEntry x + uptoBulkEntries r
def uptoBulkEntry {H : Type} : Lit × DataW H → Nat
  | (.string bytes, d) => bytes.length + uptoBulk d + 1
  | (_, d) => uptoBulk d + 1
 end
def uptoSmall : (H : Type) → List (DataW H) → Bool := fun _ ds => decide (uptoBulkAll ds ≤ 1048576)
def OpenSpec.upto (s : _root_.Go.ChangeSpec) : _root_.Go.OpenSpec := { _root_.Go.OpenSpec.ofChange s with cond := some uptoSmall }

/-- 'laws.FnWordsOf', WHERE WHAT IT READS IS OF BULK AT MOST 1048576: true; the input reads as it did. -/
def fnWordsOfUptoRow : OpenClaim := { program := "ythalkkbchghmpaa", sum := "93dd43cbbcd3fc079e3d87312b6e2620b8952a6314b679745ed86961db014a0e", func := "loop.example/shapesoftrees/laws.FnWordsOf", spec := "fnWordsOf", unfollowed := true, recurses := true, apart := false, narrowed := true }
def FnWordsOfUptoSaid : Prop := fnWordsOfUptoRow.holds Try.pinned (OpenSpec.upto fnWordsOfSpec)

/-- 'laws.FnEndsOf', WHERE WHAT IT READS IS OF BULK AT MOST 1048576: true; the input reads as it did. -/
def fnEndsOfUptoRow : OpenClaim := { program := "ythalkkbchghmpaa", sum := "93dd43cbbcd3fc079e3d87312b6e2620b8952a6314b679745ed86961db014a0e", func := "loop.example/shapesoftrees/laws.FnEndsOf", spec := "fnEndsOf", recurses := true, apart := false, narrowed := true }
def FnEndsOfUptoSaid : Prop := fnEndsOfUptoRow.holds Try.pinned (OpenSpec.upto fnEndsOfSpec)

/-- 'laws.FnRankOf', WHERE WHAT IT READS IS OF BULK AT MOST 1048576: true; the input reads as it did. -/
def fnRankOfUptoRow : OpenClaim := { program := "ythalkkbchghmpaa", sum := "93dd43cbbcd3fc079e3d87312b6e2620b8952a6314b679745ed86961db014a0e", func := "loop.example/shapesoftrees/laws.FnRankOf", spec := "fnRankOf", unfollowed := true, recurses := true, apart := false, narrowed := true }
def FnRankOfUptoSaid : Prop := fnRankOfUptoRow.holds Try.pinned (OpenSpec.upto fnRankOfSpec)

/-- 'laws.FnWordAt', WHERE WHAT IT READS IS OF BULK AT MOST 1048576: true; the input reads as it did. -/
def fnWordAtUptoRow : OpenClaim := { program := "ythalkkbchghmpaa", sum := "93dd43cbbcd3fc079e3d87312b6e2620b8952a6314b679745ed86961db014a0e", func := "loop.example/shapesoftrees/laws.FnWordAt", spec := "fnWordAt", unfollowed := true, recurses := true, apart := false, narrowed := true }
def FnWordAtUptoSaid : Prop := fnWordAtUptoRow.holds Try.pinned (OpenSpec.upto fnWordAtSpec)

/-- 'laws.FnNextWord', WHERE WHAT IT READS IS OF BULK AT MOST 1048576: true; the input reads as it did. -/
def fnNextWordUptoRow : OpenClaim := { program := "ythalkkbchghmpaa", sum := "93dd43cbbcd3fc079e3d87312b6e2620b8952a6314b679745ed86961db014a0e", func := "loop.example/shapesoftrees/laws.FnNextWord", spec := "fnNextWord", unfollowed := true, recurses := true, apart := false, narrowed := true }
def FnNextWordUptoSaid : Prop := fnNextWordUptoRow.holds Try.pinned (OpenSpec.upto fnNextWordSpec)

/-- 'laws.FnCountLeaves', WHERE WHAT IT READS IS OF BULK AT MOST 1048576: true; the input reads as it did. -/
def fnCountLeavesUptoRow : OpenClaim := { program := "ythalkkbchghmpaa", sum := "93dd43cbbcd3fc079e3d87312b6e2620b8952a6314b679745ed86961db014a0e", func := "loop.example/shapesoftrees/laws.FnCountLeaves", spec := "fnCountLeaves", inPlace := ["internal/bytealg.CountString", "internal/bytealg.IndexByteString", "internal/bytealg.IndexString"], unfollowed := true, recurses := true, named := ["internal/bytealg.MaxLen"], apart := false, narrowed := true }
def FnCountLeavesUptoSaid : Prop := fnCountLeavesUptoRow.holds Try.pinned (OpenSpec.upto fnCountLeavesSpec)

/-- 'laws.FnLeavesAreCounted', WHERE WHAT IT READS IS OF BULK AT MOST 1048576: true; the input reads as it did. -/
def fnLeavesAreCountedUptoRow : OpenClaim := { program := "ythalkkbchghmpaa", sum := "93dd43cbbcd3fc079e3d87312b6e2620b8952a6314b679745ed86961db014a0e", func := "loop.example/shapesoftrees/laws.FnLeavesAreCounted", spec := "fnLeavesAreCounted", inPlace := ["internal/bytealg.CountString", "internal/bytealg.IndexByteString", "internal/bytealg.IndexString"], unfollowed := true, recurses := true, named := ["internal/bytealg.MaxLen"], apart := false, narrowed := true }
def FnLeavesAreCountedUptoSaid : Prop := fnLeavesAreCountedUptoRow.holds Try.pinned (OpenSpec.upto fnLeavesAreCountedSpec)

/-- 'laws.FnFirstAndLastWords', WHERE WHAT IT READS IS OF BULK AT MOST 1048576: true; the input reads as it did. -/
def fnFirstAndLastWordsUptoRow : OpenClaim := { program := "ythalkkbchghmpaa", sum := "93dd43cbbcd3fc079e3d87312b6e2620b8952a6314b679745ed86961db014a0e", func := "loop.example/shapesoftrees/laws.FnFirstAndLastWords", spec := "fnFirstAndLastWords", unfollowed := true, recurses := true, apart := false, narrowed := true }
def FnFirstAndLastWordsUptoSaid : Prop := fnFirstAndLastWordsUptoRow.holds Try.pinned (OpenSpec.upto fnFirstAndLastWordsSpec)

/-- 'laws.FnNextIsAll', WHERE WHAT IT READS IS OF BULK AT MOST 1048576: true; the input reads as it did. -/
def fnNextIsAllUptoRow : OpenClaim := { program := "ythalkkbchghmpaa", sum := "93dd43cbbcd3fc079e3d87312b6e2620b8952a6314b679745ed86961db014a0e", func := "loop.example/shapesoftrees/laws.FnNextIsAll", spec := "fnNextIsAll", unfollowed := true, recurses := true, apart := false, narrowed := true }
def FnNextIsAllUptoSaid : Prop := fnNextIsAllUptoRow.holds Try.pinned (OpenSpec.upto fnNextIsAllSpec)

end Rows
end Go.Proofs.Ythalkkbchghmpaa
