/-
  At a claim's start nothing waits whose turn a load could bring about.
-/
import Derived.Test.YtchfnbcpjiiphabGTop
namespace Go.Proofs.Ytchfnbcpjiiphab
open Go Go.Conc
theorem stepOf_far {P : Program} (hr : (P.funcs.toList.all fun f => ((f.body.map readies).getD []).all fun g => decide (g < P.globals.size)) = true) {g : Nat} (hg : P.globals.size ≤ g) : P.stepOf g = none := by
  unfold Program.stepOf
  rw [Array.findIdx?_eq_none_iff]
  intro f hf
  have := List.all_eq_true.1 hr f (by simpa using hf)
  cases hb : f.body with
  | none => rfl
  | some c =>
    rw [hb] at this
    simp only [Option.map_some, Option.getD_some, List.all_eq_true, decide_eq_true_eq] at this
    simp only [Option.map_some, Option.any_some]
    rw [← Bool.not_eq_true, List.contains_iff_mem]
    exact fun h => absurd (this g h) (by omega)
theorem settled_start {P : Program} {w : World} (hf : P.follows .staticDataAhead = true) (hr : (P.funcs.toList.all fun f => ((f.body.map readies).getD []).all fun g => decide (g < P.globals.size)) = true)
    (hg : ((List.range P.globals.size).all fun g => (P.stepOf g).isNone || (((begin P (fun _ _ => 0) default).world.heap[g]?).bind Obj.row?).isSome) = true) (hw : w.ShapedOpen P) : Settled P w := by
  refine ⟨hf, fun g c t hp => ?_⟩
  by_cases hlt : g < P.globals.size
  · have := List.all_eq_true.1 hg g (List.mem_range.2 hlt)
    rw [Bool.or_eq_true] at this
    rcases this with h | h
    · exact Option.isNone_iff_eq_none.1 h
    · obtain ⟨⟨zero, u⟩, hz⟩ := Option.isSome_iff_exists.1 h
      obtain ⟨cs, h1, _⟩ := hw.1 g zero u hlt hz
      rw [hp] at h1
      cases h1
  · exact stepOf_far hr (by omega)
end Go.Proofs.Ytchfnbcpjiiphab
