/-
  The contracts of the model's functions ValidWeb, SpanByCuts and SpansOf, of any rows.
-/
import Derived.Test.YthlboikljibohaaCWeb
import Derived.Test.YthlboikljibohaaCCut
import Derived.Test.YthlboikljibohaaCSpans
import Derived.Test.YthlboikljibohaaCDepths
namespace Go.Proofs.Ythlboikljibohaa
open Go.RowKit

theorem web_rows {n : Int} {rows : List (List Int)} (h : webB n rows = true) : ∃ N : Nat, n = N ∧ 1 ≤ N ∧ N ≤ 5 ∧ rows = rowsE (edgesR rows) ∧ (∀ e ∈ edgesR rows, e.1 < N ∧ e.2 < N) ∧ (edgesR rows).length ≤ 8 ∧ (edgesR rows).length = rows.length := by
  obtain ⟨h1, h2, h3⟩ := webB_iff.1 h
  refine ⟨n.toNat, by omega, by omega, by omega, ?_, ?_, by simp [edgesR]; exact h3, by simp [edgesR]⟩
  · unfold rowsE edgesR
    rw [List.map_map]
    have : rows.map ((fun (e : Nat × Nat) => [(e.1 : Int), (e.2 : Int)]) ∘ fun r => ((r.getD 0 0).toNat, (r.getD 1 0).toNat)) = rows.map id := List.map_congr_left fun r hr => by
      obtain ⟨r1, r2, r3⟩ := h1 r hr
      match r, r1, r2, r3 with
      | [x, y], _, r2, r3 =>
        show [((x.toNat : Nat) : Int), ((y.toNat : Nat) : Int)] = [x, y]
        have e1 : ((x.toNat : Nat) : Int) = x := by have : 0 ≤ x := r2.1; omega
        have e2 : ((y.toNat : Nat) : Int) = y := by have : 0 ≤ y := r3.1; omega
        rw [e1, e2]
    rw [this, List.map_id]
  · intro e he
    obtain ⟨r, hr, rfl⟩ := List.mem_map.1 he
    obtain ⟨_, r2, r3⟩ := h1 r hr
    simp only
    omega
/-- how many spans there are; which they are -/
def spanC (n : Int) (rows : List (List Int)) : Int := if webB n rows = true then ((spansN n.toNat (edgesR rows)).length : Int) else -1
def spansL (n : Int) (rows : List (List Int)) : List Int := if webB n rows = true then (spansN n.toNat (edgesR rows)).map fun (k : Nat) => (k : Int) else []
end Go.Proofs.Ythlboikljibohaa
