/-
  The program's ValidTree.
-/
import Derived.Test.YtnepfbellbmgeaaCTreeE
namespace Go.Proofs.Ytnepfbellbmgeaa
open Go.RowKit

set_option maxHeartbeats 800000 in
theorem validTree_p (n : Int) (rows : List (List Int)) (v : Value) (RV : List Value) (w : World) (B0 H0 : Nat) (hG : Hid (Grid w B0 H0 v RV rows)) (hH : H0 ≤ w.heap.size) (hrl : rows.length ≤ 1048576) (hrs : ∀ r ∈ rows, r.length ≤ 1048576) (hwf : (Lit.int .i64 n).wf = true) :
    Calls Try.prog 46 #[.int .i64 n, v] w fun e w' => e = .returned (.bool (treeB n rows)) ∧ Below w.heap.size w w' := by
  have C := Lib.hid (treeEdges_p n rows v RV w hG hH hrl hrs hwf)
  obtain ⟨av, cv, rfl⟩ : ∃ a c, v = .slice a RV.length c := by
    obtain ⟨a, c, h, _⟩ := hG.out.1.slice; exact ⟨a, c, h⟩
  clear hG hrs hwf
  go_enter Try.func46, Try.ntmps46
  go_wp2_with fail
  refine C.out.mono ?_
  rintro e w1 ⟨x, rfl, hx, hb⟩
  obtain ⟨t, ht⟩ : ∃ t, t = treeB n rows := ⟨_, rfl⟩
  rw [← ht]
  clear hx C
  go_wp2
  go_ret
  exact ⟨rfl, hb⟩
end Go.Proofs.Ytnepfbellbmgeaa
