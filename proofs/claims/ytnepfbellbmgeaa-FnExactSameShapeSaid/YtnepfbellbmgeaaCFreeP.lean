/-
  The program's functions on free trees.
-/
import Derived.Test.YtnepfbellbmgeaaCMid
import Derived.Test.YtnepfbellbmgeaaCMaps
import Derived.Test.YtnepfbellbmgeaaCNbrs
namespace Go.Proofs.Ytnepfbellbmgeaa
open Go.RowKit

theorem centersN_p (a : Nat) (w : World) : Calls Try.prog 151 #[.int .i64 (a : Int)] w fun e w' => ∃ v, e = .returned v ∧ Own w' w.heap.size w'.heap.size 3 v (iv (intsN [a])) ∧ Below w.heap.size w w' := by
  go_enter Try.func151, Try.ntmps151
  go_wp2
  go_ret
  refine ⟨_, rfl, ?_, (Below.refl _ _).alloc (Nat.le_refl _) _⟩
  have := lit_own2T w #[.int .i64 (a : Int)] 3 (by unfold maxLen; simp)
  exact this.more (by simp)
theorem centersE_p (a b : Nat) (w : World) : Calls Try.prog 150 #[.agg #[.int .i64 (a : Int), .int .i64 (b : Int)]] w fun e w' => ∃ v, e = .returned v ∧ Own w' w.heap.size w'.heap.size 3 v (iv (intsN [a, b])) ∧ Below w.heap.size w w' := by
  go_enter Try.func150, Try.ntmps150
  go_wp2
  go_ret
  refine ⟨_, rfl, ?_, ((Below.refl _ _).alloc (Nat.le_refl _) _).alloc (by simp) _⟩
  have := lit_own2T (w.alloc (.cells #[.int .i64 (a : Int), .int .i64 (b : Int)] 76)) #[.int .i64 (a : Int), .int .i64 (b : Int)] 3 (by unfold maxLen; simp)
  rw [World.size_alloc] at this
  exact own_lo (this.more (by simp)) (Nat.le_succ _)
theorem methodN (k a : Nat) (w : World) : (method (k + 1) 77 (.int .i64 (a : Int)) "loop.example/shapesoftrees/impl.centers").run Try.prog w = .ok (151, .int .i64 (a : Int)) w := by kernel_rfl
theorem methodE (k a b : Nat) (w : World) : (method (k + 1) 76 (.agg #[.int .i64 (a : Int), .int .i64 (b : Int)]) "loop.example/shapesoftrees/impl.centers").run Try.prog w = .ok (150, .agg #[.int .i64 (a : Int), .int .i64 (b : Int)]) w := by kernel_rfl
set_option maxHeartbeats 1600000 in
set_option maxRecDepth 100000 in
theorem centersOf_p (n : Nat) (rows : List (List Int)) (v : Value) (RV : List Value) (w : World) {B0 H0 : Nat} (hG : Hid (Grid w B0 H0 v RV rows)) (hH : H0 ≤ w.heap.size) (hrl : rows.length ≤ 1048576) (hrs : ∀ r ∈ rows, r.length ≤ 1048576) (ht : Hid (treeB (n : Int) rows = true)) :
    Calls Try.prog 13 #[.int .i64 (n : Int), v] w fun e w' => ∃ v, e = .returned v ∧ Own w' w.heap.size w'.heap.size 3 v (iv (intsN (cents n (edgesR rows)))) ∧ Below w.heap.size w w' := by
  have CN := Lib.hid (treeNb_yes n rows v RV w hG hH hrl hrs ht)
  obtain ⟨hn, _, hv3⟩ := treeB_iff.1 ht.out
  rw [Int.toNat_natCast] at hv3
  have HV := Lib.hid hv3
  have hn7 : n ≤ 7 := by omega
  obtain ⟨av, cv, rfl⟩ : ∃ a c, v = .slice a RV.length c := by
    obtain ⟨a, c, h, _⟩ := hG.out.1.slice; exact ⟨a, c, h⟩
  obtain ⟨E, hE⟩ : ∃ E, E = edgesR rows := ⟨_, rfl⟩
  rw [← hE] at CN HV ⊢
  have C2 := Lib.hid (cents_two HV.out hn7)
  clear hG hrs hE ht hv3 hn hrl hH
  go_enter Try.func13, Try.ntmps13
  go_wp2_with fail
  refine CN.out.mono ?_
  rintro e w1 ⟨x, RV1, rfl, hx, hb1⟩
  have CM := Lib.hid (middle_p n E HV hn7 x RV1 w1 _ _ (Lib.hid hx) (Nat.le_refl _))
  obtain ⟨ax, cx, rfl⟩ : ∃ a c, x = .slice a RV1.length c := by
    obtain ⟨a, c, h, _⟩ := hx.1.slice; exact ⟨a, c, h⟩
  have HB1 := Lib.hid hb1
  clear hx hb1 CN
  rcases C2.out with ⟨a, hc, _⟩ | ⟨a, b, hc, _, _, _⟩
  · have HX := Lib.hid hc
    rw [hc] at CM
    have CM : Hid (Calls Try.prog 39 #[.slice ax RV1.length cx] w1 fun e w' => e = .returned (.iface 77 (.int .i64 (a : Int))) ∧ Below w1.heap.size w1 w') := CM
    have hm : ∀ (k : Nat) (w : World), (method (k + 1) 77 (.int .i64 (a : Int)) "loop.example/shapesoftrees/impl.centers").run Try.prog w = .ok (151, .int .i64 (a : Int)) w := fun k w => methodN k a w
    clear C2 hc
    go_wp2_with fail
    refine CM.out.mono ?_
    rintro e w2 ⟨rfl, hb2⟩
    have HB2 : Hid (Below w.heap.size w w2) := HB1.out.trans (hb2.mono HB1.out.size)
    have CC := Lib.hid (centersN_p a w2)
    clear hb2 CM
    go_wp2_with fail
    refine CC.out.mono ?_
    rintro e w3 ⟨y, rfl, hy, hb3⟩
    have HY := Lib.hid (own_lo hy HB2.out.size)
    have HB3 : Hid (Below w.heap.size w w3) := HB2.out.trans (hb3.mono HB2.out.size)
    clear hy hb3 CC hm
    go_wp2
    go_ret
    exact ⟨_, rfl, by rw [HX.out]; exact HY.out, HB3.out⟩
  · have HX := Lib.hid hc
    rw [hc] at CM
    have CM : Hid (Calls Try.prog 39 #[.slice ax RV1.length cx] w1 fun e w' => e = .returned (.iface 76 (.agg #[.int .i64 (a : Int), .int .i64 (b : Int)])) ∧ Below w1.heap.size w1 w') := CM
    have hm : ∀ (k : Nat) (w : World), (method (k + 1) 76 (.agg #[.int .i64 (a : Int), .int .i64 (b : Int)]) "loop.example/shapesoftrees/impl.centers").run Try.prog w = .ok (150, .agg #[.int .i64 (a : Int), .int .i64 (b : Int)]) w := fun k w => methodE k a b w
    clear C2 hc
    go_wp2_with fail
    refine CM.out.mono ?_
    rintro e w2 ⟨rfl, hb2⟩
    have HB2 : Hid (Below w.heap.size w w2) := HB1.out.trans (hb2.mono HB1.out.size)
    have CC := Lib.hid (centersE_p a b w2)
    clear hb2 CM
    go_wp2_with fail
    refine CC.out.mono ?_
    rintro e w3 ⟨y, rfl, hy, hb3⟩
    have HY := Lib.hid (own_lo hy HB2.out.size)
    have HB3 : Hid (Below w.heap.size w w3) := HB2.out.trans (hb3.mono HB2.out.size)
    clear hy hb3 CC hm
    go_wp2
    go_ret
    exact ⟨_, rfl, by rw [HX.out]; exact HY.out, HB3.out⟩
end Go.Proofs.Ytnepfbellbmgeaa
