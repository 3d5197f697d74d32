/-
  The middle of a tree, as the program finds it: its one center, or both.
  The program's functions on free trees.
  The program's texts of trees, whether they have the same shape, and in how many ways they go to themselves.
  The program's least text of a tree, and whether two trees have the same one.
-/
import Derived.Test.YtafdlilojlmchaaZBP
import Derived.Test.YtafdlilojlmchaaZK
import Derived.Test.YtafdlilojlmchaaZL
import Derived.Test.YtafdlilojlmchaaCNbrs
import Derived.Lib.MinMaxS
namespace Go.Proofs.Ytafdlilojlmchaa
open Go.RowKit

/-- the middle: a center, or an edge of two -/
def midV (L : List Nat) : Value := match L with
  | [a, b] => .iface 103 (.agg #[.int .i64 (a : Int), .int .i64 (b : Int)])
  | L => .iface 102 (.int .i64 (L.headD 0 : Int))
set_option maxHeartbeats 6400000 in
set_option maxRecDepth 100000 in
theorem middle_p (n : Nat) (E : Edges) (hv : Hid (ValidT n E)) (hn7 : n ≤ 7) (tv : Value) (RV : List Value) (w : World) (B0 H0 : Nat) (hG : Hid (Grid w B0 H0 tv RV (nbR n E))) (hH : H0 ≤ w.heap.size) :
    Calls Try.prog 37 #[tv] w fun e w' => e = .returned (midV (cents n E)) ∧ Below w.heap.size w w' := by
  obtain ⟨i0, hi, hz0, hz1, hz2⟩ := info_parts Try.infoIntR
  have hE6 : E.length ≤ 6 := by have := hv.out.len; omega
  have ho : Hid (∀ e ∈ E, e.1 < n ∧ e.2 < n) := fun e he => by have := hv.out.ord e he; omega
  have CL := Lib.hid (fun (u : Nat) (hu : u < n) (W : World) (hW : Below w.heap.size w W) => longest_p n E ho (by omega) 14 u (-1) hu (by omega) (Lib.hid (valid_brn hv.out hn7 u (-1))) tv RV W B0 H0 (Lib.hid (hG.out.below (hW.mono hH))) (Nat.le_trans hH hW.size))
  obtain ⟨at_, ct, rfl, _, hct, _, _⟩ := hG.out.1.slice
  have hgl := hG.out.2.1
  rw [nbR_length] at hgl
  rw [hgl] at CL ⊢
  have C2 := Lib.hid (cents_two hv.out hn7)
  obtain ⟨SZ, hSZ⟩ : ∃ SZ, SZ = w.heap.size := ⟨_, rfl⟩
  have HSZ := Lib.hid hSZ
  rw [← hSZ] at CL
  have O0 : Hid (w.ownsRow SZ 3 1 (.slice none 0 0) 0 (iv (intsN (cfold E n 0).1))) := World.ownsRow_nil _ _ _ _
  clear hG hH hct hgl hSZ hE6
  go_enter Try.func37, Try.ntmps37
  go_wp2_with fail
  go_loopw [3, 4, 5, 6, 11] (fun e3 e4 e5 e6 ii wr => ∃ (k m c best : Nat) (a : Option Addr), k ≤ n ∧ ii = .int .i64 k ∧ e3 = .slice a m c ∧ e4 = .int .i64 (best : Int) ∧ best ≤ n ∧ m ≤ k ∧ Hid ((cfold E n k).2 = best ∧ (cfold E n k).1.length = m) ∧ Hid (wr.ownsRow SZ 3 1 (.slice a m c) m (iv (intsN (cfold E n k).1))) ∧ Hid (Below SZ w wr)) (fun _ _ _ _ ii _ => n - (intOf ii).toNat)
  case atStart => exact ⟨0, 0, 0, n, none, Nat.zero_le _, rfl, rfl, rfl, Nat.le_refl _, Nat.le_refl _, ⟨rfl, rfl⟩, O0, Below.refl _ _⟩
  case round =>
    clear O0
    obtain ⟨k, m, c, best, a, hk, rfl, rfl, rfl, hbn, hmk, HF, HO, HB⟩ := hrel
    by_cases hlt : k < n
    · have b1 : (k : Int) < (n : Int) := by omega
      have CK := CL.out k hlt
      obtain ⟨f, hf⟩ : ∃ f, f = far E 14 k (-1) := ⟨_, rfl⟩
      have hf7 : f ≤ 14 := by rw [hf]; exact far_fuel E 14 k (-1)
      have CF := cfold_next E n k
      unfold cstep at CF
      rw [← hf, HF.out.1] at CF
      rw [← hf] at CK
      have CK := Lib.hid CK
      have CF := Lib.hid CF
      have HWF := Lib.hid (fun (W : World) => wholeFrom_p k W)
      clear hf
      go_wp2_with fail
      refine (HWF.out _).mono ?_
      rintro e w1 ⟨rfl, hb1⟩
      have sR : SZ ≤ wr.heap.size := by have := HB.out.size; rw [HSZ.out]; rw [HSZ.out] at *; exact this
      have BW1 : Hid (Below SZ w w1) := HB.out.trans (hb1.mono sR)
      have HSR := Lib.hid sR
      have HB1 := Lib.hid hb1
      clear hb1 sR HWF
      go_wp2_with fail
      refine (CK.out _ BW1.out).mono ?_
      rintro e w2 ⟨rfl, hb2⟩
      have hb12 : Below wr.heap.size wr w2 := HB1.out.trans (hb2.mono HB1.out.size)
      have BW2 : Hid (Below SZ w w2) := HB.out.trans (hb12.mono HSR.out)
      have HO2 : Hid (w2.ownsRow SZ 3 1 (.slice a m c) m (iv (intsN (cfold E n k).1))) := own_of_blocks HO.out fun q hq => hb12.block q (HO.out.lt q hq).2
      have S2 : Hid (SZ ≤ w2.heap.size) := Nat.le_trans HSR.out hb12.size
      have z1 : m + 1 ≤ maxLen := by unfold maxLen; omega
      have z2 : (m + 1) * 8 ≤ 140737488355328 := by omega
      clear hb2 hb12 HB1 BW1 HSR HO HB CK
      rcases Nat.lt_trichotomy f best with h1 | h1 | h1
      · have d1 : (f : Int) < (best : Int) := by omega
        have CF2 : Hid (cfold E n (k + 1) = ([k], f)) := by show _ = _; rw [CF.out, if_pos h1]
        have S3 : Hid (SZ ≤ (w2.alloc (.cells #[.int .i64 (k : Int)] 3)).heap.size) := by have := S2.out; show _ ≤ _; rw [World.size_alloc]; omega
        have NN : Hid ((w2.alloc (.cells #[.int .i64 (k : Int)] 3)).ownsRow SZ 3 1 (.slice none 0 0) 0 []) := World.ownsRow_nil _ _ _ _
        clear CF HF HO2
        go_wp2_with (at_builtin; refine wpList_append_lies _ rfl (.tmp 25) (.tmp 27) 30 rfl SZ 3 i0 (.int .i64 0) 1 8 Try.underlying30 hi hz0 hz1 hz2 rfl (Nat.succ_pos 0) _ 0 [] rfl NN.out ⟨w2.heap.size, 0, none⟩ 1 1 [.int .i64 (k : Int)] rfl rfl (cell_one_new _ _ _) (one_intR _) (Nat.lt_succ_self 0) (by unfold maxLen; omega) (by omega) S3.out _ rfl ?_)
        intro g5 c5 w5 hv5 hg5 _ _
        have B5 : Hid (Below SZ w w5) := (BW2.out.alloc S2.out _).grown hg5 S3.out (fun q hq => by cases hq)
        have O5 : Hid (w5.ownsRow SZ 3 1 (.slice (some ⟨g5, 0, none⟩) (0 + 1) c5) (0 + 1) (iv (intsN (cfold E n (k + 1)).1))) := by
          show World.ownsRow _ _ _ _ _ _ _
          rw [CF2.out]; exact hv5
        clear hv5 hg5 S2 BW2 S3 NN
        go_wp2
        go_roundw
        case rel => exact ⟨k + 1, 0 + 1, c5, f, _, by omega, by go_num, rfl, rfl, by omega, by omega, ⟨by rw [CF2.out], by rw [CF2.out]; rfl⟩, O5, B5⟩
        case measure => simp [intOf]; omega
      · subst h1
        have CF2 : Hid (cfold E n (k + 1) = ((cfold E n k).1 ++ [k], f)) := by show _ = _; rw [CF.out, if_neg (by omega), if_pos rfl]
        have S3 : Hid (SZ ≤ (w2.alloc (.cells #[.int .i64 (k : Int)] 3)).heap.size) := by have := S2.out; show _ ≤ _; rw [World.size_alloc]; omega
        have HM : Hid ((cfold E n k).1.length = m) := HF.out.2
        clear CF HF
        go_wp2_with (at_builtin; refine wpList_append_lies _ rfl (.tmp 25) (.tmp 27) 30 rfl SZ 3 i0 (.int .i64 0) 1 8 Try.underlying30 hi hz0 hz1 hz2 rfl (Nat.succ_pos 0) _ m (iv (intsN (cfold E n k).1)) rfl (HO2.out.alloc _) ⟨w2.heap.size, 0, none⟩ 1 1 [.int .i64 (k : Int)] rfl rfl (cell_one_new _ _ _) (one_intR _) (Nat.lt_succ_self 0) z1 z2 S3.out _ rfl ?_)
        intro g5 c5 w5 hv5 hg5 _ _
        have B5 : Hid (Below SZ w w5) := (BW2.out.alloc S2.out _).grown hg5 S3.out (fun q hq => (HO2.out.lt q hq).1)
        have O5 : Hid (w5.ownsRow SZ 3 1 (.slice (some ⟨g5, 0, none⟩) (m + 1) c5) (m + 1) (iv (intsN (cfold E n (k + 1)).1))) := by
          show World.ownsRow _ _ _ _ _ _ _
          rw [CF2.out]
          have e : iv (intsN ((cfold E n k).1 ++ [k])) = iv (intsN (cfold E n k).1) ++ [.int .i64 (k : Int)] := by simp [iv, intsN]
          rw [e]; exact hv5
        clear hv5 hg5 S2 BW2 S3 HO2
        go_wp2
        go_roundw
        case rel => exact ⟨k + 1, m + 1, c5, f, _, by omega, by go_num, rfl, rfl, by omega, by omega, ⟨by rw [CF2.out], by rw [CF2.out, List.length_append, HM.out]; rfl⟩, O5, B5⟩
        case measure => simp [intOf]; omega
      · have d1 : ¬ (f : Int) < (best : Int) := by omega
        have d2 : ((f : Int) == (best : Int)) = false := by rw [beq_eq_false_iff_ne]; omega
        have CF2 : Hid (cfold E n (k + 1) = cfold E n k) := by show _ = _; rw [CF.out, if_neg (by omega), if_neg (by omega)]
        clear CF h1
        go_wp2
        go_roundw
        case rel => exact ⟨k + 1, m, c, best, a, by omega, by go_num, rfl, rfl, by omega, by omega, by show _ ∧ _; rw [CF2.out]; exact HF.out, by show World.ownsRow _ _ _ _ _ _ _; rw [CF2.out]; exact HO2.out, BW2⟩
        case measure => simp [intOf]; omega
    · obtain rfl : k = n := by omega
      have HC : Hid ((cfold E k k).1 = cents k E) := rfl
      rw [HC.out] at HO
      have HM : (cents k E).length = m := HF.out.2
      rcases C2.out with ⟨x, hx, hxn⟩ | ⟨x, y, hxy, hlt1, hyn, _⟩
      · have HX := Lib.hid hx
        rw [hx] at HM HO
        have hm : m = 1 := HM.symm
        subst hm
        have e := HO.out
        obtain ⟨g, cap, cur, e1, _⟩ : ∃ g cap cur, (Value.slice a 1 c) = .slice (some ⟨g, 0, none⟩) 1 cap ∧ cur = (0 : Nat) := by
          rcases e.2 with ⟨_, h0⟩ | ⟨g, cap, cur, q, _⟩
          · omega
          · exact ⟨g, cap, 0, q, rfl⟩
        simp only [Value.slice.injEq] at e1
        obtain ⟨rfl, _, rfl⟩ := e1
        have c0 := e.cellAt 0 (by omega)
        replace c0 : wr.cell? ⟨g, 0, none⟩ = some (.int .i64 (x : Int)) := c0
        have HB1 := HB
        clear HF HO e CL C2 HM hx
        go_wp2
        go_ret
        rw [HX.out]
        exact ⟨rfl, by rw [← HSZ.out]; exact HB1.out⟩
      · have HX := Lib.hid hxy
        rw [hxy] at HM HO
        have hm : m = 2 := HM.symm
        subst hm
        have e := HO.out
        obtain ⟨g, cap, cur, e1, _⟩ : ∃ g cap cur, (Value.slice a 2 c) = .slice (some ⟨g, 0, none⟩) 2 cap ∧ cur = (0 : Nat) := by
          rcases e.2 with ⟨_, h0⟩ | ⟨g, cap, cur, q, _⟩
          · omega
          · exact ⟨g, cap, 0, q, rfl⟩
        simp only [Value.slice.injEq] at e1
        obtain ⟨rfl, _, rfl⟩ := e1
        have c0 := e.cellAt 0 (by omega)
        have c1 := e.cellAt 1 (by omega)
        replace c0 : wr.cell? ⟨g, 0, none⟩ = some (.int .i64 (x : Int)) := c0
        replace c1 : wr.cell? ⟨g, 1, none⟩ = some (.int .i64 (y : Int)) := c1
        have HB1 := HB
        clear HF HO e CL C2 HM hxy
        go_wp2_with fail
        go_quiet (fail)
        go_wp2
        go_ret
        rw [HX.out]
        exact ⟨rfl, by rw [← HSZ.out]; exact HB1.out.trans ⟨rfl, rfl, rfl, Nat.le_refl _, fun _ _ => rfl⟩⟩
end Go.Proofs.Ytafdlilojlmchaa

namespace Go.Proofs.Ytafdlilojlmchaa
open Go.RowKit

theorem centersN_p (a : Nat) (w : World) : Calls Try.prog 137 #[.int .i64 (a : Int)] w fun e w' => ∃ v, e = .returned v ∧ Own w' w.heap.size w'.heap.size 3 v (iv (intsN [a])) ∧ Below w.heap.size w w' := by
  go_enter Try.func137, Try.ntmps137
  go_wp2
  go_ret
  refine ⟨_, rfl, ?_, (Below.refl _ _).alloc (Nat.le_refl _) _⟩
  have := lit_own2T w #[.int .i64 (a : Int)] 3 (by unfold maxLen; simp)
  exact this.more (by simp)
theorem centersE_p (a b : Nat) (w : World) : Calls Try.prog 138 #[.agg #[.int .i64 (a : Int), .int .i64 (b : Int)]] w fun e w' => ∃ v, e = .returned v ∧ Own w' w.heap.size w'.heap.size 3 v (iv (intsN [a, b])) ∧ Below w.heap.size w w' := by
  go_enter Try.func138, Try.ntmps138
  go_wp2
  go_ret
  refine ⟨_, rfl, ?_, ((Below.refl _ _).alloc (Nat.le_refl _) _).alloc (by simp) _⟩
  have := lit_own2T (w.alloc (.cells #[.int .i64 (a : Int), .int .i64 (b : Int)] 103)) #[.int .i64 (a : Int), .int .i64 (b : Int)] 3 (by unfold maxLen; simp)
  rw [World.size_alloc] at this
  exact own_lo (this.more (by simp)) (Nat.le_succ _)
theorem methodN (k a : Nat) (w : World) : (method (k + 1) 102 (.int .i64 (a : Int)) "loop.example/shapesoftrees/impl.centers").run Try.prog w = .ok (137, .int .i64 (a : Int)) w := by kernel_rfl
theorem methodE (k a b : Nat) (w : World) : (method (k + 1) 103 (.agg #[.int .i64 (a : Int), .int .i64 (b : Int)]) "loop.example/shapesoftrees/impl.centers").run Try.prog w = .ok (138, .agg #[.int .i64 (a : Int), .int .i64 (b : Int)]) w := by kernel_rfl
set_option maxHeartbeats 1600000 in
set_option maxRecDepth 100000 in
theorem centersOf_p (n : Nat) (rows : List (List Int)) (v : Value) (RV : List Value) (w : World) {B0 H0 : Nat} (hG : Hid (Grid w B0 H0 v RV rows)) (hH : H0 ≤ w.heap.size) (hrl : rows.length ≤ 1048576) (hrs : ∀ r ∈ rows, r.length ≤ 1048576) (ht : Hid (treeB (n : Int) rows = true)) :
    Calls Try.prog 19 #[.int .i64 (n : Int), v] w fun e w' => ∃ v, e = .returned v ∧ Own w' w.heap.size w'.heap.size 3 v (iv (intsN (cents n (edgesR rows)))) ∧ Below w.heap.size w w' := by
  have CN := Lib.hid (treeNb_yes n rows v RV w hG hH hrl hrs ht)
  obtain ⟨hn, _, hv3⟩ := treeB_iff.1 ht.out
  rw [Int.toNat_natCast] at hv3
  have HV := Lib.hid hv3
  have hn7 : n ≤ 7 := by omega
  obtain ⟨av, cv, rfl⟩ : ∃ a c, v = .slice a RV.length c := by
    obtain ⟨a, c, h, _⟩ := hG.out.1.slice; exact ⟨a, c, h⟩
  obtain ⟨E, hE⟩ : ∃ E, E = edgesR rows := ⟨_, rfl⟩
  rw [← hE] at CN HV ⊢
  have C2 := Lib.hid (cents_two HV.out hn7)
  clear hG hrs hE ht hv3 hn hrl hH
  go_enter Try.func19, Try.ntmps19
  go_wp2_with fail
  refine CN.out.mono ?_
  rintro e w1 ⟨x, RV1, rfl, hx, hb1⟩
  have CM := Lib.hid (middle_p n E HV hn7 x RV1 w1 _ _ (Lib.hid hx) (Nat.le_refl _))
  obtain ⟨ax, cx, rfl⟩ : ∃ a c, x = .slice a RV1.length c := by
    obtain ⟨a, c, h, _⟩ := hx.1.slice; exact ⟨a, c, h⟩
  have HB1 := Lib.hid hb1
  clear hx hb1 CN
  rcases C2.out with ⟨a, hc, _⟩ | ⟨a, b, hc, _, _, _⟩
  · have HX := Lib.hid hc
    rw [hc] at CM
    have CM : Hid (Calls Try.prog 37 #[.slice ax RV1.length cx] w1 fun e w' => e = .returned (.iface 102 (.int .i64 (a : Int))) ∧ Below w1.heap.size w1 w') := CM
    have hm : ∀ (k : Nat) (w : World), (method (k + 1) 102 (.int .i64 (a : Int)) "loop.example/shapesoftrees/impl.centers").run Try.prog w = .ok (137, .int .i64 (a : Int)) w := fun k w => methodN k a w
    clear C2 hc
    go_wp2_with fail
    refine CM.out.mono ?_
    rintro e w2 ⟨rfl, hb2⟩
    have HB2 : Hid (Below w.heap.size w w2) := HB1.out.trans (hb2.mono HB1.out.size)
    have CC := Lib.hid (centersN_p a w2)
    clear hb2 CM
    go_wp2_with fail
    refine CC.out.mono ?_
    rintro e w3 ⟨y, rfl, hy, hb3⟩
    have HY := Lib.hid (own_lo hy HB2.out.size)
    have HB3 : Hid (Below w.heap.size w w3) := HB2.out.trans (hb3.mono HB2.out.size)
    clear hy hb3 CC hm
    go_wp2
    go_ret
    exact ⟨_, rfl, by rw [HX.out]; exact HY.out, HB3.out⟩
  · have HX := Lib.hid hc
    rw [hc] at CM
    have CM : Hid (Calls Try.prog 37 #[.slice ax RV1.length cx] w1 fun e w' => e = .returned (.iface 103 (.agg #[.int .i64 (a : Int), .int .i64 (b : Int)])) ∧ Below w1.heap.size w1 w') := CM
    have hm : ∀ (k : Nat) (w : World), (method (k + 1) 103 (.agg #[.int .i64 (a : Int), .int .i64 (b : Int)]) "loop.example/shapesoftrees/impl.centers").run Try.prog w = .ok (138, .agg #[.int .i64 (a : Int), .int .i64 (b : Int)]) w := fun k w => methodE k a b w
    clear C2 hc
    go_wp2_with fail
    refine CM.out.mono ?_
    rintro e w2 ⟨rfl, hb2⟩
    have HB2 : Hid (Below w.heap.size w w2) := HB1.out.trans (hb2.mono HB1.out.size)
    have CC := Lib.hid (centersE_p a b w2)
    clear hb2 CM
    go_wp2_with fail
    refine CC.out.mono ?_
    rintro e w3 ⟨y, rfl, hy, hb3⟩
    have HY := Lib.hid (own_lo hy HB2.out.size)
    have HB3 : Hid (Below w.heap.size w w3) := HB2.out.trans (hb3.mono HB2.out.size)
    clear hy hb3 CC hm
    go_wp2
    go_ret
    exact ⟨_, rfl, by rw [HX.out]; exact HY.out, HB3.out⟩
end Go.Proofs.Ytafdlilojlmchaa

namespace Go.Proofs.Ytafdlilojlmchaa
open Go.RowKit

theorem wf_nat {n : Nat} {w : World} (_ : w = w) (h : n ≤ 7) : (Lit.int .i64 (n : Int)).wf = true := wf_smallC2 n (by omega)

/-! ### not a tree -/
set_option maxHeartbeats 800000 in
theorem centersOf_any (n : Int) (rows : List (List Int)) (v : Value) (RV : List Value) (w : World) {B0 H0 : Nat} (hG : Hid (Grid w B0 H0 v RV rows)) (hH : H0 ≤ w.heap.size) (hrl : rows.length ≤ 1048576) (hrs : ∀ r ∈ rows, r.length ≤ 1048576) (hwf : (Lit.int .i64 n).wf = true) :
    Calls Try.prog 19 #[.int .i64 n, v] w fun e w' => ∃ v, e = .returned v ∧ Own w' w.heap.size w'.heap.size 3 v (iv (centsOut n rows)) ∧ Below w.heap.size w w' := by
  cases ht : treeB n rows with
  | true =>
    have h := (treeB_iff.1 ht).1
    obtain ⟨N, rfl⟩ : ∃ N : Nat, n = N := ⟨n.toNat, by omega⟩
    rw [centsOut, if_pos ht, Int.toNat_natCast]
    exact centersOf_p N rows v RV w hG hH hrl hrs ht
  | false =>
    rw [centsOut, if_neg (by rw [ht]; decide)]
    have CN := Lib.hid (treeNb_no n rows v RV w hG hH hrl hrs hwf ht)
    obtain ⟨av, cv, rfl⟩ : ∃ a c, v = .slice a RV.length c := by
      obtain ⟨a, c, h, _⟩ := hG.out.1.slice; exact ⟨a, c, h⟩
    clear hG hrs hrl hH ht
    go_enter Try.func19, Try.ntmps19
    go_wp2_with fail
    refine CN.out.mono ?_
    rintro e w1 ⟨rfl, hb1⟩
    have HB1 := Lib.hid hb1
    clear hb1 CN
    go_wp2
    go_ret
    exact ⟨_, rfl, ⟨World.ownsRow_nil _ _ _ _, fun g hg => by simp [Value.ownBlock] at hg⟩, HB1.out⟩

/-! ### texts -/
end Go.Proofs.Ytafdlilojlmchaa

namespace Go.Proofs.Ytafdlilojlmchaa
open Go.RowKit

/-- the middle's method, whatever the middle is -/
theorem mid_has {n : Nat} {E : Edges} (h : (∃ a, cents n E = [a] ∧ a < n) ∨ ∃ a b, cents n E = [a, b] ∧ a < b ∧ b < n ∧ (a, b) ∈ E) :
    ∃ (T : TypeId) (V : Value) (F : FuncId), midV (cents n E) = .iface T V ∧ (∀ (k : Nat) (w : World), (method (k + 1) T V "loop.example/shapesoftrees/impl.centers").run Try.prog w = .ok (F, V) w) ∧
      (∀ (args : Array Value) (w : World), (callFunc F args).run Try.prog w = .ok (.enter F args) w) ∧
      ∀ w, Calls Try.prog F #[V] w fun e w' => ∃ v, e = .returned v ∧ Own w' w.heap.size w'.heap.size 3 v (iv (intsN (cents n E))) ∧ Below w.heap.size w w' := by
  rcases h with ⟨a, h, _⟩ | ⟨a, b, h, _⟩
  · rw [h]; exact ⟨_, _, _, rfl, fun k w => methodN k a w, enters_of Try.func137 (by kernel_rfl) rfl, fun w => centersN_p a w⟩
  · rw [h]; exact ⟨_, _, _, rfl, fun k w => methodE k a b w, enters_of Try.func138 (by kernel_rfl) rfl, fun w => centersE_p a b w⟩
theorem txtsC_next {E : Edges} {L : List Nat} {M : List (List UInt8)} (hM : M = L.map fun c => txt E 14 c (-1)) {k : Nat} (hk : k < L.length) : M.take (k + 1) = M.take k ++ [txt E 14 L[k] (-1)] := by
  subst hM
  rw [List.take_succ_eq_append_getElem (by rw [List.length_map]; exact hk), List.getElem_map]
set_option maxHeartbeats 3200000 in
set_option maxRecDepth 100000 in
theorem freeText_yes (n : Nat) (rows : List (List Int)) (v : Value) (RV : List Value) (w : World) {B0 H0 : Nat} (hG : Hid (Grid w B0 H0 v RV rows)) (hH : H0 ≤ w.heap.size) (hrl : rows.length ≤ 1048576) (hrs : ∀ r ∈ rows, r.length ≤ 1048576) (ht : Hid (treeB (n : Int) rows = true)) :
    Calls Try.prog 30 #[.int .i64 (n : Int), v] w fun e w' => e = .returned (.string ⟨(freeT n (edgesR rows)).toArray⟩) ∧ Below w.heap.size w w' := by
  obtain ⟨i0, hi, hz0, hz1, hz2⟩ := info_parts Try.infoStr
  have CN := Lib.hid (treeNb_yes n rows v RV w hG hH hrl hrs ht)
  obtain ⟨hn, _, hv3⟩ := treeB_iff.1 ht.out
  rw [Int.toNat_natCast] at hv3
  have HV := Lib.hid hv3
  have hn7 : n ≤ 7 := by omega
  obtain ⟨av, cv, rfl⟩ : ∃ a c, v = .slice a RV.length c := by
    obtain ⟨a, c, h, _⟩ := hG.out.1.slice; exact ⟨a, c, h⟩
  obtain ⟨E, hE⟩ : ∃ E, E = edgesR rows := ⟨_, rfl⟩
  rw [← hE] at CN HV ⊢
  have hc2 := cents_two HV.out hn7
  have hLn : Hid (∀ c ∈ cents n E, c < n) := fun c hc => by
    rcases hc2 with ⟨a, h, h1⟩ | ⟨a, b, h, h1, h2, _⟩
    · rw [h] at hc; simp at hc; omega
    · rw [h] at hc; simp at hc; omega
  have hL2 : Hid (1 ≤ (cents n E).length ∧ (cents n E).length ≤ 2) := by
    rcases hc2 with ⟨a, h, h1⟩ | ⟨a, b, h, h1, h2, _⟩ <;> (rw [h]; exact ⟨by simp, by simp⟩)
  obtain ⟨T, V, F, hmid, hm, hen, hcc⟩ := mid_has hc2
  have HMID := Lib.hid hmid
  have HCC := Lib.hid hcc
  have FT := Lib.hid (freeT_eq n E)
  obtain ⟨L, hL⟩ : ∃ L, L = cents n E := ⟨_, rfl⟩
  rw [← hL] at hLn hL2 HCC FT HMID
  have HLe := Lib.hid hL
  clear hG hrs hE ht hv3 hn hrl hH hc2 hmid hcc hL
  go_enter Try.func30, Try.ntmps30
  go_wp2_with fail
  refine CN.out.mono ?_
  rintro e w1 ⟨x, RV1, rfl, hx, hb1⟩
  have CM := Lib.hid (middle_p n E HV hn7 x RV1 w1 _ _ (Lib.hid hx) (Nat.le_refl _))
  rw [← HLe.out, HMID.out] at CM
  have ho : Hid (∀ e ∈ E, e.1 < n ∧ e.2 < n) := fun e he => by have := HV.out.ord e he; omega
  have hE6 : E.length ≤ 6 := by have := HV.out.len; omega
  have CT := Lib.hid (fun (u : Nat) (hu : u < n) (W : World) (hW : Below w1.heap.size w1 W) => text_p n E ho (by omega) 14 u (-1) hu (by omega) (Lib.hid (valid_brn HV.out hn7 u (-1))) (by rw [nd_len HV.out hn7 hu]; omega) x RV1 W w.heap.size w1.heap.size (Lib.hid (hx.below hW)) hW.size)
  obtain ⟨ax, cx, rfl⟩ : ∃ a c, x = .slice a RV1.length c := by
    obtain ⟨a, c, h, _⟩ := hx.1.slice; exact ⟨a, c, h⟩
  have HB1 := Lib.hid hb1
  clear hx hb1 CN hE6
  go_wp2_with fail
  refine CM.out.mono ?_
  rintro e w2 ⟨rfl, hb2⟩
  have HB2 := Lib.hid hb2
  clear hb2 CM
  go_wp2_with fail
  refine (HCC.out w2).mono ?_
  rintro e w3 ⟨y, rfl, hy, hb3⟩
  have HB3 : Hid (Below w1.heap.size w1 w3) := HB2.out.trans (hb3.mono HB2.out.size)
  obtain ⟨ay, cy, rfl, _⟩ := hy.slice
  have hiL : (iv (intsN L)).length = L.length := by simp [iv, intsN]
  rw [hiL] at hy ⊢
  obtain ⟨m, hm'⟩ : ∃ m, m = L.length := ⟨_, rfl⟩
  have HM := Lib.hid hm'
  rw [← hm'] at hy hL2 ⊢
  have HY := Lib.hid hy
  obtain ⟨C, hC⟩ : ∃ C, C = w3.heap.size := ⟨_, rfl⟩
  have HC := Lib.hid hC
  obtain ⟨hm1, hm2⟩ := hL2.out
  obtain ⟨M, hMt⟩ : ∃ M, M = L.map fun c => txt E 14 c (-1) := ⟨_, rfl⟩
  have HMt := Lib.hid hMt
  rw [← hMt] at FT
  have O0 : Hid (w3.ownsRow C 9 1 (.slice none 0 0) 0 (sv (M.take 0))) := World.ownsRow_nil _ _ _ _
  clear hy hb3 HCC hiL hm hen hm' HMID hC hMt
  go_wp2_with fail
  go_loopw [7, 9, 22] (fun e7 e9 ii wr => ∃ (k : Nat) (a : Option Addr) (c : Nat), k ≤ m ∧ ii = .int .i64 k ∧ e7 = .slice a k c ∧ Hid (wr.ownsRow C 9 1 (.slice a k c) k (sv (M.take k))) ∧ Hid (Below C w3 wr)) (fun _ _ ii _ => m - (intOf ii).toNat)
  case atStart => exact ⟨0, none, 0, Nat.zero_le _, rfl, rfl, O0, Below.refl _ _⟩
  case round =>
    clear O0
    obtain ⟨k, a, c, hk, rfl, rfl, HO, HB⟩ := hrel
    by_cases hlt : k < m
    · have b1 : (k : Int) < (m : Int) := by omega
      have hkL : k < L.length := by rw [← HM.out]; exact hlt
      obtain ⟨g, rfl, _, hgl, c0, _⟩ := HY.out.at_ k (by simp [iv, intsN]; exact hkL)
      have c1 := (HB.out.cell (p := ⟨g, k, none⟩) (by rw [HC.out]; exact hgl)).trans c0
      have FN := txtsC_next HMt.out hkL
      have hu := hLn.out _ (List.getElem_mem hkL)
      have e1 : (iv (intsN L))[k]? = some (.int .i64 ((L[k] : Nat) : Int)) := by simp [iv, intsN, hkL]
      rw [e1] at c1
      obtain ⟨u, huu⟩ : ∃ u, u = L[k] := ⟨_, rfl⟩
      rw [← huu] at c1 FN hu
      have CX := CT.out u hu
      obtain ⟨f, hf⟩ : ∃ f, f = txt E 14 u (-1) := ⟨_, rfl⟩
      rw [← hf] at FN CX
      have CX := Lib.hid CX
      have FN : Hid (sv (M.take (k + 1)) = sv (M.take k) ++ [.string ⟨f.toArray⟩]) := by show _ = _; rw [FN, sv_snoc]
      have HWF := Lib.hid (fun (W : World) => wholeFrom_p u W)
      have sC : Hid (C ≤ wr.heap.size) := by have := HB.out.size; show _ ≤ _; rw [HC.out]; rw [HC.out] at *; exact this
      have sW : Hid (w1.heap.size ≤ C) := by have := HB3.out.size; show _ ≤ _; rw [HC.out]; exact this
      have z1 : k + 1 ≤ maxLen := by unfold maxLen; omega
      have z2 : (k + 1) * 16 ≤ 140737488355328 := by omega
      clear huu hf hkL c0 e1 hgl CT
      go_wp2_with fail
      refine (HWF.out _).mono ?_
      rintro e w4 ⟨rfl, hb4⟩
      have HB4 := Lib.hid hb4
      have BW4 : Hid (Below w1.heap.size w1 w4) := HB3.out.trans ((HB.out.trans (hb4.mono sC.out)).mono sW.out)
      clear hb4 HWF
      go_wp2_with fail
      refine (CX.out _ BW4.out).mono ?_
      rintro e w5 ⟨rfl, hb5⟩
      have hb35 : Below wr.heap.size wr w5 := HB4.out.trans (hb5.mono HB4.out.size)
      have HBx : Hid (Below C w3 w5) := HB.out.trans (hb35.mono sC.out)
      have HO3 : Hid (w5.ownsRow C 9 1 (.slice a k c) k (sv (M.take k))) := own_of_blocks HO.out fun q hq => hb35.block q (HO.out.lt q hq).2
      have Y3 : Hid (∀ o : Obj, C ≤ (w5.alloc o).heap.size) := fun o => by have := hb35.size; have := sC.out; rw [World.size_alloc]; omega
      have Y4 : Hid (∀ o : Obj, (w5.alloc o).heap.size = w5.heap.size + 1) := fun o => World.size_alloc _ _
      have sC2 : Hid (C ≤ w5.heap.size) := Nat.le_trans sC.out hb35.size
      clear hb5 hb35 HB HO CX c1 BW4 sC HB4
      go_wp2_with (at_builtin; refine wpList_append_lies _ rfl (.tmp 26) (.tmp 31) 89 rfl C 9 i0 (.string ⟨#[]⟩) 1 16 Try.underlying89 hi hz0 hz1 hz2 rfl (by decide) _ k (sv (M.take k)) rfl (HO3.out.alloc _) ⟨w5.heap.size, 0, none⟩ 1 1 [_] rfl rfl (cell_one_new _ _ _) (one_str _) (by decide) z1 z2 (Y3.out _) (w5.heap.size + 1) (Y4.out _) ?_)
      intro g5 c5 w6 hv5 hg5 _ _
      have HO5 : Hid (w6.ownsRow C 9 1 (.slice (some ⟨g5, 0, none⟩) (k + 1) c5) (k + 1) (sv (M.take (k + 1)))) := by
        show World.ownsRow _ _ _ _ _ _ _
        rw [FN.out]; exact hv5
      have HB5 : Hid (Below C w3 w6) := (HBx.out.alloc sC2.out _).grown hg5 (Y3.out _) (fun q hq => (HO3.out.lt q hq).1)
      clear hv5 hg5 HBx HO3 Y3 Y4 sC2
      go_wp2
      go_roundw
      case rel => exact ⟨k + 1, _, _, by omega, by go_num, rfl, HO5, HB5⟩
      case measure => simp [intOf]; omega
    · obtain rfl : k = m := by omega
      have hMl : M.length = k := by rw [HMt.out, List.length_map, HM.out]
      have hfull : M.take k = M := by rw [← hMl, List.take_length]
      rw [hfull] at HO
      rcases HO.out.2 with ⟨hnil, h0⟩ | ⟨g, cap, cur, hsl, hbase, hb, q1, q2, q3, q4⟩
      · omega
      · simp only [Value.slice.injEq] at hsl
        obtain ⟨rfl, _, rfl⟩ := hsl
        have CMin := Try.slices_Min_string g 0 k c (M.map bs) wr (by omega) (by rw [List.length_map, hMl]; exact Nat.le_refl _) (by omega) (fun j hj => by
          rw [List.length_map] at hj
          rw [Nat.zero_add]
          refine (HO.out.cellAt j (by omega)).trans ?_
          rw [List.getD_eq_getElem?_getD]
          simp [sv, bs, hj])
        rw [List.take_of_length_le (by rw [List.length_map, hMl]; exact Nat.le_refl _), minOf_bs (by intro e; rw [e] at hMl; simp at hMl; omega)] at CMin
        rw [← FT.out] at CMin
        have CMin := Lib.hid CMin
        have BF : Hid (Below w.heap.size w wr) := HB1.out.trans ((HB3.out.trans (HB.out.mono (by have := HB3.out.size; rw [HC.out]; exact this))).mono HB1.out.size)
        clear hfull hMl hb q1 q2 q3 q4 hbase HO HB HB3 HB2
        go_wp2_with (go_at_call 58; refine CMin.out.mono ?_; rintro e w7 ⟨rfl, rfl⟩)
        go_ret
        exact ⟨rfl, BF.out⟩
set_option maxHeartbeats 800000 in
theorem freeText_any (n : Int) (rows : List (List Int)) (v : Value) (RV : List Value) (w : World) {B0 H0 : Nat} (hG : Hid (Grid w B0 H0 v RV rows)) (hH : H0 ≤ w.heap.size) (hrl : rows.length ≤ 1048576) (hrs : ∀ r ∈ rows, r.length ≤ 1048576) (hwf : (Lit.int .i64 n).wf = true) :
    Calls Try.prog 30 #[.int .i64 n, v] w fun e w' => e = .returned (.string ⟨(freeOut n rows).toArray⟩) ∧ Below w.heap.size w w' := by
  cases ht : treeB n rows with
  | true =>
    have h := (treeB_iff.1 ht).1
    obtain ⟨N, rfl⟩ : ∃ N : Nat, n = N := ⟨n.toNat, by omega⟩
    rw [freeOut, if_pos ht, Int.toNat_natCast]
    exact freeText_yes N rows v RV w hG hH hrl hrs ht
  | false =>
    rw [freeOut, if_neg (by rw [ht]; decide)]
    have CN := Lib.hid (treeNb_no n rows v RV w hG hH hrl hrs hwf ht)
    obtain ⟨av, cv, rfl⟩ : ∃ a c, v = .slice a RV.length c := by
      obtain ⟨a, c, h, _⟩ := hG.out.1.slice; exact ⟨a, c, h⟩
    clear hG hrs hrl hH ht
    go_enter Try.func30, Try.ntmps30
    go_wp2_with fail
    refine CN.out.mono ?_
    rintro e w1 ⟨rfl, hb1⟩
    have HB1 := Lib.hid hb1
    clear hb1 CN
    go_wp2
    go_ret
    exact ⟨rfl, HB1.out⟩
end Go.Proofs.Ytafdlilojlmchaa
