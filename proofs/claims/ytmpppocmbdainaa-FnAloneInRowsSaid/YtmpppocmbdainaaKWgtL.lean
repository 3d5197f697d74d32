/-
  The walks of laws of weights, with the program's functions as premises.
-/
import Derived.Test.YtmpppocmbdainaaZAW
import Derived.Test.YtmpppocmbdainaaZBT
import Derived.Test.YtmpppocmbdainaaZDR
import Derived.Test.YtmpppocmbdainaaWCodeF
import Derived.Test.YtmpppocmbdainaaZW
import Derived.Test.YtmpppocmbdainaaKHalfL
namespace Go.Proofs.Ytmpppocmbdainaa
open Go.RowKit

theorem treeV_or (n : Int) (rows : List (List Int)) : (∀ g, treeV g n rows = -1) ∨ ∃ N : Nat, n = (N : Int) ∧ TreeS N (edgesR rows) ∧ rows = rowsE (edgesR rows) ∧ ∀ g, treeV g n rows = ((g N (edgesR rows) : Nat) : Int) := by
  cases ht : treeB n rows with
  | true =>
    obtain ⟨h1, h2⟩ := rowsE_tree ht
    refine .inr ⟨n.toNat, by have := (treeB_iff.1 ht).1; omega, h2, h1, fun g => by rw [treeV, if_pos ht]⟩
  | false => exact .inl fun g => by rw [treeV, if_neg (by rw [ht]; decide)]
theorem TreeFn.at_ {f : FuncId} {val : Int → List (List Int) → Int} (h : TreeFn f val) {n : Int} {rows : List (List Int)} (hrl : rows.length ≤ 1048576) (hrs : ∀ r ∈ rows, r.length ≤ 1048576) (hwf : (Lit.int .i64 n).wf = true) :
    Hid (∀ (v : Value) (RV : List Value) (w : World) (B0 H0 : Nat), Hid (Grid w B0 H0 v RV rows) → H0 ≤ w.heap.size → Calls Try.prog f #[.int .i64 n, v] w fun e w' => e = .returned (.int .i64 (val n rows)) ∧ Below w.heap.size w w') :=
  fun v RV w B0 H0 hG hH => h n rows v RV w B0 H0 hG hH hrl hrs hwf
set_option maxHeartbeats 3200000 in
set_option maxRecDepth 100000 in
theorem fnWaysOf_law (PF : TreeFn 28 (treeV waysN)) (PE : TreeFn 30 (treeV edgN)) (a : Option Addr) (len cap : Nat) (zs : List Int) (w : World) (hr0 : IsRow .u8 w a len cap zs) :
    Calls Try.prog 7 #[.slice a len cap] w fun e w' => e = .returned (.bool true) ∧ Below w.heap.size w w' := by
  have hr := Lib.hid hr0
  clear hr0
  by_cases hbig : (1048576 : Int) < (len : Int)
  · go_enter Try.func7, Try.ntmps7
    go_wp2
    go_ret
    exact ⟨rfl, Below.refl _ _⟩
  · go_enter Try.func7, Try.ntmps7
    go_wp2_with fail
    refine (drawWaysOf a len cap zs w hr (by omega)).mono ?_
    rintro e w1 ⟨n, rows, v, RV, rfl, g1, hn, hl, hr2, b1⟩
    have hwf : (Lit.int .i64 n).wf = true := wf_smallC n (by omega)
    have G1 := Lib.hid g1
    have B1 := Lib.hid b1
    have hrs : ∀ r ∈ rows, r.length ≤ 1048576 := fun r h => by rw [hr2 r h]; decide
    have hrl : rows.length ≤ 1048576 := by omega
    have CF := PF.at_ hrl hrs hwf
    have CS := specWaysOf_any.at_ hrl hrs hwf
    have CE := PE.at_ hrl hrs hwf
    obtain ⟨av, cv, rfl, _, _, _, _⟩ := g1.1.slice
    have s01 := b1.size
    have r0 : Hid (w1.heap.size ≤ w1.heap.size) := Nat.le_refl _
    rcases treeV_or n rows with hno | ⟨N, rfl, hT, hre, hyes⟩
    · simp only [hno] at CF CS
      clear g1 b1 hr hrs hl hr2 hn hwf hno PF PE CE
      go_wp2_with fail
      refine (CF.out _ RV w1 _ _ G1 r0.out).mono ?_
      rintro e w2 ⟨rfl, b2⟩
      have G2 := Lib.hid (G1.out.below b2)
      have B2 := Lib.hid (B1.out.trans (b2.mono s01))
      have S12 := Lib.hid b2.size
      clear b2 CF
      go_wp2_with fail
      refine (CS.out _ RV w2 _ _ G2 S12.out).mono ?_
      rintro e w3 ⟨rfl, b3⟩
      have G3 := Lib.hid (G2.out.below (b3.mono S12.out))
      have B3 := Lib.hid (B2.out.trans (b3.mono (Nat.le_trans s01 S12.out)))
      have S13 := Lib.hid (Nat.le_trans S12.out b3.size)
      clear b3 G2 B2 S12
      go_wp2_with fail
      refine (CS.out _ RV w3 _ _ G3 S13.out).mono ?_
      rintro e w6 ⟨rfl, b6⟩
      have B6 := Lib.hid (B3.out.trans (b6.mono (Nat.le_trans s01 S13.out)))
      clear b6
      go_wp2
      go_ret
      exact ⟨rfl, B6.out⟩
    · simp only [hyes] at CF CS CE
      have h7 := hT.h7
      have h1 : 0 < N := by have := hT.v.len; omega
      rw [← ways_edg hT.v hT.h7] at CE
      have hlo := ways_low hT.v hT.h7
      have hup := ways_up hT.v hT.h7
      obtain ⟨z, hz⟩ : ∃ z, z = waysN N (edgesR rows) := ⟨_, rfl⟩
      rw [← hz] at CF CS CE hlo hup
      have f1 : ((z : Int) == (z : Int)) = true := beq_self_eq_true _
      have f2 : ¬ (z : Int) < 0 := by omega
      clear g1 b1 hr hrs hl hr2 hn hwf hyes hT hre hz PF PE
      go_wp2_with fail
      refine (CF.out _ RV w1 _ _ G1 r0.out).mono ?_
      rintro e w2 ⟨rfl, b2⟩
      have G2 := Lib.hid (G1.out.below b2)
      have B2 := Lib.hid (B1.out.trans (b2.mono s01))
      have S12 := Lib.hid b2.size
      clear b2 CF
      go_wp2_with fail
      refine (CS.out _ RV w2 _ _ G2 S12.out).mono ?_
      rintro e w3 ⟨rfl, b3⟩
      have G3 := Lib.hid (G2.out.below (b3.mono S12.out))
      have B3 := Lib.hid (B2.out.trans (b3.mono (Nat.le_trans s01 S12.out)))
      have S13 := Lib.hid (Nat.le_trans S12.out b3.size)
      clear b3 G2 B2 S12 CS
      go_wp2_with fail
      refine (CE.out _ RV w3 _ _ G3 S13.out).mono ?_
      rintro e w4 ⟨rfl, b4⟩
      have B4 := Lib.hid (B3.out.trans (b4.mono (Nat.le_trans s01 S13.out)))
      clear b4
      have hN : N = 1 ∨ N = 2 ∨ N = 3 ∨ N = 4 ∨ N = 5 ∨ N = 6 ∨ N = 7 := by omega
      rcases hN with rfl | rfl | rfl | rfl | rfl | rfl | rfl
      all_goals
        simp only [Nat.reduceMul, Nat.reduceSub, Nat.reduceDiv] at hlo hup
        have k1 := Int.ofNat_le.2 hlo
        have k2 := Int.ofNat_le.2 hup
        try push_cast at k1 k2
        go_wp2
        go_ret
        exact ⟨(by first | rfl | (simp; omega)), B4.out⟩
set_option maxHeartbeats 3200000 in
set_option maxRecDepth 100000 in
theorem fnWaysByEdges_law (PF : TreeFn 30 (treeV edgN)) (PW : TreeFn 28 (treeV waysN)) (a : Option Addr) (len cap : Nat) (zs : List Int) (w : World) (hr0 : IsRow .u8 w a len cap zs) :
    Calls Try.prog 8 #[.slice a len cap] w fun e w' => e = .returned (.bool true) ∧ Below w.heap.size w w' := by
  have hr := Lib.hid hr0
  clear hr0
  by_cases hbig : (1048576 : Int) < (len : Int)
  · go_enter Try.func8, Try.ntmps8
    go_wp2
    go_ret
    exact ⟨rfl, Below.refl _ _⟩
  · go_enter Try.func8, Try.ntmps8
    go_wp2_with fail
    refine (drawWaysByEdges a len cap zs w hr (by omega)).mono ?_
    rintro e w1 ⟨n, rows, v, RV, rfl, g1, hn, hl, hr2, b1⟩
    have hwf : (Lit.int .i64 n).wf = true := wf_smallC n (by omega)
    have G1 := Lib.hid g1
    have B1 := Lib.hid b1
    have hrs : ∀ r ∈ rows, r.length ≤ 1048576 := fun r h => by rw [hr2 r h]; decide
    have hrl : rows.length ≤ 1048576 := by omega
    have CF := PF.at_ hrl hrs hwf
    have CS := specWaysByEdges_any.at_ hrl hrs hwf
    have CE := PW.at_ hrl hrs hwf
    obtain ⟨av, cv, rfl, _, _, _, _⟩ := g1.1.slice
    have s01 := b1.size
    have r0 : Hid (w1.heap.size ≤ w1.heap.size) := Nat.le_refl _
    rcases treeV_or n rows with hno | ⟨N, rfl, hT, hre, hyes⟩
    · simp only [hno] at CF CS
      clear g1 b1 hr hrs hl hr2 hn hwf hno PF PW CE
      go_wp2_with fail
      refine (CF.out _ RV w1 _ _ G1 r0.out).mono ?_
      rintro e w2 ⟨rfl, b2⟩
      have G2 := Lib.hid (G1.out.below b2)
      have B2 := Lib.hid (B1.out.trans (b2.mono s01))
      have S12 := Lib.hid b2.size
      clear b2 CF
      go_wp2_with fail
      refine (CS.out _ RV w2 _ _ G2 S12.out).mono ?_
      rintro e w3 ⟨rfl, b3⟩
      have G3 := Lib.hid (G2.out.below (b3.mono S12.out))
      have B3 := Lib.hid (B2.out.trans (b3.mono (Nat.le_trans s01 S12.out)))
      have S13 := Lib.hid (Nat.le_trans S12.out b3.size)
      clear b3 G2 B2 S12
      go_wp2_with fail
      refine (CS.out _ RV w3 _ _ G3 S13.out).mono ?_
      rintro e w6 ⟨rfl, b6⟩
      have B6 := Lib.hid (B3.out.trans (b6.mono (Nat.le_trans s01 S13.out)))
      clear b6
      go_wp2
      go_ret
      exact ⟨rfl, B6.out⟩
    · simp only [hyes] at CF CS CE
      have h7 := hT.h7
      have h1 : 0 < N := by have := hT.v.len; omega
      rw [ways_edg hT.v hT.h7] at CE
      obtain ⟨z, hz⟩ : ∃ z, z = edgN N (edgesR rows) := ⟨_, rfl⟩
      rw [← hz] at CF CS CE
      have f1 : ((z : Int) == (z : Int)) = true := beq_self_eq_true _
      have f2 : ¬ (z : Int) < 0 := by omega
      clear g1 b1 hr hrs hl hr2 hn hwf hyes hT hre hz PF PW
      go_wp2_with fail
      refine (CF.out _ RV w1 _ _ G1 r0.out).mono ?_
      rintro e w2 ⟨rfl, b2⟩
      have G2 := Lib.hid (G1.out.below b2)
      have B2 := Lib.hid (B1.out.trans (b2.mono s01))
      have S12 := Lib.hid b2.size
      clear b2 CF
      go_wp2_with fail
      refine (CS.out _ RV w2 _ _ G2 S12.out).mono ?_
      rintro e w3 ⟨rfl, b3⟩
      have G3 := Lib.hid (G2.out.below (b3.mono S12.out))
      have B3 := Lib.hid (B2.out.trans (b3.mono (Nat.le_trans s01 S12.out)))
      have S13 := Lib.hid (Nat.le_trans S12.out b3.size)
      clear b3 G2 B2 S12 CS
      go_wp2_with fail
      refine (CE.out _ RV w3 _ _ G3 S13.out).mono ?_
      rintro e w4 ⟨rfl, b4⟩
      have B4 := Lib.hid (B3.out.trans (b4.mono (Nat.le_trans s01 S13.out)))
      clear b4
      go_wp2
      go_ret
      exact ⟨rfl, B4.out⟩
set_option maxHeartbeats 3200000 in
set_option maxRecDepth 100000 in
theorem fnMostAlone_law (PF : TreeFn 11 (treeV aloneN)) (PP : TreeFn 13 (treeV pairsN)) (a : Option Addr) (len cap : Nat) (zs : List Int) (w : World) (hr0 : IsRow .u8 w a len cap zs) :
    Calls Try.prog 3 #[.slice a len cap] w fun e w' => e = .returned (.bool true) ∧ Below w.heap.size w w' := by
  have hr := Lib.hid hr0
  clear hr0
  by_cases hbig : (1048576 : Int) < (len : Int)
  · go_enter Try.func3, Try.ntmps3
    go_wp2
    go_ret
    exact ⟨rfl, Below.refl _ _⟩
  · go_enter Try.func3, Try.ntmps3
    go_wp2_with fail
    refine (drawMostAlone a len cap zs w hr (by omega)).mono ?_
    rintro e w1 ⟨n, rows, v, RV, rfl, g1, hn, hl, hr2, b1⟩
    have hwf : (Lit.int .i64 n).wf = true := wf_smallC n (by omega)
    have G1 := Lib.hid g1
    have B1 := Lib.hid b1
    have hrs : ∀ r ∈ rows, r.length ≤ 1048576 := fun r h => by rw [hr2 r h]; decide
    have hrl : rows.length ≤ 1048576 := by omega
    have CF := PF.at_ hrl hrs hwf
    have CS := specMostAlone_any.at_ hrl hrs hwf
    have CE := PP.at_ hrl hrs hwf
    obtain ⟨av, cv, rfl, _, _, _, _⟩ := g1.1.slice
    have s01 := b1.size
    have r0 : Hid (w1.heap.size ≤ w1.heap.size) := Nat.le_refl _
    rcases treeV_or n rows with hno | ⟨N, rfl, hT, hre, hyes⟩
    · simp only [hno] at CF CS
      clear g1 b1 hr hrs hl hr2 hn hwf hno PF PP CE
      go_wp2_with fail
      refine (CF.out _ RV w1 _ _ G1 r0.out).mono ?_
      rintro e w2 ⟨rfl, b2⟩
      have G2 := Lib.hid (G1.out.below b2)
      have B2 := Lib.hid (B1.out.trans (b2.mono s01))
      have S12 := Lib.hid b2.size
      clear b2 CF
      go_wp2_with fail
      refine (CS.out _ RV w2 _ _ G2 S12.out).mono ?_
      rintro e w3 ⟨rfl, b3⟩
      have G3 := Lib.hid (G2.out.below (b3.mono S12.out))
      have B3 := Lib.hid (B2.out.trans (b3.mono (Nat.le_trans s01 S12.out)))
      have S13 := Lib.hid (Nat.le_trans S12.out b3.size)
      clear b3 G2 B2 S12
      go_wp2_with fail
      refine (CS.out _ RV w3 _ _ G3 S13.out).mono ?_
      rintro e w6 ⟨rfl, b6⟩
      have B6 := Lib.hid (B3.out.trans (b6.mono (Nat.le_trans s01 S13.out)))
      clear b6
      go_wp2
      go_ret
      exact ⟨rfl, B6.out⟩
    · simp only [hyes] at CF CS CE
      have h7 := hT.h7
      have h1 : 0 < N := by have := hT.v.len; omega
      have hfac : aloneN N (edgesR rows) + pairsN N (edgesR rows) = N ∧ 2 * pairsN N (edgesR rows) ≤ N := aln_facts hT.v hT.h7
      obtain ⟨p, hp⟩ : ∃ p, p = pairsN N (edgesR rows) := ⟨_, rfl⟩
      rw [← hp] at CE hfac
      obtain ⟨z, hz⟩ : ∃ z, z = aloneN N (edgesR rows) := ⟨_, rfl⟩
      rw [← hz] at CF CS hfac
      have f1 : ((z : Int) == (z : Int)) = true := beq_self_eq_true _
      have f2 : ¬ (z : Int) < 0 := by omega
      obtain ⟨k1, k2⟩ := hfac
      have e1 : IntKind.i64.wrap ((z : Int) + (p : Int)) = (N : Int) := by rw [IntKind.wrap_i64]; omega
      have e2 : IntKind.i64.wrap (2 * (z : Int)) = 2 * (z : Int) := by rw [IntKind.wrap_i64]; omega
      have f3 : ((N : Int) == (N : Int)) = true := beq_self_eq_true _
      have f4 : (N : Int) ≤ 2 * (z : Int) := by omega
      clear g1 b1 hr hrs hl hr2 hn hwf hyes hT hre hz PF PP hp
      go_wp2_with fail
      refine (CF.out _ RV w1 _ _ G1 r0.out).mono ?_
      rintro e w2 ⟨rfl, b2⟩
      have G2 := Lib.hid (G1.out.below b2)
      have B2 := Lib.hid (B1.out.trans (b2.mono s01))
      have S12 := Lib.hid b2.size
      clear b2 CF
      go_wp2_with fail
      refine (CS.out _ RV w2 _ _ G2 S12.out).mono ?_
      rintro e w3 ⟨rfl, b3⟩
      have G3 := Lib.hid (G2.out.below (b3.mono S12.out))
      have B3 := Lib.hid (B2.out.trans (b3.mono (Nat.le_trans s01 S12.out)))
      have S13 := Lib.hid (Nat.le_trans S12.out b3.size)
      clear b3 G2 B2 S12 CS
      go_wp2_with fail
      refine (CE.out _ RV w3 _ _ G3 S13.out).mono ?_
      rintro e w4 ⟨rfl, b4⟩
      have B4 := Lib.hid (B3.out.trans (b4.mono (Nat.le_trans s01 S13.out)))
      clear b4
      clear k1 k2
      go_wp2
      go_ret
      exact ⟨(by first | rfl | (simp [f4]; done) | (rw [decide_eq_true f4]; rfl)), B4.out⟩
end Go.Proofs.Ytmpppocmbdainaa
