/-
  The walks of laws of loads, with the program's functions as premises.
-/
import Derived.Test.YtakpbnkncjddeaaKLoadF
import Derived.Test.YtakpbnkncjddeaaCDrawLd
import Derived.Test.YtakpbnkncjddeaaCBack
import Derived.Test.YtakpbnkncjddeaaCTotal
import Derived.Test.YtakpbnkncjddeaaWLdF
import Derived.Test.YtakpbnkncjddeaaZW
namespace Go.Proofs.Ytakpbnkncjddeaa
open Go.RowKit


set_option maxHeartbeats 3200000 in
set_option maxRecDepth 100000 in
theorem fnValidLoads_law (PF : LoadBFn 13 loadB) (a : Option Addr) (len cap : Nat) (zs : List Int) (w : World) (hr0 : IsRow .u8 w a len cap zs) :
    Calls Try.prog 3 #[.slice a len cap] w fun e w' => e = .returned (.bool true) ∧ Below w.heap.size w w' := by
  have hr := Lib.hid hr0
  clear hr0
  by_cases hbig : (1048576 : Int) < (len : Int)
  · go_enter Try.func3, Try.ntmps3
    go_wp2
    go_ret
    exact ⟨rfl, Below.refl _ _⟩
  · go_enter Try.func3, Try.ntmps3
    go_wp2_with fail
    refine (drawValidLoads a len cap zs w hr (by omega)).mono ?_
    rintro e w1 ⟨v, l, rfl, o, hl7, b1⟩
    obtain ⟨av, cv, rfl, _, hcv, _, _⟩ := o.slice
    rw [iv_length] at o hcv
    have RL := own_rd o
    have s01 := b1.size
    obtain ⟨n, hn⟩ : ∃ n, l.length = n := ⟨_, rfl⟩
    rw [iv_length, hn]
    rw [hn] at o hcv hl7
    have O1 := Lib.hid o
    have B1 := Lib.hid b1
    have r0 : Hid (Below w1.heap.size w1 w1) := Below.refl _ _
    have HN := Lib.hid hn
    have CF := PF.at_ (B := w.heap.size) RL HN.out (by omega) hcv s01
    have CS := specValidLoads_fn.at_ (B := w.heap.size) RL HN.out (by omega) hcv s01
    have HR := Lib.hid (loadB_reverse l)
    obtain ⟨t, ht⟩ : ∃ t, t = loadB l := ⟨_, rfl⟩
    rw [← ht] at CF CS HR
    clear ht RL
    clear o b1 hr hn
    go_wp2_with fail
    refine (CF.out w _ r0.out B1.out).mono ?_
    rintro e w2 ⟨rfl, r2, b2⟩
    have R2 := Lib.hid r2
    have B2 := Lib.hid b2
    clear r2 b2
    go_wp2_with fail
    refine (CS.out w _ R2.out B2.out).mono ?_
    rintro e w3 ⟨rfl, r3, b3⟩
    have R3 := Lib.hid r3
    have B3 := Lib.hid b3
    clear r3 b3
    cases t
    · go_wp2_with fail
      refine (CS.out w _ R3.out B3.out).mono ?_
      rintro e w4 ⟨rfl, r4, b4⟩
      have R4 := Lib.hid r4
      have B4 := Lib.hid b4
      clear r4 b4
      go_wp2
      go_ret
      exact ⟨rfl, B4.out⟩
    · go_wp2_with fail
      refine (backwards_any l (.slice av n cv) w3 (O1.out.below R3.out) R3.out.size (by have := HN.out; omega)).mono ?_
      rintro e w4 ⟨v4, rfl, o4, b4⟩
      obtain ⟨a4, c4, rfl, _, hc4, _, _⟩ := o4.slice
      rw [iv_length] at o4 hc4
      have C4 := PF.at_ (B := w.heap.size) (own_rd o4) (by rw [List.length_reverse, HN.out]) (by omega) (by rw [List.length_reverse, HN.out] at hc4; exact hc4) (Nat.le_trans s01 (Nat.le_trans R3.out.size b4.size))
      rw [HR.out] at C4
      have B4 := Lib.hid (B3.out.trans (b4.mono (Nat.le_trans s01 R3.out.size)))
      have q0 : Hid (Below w4.heap.size w4 w4) := Below.refl _ _
      rw [iv_length, List.length_reverse, HN.out]
      clear o4 b4 PF
      go_wp2_with fail
      refine (C4.out w _ q0.out B4.out).mono ?_
      rintro e w5 ⟨rfl, r5, b5⟩
      have R5 := Lib.hid r5
      have B5 := Lib.hid b5
      clear r5 b5
      go_wp2
      go_ret
      exact ⟨rfl, B5.out⟩

set_option maxHeartbeats 3200000 in
set_option maxRecDepth 100000 in
theorem fnBesideCost_law (PF : LoadFn 20 bcI) (PJ : LoadFn 17 jcI) (a : Option Addr) (len cap : Nat) (zs : List Int) (w : World) (hr0 : IsRow .u8 w a len cap zs) :
    Calls Try.prog 6 #[.slice a len cap] w fun e w' => e = .returned (.bool true) ∧ Below w.heap.size w w' := by
  have hr := Lib.hid hr0
  clear hr0
  by_cases hbig : (1048576 : Int) < (len : Int)
  · go_enter Try.func6, Try.ntmps6
    go_wp2
    go_ret
    exact ⟨rfl, Below.refl _ _⟩
  · go_enter Try.func6, Try.ntmps6
    go_wp2_with fail
    refine (drawBesideCost a len cap zs w hr (by omega)).mono ?_
    rintro e w1 ⟨v, l, rfl, o, hl7, b1⟩
    obtain ⟨av, cv, rfl, _, hcv, _, _⟩ := o.slice
    rw [iv_length] at o hcv
    have RL := own_rd o
    have s01 := b1.size
    obtain ⟨n, hn⟩ : ∃ n, l.length = n := ⟨_, rfl⟩
    rw [iv_length, hn]
    rw [hn] at o hcv hl7
    have O1 := Lib.hid o
    have B1 := Lib.hid b1
    have r0 : Hid (Below w1.heap.size w1 w1) := Below.refl _ _
    have HN := Lib.hid hn
    have CF := PF.at_ (B := w.heap.size) RL HN.out (by omega) hcv s01
    have CS := specBesideCost_fn.at_ (B := w.heap.size) RL HN.out (by omega) hcv s01
    have CJ := PJ.at_ (B := w.heap.size) RL HN.out (by omega) hcv s01
    have HR := Lib.hid (bcI_rev l)
    clear o b1 hr hn
    cases hw : loadB l
    · rw [bcI_no hw] at CF CS
      clear CJ PF PJ RL HR hw
      go_wp2_with fail
      refine (CF.out w _ r0.out B1.out).mono ?_
      rintro e w2 ⟨rfl, r2, b2⟩
      have R2 := Lib.hid r2
      have B2 := Lib.hid b2
      clear r2 b2
      go_wp2_with fail
      refine (CS.out w _ R2.out B2.out).mono ?_
      rintro e w3 ⟨rfl, r3, b3⟩
      have R3 := Lib.hid r3
      have B3 := Lib.hid b3
      clear r3 b3
      go_wp2_with fail
      refine (CS.out w _ R3.out B3.out).mono ?_
      rintro e w4 ⟨rfl, r4, b4⟩
      have R4 := Lib.hid r4
      have B4 := Lib.hid b4
      clear r4 b4
      go_wp2
      go_ret
      exact ⟨rfl, B4.out⟩
    · have f3 := jc_bc hw
      have e0 := bcI_yes hw
      have TK : ∀ k, l.length = k + 1 → bcI (l.take k) ≤ bcI l := fun k hk => bcI_take hw hk
      obtain ⟨z, hz⟩ : ∃ z, z = bcI l := ⟨_, rfl⟩
      obtain ⟨y, hy⟩ : ∃ y, y = jcI l := ⟨_, rfl⟩
      rw [← hz] at CF CS HR f3 e0 TK
      rw [← hy] at CJ f3
      have f2 : ¬ z < 0 := by omega
      have f1 : (z == z) = true := beq_self_eq_true _
      have f0 : (0 : Int) ≤ z := by omega
      clear hz hy e0 hw
      go_wp2_with fail
      refine (CF.out w _ r0.out B1.out).mono ?_
      rintro e w2 ⟨rfl, r2, b2⟩
      have R2 := Lib.hid r2
      have B2 := Lib.hid b2
      clear r2 b2
      go_wp2_with fail
      refine (CS.out w _ R2.out B2.out).mono ?_
      rintro e w3 ⟨rfl, r3, b3⟩
      have R3 := Lib.hid r3
      have B3 := Lib.hid b3
      clear r3 b3
      go_wp2_with fail
      refine (CJ.out w _ R3.out B3.out).mono ?_
      rintro e w4 ⟨rfl, r4, b4⟩
      have R4 := Lib.hid r4
      have B4 := Lib.hid b4
      clear r4 b4
      go_wp2_with fail
      refine (backwards_any l (.slice av n cv) w4 (O1.out.below R4.out) R4.out.size (by have := HN.out; omega)).mono ?_
      rintro e w5 ⟨v5, rfl, o5, b5⟩
      obtain ⟨a5, c5, rfl, _, hc5, _, _⟩ := o5.slice
      rw [iv_length] at o5 hc5
      have C5 := PF.at_ (B := w.heap.size) (own_rd o5) (by rw [List.length_reverse, HN.out]) (by omega) (by rw [List.length_reverse, HN.out] at hc5; exact hc5) (Nat.le_trans s01 (Nat.le_trans R4.out.size b5.size))
      rw [HR.out] at C5
      have B5 := Lib.hid (B4.out.trans (b5.mono (Nat.le_trans s01 R4.out.size)))
      have R5 := Lib.hid (R4.out.trans (b5.mono R4.out.size))
      have q0 : Hid (Below w5.heap.size w5 w5) := Below.refl _ _
      rw [iv_length, List.length_reverse, HN.out]
      clear o5 b5
      go_wp2_with fail
      refine (C5.out _ _ q0.out B5.out).mono ?_
      rintro e w6 ⟨rfl, r6, b6⟩
      have R6 := Lib.hid (R5.out.trans (r6.mono R5.out.size))
      have B6 := Lib.hid b6
      clear r6 b6 q0
      by_cases h0 : n = 0
      · subst h0
        go_wp2
        go_ret
        exact ⟨rfl, B6.out⟩
      · obtain ⟨m, hm⟩ : ∃ m, m = n - 1 := ⟨_, rfl⟩
        have tk := TK m (by rw [HN.out]; omega)
        have lt : (l.take m).length = m := by rw [List.length_take, HN.out]; omega
        have C7 := PF.at_ (B := w.heap.size) (RL.take m) lt (by omega) (show m ≤ cv by omega) s01
        obtain ⟨t, ht⟩ : ∃ t, t = bcI (l.take m) := ⟨_, rfl⟩
        rw [← ht] at C7 tk
        have ew : IntKind.i64.wrap ((n : Int) - 1) = (m : Int) := by rw [IntKind.wrap_i64]; omega
        have u1 : (m : Int) ≤ (cv : Int) := by omega
        have u2 : ((n : Int) == 0) = false := beq_false_of_ne (by omega)
        have u3 : (0 : Int) ≤ (m : Int) := by omega
        clear ht lt hm TK
        go_wp2_with fail
        refine (C7.out w _ R6.out B6.out).mono ?_
        rintro e w7 ⟨rfl, r7, b7⟩
        have R7 := Lib.hid r7
        have B7 := Lib.hid b7
        clear r7 b7
        go_wp2
        go_ret
        exact ⟨(by first | rfl | (simp [tk]; done) | (rw [decide_eq_true tk]; rfl)), B7.out⟩

set_option maxHeartbeats 3200000 in
set_option maxRecDepth 100000 in
theorem fnJoinCost_law (PF : LoadFn 17 jcI) (PT : LoadFn 19 jtI) (PB : LoadFn 20 bcI) (a : Option Addr) (len cap : Nat) (zs : List Int) (w : World) (hr0 : IsRow .u8 w a len cap zs) :
    Calls Try.prog 4 #[.slice a len cap] w fun e w' => e = .returned (.bool true) ∧ Below w.heap.size w w' := by
  have hr := Lib.hid hr0
  clear hr0
  by_cases hbig : (1048576 : Int) < (len : Int)
  · go_enter Try.func4, Try.ntmps4
    go_wp2
    go_ret
    exact ⟨rfl, Below.refl _ _⟩
  · go_enter Try.func4, Try.ntmps4
    go_wp2_with fail
    refine (drawJoinCost a len cap zs w hr (by omega)).mono ?_
    rintro e w1 ⟨v, l, rfl, o, hl7, b1⟩
    obtain ⟨av, cv, rfl, _, hcv, _, _⟩ := o.slice
    rw [iv_length] at o hcv
    have RL := own_rd o
    have s01 := b1.size
    obtain ⟨n, hn⟩ : ∃ n, l.length = n := ⟨_, rfl⟩
    rw [iv_length, hn]
    rw [hn] at o hcv hl7
    have O1 := Lib.hid o
    have B1 := Lib.hid b1
    have r0 : Hid (Below w1.heap.size w1 w1) := Below.refl _ _
    have HN := Lib.hid hn
    have CF := PF.at_ (B := w.heap.size) RL HN.out (by omega) hcv s01
    have CS := specJoinCost_fn.at_ (B := w.heap.size) RL HN.out (by omega) hcv s01
    have CT := PT.at_ (B := w.heap.size) RL HN.out (by omega) hcv s01
    have CB := PB.at_ (B := w.heap.size) RL HN.out (by omega) hcv s01
    have HR := Lib.hid (jcI_rev l)
    clear o b1 hr hn
    cases hw : loadB l
    · rw [jcI_no hw] at CF CS
      clear CT CB PF PT PB RL HR hw
      go_wp2_with fail
      refine (CF.out w _ r0.out B1.out).mono ?_
      rintro e w2 ⟨rfl, r2, b2⟩
      have R2 := Lib.hid r2
      have B2 := Lib.hid b2
      clear r2 b2
      go_wp2_with fail
      refine (CS.out w _ R2.out B2.out).mono ?_
      rintro e w3 ⟨rfl, r3, b3⟩
      have R3 := Lib.hid r3
      have B3 := Lib.hid b3
      clear r3 b3
      go_wp2_with fail
      refine (CS.out w _ R3.out B3.out).mono ?_
      rintro e w4 ⟨rfl, r4, b4⟩
      have R4 := Lib.hid r4
      have B4 := Lib.hid b4
      clear r4 b4
      go_wp2
      go_ret
      exact ⟨rfl, B4.out⟩
    · have f3 := jc_bc hw
      have e0 := jcI_yes hw
      have T0 := jt_or l
      obtain ⟨z, hz⟩ : ∃ z, z = jcI l := ⟨_, rfl⟩
      obtain ⟨y, hy⟩ : ∃ y, y = bcI l := ⟨_, rfl⟩
      obtain ⟨t, ht⟩ : ∃ t, t = jtI l := ⟨_, rfl⟩
      rw [← hz] at CF CS HR f3 e0 T0
      rw [← hy] at CB f3
      rw [← ht] at CT T0
      have f2 : ¬ z < 0 := by omega
      have f1 : (z == z) = true := beq_self_eq_true _
      have f0 : (0 : Int) ≤ z := by omega
      clear hz hy ht e0 hw RL PT PB
      rcases T0 with rfl | rfl
      all_goals
        go_wp2_with fail
        refine (CF.out w _ r0.out B1.out).mono ?_
        rintro e w2 ⟨rfl, r2, b2⟩
        have R2 := Lib.hid r2
        have B2 := Lib.hid b2
        clear r2 b2
        go_wp2_with fail
        refine (CS.out w _ R2.out B2.out).mono ?_
        rintro e w3 ⟨rfl, r3, b3⟩
        have R3 := Lib.hid r3
        have B3 := Lib.hid b3
        clear r3 b3
        go_wp2_with fail
        refine (CT.out w _ R3.out B3.out).mono ?_
        rintro e w4 ⟨rfl, r4, b4⟩
        have R4 := Lib.hid r4
        have B4 := Lib.hid b4
        clear r4 b4
        go_wp2_with fail
        refine (CB.out w _ R4.out B4.out).mono ?_
        rintro e w5 ⟨rfl, r5, b5⟩
        have R5 := Lib.hid r5
        have B5 := Lib.hid b5
        clear r5 b5
        go_wp2_with fail
        refine (backwards_any l (.slice av n cv) w5 (O1.out.below R5.out) R5.out.size (by have := HN.out; omega)).mono ?_
        rintro e w6 ⟨v6, rfl, o6, b6⟩
        obtain ⟨a6, c6, rfl, _, hc6, _, _⟩ := o6.slice
        rw [iv_length] at o6 hc6
        have C6 := PF.at_ (B := w.heap.size) (own_rd o6) (by rw [List.length_reverse, HN.out]) (by omega) (by rw [List.length_reverse, HN.out] at hc6; exact hc6) (Nat.le_trans s01 (Nat.le_trans R5.out.size b6.size))
        rw [HR.out] at C6
        have B6 := Lib.hid (B5.out.trans (b6.mono (Nat.le_trans s01 R5.out.size)))
        have R6 := Lib.hid (R5.out.trans (b6.mono R5.out.size))
        have q0 : Hid (Below w6.heap.size w6 w6) := Below.refl _ _
        rw [iv_length, List.length_reverse, HN.out]
        clear o6 b6
        go_wp2_with fail
        refine (C6.out _ _ q0.out B6.out).mono ?_
        rintro e w7 ⟨rfl, r7, b7⟩
        have R7 := Lib.hid (R6.out.trans (r7.mono R6.out.size))
        have B7 := Lib.hid b7
        clear r7 b7 q0
        go_wp2
        go_ret
        exact ⟨rfl, B7.out⟩

set_option maxHeartbeats 3200000 in
set_option maxRecDepth 100000 in
theorem fnFindCost_law (PF : LoadFn 26 fcI) (PT : LoadFn 28 ftI) (a : Option Addr) (len cap : Nat) (zs : List Int) (w : World) (hr0 : IsRow .u8 w a len cap zs) :
    Calls Try.prog 7 #[.slice a len cap] w fun e w' => e = .returned (.bool true) ∧ Below w.heap.size w w' := by
  have hr := Lib.hid hr0
  clear hr0
  by_cases hbig : (1048576 : Int) < (len : Int)
  · go_enter Try.func7, Try.ntmps7
    go_wp2
    go_ret
    exact ⟨rfl, Below.refl _ _⟩
  · go_enter Try.func7, Try.ntmps7
    go_wp2_with fail
    refine (drawFindCost a len cap zs w hr (by omega)).mono ?_
    rintro e w1 ⟨v, l, rfl, o, hl7, b1⟩
    obtain ⟨av, cv, rfl, _, hcv, _, _⟩ := o.slice
    rw [iv_length] at o hcv
    have RL := own_rd o
    have s01 := b1.size
    obtain ⟨n, hn⟩ : ∃ n, l.length = n := ⟨_, rfl⟩
    rw [iv_length, hn]
    rw [hn] at o hcv hl7
    have O1 := Lib.hid o
    have B1 := Lib.hid b1
    have r0 : Hid (Below w1.heap.size w1 w1) := Below.refl _ _
    have HN := Lib.hid hn
    have CF := PF.at_ (B := w.heap.size) RL HN.out (by omega) hcv s01
    have CS := specFindCost_fn.at_ (B := w.heap.size) RL HN.out (by omega) hcv s01
    have CT := PT.at_ (B := w.heap.size) RL HN.out (by omega) hcv s01
    have HR := Lib.hid (fcI_rev l)
    clear o b1 hr hn
    cases hw : loadB l
    · rw [fcI_no hw] at CF CS
      clear CT PF PT RL HR hw
      go_wp2_with fail
      refine (CF.out w _ r0.out B1.out).mono ?_
      rintro e w2 ⟨rfl, r2, b2⟩
      have R2 := Lib.hid r2
      have B2 := Lib.hid b2
      clear r2 b2
      go_wp2_with fail
      refine (CS.out w _ R2.out B2.out).mono ?_
      rintro e w3 ⟨rfl, r3, b3⟩
      have R3 := Lib.hid r3
      have B3 := Lib.hid b3
      clear r3 b3
      go_wp2_with fail
      refine (CS.out w _ R3.out B3.out).mono ?_
      rintro e w4 ⟨rfl, r4, b4⟩
      have R4 := Lib.hid r4
      have B4 := Lib.hid b4
      clear r4 b4
      go_wp2
      go_ret
      exact ⟨rfl, B4.out⟩
    · have f3 := sum_fc hw
      have e0 := fcI_yes hw
      have T0 := ft_or l
      have CU := Lib.hid (fun W (hW : Below w1.heap.size w1 W) => total_any l (.slice av n cv) W (O1.out.below hW) (by rw [HN.out]; omega) (Lib.hid fun x hx => by have := loadB_at hw hx; omega))
      obtain ⟨z, hz⟩ : ∃ z, z = fcI l := ⟨_, rfl⟩
      obtain ⟨y, hy⟩ : ∃ y, y = sumI l l.length := ⟨_, rfl⟩
      obtain ⟨t, ht⟩ : ∃ t, t = ftI l := ⟨_, rfl⟩
      rw [← hz] at CF CS HR f3 e0 T0
      rw [← hy] at CU f3
      rw [← ht] at CT T0
      have f2 : ¬ z < 0 := by omega
      have f1 : (z == z) = true := beq_self_eq_true _
      have f0 : (0 : Int) ≤ z := by omega
      clear hz hy ht e0 hw RL PT
      rcases T0 with rfl | rfl
      all_goals
        go_wp2_with fail
        refine (CF.out w _ r0.out B1.out).mono ?_
        rintro e w2 ⟨rfl, r2, b2⟩
        have R2 := Lib.hid r2
        have B2 := Lib.hid b2
        clear r2 b2
        go_wp2_with fail
        refine (CS.out w _ R2.out B2.out).mono ?_
        rintro e w3 ⟨rfl, r3, b3⟩
        have R3 := Lib.hid r3
        have B3 := Lib.hid b3
        clear r3 b3
        go_wp2_with fail
        refine (CT.out w _ R3.out B3.out).mono ?_
        rintro e w4 ⟨rfl, r4, b4⟩
        have R4 := Lib.hid r4
        have B4 := Lib.hid b4
        clear r4 b4
        go_wp2_with fail
        refine (backwards_any l (.slice av n cv) w4 (O1.out.below R4.out) R4.out.size (by have := HN.out; omega)).mono ?_
        rintro e w5 ⟨v5, rfl, o5, b5⟩
        obtain ⟨a5, c5, rfl, _, hc5, _, _⟩ := o5.slice
        rw [iv_length] at o5 hc5
        have C5 := PF.at_ (B := w.heap.size) (own_rd o5) (by rw [List.length_reverse, HN.out]) (by omega) (by rw [List.length_reverse, HN.out] at hc5; exact hc5) (Nat.le_trans s01 (Nat.le_trans R4.out.size b5.size))
        rw [HR.out] at C5
        have B5 := Lib.hid (B4.out.trans (b5.mono (Nat.le_trans s01 R4.out.size)))
        have R5 := Lib.hid (R4.out.trans (b5.mono R4.out.size))
        have q0 : Hid (Below w5.heap.size w5 w5) := Below.refl _ _
        rw [iv_length, List.length_reverse, HN.out]
        clear o5 b5
        go_wp2_with fail
        refine (C5.out _ _ q0.out B5.out).mono ?_
        rintro e w6 ⟨rfl, r6, b6⟩
        have R6 := Lib.hid (R5.out.trans (r6.mono R5.out.size))
        have B6 := Lib.hid b6
        clear r6 b6 q0
        go_wp2_with fail
        refine (CU.out _ R6.out).mono ?_
        rintro e w7 ⟨rfl, rfl⟩
        go_wp2
        go_ret
        exact ⟨(by first | rfl | (simp [f3]; done) | (rw [decide_eq_true f3]; rfl)), B6.out⟩

set_option maxHeartbeats 3200000 in
set_option maxRecDepth 100000 in
theorem fnJoinTried_law (PF : LoadFn 19 jtI) (PJ : LoadFn 17 jcI) (a : Option Addr) (len cap : Nat) (zs : List Int) (w : World) (hr0 : IsRow .u8 w a len cap zs) :
    Calls Try.prog 5 #[.slice a len cap] w fun e w' => e = .returned (.bool true) ∧ Below w.heap.size w w' := by
  have hr := Lib.hid hr0
  clear hr0
  by_cases hbig : (1048576 : Int) < (len : Int)
  · go_enter Try.func5, Try.ntmps5
    go_wp2
    go_ret
    exact ⟨rfl, Below.refl _ _⟩
  · go_enter Try.func5, Try.ntmps5
    go_wp2_with fail
    refine (drawJoinTried a len cap zs w hr (by omega)).mono ?_
    rintro e w1 ⟨v, l, rfl, o, hl7, b1⟩
    obtain ⟨av, cv, rfl, _, hcv, _, _⟩ := o.slice
    rw [iv_length] at o hcv
    have RL := own_rd o
    have s01 := b1.size
    obtain ⟨n, hn⟩ : ∃ n, l.length = n := ⟨_, rfl⟩
    rw [iv_length, hn]
    rw [hn] at o hcv hl7
    have O1 := Lib.hid o
    have B1 := Lib.hid b1
    have r0 : Hid (Below w1.heap.size w1 w1) := Below.refl _ _
    have HN := Lib.hid hn
    have CF := PF.at_ (B := w.heap.size) RL HN.out (by omega) hcv s01
    have CS := specJoinTried_fn.at_ (B := w.heap.size) RL HN.out (by omega) hcv s01
    have CJ := PJ.at_ (B := w.heap.size) RL HN.out (by omega) hcv s01
    clear o b1 hr hn
    by_cases hj : jtI l = -1
    · rw [hj] at CF CS
      clear CJ PF PJ RL hj
      go_wp2_with fail
      refine (CF.out w _ r0.out B1.out).mono ?_
      rintro e w2 ⟨rfl, r2, b2⟩
      have R2 := Lib.hid r2
      have B2 := Lib.hid b2
      clear r2 b2
      go_wp2_with fail
      refine (CS.out w _ R2.out B2.out).mono ?_
      rintro e w3 ⟨rfl, r3, b3⟩
      have R3 := Lib.hid r3
      have B3 := Lib.hid b3
      clear r3 b3
      go_wp2_with fail
      refine (CS.out w _ R3.out B3.out).mono ?_
      rintro e w4 ⟨rfl, r4, b4⟩
      have R4 := Lib.hid r4
      have B4 := Lib.hid b4
      clear r4 b4
      go_wp2
      go_ret
      exact ⟨rfl, B4.out⟩
    · obtain ⟨hw, hj2⟩ := jt_yes hj
      have e0 := jcI_yes hw
      rw [hj2] at CF CS
      obtain ⟨z, hz⟩ : ∃ z, z = jcI l := ⟨_, rfl⟩
      rw [← hz] at CF CS CJ e0
      have f2 : ¬ z < 0 := by omega
      have f1 : (z == z) = true := beq_self_eq_true _
      clear hz e0 hw hj hj2 RL PF PJ
      go_wp2_with fail
      refine (CF.out w _ r0.out B1.out).mono ?_
      rintro e w2 ⟨rfl, r2, b2⟩
      have R2 := Lib.hid r2
      have B2 := Lib.hid b2
      clear r2 b2
      go_wp2_with fail
      refine (CS.out w _ R2.out B2.out).mono ?_
      rintro e w3 ⟨rfl, r3, b3⟩
      have R3 := Lib.hid r3
      have B3 := Lib.hid b3
      clear r3 b3
      go_wp2_with fail
      refine (CJ.out w _ R3.out B3.out).mono ?_
      rintro e w4 ⟨rfl, r4, b4⟩
      have R4 := Lib.hid r4
      have B4 := Lib.hid b4
      clear r4 b4
      go_wp2
      go_ret
      exact ⟨rfl, B4.out⟩

/-- all loads doubled, as the code reckons -/
def dblI (l : List Int) : List Int := l.map fun x => IntKind.i64.wrap (2 * x)
theorem dblI_len (l : List Int) : (dblI l).length = l.length := by simp [dblI]
theorem dblI_snoc (l : List Int) (k : Nat) (h : k < l.length) : dblI (l.take (k + 1)) = dblI (l.take k) ++ [IntKind.i64.wrap (2 * l[k])] := by
  unfold dblI
  rw [List.take_succ_eq_append_getElem h, List.map_append]; rfl
theorem dblI_facts {l : List Int} (hw : loadB l = true) (hd : loadB (dblI l) = true) : fcI (dblI l) = 2 * fcI l ∧ jcI (dblI l) = 2 * jcI l ∧ bcI (dblI l) = 2 * bcI l := by
  have e : natsL (dblI l) = twice (natsL l) := by
    unfold natsL dblI twice
    rw [List.map_map, List.map_map]
    refine List.map_congr_left fun x hx => ?_
    have := loadB_at hw hx
    have e2 : IntKind.i64.wrap (2 * x) = 2 * x := by rw [IntKind.wrap_i64]; omega
    show (IntKind.i64.wrap (2 * x)).toNat = 2 * x.toNat
    rw [e2]; omega
  rw [fcI_yes hw, fcI_yes hd, jcI_yes hw, jcI_yes hd, bcI_yes hw, bcI_yes hd, e, fcC_twice _ _ (Nat.le_refl _), joinC_twice, bsC_twice _ _ (Nat.le_refl _)]
  omega
theorem cost_bd {l : List Int} (hw : loadB l = true) : (0 ≤ fcI l ∧ fcI l ≤ 980) ∧ (0 ≤ jcI l ∧ jcI l ≤ 980) ∧ (0 ≤ bcI l ∧ bcI l ≤ 980) := by
  obtain ⟨L, rfl, eL, h7, h20⟩ := loadB_nats hw
  rw [fcI_yes hw, jcI_yes hw, bcI_yes hw, natsL_ldI]
  have b : L.length * L.sum ≤ 7 * (20 * 7) := Nat.mul_le_mul h7 (Nat.le_trans (sum_bd h20) (Nat.mul_le_mul_left _ h7))
  have := fcC_most _ L (Nat.le_refl _)
  have := joinC_most _ L (Nat.le_refl _)
  have := bsC_most _ L (Nat.le_refl _)
  omega
set_option maxHeartbeats 3200000 in
set_option maxRecDepth 100000 in
theorem fnLoadsScale_law (PF : LoadFn 26 fcI) (PV : LoadBFn 13 loadB) (PJ : LoadFn 17 jcI) (PB : LoadFn 20 bcI) (a : Option Addr) (len cap : Nat) (zs : List Int) (w : World) (hr0 : IsRow .u8 w a len cap zs) :
    Calls Try.prog 10 #[.slice a len cap] w fun e w' => e = .returned (.bool true) ∧ Below w.heap.size w w' := by
  have hr := Lib.hid hr0
  clear hr0
  by_cases hbig : (1048576 : Int) < (len : Int)
  · go_enter Try.func10, Try.ntmps10
    go_wp2
    go_ret
    exact ⟨rfl, Below.refl _ _⟩
  · go_enter Try.func10, Try.ntmps10
    go_wp2_with fail
    refine (drawFindCost a len cap zs w hr (by omega)).mono ?_
    rintro e w1 ⟨v, l, rfl, o, hl7, b1⟩
    obtain ⟨av, cv, rfl, _, hcv, _, _⟩ := o.slice
    rw [iv_length] at o hcv
    have RL := own_rd o
    have s01 := b1.size
    obtain ⟨n, hn⟩ : ∃ n, l.length = n := ⟨_, rfl⟩
    rw [iv_length, hn]
    rw [hn] at o hcv hl7
    have O1 := Lib.hid o
    have B1 := Lib.hid b1
    have r0 : Hid (Below w1.heap.size w1 w1) := Below.refl _ _
    have HN := Lib.hid hn
    have CF := PF.at_ (B := w.heap.size) RL HN.out (by omega) hcv s01
    have CS := specFindCost_fn.at_ (B := w.heap.size) RL HN.out (by omega) hcv s01
    have CJ := True.intro
    have CB := True.intro
    obtain ⟨i0, hi0, hz0, hz1, hz2⟩ := info_parts Try.infoIntQ
    have CELL : Hid (∀ W, Below w1.heap.size w1 W → ∀ k (hk : k < l.length), ∃ b off, av = some ⟨b, off, none⟩ ∧ W.cell? ⟨b, off + k, none⟩ = some (.int .i64 l[k])) := fun W hW k hk => by
      obtain ⟨b, off, e, _, h3⟩ := (RL.below hW) k hk
      exact ⟨b, off, e, h3⟩
    obtain ⟨z, hz⟩ : ∃ z, z = fcI l := ⟨_, rfl⟩
    rw [← hz] at CF CS
    have HZ := Lib.hid hz
    have f1 : (z == z) = true := beq_self_eq_true _
    have RLh := Lib.hid RL
    clear hz RL CJ CB
    clear o b1 hr hn
    go_wp2_with fail
    refine (CF.out w _ r0.out B1.out).mono ?_
    rintro e w2 ⟨rfl, r2, b2⟩
    have R2 := Lib.hid r2
    have B2 := Lib.hid b2
    clear r2 b2
    go_wp2_with fail
    refine (CS.out w _ R2.out B2.out).mono ?_
    rintro e w3 ⟨rfl, r3, b3⟩
    have R3 := Lib.hid r3
    have B3 := Lib.hid b3
    clear r3 b3
    go_wp2_with fail
    refine (CF.out w _ R3.out B3.out).mono ?_
    rintro e w4 ⟨rfl, r4, b4⟩
    have R4 := Lib.hid r4
    have B4 := Lib.hid b4
    clear r4 b4
    have hst : (w4.alloc (.cells #[] 3)).ownsRow w4.heap.size 3 1 (.slice (some ⟨w4.heap.size, 0, none⟩) 0 0) 0 (iv (dblI (l.take 0))) := World.ownsRow_lit (base := w4.heap.size) (e := 3) (size := 1) w4 #[] 0 (Nat.le_refl _) (by decide) rfl
    have b0 : Below w4.heap.size w4 (w4.alloc (.cells #[] 3)) := (Below.refl _ _).alloc (Nat.le_refl _) _
    obtain ⟨G, hG⟩ : ∃ G, G = w4.heap.size := ⟨_, rfl⟩
    rw [← hG] at hst b0
    have HG := Lib.hid hG
    have O0 := Lib.hid hst
    have b0 := Lib.hid b0
    clear hst CF CS
    go_wp2_with fail
    rw [← hG]
    clear hG
    go_loopw [5, 6] (fun out i wr => ∃ (k g c : Nat), k ≤ n ∧ out = .slice (some ⟨g, 0, none⟩) k c ∧ i = .int .i64 (k : Int) ∧ Hid (wr.ownsRow G 3 1 (.slice (some ⟨g, 0, none⟩) k c) k (iv (dblI (l.take k)))) ∧ Hid (Below G w4 wr)) (fun _ i _ => n - (intOf i).toNat)
    case atStart => exact ⟨0, _, 0, Nat.zero_le _, rfl, rfl, O0, b0⟩
    case round =>
      clear O0 b0
      obtain ⟨k, g, c, hk, rfl, rfl, OW, BW⟩ := hrel
      by_cases hkn : k < n
      · obtain ⟨b, off, rfl, hc⟩ := CELL.out wr (R4.out.trans (BW.out.mono (by rw [HG.out]; exact R4.out.size))) k (by rw [HN.out]; exact hkn)
        have SN := Lib.hid (dblI_snoc l k (by rw [HN.out]; exact hkn))
        obtain ⟨x, hx⟩ : ∃ x, x = l[k]'(by rw [HN.out]; exact hkn) := ⟨_, rfl⟩
        rw [← hx] at hc SN
        obtain ⟨u, hu⟩ : ∃ u, u = IntKind.i64.wrap (2 * x) := ⟨_, rfl⟩
        rw [← hu] at SN
        have eu := hu.symm
        have c1 : (k : Int) < (n : Int) := by omega
        have hGs : G ≤ wr.heap.size := by rw [HG.out]; exact BW.out.size
        clear hx hu
        go_wp2_with (at_builtin; refine wpList_append_own _ rfl _ _ 23 rfl G 3 i0 (.int .i64 0) 1 8 Try.underlying23 hi0 hz0 hz1 hz2 rfl (by decide) _ _ _ rfl (OW.out.alloc _) ⟨wr.heap.size, 0, none⟩ 1 1 [.int .i64 u] rfl rfl ?c1 ?c2 ?c3 ?c4 ?c5 ?_)
        case c1 => exact cell_one_new _ _ _
        case c2 => intro q hq; simp at hq; subst hq; rfl
        case c3 => unfold maxLen; omega
        case c4 => omega
        case c5 => simp; omega
        intro v' w7 hown7 hg7 hn7
        obtain ⟨g7, c7, rfl⟩ := own_someQ hown7 hn7
        rw [iv_snoc, ← SN.out] at hown7
        have OW2 := Lib.hid hown7
        have BW2 := Lib.hid ((BW.out.alloc hGs (.cells #[.int .i64 u] 3)).grown hg7 (by simp; omega) (fun r hr => (OW.out.lt r hr).1))
        clear hown7 hg7 hn7 OW BW SN hc
        go_wp2
        go_roundw
        case rel => exact ⟨k + 1, g7, c7, by omega, rfl, by go_num, OW2, BW2⟩
        case measure => simp [intOf]; omega
      · obtain rfl : n = k := by omega
        rw [show l.take n = l from List.take_of_length_le (by rw [HN.out]; exact Nat.le_refl _)] at OW
        have OO : Own wr G wr.heap.size 3 (.slice (some ⟨g, 0, none⟩) n c) (iv (dblI l)) := Own.of_own (by rw [iv_length, dblI_len, HN.out]; exact OW.out)
        have RD := (own_rdG OO).2
        have hcc := (own_capG OO).1
        have R4w : Below w1.heap.size w1 wr := R4.out.trans (BW.out.mono (by rw [HG.out]; exact R4.out.size))
        have s0r : w.heap.size ≤ wr.heap.size := Nat.le_trans s01 R4w.size
        have B5 := Lib.hid (B4.out.trans (BW.out.mono (by rw [HG.out]; exact B4.out.size)))
        have R5 : Hid (Below wr.heap.size wr wr) := Below.refl _ _
        have RLr := (RLh.out.below R4w).more R4w.size
        have ld : (dblI l).length = n := by rw [dblI_len, HN.out]
        cases hw : loadB l
        · have hz := HZ.out
          rw [fcI_no hw] at hz
          subst hz
          clear hw OW BW RD RLr OO hcc
          go_wp2
          go_ret
          exact ⟨rfl, B5.out⟩
        · have bd := cost_bd hw
          have CV := PV.at_ (B := w.heap.size) RD ld (by omega) hcc s0r
          have CFd := PF.at_ (B := w.heap.size) RD ld (by omega) hcc s0r
          have CJd := PJ.at_ (B := w.heap.size) RD ld (by omega) hcc s0r
          have CBd := PB.at_ (B := w.heap.size) RD ld (by omega) hcc s0r
          have CJ := PJ.at_ (B := w.heap.size) RLr HN.out (by omega) hcv s0r
          have CB := PB.at_ (B := w.heap.size) RLr HN.out (by omega) hcv s0r
          have DF := fun hd => dblI_facts hw hd
          rw [← HZ.out] at bd DF
          obtain ⟨y, hy⟩ : ∃ y, y = jcI l := ⟨_, rfl⟩
          obtain ⟨t, ht⟩ : ∃ t, t = bcI l := ⟨_, rfl⟩
          rw [← hy] at bd DF CJ
          rw [← ht] at bd DF CB
          have f2 : ¬ z < 0 := by omega
          clear hw OW BW RD RLr OO hcc hy ht
          cases hd : loadB (dblI l)
          · rw [hd] at CV
            clear CFd CJd CBd CJ CB DF hd
            go_wp2_with fail
            refine (CV.out w _ R5.out B5.out).mono ?_
            rintro e w6 ⟨rfl, r6, b6⟩
            have R6 := Lib.hid r6
            have B6 := Lib.hid b6
            clear r6 b6
            go_wp2
            go_ret
            exact ⟨rfl, B6.out⟩
          · rw [hd] at CV
            obtain ⟨d1, d2, d3⟩ := DF hd
            rw [d1] at CFd
            rw [d2] at CJd
            rw [d3] at CBd
            have ew1 : IntKind.i64.wrap (2 * z) = 2 * z := by rw [IntKind.wrap_i64]; omega
            have ew2 : IntKind.i64.wrap (2 * y) = 2 * y := by rw [IntKind.wrap_i64]; omega
            have ew3 : IntKind.i64.wrap (2 * t) = 2 * t := by rw [IntKind.wrap_i64]; omega
            have g1 : (2 * z == 2 * z) = true := beq_self_eq_true _
            have g2 : (2 * y == 2 * y) = true := beq_self_eq_true _
            have g3 : (2 * t == 2 * t) = true := beq_self_eq_true _
            clear d1 d2 d3 DF hd bd
            go_wp2_with fail
            refine (CV.out w _ R5.out B5.out).mono ?_
            rintro e w6 ⟨rfl, r6, b6⟩
            have R6 := Lib.hid r6
            have B6 := Lib.hid b6
            clear r6 b6
            go_wp2_with fail
            refine (CFd.out w _ R6.out B6.out).mono ?_
            rintro e w7 ⟨rfl, r7, b7⟩
            have R7 := Lib.hid r7
            have B7 := Lib.hid b7
            clear r7 b7
            go_wp2_with fail
            refine (CJd.out w _ R7.out B7.out).mono ?_
            rintro e w8 ⟨rfl, r8, b8⟩
            have R8 := Lib.hid r8
            have B8 := Lib.hid b8
            clear r8 b8
            go_wp2_with fail
            refine (CJ.out w _ R8.out B8.out).mono ?_
            rintro e w9 ⟨rfl, r9, b9⟩
            have R9 := Lib.hid r9
            have B9 := Lib.hid b9
            clear r9 b9
            go_wp2_with fail
            refine (CBd.out w _ R9.out B9.out).mono ?_
            rintro e w10 ⟨rfl, r10, b10⟩
            have R10 := Lib.hid r10
            have B10 := Lib.hid b10
            clear r10 b10
            go_wp2_with fail
            refine (CB.out w _ R10.out B10.out).mono ?_
            rintro e w11 ⟨rfl, r11, b11⟩
            have R11 := Lib.hid r11
            have B11 := Lib.hid b11
            clear r11 b11
            go_wp2
            go_ret
            exact ⟨rfl, B11.out⟩

end Go.Proofs.Ytakpbnkncjddeaa
