/-
  The walks of the laws of FindTried and FindBy, with the program's functions as premises.
-/
import Derived.Test.YtakpbnkncjddeaaKLoadL
import Derived.Test.YtakpbnkncjddeaaCDrawFb
namespace Go.Proofs.Ytakpbnkncjddeaa
open Go.RowKit

set_option maxHeartbeats 3200000 in
set_option maxRecDepth 100000 in
theorem fnFindTried_law (PF : LoadFn 28 ftI) (PJ : LoadFn 26 fcI) (a : Option Addr) (len cap : Nat) (zs : List Int) (w : World) (hr0 : IsRow .u8 w a len cap zs) :
    Calls Try.prog 9 #[.slice a len cap] w fun e w' => e = .returned (.bool true) ∧ Below w.heap.size w w' := by
  have hr := Lib.hid hr0
  clear hr0
  by_cases hbig : (1048576 : Int) < (len : Int)
  · go_enter Try.func9, Try.ntmps9
    go_wp2
    go_ret
    exact ⟨rfl, Below.refl _ _⟩
  · go_enter Try.func9, Try.ntmps9
    go_wp2_with fail
    refine (drawFindTried a len cap zs w hr (by omega)).mono ?_
    rintro e w1 ⟨v, l, rfl, o, hl7, b1⟩
    obtain ⟨av, cv, rfl, _, hcv, _, _⟩ := o.slice
    rw [iv_length] at o hcv
    have RL := own_rd o
    have s01 := b1.size
    obtain ⟨n, hn⟩ : ∃ n, l.length = n := ⟨_, rfl⟩
    rw [iv_length, hn]
    rw [hn] at o hcv hl7
    have O1 := Lib.hid o
    have B1 := Lib.hid b1
    have r0 : Hid (Below w1.heap.size w1 w1) := Below.refl _ _
    have HN := Lib.hid hn
    have CF := PF.at_ (B := w.heap.size) RL HN.out (by omega) hcv s01
    have CS := specFindTried_fn.at_ (B := w.heap.size) RL HN.out (by omega) hcv s01
    have CJ := PJ.at_ (B := w.heap.size) RL HN.out (by omega) hcv s01
    clear o b1 hr hn
    by_cases hj : ftI l = -1
    · rw [hj] at CF CS
      clear CJ PF PJ RL hj
      go_wp2_with fail
      refine (CF.out w _ r0.out B1.out).mono ?_
      rintro e w2 ⟨rfl, r2, b2⟩
      have R2 := Lib.hid r2
      have B2 := Lib.hid b2
      clear r2 b2
      go_wp2_with fail
      refine (CS.out w _ R2.out B2.out).mono ?_
      rintro e w3 ⟨rfl, r3, b3⟩
      have R3 := Lib.hid r3
      have B3 := Lib.hid b3
      clear r3 b3
      go_wp2_with fail
      refine (CS.out w _ R3.out B3.out).mono ?_
      rintro e w4 ⟨rfl, r4, b4⟩
      have R4 := Lib.hid r4
      have B4 := Lib.hid b4
      clear r4 b4
      go_wp2
      go_ret
      exact ⟨rfl, B4.out⟩
    · obtain ⟨hw, hj2⟩ := ft_yes hj
      have e0 := fcI_yes hw
      rw [hj2] at CF CS
      obtain ⟨z, hz⟩ : ∃ z, z = fcI l := ⟨_, rfl⟩
      rw [← hz] at CF CS CJ e0
      have f2 : ¬ z < 0 := by omega
      have f1 : (z == z) = true := beq_self_eq_true _
      clear hz e0 hw hj hj2 RL PF PJ
      go_wp2_with fail
      refine (CF.out w _ r0.out B1.out).mono ?_
      rintro e w2 ⟨rfl, r2, b2⟩
      have R2 := Lib.hid r2
      have B2 := Lib.hid b2
      clear r2 b2
      go_wp2_with fail
      refine (CS.out w _ R2.out B2.out).mono ?_
      rintro e w3 ⟨rfl, r3, b3⟩
      have R3 := Lib.hid r3
      have B3 := Lib.hid b3
      clear r3 b3
      go_wp2_with fail
      refine (CJ.out w _ R3.out B3.out).mono ?_
      rintro e w4 ⟨rfl, r4, b4⟩
      have R4 := Lib.hid r4
      have B4 := Lib.hid b4
      clear r4 b4
      go_wp2
      go_ret
      exact ⟨rfl, B4.out⟩


/-- what the law of a word's cost asks -/
theorem fb_facts {l : List Int} {s : List UInt8} (h : fbI l s ≠ -1) : loadB l = true ∧ fcI l ≤ fbI l s ∧ fbI l s ≤ (l.length : Int) * sumI l l.length ∧ 0 ≤ fbI l s ∧ sumI l l.length ≤ 140 ∧ 0 ≤ sumI l l.length ∧ l.length ≤ 7 := by
  by_cases hc : loadB l = true ∧ valid s = true ∧ s.length = 2 * l.length
  · obtain ⟨hw, hv, hl⟩ := hc
    obtain ⟨L, rfl, eL, h7, h20⟩ := loadB_nats hw
    rw [ldI_len] at hl
    have e1 := fbI_yes h7 h20 hv hl
    have e2 := fcI_yes hw
    rw [natsL_ldI] at e2
    have e3 := sumI_ldI L _ (Nat.le_refl _)
    rw [List.take_length] at e3
    have i1 := fbW_least hv hl
    have i2 := fbW_most hv hl
    have i3 := sum_bd h20
    rw [e1, e2, ldI_len, e3]
    refine ⟨hw, by omega, ?_, by omega, by omega, by omega, h7⟩
    have : ((L.length * L.sum : Nat) : Int) = (L.length : Int) * (L.sum : Int) := Int.natCast_mul _ _
    omega
  · exact absurd (fbI_no hc) h

set_option maxHeartbeats 3200000 in
set_option maxRecDepth 100000 in
theorem fnFindBy_law (PF : FindFn 31) (PC : LoadFn 26 fcI) (a : Option Addr) (len cap : Nat) (zs : List Int) (w : World) (hr0 : IsRow .u8 w a len cap zs) :
    Calls Try.prog 8 #[.slice a len cap] w fun e w' => e = .returned (.bool true) ∧ Below w.heap.size w w' := by
  have hr := Lib.hid hr0
  clear hr0
  by_cases hbig : (1048576 : Int) < (len : Int)
  · go_enter Try.func8, Try.ntmps8
    go_wp2
    go_ret
    exact ⟨rfl, Below.refl _ _⟩
  · go_enter Try.func8, Try.ntmps8
    go_wp2_with fail
    refine (drawFindBy a len cap zs w hr (by omega)).mono ?_
    rintro e w1 ⟨v, l, s, rfl, o, hl7, hs, b1⟩
    obtain ⟨av, cv, rfl, _, hcv, _, _⟩ := o.slice
    rw [iv_length] at o hcv
    have RL := own_rd o
    have s01 := b1.size
    obtain ⟨n, hn⟩ : ∃ n, l.length = n := ⟨_, rfl⟩
    rw [iv_length, hn]
    rw [hn] at o hcv hl7
    have O1 := Lib.hid o
    have B1 := Lib.hid b1
    have r0 : Hid (Below w1.heap.size w1 w1) := Below.refl _ _
    have HN := Lib.hid hn
    have hsm : s.size ≤ maxLen := by unfold maxLen; omega
    have CF := PF.at_ (B := w.heap.size) RL HN.out (by omega) hcv hsm s01
    have CS := specFindBy_fn.at_ (B := w.heap.size) RL HN.out (by omega) hcv hsm s01
    have CC := PC.at_ (B := w.heap.size) RL HN.out (by omega) hcv s01
    clear o b1 hr
    by_cases hj : fbI l s.data.toList = -1
    · rw [hj] at CF CS
      clear CC PF PC RL hj hn
      go_wp2_with fail
      refine (CF.out w _ r0.out B1.out).mono ?_
      rintro e w2 ⟨rfl, r2, b2⟩
      have R2 := Lib.hid r2
      have B2 := Lib.hid b2
      clear r2 b2
      go_wp2_with fail
      refine (CS.out w _ R2.out B2.out).mono ?_
      rintro e w3 ⟨rfl, r3, b3⟩
      have R3 := Lib.hid r3
      have B3 := Lib.hid b3
      clear r3 b3
      go_wp2_with fail
      refine (CS.out w _ R3.out B3.out).mono ?_
      rintro e w4 ⟨rfl, r4, b4⟩
      have R4 := Lib.hid r4
      have B4 := Lib.hid b4
      clear r4 b4
      go_wp2
      go_ret
      exact ⟨rfl, B4.out⟩
    · obtain ⟨hw, f1, f2, f3, f4, f5, _⟩ := fb_facts hj
      have CU := Lib.hid (fun W (hW : Below w1.heap.size w1 W) => total_any l (.slice av n cv) W (O1.out.below hW) (by rw [HN.out]; omega) (Lib.hid fun x hx => by have := loadB_at hw hx; omega))
      obtain ⟨z, hz⟩ : ∃ z, z = fbI l s.data.toList := ⟨_, rfl⟩
      obtain ⟨y, hy⟩ : ∃ y, y = sumI l l.length := ⟨_, rfl⟩
      obtain ⟨x, hx⟩ : ∃ x, x = fcI l := ⟨_, rfl⟩
      rw [← hz] at CF CS f1 f2 f3
      rw [← hy] at CU f2 f4 f5
      rw [← hx] at CC f1
      rw [hn] at f2
      have q1 : (z == z) = true := beq_self_eq_true _
      have q2 : ¬ z < 0 := by omega
      obtain ⟨p, hp⟩ : ∃ p, p = (n : Int) * y := ⟨_, rfl⟩
      have hp9 : 0 ≤ p ∧ p ≤ 980 := by
        rw [hp]
        refine ⟨Int.mul_nonneg (by omega) f5, ?_⟩
        have h1 : (n : Int) * y ≤ 7 * y := Int.mul_le_mul_of_nonneg_right (by omega) f5
        omega
      have e1 : IntKind.i64.wrap ((n : Int) * y) = p := by rw [← hp, IntKind.wrap_i64]; omega
      rw [← hp] at f2
      clear hz hy hx hw hj hp hp9 hn RL PF PC f4 f5
      go_wp2_with fail
      refine (CF.out w _ r0.out B1.out).mono ?_
      rintro e w2 ⟨rfl, r2, b2⟩
      have R2 := Lib.hid r2
      have B2 := Lib.hid b2
      clear r2 b2
      go_wp2_with fail
      refine (CS.out w _ R2.out B2.out).mono ?_
      rintro e w3 ⟨rfl, r3, b3⟩
      have R3 := Lib.hid r3
      have B3 := Lib.hid b3
      clear r3 b3
      go_wp2_with fail
      refine (CC.out w _ R3.out B3.out).mono ?_
      rintro e w4 ⟨rfl, r4, b4⟩
      have R4 := Lib.hid r4
      have B4 := Lib.hid b4
      clear r4 b4
      go_wp2_with fail
      refine (CU.out _ R4.out).mono ?_
      rintro e w5 ⟨rfl, rfl⟩
      go_wp2
      go_ret
      exact ⟨(by first | rfl | (simp [f1, f2]; done) | (rw [decide_eq_true f2]; rfl)), B4.out⟩
end Go.Proofs.Ytakpbnkncjddeaa
