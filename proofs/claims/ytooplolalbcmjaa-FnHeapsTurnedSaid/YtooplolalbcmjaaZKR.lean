/-
  The walks of the laws of rows, with the program's functions as premises.
  The walks of the laws of heaps of a word, with the program's functions as premises.
-/
import Derived.Test.YtooplolalbcmjaaZS
import Derived.Test.YtooplolalbcmjaaZDR
import Derived.Test.YtooplolalbcmjaaCBack
import Derived.Test.YtooplolalbcmjaaZW
import Derived.Test.YtooplolalbcmjaaZE
import Derived.Test.YtooplolalbcmjaaKFact
namespace Go.Proofs.Ytooplolalbcmjaa
open Go.RowKit

set_option maxRecDepth 100000 in
set_option maxHeartbeats 1600000 in
theorem fnValidRow_law (PV : RowFn 15 (vB rowB)) (a : Option Addr) (len cap : Nat) (zs : List Int) (w : World) (hr0 : IsRow .u8 w a len cap zs) :
    Calls Try.prog 4 #[.slice a len cap] w fun e w' => e = .returned (.bool true) ∧ Below w.heap.size w w' := by
  have hr := Lib.hid hr0
  clear hr0
  by_cases hbig : (1048576 : Int) < (len : Int)
  · go_enter Try.func4, Try.ntmps4
    go_wp2
    go_ret
    exact ⟨rfl, Below.refl _ _⟩
  · go_enter Try.func4, Try.ntmps4
    go_wp2_with fail
    refine (drawValidRow a len cap zs w hr (by omega)).mono ?_
    rintro e w1 ⟨v, l, rfl, o, hl9, hb⟩
    obtain ⟨av, cv, rfl, _, hcv, _, _⟩ := o.slice
    rw [iv_length] at o hcv ⊢
    have B1 := Lib.hid hb
    have O1 := Lib.hid o
    have R1 := Lib.hid (own_rd o)
    have CP := Lib.hid (fun (w : World) (H : Nat) (h1 : Hid (RdI w H av l)) h2 => PV l av cv w H h1 h2 (by omega) hcv)
    have CS := Lib.hid (fun (w : World) (H : Nat) (h1 : Hid (RdI w H av l)) h2 => specValidRow_fn l av cv w H h1 h2 (by omega) hcv)
    simp only [vB] at CP CS
    have HR := Lib.hid (rowB_back l)
    have HBK := Lib.hid (fun W (h : Below w1.heap.size w1 W) => backwards_any l (.slice av l.length cv) W (Lib.hid (O1.out.below h)) h.size (by omega))
    have CL := Lib.hid (fun (a' : Option Addr) (cv' : Nat) (w : World) (H : Nat) (h1 : Hid (RdI w H a' l.reverse)) h2 h4 => PV l.reverse a' cv' w H h1 h2 (by rw [List.length_reverse]; omega) h4)
    simp only [vB, HR.out, List.length_reverse] at CL
    obtain ⟨t, ht⟩ : ∃ t, t = rowB l := ⟨_, rfl⟩
    rw [← ht] at CP CS CL
    clear o hb hr ht hl9 HR hcv PV
    go_wp2_with fail
    refine (CP.out w1 _ R1 (Nat.le_refl _)).mono ?_
    rintro e w2 ⟨rfl, b2⟩
    have B2 := Lib.hid b2
    have R2 := Lib.hid (R1.out.below b2)
    have s2 := Lib.hid b2.size
    clear b2
    go_wp2_with fail
    refine (CS.out w2 _ R2 s2.out).mono ?_
    rintro e w3 ⟨rfl, b3⟩
    have B3 := Lib.hid (B2.out.trans (b3.mono s2.out))
    have R3 := Lib.hid (R1.out.below B3.out)
    clear b3
    cases t
    · go_wp2_with fail
      refine (CS.out w3 _ R3 B3.out.size).mono ?_
      rintro e w4 ⟨rfl, b4⟩
      have B4 := Lib.hid (B3.out.trans (b4.mono B3.out.size))
      go_wp2
      go_ret
      exact ⟨rfl, B1.out.trans (B4.out.mono B1.out.size)⟩
    · go_wp2_with fail
      refine (HBK.out w3 B3.out).mono ?_
      rintro e w4 ⟨v4, rfl, o4, b4⟩
      obtain ⟨a4, c4, rfl, _, hc4, _, _⟩ := o4.slice
      have B4 := Lib.hid (B3.out.trans (b4.mono B3.out.size))
      have C4 := CL.out a4 c4 w4 w4.heap.size (Lib.hid (own_rd (by rw [iv_length] at o4; exact o4))) (Nat.le_refl _) (by rw [iv_length, List.length_reverse] at hc4; exact hc4)
      rw [iv_length, List.length_reverse]
      have C4 := Lib.hid C4
      clear o4 b4 hc4 CL
      go_wp2_with fail
      refine C4.out.mono ?_
      rintro e w5 ⟨rfl, b5⟩
      have B5 := Lib.hid (B4.out.trans (b5.mono B4.out.size))
      go_wp2
      go_ret
      exact ⟨rfl, B1.out.trans (B5.out.mono B1.out.size)⟩

set_option maxRecDepth 100000 in
set_option maxHeartbeats 1600000 in
theorem fnFallsOf_law (PF : RowFn 40 (vI fallsO)) (a : Option Addr) (len cap : Nat) (zs : List Int) (w : World) (hr0 : IsRow .u8 w a len cap zs) :
    Calls Try.prog 9 #[.slice a len cap] w fun e w' => e = .returned (.bool true) ∧ Below w.heap.size w w' := by
  have hr := Lib.hid hr0
  clear hr0
  by_cases hbig : (1048576 : Int) < (len : Int)
  · go_enter Try.func9, Try.ntmps9
    go_wp2
    go_ret
    exact ⟨rfl, Below.refl _ _⟩
  · go_enter Try.func9, Try.ntmps9
    go_wp2_with fail
    refine (drawFallsOf a len cap zs w hr (by omega)).mono ?_
    rintro e w1 ⟨v, l, rfl, o, hl9, hb⟩
    obtain ⟨av, cv, rfl, _, hcv, _, _⟩ := o.slice
    rw [iv_length] at o hcv ⊢
    have B1 := Lib.hid hb
    have O1 := Lib.hid o
    have R1 := Lib.hid (own_rd o)
    have CP := Lib.hid (fun (w : World) (H : Nat) (h1 : Hid (RdI w H av l)) h2 => PF l av cv w H h1 h2 (by omega) hcv)
    have CS := Lib.hid (fun (w : World) (H : Nat) (h1 : Hid (RdI w H av l)) h2 => specFallsOf_fn l av cv w H h1 h2 (by omega) hcv)
    simp only [vI] at CP CS
    have HBK := Lib.hid (fun W (h : Below w1.heap.size w1 W) => backwards_any l (.slice av l.length cv) W (Lib.hid (O1.out.below h)) h.size (by omega))
    have CL := Lib.hid (fun (a' : Option Addr) (cv' : Nat) (w : World) (H : Nat) (h1 : Hid (RdI w H a' l.reverse)) h2 h4 => PF l.reverse a' cv' w H h1 h2 (by rw [List.length_reverse]; omega) h4)
    simp only [vI, List.length_reverse] at CL
    cases hrb : rowB l with
    | false =>
      have et : fallsO l = -1 := by rw [fallsO, if_neg (by rw [hrb]; decide)]
      rw [et] at CP CS
      clear o hb hr hl9 hcv PF CL HBK et hrb
      go_wp2_with fail
      refine (CP.out w1 _ R1 (Nat.le_refl _)).mono ?_
      rintro e w2 ⟨rfl, b2⟩
      have B2 := Lib.hid b2
      have R2 := Lib.hid (R1.out.below b2)
      have s2 := Lib.hid b2.size
      clear b2
      go_wp2_with fail
      refine (CS.out w2 _ R2 s2.out).mono ?_
      rintro e w3 ⟨rfl, b3⟩
      have B3 := Lib.hid (B2.out.trans (b3.mono s2.out))
      have R3 := Lib.hid (R1.out.below B3.out)
      clear b3
      go_wp2_with fail
      refine (CS.out w3 _ R3 B3.out.size).mono ?_
      rintro e w4 ⟨rfl, b4⟩
      have B4 := Lib.hid (B3.out.trans (b4.mono B3.out.size))
      go_wp2
      go_ret
      exact ⟨rfl, B1.out.trans (B4.out.mono B1.out.size)⟩
    | true =>
      have et : fallsO l = ((fallsL l : Nat) : Int) := by rw [fallsO, if_pos hrb]
      have er : fallsO l.reverse = ((fallsL l.reverse : Nat) : Int) := by rw [fallsO, if_pos (by rw [rowB_back]; exact hrb)]
      have hsum := falls_back ((rowB_iff l).mp hrb).2.2
      rw [et] at CP CS
      rw [er] at CL
      obtain ⟨F, hF⟩ : ∃ F, F = fallsL l := ⟨_, rfl⟩
      obtain ⟨G, hG⟩ : ∃ G, G = fallsL l.reverse := ⟨_, rfl⟩
      rw [← hF] at CP CS hsum
      rw [← hG] at CL hsum
      have HS := Lib.hid hsum
      obtain ⟨n, hn⟩ : ∃ n, n = l.length := ⟨_, rfl⟩
      have HN := Lib.hid hn
      rw [← hn] at hsum hl9 hcv HS CP CS CL HBK ⊢
      have b0 : ¬ (F : Int) < 0 := by omega
      clear o hb hr hcv PF et er hrb hF hG hn O1
      go_wp2_with fail
      refine (CP.out w1 _ R1 (Nat.le_refl _)).mono ?_
      rintro e w2 ⟨rfl, b2⟩
      have B2 := Lib.hid b2
      have R2 := Lib.hid (R1.out.below b2)
      have s2 := Lib.hid b2.size
      clear b2 CP
      go_wp2_with fail
      refine (CS.out w2 _ R2 s2.out).mono ?_
      rintro e w3 ⟨rfl, b3⟩
      have B3 := Lib.hid (B2.out.trans (b3.mono s2.out))
      clear b3 CS
      by_cases hn0 : n = 0
      · have hF0 : F = 0 := by omega
        subst hn0 hF0
        clear hsum hl9
        go_wp2
        go_ret
        exact ⟨rfl, B1.out.trans (B3.out.mono B1.out.size)⟩
      · have q0 : ((n : Int) == 0) = false := beq_false_of_ne (by omega)
        have q1 : (0 : Int) < (n : Int) := by omega
        have e1 : IntKind.i64.wrap ((F : Int) + (G : Int)) = (n : Int) - 1 := by rw [IntKind.wrap_i64]; omega
        have e2 : IntKind.i64.wrap ((n : Int) - 1) = (n : Int) - 1 := by rw [IntKind.wrap_i64]; omega
        have e3 : (F : Int) + (G : Int) = (n : Int) - 1 := by omega
        clear hsum
        go_wp2_with fail
        refine (HBK.out w3 B3.out).mono ?_
        rintro e w4 ⟨v4, rfl, o4, b4⟩
        obtain ⟨a4, c4, rfl, _, hc4, _, _⟩ := o4.slice
        have B4 := Lib.hid (B3.out.trans (b4.mono B3.out.size))
        have C4 := CL.out a4 c4 w4 w4.heap.size (Lib.hid (own_rd (by rw [iv_length] at o4; exact o4))) (Nat.le_refl _) (by rw [iv_length, List.length_reverse, ← HN.out] at hc4; exact hc4)
        rw [iv_length, List.length_reverse, ← HN.out]
        have C4 := Lib.hid C4
        clear o4 b4 hc4 CL
        go_wp2_with fail
        refine C4.out.mono ?_
        rintro e w5 ⟨rfl, b5⟩
        have B5 := Lib.hid (B4.out.trans (b5.mono B4.out.size))
        have q9 : ((n : Int) - 1 == (n : Int) - 1) = true := beq_self_eq_true _
        go_wp2
        go_ret
        exact ⟨rfl, B1.out.trans (B5.out.mono B1.out.size)⟩

theorem hwO_size (l : List Int) : (hwO l).size ≤ 2 * l.length := by
  rw [hwO]
  split
  · rw [hwS_size]; exact Nat.le_refl _
  · exact Nat.zero_le _
theorem heaps_turned {l : List Int} (h : rowB l = true) : heapsO (hwO l.reverse).data.toList = heapsO (hwO l).data.toList := by
  have h8 := ((rowB_iff l).mp h).1
  have hn := ((rowB_iff l).mp h).2.2
  rw [hwO, hwO, if_pos h, if_pos (by rw [rowB_back]; exact h)]
  show heapsO (Tw.row l.reverse).lst = heapsO (Tw.row l).lst
  rw [heapsO_lst (by rw [Tw.row_size, List.length_reverse]; exact h8), heapsO_lst (by rw [Tw.row_size]; exact h8), Tw.row_back l.length l (Nat.le_refl _) hn, Tw.heaps_flip _ (by rw [Tw.row_size]; exact h8)]

set_option maxRecDepth 100000 in
set_option maxHeartbeats 1600000 in
theorem fnHeapsTurned_law (PV : RowFn 15 (vB rowB)) (PW : RowFn 22 (vT hwO)) (PH : TextFn 29 (vN heapsO)) (a : Option Addr) (len cap : Nat) (zs : List Int) (w : World) (hr0 : IsRow .u8 w a len cap zs) :
    Calls Try.prog 11 #[.slice a len cap] w fun e w' => e = .returned (.bool true) ∧ Below w.heap.size w w' := by
  have hr := Lib.hid hr0
  clear hr0
  by_cases hbig : (1048576 : Int) < (len : Int)
  · go_enter Try.func11, Try.ntmps11
    go_wp2
    go_ret
    exact ⟨rfl, Below.refl _ _⟩
  · go_enter Try.func11, Try.ntmps11
    go_wp2_with fail
    refine (drawHeapWord a len cap zs w hr (by omega)).mono ?_
    rintro e w1 ⟨v, l, rfl, o, hl9, hb⟩
    obtain ⟨av, cv, rfl, _, hcv, _, _⟩ := o.slice
    rw [iv_length] at o hcv ⊢
    have B1 := Lib.hid hb
    have O1 := Lib.hid o
    have R1 := Lib.hid (own_rd o)
    have CP := Lib.hid (fun (w : World) (H : Nat) (h1 : Hid (RdI w H av l)) h2 => PW l av cv w H h1 h2 (by omega) hcv)
    have CV := Lib.hid (fun (w : World) (H : Nat) (h1 : Hid (RdI w H av l)) h2 => PV l av cv w H h1 h2 (by omega) hcv)
    have CS := Lib.hid (fun (w : World) (H : Nat) (h1 : Hid (RdI w H av l)) h2 => specHeapWord_fn l av cv w H h1 h2 (by omega) hcv)
    have hz1 := hwO_size l
    have hz2 := hwO_size l.reverse
    rw [List.length_reverse] at hz2
    have CH1 := Lib.hid (fun w => PH (hwO l) w (by unfold maxLen; omega))
    have CH2 := Lib.hid (fun w => PH (hwO l.reverse) w (by unfold maxLen; omega))
    simp only [vB, vT, vN] at CP CS CV CH1 CH2
    have HBK := Lib.hid (fun W (h : Below w1.heap.size w1 W) => backwards_any l (.slice av l.length cv) W (Lib.hid (O1.out.below h)) h.size (by omega))
    have CL := Lib.hid (fun (a' : Option Addr) (cv' : Nat) (w : World) (H : Nat) (h1 : Hid (RdI w H a' l.reverse)) h2 h4 => PW l.reverse a' cv' w H h1 h2 (by rw [List.length_reverse]; omega) h4)
    have CLL := Lib.hid (fun (a' : Option Addr) (cv' : Nat) (w : World) (H : Nat) (h1 : Hid (RdI w H a' l)) h2 h4 => PW l a' cv' w H h1 h2 (by omega) h4)
    simp only [vT, List.length_reverse] at CL CLL
    have HB2 := Lib.hid (fun (v' : Value) W (H : Nat) (ho : Hid (Own W H W.heap.size 3 v' (iv l.reverse))) => backwards_any l.reverse v' W ho (Nat.le_refl _) (by rw [List.length_reverse]; omega))
    simp only [List.reverse_reverse] at HB2
    have HEQ := Lib.hid (fun h => heaps_turned (l := l) h)
    obtain ⟨T, hT⟩ : ∃ T, T = hwO l := ⟨_, rfl⟩
    obtain ⟨U, hU⟩ : ∃ U, U = hwO l.reverse := ⟨_, rfl⟩
    obtain ⟨t, ht⟩ : ∃ t, t = rowB l := ⟨_, rfl⟩
    rw [← hT] at CP CS CH1 CLL HEQ
    rw [← hU] at CL CH2 HEQ
    rw [← ht] at CV HEQ
    have q1 : (T.toList == T.toList) = true := beq_self_eq_true _
    obtain ⟨n, hn⟩ : ∃ n, n = l.length := ⟨_, rfl⟩
    have HN := Lib.hid hn
    rw [← hn] at CP CS CV CL CLL HBK ⊢
    clear o hb hr hl9 hcv PV PW PH hT hU ht hn hz1 hz2 O1
    go_wp2_with fail
    refine (CP.out w1 _ R1 (Nat.le_refl _)).mono ?_
    rintro e w2 ⟨rfl, b2⟩
    have B2 := Lib.hid b2
    have R2 := Lib.hid (R1.out.below b2)
    have s2 := Lib.hid b2.size
    clear b2
    go_wp2_with fail
    refine (CS.out w2 _ R2 s2.out).mono ?_
    rintro e w3 ⟨rfl, b3⟩
    have B3 := Lib.hid (B2.out.trans (b3.mono s2.out))
    have R3 := Lib.hid (R1.out.below B3.out)
    clear b3
    go_wp2_with fail
    refine (CV.out w3 _ R3 B3.out.size).mono ?_
    rintro e w4 ⟨rfl, b4⟩
    have B4 := Lib.hid (B3.out.trans (b4.mono B3.out.size))
    have R4 := Lib.hid (R1.out.below B4.out)
    clear b4
    cases t
    · go_wp2
      go_ret
      exact ⟨rfl, B1.out.trans (B4.out.mono B1.out.size)⟩
    · have HE := Lib.hid (HEQ.out rfl)
      clear HEQ CV CS
      go_wp2_with fail
      refine (CP.out w4 _ R4 B4.out.size).mono ?_
      rintro e w5 ⟨rfl, b5⟩
      have B5 := Lib.hid (B4.out.trans (b5.mono B4.out.size))
      clear b5 CP
      go_wp2_with fail
      refine (HBK.out w5 B5.out).mono ?_
      rintro e w6 ⟨v6, rfl, o6, b6⟩
      obtain ⟨a6, c6, rfl, _, hc6, _, _⟩ := o6.slice
      have B6 := Lib.hid (B5.out.trans (b6.mono B5.out.size))
      have C6 := CL.out a6 c6 w6 w6.heap.size (Lib.hid (own_rd (by rw [iv_length] at o6; exact o6))) (Nat.le_refl _) (by rw [iv_length, List.length_reverse, ← HN.out] at hc6; exact hc6)
      rw [iv_length, List.length_reverse, ← HN.out]
      have C6 := Lib.hid C6
      clear o6 b6 hc6
      go_wp2_with fail
      refine C6.out.mono ?_
      rintro e w7 ⟨rfl, b7⟩
      have B7 := Lib.hid (B6.out.trans (b7.mono B6.out.size))
      clear b7 C6
      go_wp2_with fail
      refine (CH1.out w7).mono ?_
      rintro e w8 ⟨rfl, b8⟩
      have B8 := Lib.hid (B7.out.trans (b8.mono B7.out.size))
      clear b8
      go_wp2_with fail
      refine (CH2.out w8).mono ?_
      rintro e w9 ⟨rfl, b9⟩
      have B9 := Lib.hid (B8.out.trans (b9.mono B8.out.size))
      rw [HE.out]
      clear b9 CH1 CH2 HE
      obtain ⟨z, hz⟩ : ∃ z, z = heapsO T.data.toList := ⟨_, rfl⟩
      rw [← hz]
      have q2 : (z == z) = true := beq_self_eq_true _
      clear hz
      go_wp2_with fail
      refine (HBK.out w9 B9.out).mono ?_
      rintro e w10 ⟨v10, rfl, o10, b10⟩
      have B10 := Lib.hid (B9.out.trans (b10.mono B9.out.size))
      have C10 := Lib.hid (HB2.out v10 w10 _ (Lib.hid o10))
      clear o10 b10 HB2
      go_wp2_with fail
      refine C10.out.mono ?_
      rintro e w11 ⟨v11, rfl, o11, b11⟩
      obtain ⟨a11, c11, rfl, _, hc11, _, _⟩ := o11.slice
      have B11 := Lib.hid (B10.out.trans (b11.mono B10.out.size))
      have C11 := CLL.out a11 c11 w11 w11.heap.size (Lib.hid (own_rd (by rw [iv_length] at o11; exact o11))) (Nat.le_refl _) (by rw [iv_length, ← HN.out] at hc11; exact hc11)
      rw [iv_length, ← HN.out]
      have C11 := Lib.hid C11
      clear o11 b11 hc11 C10
      go_wp2_with fail
      refine C11.out.mono ?_
      rintro e w12 ⟨rfl, b12⟩
      have B12 := Lib.hid (B11.out.trans (b12.mono B11.out.size))
      go_wp2
      go_ret
      exact ⟨rfl, B1.out.trans (B12.out.mono B1.out.size)⟩
end Go.Proofs.Ytooplolalbcmjaa

namespace Go.Proofs.Ytooplolalbcmjaa
open Go.RowKit

theorem heapsO_cases (l : List UInt8) : heapsO l = -1 ∨ ∃ t : Tw, t.lst = l ∧ t.size ≤ 8 ∧ heapsO l = ((t.heaps : Nat) : Int) := by
  by_cases h : valid l = true ∧ l.length ≤ 16
  · obtain ⟨t, h1, h2⟩ := tree_of h.1 h.2
    exact Or.inr ⟨t, h1, h2, by rw [← h1]; exact heapsO_lst h2⟩
  · exact Or.inl (by rw [heapsO, if_neg h])
theorem triedO_cases (l : List UInt8) : triedO l = -1 ∨ (0 ≤ triedO l ∧ triedO l = heapsO l) := by
  by_cases h : valid l = true ∧ l.length ≤ 10
  · have e1 : triedO l = ((Tw.heapsL 16 l : Nat) : Int) := by rw [triedO, if_pos h]
    have e2 : heapsO l = ((Tw.heapsL 16 l : Nat) : Int) := by rw [heapsO, if_pos ⟨h.1, by omega⟩]
    exact Or.inr ⟨by rw [e1]; exact Int.natCast_nonneg _, by rw [e1, e2]⟩
  · exact Or.inl (by rw [triedO, if_neg h])
theorem nest_times : ∀ n, n ≤ 8 → timesL [40] n ++ timesL [41] n = (Tw.nest n).lst := by decide
theorem side_times : ∀ n, n ≤ 8 → timesL [40, 41] n = (Tw.side n).lst := by decide

set_option maxRecDepth 100000 in
set_option maxHeartbeats 1600000 in
theorem fnHeapsOf_law (PH : TextFn 29 (vN heapsO)) (PK : TextFn 32 (vN heapsO)) (PT : TextFn 31 (vN triedO)) (a : Option Addr) (len cap : Nat) (zs : List Int) (w : World) (hr0 : IsRow .u8 w a len cap zs) :
    Calls Try.prog 6 #[.slice a len cap] w fun e w' => e = .returned (.bool true) ∧ Below w.heap.size w w' := by
  have hr := Lib.hid hr0
  clear hr0
  by_cases hbig : (1048576 : Int) < (len : Int)
  · go_enter Try.func6, Try.ntmps6
    go_wp2
    go_ret
    exact ⟨rfl, Below.refl _ _⟩
  · go_enter Try.func6, Try.ntmps6
    go_wp2_with fail
    refine (drawHeapsOf a len cap zs w hr (by omega)).mono ?_
    rintro e w1 ⟨s, rfl, hs60, hb⟩
    have hsm : s.size ≤ maxLen := by unfold maxLen; omega
    have B1 := Lib.hid hb
    clear hb hr
    have CP := Lib.hid (fun w => PH s w hsm)
    have CS := Lib.hid (fun w => specHeapsOf_fn s w hsm)
    have CK := Lib.hid (fun w => PK s w hsm)
    have CT := Lib.hid (fun w => PT s w hsm)
    simp only [vN] at CP CS CK CT
    have hc := heapsO_cases s.data.toList
    have hd := triedO_cases s.data.toList
    obtain ⟨z, hz⟩ : ∃ z, z = heapsO s.data.toList := ⟨_, rfl⟩
    obtain ⟨y, hy⟩ : ∃ y, y = triedO s.data.toList := ⟨_, rfl⟩
    rw [← hz] at CP CS CK hc hd
    rw [← hy] at CT hd
    clear hz hy PH PK PT
    have qz : (z == z) = true := beq_self_eq_true _
    rcases hc with hc | ⟨t, _, _, hc⟩
    · have b0 : z < 0 := by omega
      clear hd CK CT
      go_wp2_with fail
      refine (CP.out w1).mono ?_
      rintro e w2 ⟨rfl, b2⟩
      have B2 := Lib.hid (B1.out.trans (b2.mono B1.out.size))
      clear b2
      go_wp2_with fail
      refine (CS.out w2).mono ?_
      rintro e w3 ⟨rfl, b3⟩
      have B3 := Lib.hid (B2.out.trans (b3.mono B2.out.size))
      clear b3
      subst hc
      go_wp2_with fail
      refine (CS.out w3).mono ?_
      rintro e w4 ⟨rfl, b4⟩
      have B4 := Lib.hid (B3.out.trans (b4.mono B3.out.size))
      clear b4
      go_wp2
      go_ret
      exact ⟨rfl, B4.out⟩
    · have b0 : ¬ z < 0 := by omega
      clear hc
      go_wp2_with fail
      refine (CP.out w1).mono ?_
      rintro e w2 ⟨rfl, b2⟩
      have B2 := Lib.hid (B1.out.trans (b2.mono B1.out.size))
      clear b2
      go_wp2_with fail
      refine (CS.out w2).mono ?_
      rintro e w3 ⟨rfl, b3⟩
      have B3 := Lib.hid (B2.out.trans (b3.mono B2.out.size))
      clear b3
      go_wp2_with fail
      refine (CT.out w3).mono ?_
      rintro e w4 ⟨rfl, b4⟩
      have B4 := Lib.hid (B3.out.trans (b4.mono B3.out.size))
      clear b4
      go_wp2_with fail
      refine (CK.out w4).mono ?_
      rintro e w5 ⟨rfl, b5⟩
      have B5 := Lib.hid (B4.out.trans (b5.mono B4.out.size))
      clear b5
      rcases hd with hd | ⟨hd1, hd2⟩
      · subst hd
        go_wp2
        go_ret
        exact ⟨rfl, B5.out⟩
      · subst hd2
        go_wp2
        go_ret
        exact ⟨rfl, B5.out⟩

set_option maxRecDepth 100000 in
set_option maxHeartbeats 1600000 in
theorem fnHeapsTried_law (PH : TextFn 29 (vN heapsO)) (PT : TextFn 31 (vN triedO)) (a : Option Addr) (len cap : Nat) (zs : List Int) (w : World) (hr0 : IsRow .u8 w a len cap zs) :
    Calls Try.prog 8 #[.slice a len cap] w fun e w' => e = .returned (.bool true) ∧ Below w.heap.size w w' := by
  have hr := Lib.hid hr0
  clear hr0
  by_cases hbig : (1048576 : Int) < (len : Int)
  · go_enter Try.func8, Try.ntmps8
    go_wp2
    go_ret
    exact ⟨rfl, Below.refl _ _⟩
  · go_enter Try.func8, Try.ntmps8
    go_wp2_with fail
    refine (drawHeapsTried a len cap zs w hr (by omega)).mono ?_
    rintro e w1 ⟨s, rfl, hs60, hb⟩
    have hsm : s.size ≤ maxLen := by unfold maxLen; omega
    have B1 := Lib.hid hb
    clear hb hr
    have CP := Lib.hid (fun w => PT s w hsm)
    have CS := Lib.hid (fun w => specHeapsTried_fn s w hsm)
    have CH := Lib.hid (fun w => PH s w hsm)
    simp only [vN] at CP CS CH
    have hd := triedO_cases s.data.toList
    obtain ⟨z, hz⟩ : ∃ z, z = heapsO s.data.toList := ⟨_, rfl⟩
    obtain ⟨y, hy⟩ : ∃ y, y = triedO s.data.toList := ⟨_, rfl⟩
    rw [← hz] at CH hd
    rw [← hy] at CP CS hd
    clear hz hy PH PT
    rcases hd with hd | ⟨hd1, hd2⟩
    · subst hd
      clear CH
      go_wp2_with fail
      refine (CP.out w1).mono ?_
      rintro e w2 ⟨rfl, b2⟩
      have B2 := Lib.hid (B1.out.trans (b2.mono B1.out.size))
      clear b2
      go_wp2_with fail
      refine (CS.out w2).mono ?_
      rintro e w3 ⟨rfl, b3⟩
      have B3 := Lib.hid (B2.out.trans (b3.mono B2.out.size))
      clear b3
      go_wp2_with fail
      refine (CS.out w3).mono ?_
      rintro e w4 ⟨rfl, b4⟩
      have B4 := Lib.hid (B3.out.trans (b4.mono B3.out.size))
      clear b4
      go_wp2
      go_ret
      exact ⟨rfl, B4.out⟩
    · subst hd2
      have b0 : ¬ y < 0 := by omega
      have qz : (y == y) = true := beq_self_eq_true _
      clear hd1
      go_wp2_with fail
      refine (CP.out w1).mono ?_
      rintro e w2 ⟨rfl, b2⟩
      have B2 := Lib.hid (B1.out.trans (b2.mono B1.out.size))
      clear b2
      go_wp2_with fail
      refine (CS.out w2).mono ?_
      rintro e w3 ⟨rfl, b3⟩
      have B3 := Lib.hid (B2.out.trans (b3.mono B2.out.size))
      clear b3
      go_wp2_with fail
      refine (CH.out w3).mono ?_
      rintro e w4 ⟨rfl, b4⟩
      have B4 := Lib.hid (B3.out.trans (b4.mono B3.out.size))
      clear b4
      go_wp2
      go_ret
      exact ⟨rfl, B4.out⟩

set_option maxRecDepth 100000 in
set_option maxHeartbeats 1600000 in
theorem fnHeapsByHooks_law (PK : TextFn 32 (vN heapsO)) (a : Option Addr) (len cap : Nat) (zs : List Int) (w : World) (hr0 : IsRow .u8 w a len cap zs) :
    Calls Try.prog 7 #[.slice a len cap] w fun e w' => e = .returned (.bool true) ∧ Below w.heap.size w w' := by
  have hr := Lib.hid hr0
  clear hr0
  by_cases hbig : (1048576 : Int) < (len : Int)
  · go_enter Try.func7, Try.ntmps7
    go_wp2
    go_ret
    exact ⟨rfl, Below.refl _ _⟩
  · go_enter Try.func7, Try.ntmps7
    go_wp2_with fail
    refine (drawHeapsByHooks a len cap zs w hr (by omega)).mono ?_
    rintro e w1 ⟨s, rfl, hs60, hb⟩
    have hsm : s.size ≤ maxLen := by unfold maxLen; omega
    have B1 := Lib.hid hb
    clear hb hr
    have CP := Lib.hid (fun w => PK s w hsm)
    have CS := Lib.hid (fun w => specHeapsByHooks_fn s w hsm)
    simp only [vN] at CP CS
    have hc := heapsO_cases s.data.toList
    obtain ⟨z, hz⟩ : ∃ z, z = heapsO s.data.toList := ⟨_, rfl⟩
    rw [← hz] at CP CS hc
    clear hz
    rcases hc with hc | ⟨t, ht, ht8, hc⟩
    · subst hc
      clear PK
      go_wp2_with fail
      refine (CP.out w1).mono ?_
      rintro e w2 ⟨rfl, b2⟩
      have B2 := Lib.hid (B1.out.trans (b2.mono B1.out.size))
      clear b2
      go_wp2_with fail
      refine (CS.out w2).mono ?_
      rintro e w3 ⟨rfl, b3⟩
      have B3 := Lib.hid (B2.out.trans (b3.mono B2.out.size))
      clear b3
      go_wp2_with fail
      refine (CS.out w3).mono ?_
      rintro e w4 ⟨rfl, b4⟩
      have B4 := Lib.hid (B3.out.trans (b4.mono B3.out.size))
      clear b4
      go_wp2
      go_ret
      exact ⟨rfl, B4.out⟩
    · have hz1 := Tw.heaps_pos ht8
      have hz2 := Tw.heaps_le ht8
      have hts : s.size = 2 * t.size := by rw [← size_list, ← ht, Tw.lst_length]
      have CF := Lib.hid (fun w => factorial_any t.size w ht8)
      obtain ⟨F, hF⟩ : ∃ F, F = fct t.size := ⟨_, rfl⟩
      rw [← hF] at CF hz2
      obtain ⟨n, hn⟩ : ∃ n, n = t.size := ⟨_, rfl⟩
      rw [← hn] at CF ht8 hts
      have T1 := Lib.hid (fun w => times_any ⟨#[40]⟩ n (by omega) (by decide) w)
      have T2 := Lib.hid (fun w => times_any ⟨#[41]⟩ n (by omega) (by decide) w)
      have T3 := Lib.hid (fun w => times_any ⟨#[40, 41]⟩ n (by omega) (by decide) w)
      have hl1 := timesL_length [40] n
      have hl2 := timesL_length [41] n
      have hl3 := timesL_length [40, 41] n
      obtain ⟨A, hA⟩ : ∃ A : ByteArray, A = ⟨(timesL [40] n).toArray⟩ := ⟨_, rfl⟩
      obtain ⟨D, hD⟩ : ∃ D : ByteArray, D = ⟨(timesL [41] n).toArray⟩ := ⟨_, rfl⟩
      obtain ⟨E, hE⟩ : ∃ E : ByteArray, E = ⟨(timesL [40, 41] n).toArray⟩ := ⟨_, rfl⟩
      have eA : A.data.toList = timesL [40] n := by rw [hA]
      have eD : D.data.toList = timesL [41] n := by rw [hD]
      have eE : E.data.toList = timesL [40, 41] n := by rw [hE]
      have sA : A.size = n := by rw [← size_list, eA, hl1]; simp
      have sD : D.size = n := by rw [← size_list, eD, hl2]; simp
      have sE : E.size = n * 2 := by rw [← size_list, eE, hl3]; rfl
      have eAD : heapsO (A ++ D).data.toList = 1 := by
        rw [toList_append, eA, eD, nest_times n ht8, heapsO_lst (by rw [Tw.nest_size]; exact ht8), Tw.nest_heaps n ht8]; rfl
      have eEE : heapsO E.data.toList = 1 := by
        rw [eE, side_times n ht8, heapsO_lst (by rw [Tw.side_size]; exact ht8), Tw.side_heaps n ht8]; rfl
      have C1 := Lib.hid (fun w => PK (A ++ D) w (by rw [ByteArray.size_append]; unfold maxLen; omega))
      have C2 := Lib.hid (fun w => PK E w (by unfold maxLen; omega))
      simp only [vN] at C1 C2
      rw [eAD] at C1
      rw [eEE] at C2
      have T1' : Hid (∀ w, Calls Try.prog 36 #[.string ⟨#[40]⟩, .int .i64 n] w fun e w' => e = .returned (.string A) ∧ w = w') := by rw [hA]; exact T1.out
      have T2' : Hid (∀ w, Calls Try.prog 36 #[.string ⟨#[41]⟩, .int .i64 n] w fun e w' => e = .returned (.string D) ∧ w = w') := by rw [hD]; exact T2.out
      have T3' : Hid (∀ w, Calls Try.prog 36 #[.string ⟨#[40, 41]⟩, .int .i64 n] w fun e w' => e = .returned (.string E) ∧ w = w') := by rw [hE]; exact T3.out
      have b0 : ¬ z < 0 := by omega
      have b1 : (1 : Int) ≤ z := by omega
      have b2 : z ≤ (F : Int) := by omega
      have qz : (z == z) = true := beq_self_eq_true _
      have e3 : Int.tdiv (s.size : Int) 2 = (n : Int) := by rw [Int.tdiv_eq_ediv_of_nonneg (by omega)]; omega
      have bA : A.size + D.size ≤ 100 := by omega
      clear hc hz1 hz2 hts hF hn hl1 hl2 hl3 hA hD hE eA eD eE sA sD sE eAD eEE T1 T2 T3 PK ht
      go_wp2_with fail
      refine (CP.out w1).mono ?_
      rintro e w2 ⟨rfl, b2⟩
      have B2 := Lib.hid (B1.out.trans (b2.mono B1.out.size))
      clear b2
      go_wp2_with fail
      refine (CS.out w2).mono ?_
      rintro e w3 ⟨rfl, b3⟩
      have B3 := Lib.hid (B2.out.trans (b3.mono B2.out.size))
      clear b3
      go_wp2_with fail
      refine (CF.out w3).mono ?_
      rintro e w4 ⟨rfl, rfl⟩
      go_wp2_with fail
      refine (T1'.out w3).mono ?_
      rintro e w4 ⟨rfl, rfl⟩
      go_wp2_with fail
      refine (T2'.out w3).mono ?_
      rintro e w4 ⟨rfl, rfl⟩
      go_wp2_with fail
      refine (C1.out w3).mono ?_
      rintro e w4 ⟨rfl, b4⟩
      have B4 := Lib.hid (B3.out.trans (b4.mono B3.out.size))
      clear b4
      go_wp2_with fail
      refine (T3'.out w4).mono ?_
      rintro e w5 ⟨rfl, rfl⟩
      go_wp2_with fail
      refine (C2.out w4).mono ?_
      rintro e w5 ⟨rfl, b5⟩
      have B5 := Lib.hid (B4.out.trans (b5.mono B4.out.size))
      clear b5
      go_wp2
      go_ret
      exact ⟨rfl, B5.out⟩
end Go.Proofs.Ytooplolalbcmjaa
