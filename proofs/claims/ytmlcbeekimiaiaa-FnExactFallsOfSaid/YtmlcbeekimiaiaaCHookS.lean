/-
  The contract of the model's HeapsByHooks.
-/
import Derived.Test.YtmlcbeekimiaiaaCHeapsS
import Derived.Test.YtmlcbeekimiaiaaCFactS
namespace Go.Proofs.Ytmlcbeekimiaiaa
open Go.RowKit

set_option maxRecDepth 100000 in
set_option maxHeartbeats 800000 in
theorem specHeapsByHooks_any (s : ByteArray) (w : World) (hs : s.size ≤ maxLen) :
    Calls Try.prog 17 #[.string s] w fun e w' => e = .returned (.int .i64 (heapsO s.data.toList)) ∧ Below w.heap.size w w' := by
  cases hv : valid s.data.toList with
  | false =>
    rw [heapsO, if_neg (fun h => by rw [hv] at h; exact absurd h.1 (by decide))]
    have HV := Lib.hid hv
    go_enter Try.func17, Try.ntmps17
    go_wp2_with (go_at_call 27; refine (specValid_is false _ _ hs HV).mono ?_; rintro e w1 ⟨rfl, rfl⟩)
    go_ret
    exact ⟨rfl, Below.refl _ _⟩
  | true =>
    have HV := Lib.hid hv
    have h18 := (valid_scan hv).2
    rw [size_list] at h18
    by_cases h16 : s.size ≤ 16
    · obtain ⟨t, ht, ht8⟩ := tree_of hv (by rw [size_list]; exact h16)
      have HB := Lib.hid (fun g c RV (rows : List (List Int)) (w' : World) => binFrom_any w.heap.size 18 s 0 g c RV rows w' (by omega) hv)
      rw [← ht, heapsO_lst ht8]
      have hbl := Tw.binL_lst 18 t 0 (by rw [ht, size_list]; exact h18)
      rw [← ht] at HB
      rw [hbl] at HB
      have hal := Tw.arms_length t 0
      have HOK := Lib.hid (Tw.okT_all t ht8)
      have HLE := Lib.hid (fun k hk => Tw.hkR_le t ht8 k hk)
      have HDIV : Hid ((Tw.hkR (Tw.arms t 0) t.size : Nat) ≠ 0 ∧ fct t.size / Tw.hkR (Tw.arms t 0) t.size = t.heaps) := by
        show _ ∧ _
        rw [Tw.hkR_all t ht8]
        exact ⟨Nat.pos_iff_ne_zero.mp t.hooks_pos, Tw.heaps_div ht8⟩
      have hf8 := fct_le8 t.size ht8
      have CF := Lib.hid (fun w => factorialS_any t.size w ht8)
      obtain ⟨rows, hrows⟩ : ∃ rows, rows = Tw.arms t 0 := ⟨_, rfl⟩
      rw [← hrows] at HB hal HOK HLE HDIV
      obtain ⟨n, hn⟩ : ∃ n, n = t.size := ⟨_, rfl⟩
      rw [← hn] at hal HOK HLE HDIV CF hf8 ht8
      obtain ⟨F, hF⟩ : ∃ F, F = fct n := ⟨_, rfl⟩
      rw [← hF] at HDIV CF hf8
      obtain ⟨R, hR⟩ : ∃ R, R = t.heaps := ⟨_, rfl⟩
      rw [← hR] at HDIV ⊢
      have HLn := Lib.hid hal
      have BT := Lib.hid (fun (B H : Nat) v RV (k : Nat) (hk : k < n) w (h1 : H ≤ w.heap.size) h2 => between_any rows (B := B) (H := H) (v := v) (RV := RV) 10 (k : Int) w (Nat.le_refl _) (HOK.out k hk) h1 h2)
      have b1 : ¬ (16 : Int) < (s.size : Int) := by omega
      clear hv ht hrows hn hF hR hbl hal h18
      go_enter Try.func17, Try.ntmps17
      go_wp2_with (go_at_call 27; refine (specValid_is true _ _ hs HV).mono ?_; rintro e w1 ⟨rfl, rfl⟩)
      have hl := lit_own2 w #[] 22 (by decide)
      refine (HB.out _ _ [] [] _ (by simp; omega) (by omega) (by simp) (Lib.hid ⟨hl.more (by simp), RowsI.nil⟩)).mono ?_
      rintro e w1 ⟨g, c, RV, rfl, hG, hb⟩
      rw [List.nil_append, HLn.out] at hG ⊢
      have HG := Lib.hid hG
      have hb' := ((Below.refl _ w).alloc (Nat.le_refl _) _).trans (hb.mono (by simp))
      have HB' := Lib.hid hb'
      clear hG hb hb' hl HB b1 h16
      have b2 : n ≤ 8 := ht8
      go_wp2_with fail
      go_loopw [4, 5] (fun h i wr => ∃ k p : Nat, k ≤ n ∧ i = .int .i64 k ∧ h = .int .i64 p ∧ Hid (p = Tw.hkR rows k) ∧ Hid (Below w1.heap.size w1 wr)) (fun _ i _ => n - (intOf i).toNat)
      case atStart => exact ⟨0, 1, Nat.zero_le _, rfl, rfl, rfl, Below.refl _ _⟩
      case round =>
        obtain ⟨k, p, hk, rfl, rfl, HP, HW⟩ := hrel
        by_cases hlt : k < n
        · have C := Lib.hid (BT.out _ _ _ _ k hlt wr (HW.out.size) (Lib.hid (HG.out.below HW.out)))
          have b3 : (k : Int) < (n : Int) := by omega
          have HN : Hid (Tw.hkR rows (k + 1) = p * (btwL rows 10 (k : Int)).length) := by show _ = _; rw [Tw.hkR, HP.out]
          have h40 := HLE.out (k + 1) hlt
          rw [HN.out] at h40
          obtain ⟨q, hq⟩ : ∃ q, q = (btwL rows 10 (k : Int)).length := ⟨_, rfl⟩
          obtain ⟨Q, hQ⟩ : ∃ Q, Q = p * q := ⟨_, rfl⟩
          have hQc : (p : Int) * (q : Int) = (Q : Int) := by rw [hQ]; push_cast; rfl
          have HQ := Lib.hid hq
          rw [← hq, ← hQ] at h40
          rw [← hq, ← hQ] at HN
          have e1 : IntKind.i64.wrap ((p : Int) * (q : Int)) = (Q : Int) := by rw [hQc, IntKind.wrap_i64]; omega
          clear hQ hQc h40 hq
          go_wp2_with fail
          refine C.out.mono ?_
          rintro e w2 ⟨g2, c2, rfl, _, hb2⟩
          rw [← HQ.out]
          have HB2 := Lib.hid (HW.out.trans (hb2.mono HW.out.size))
          clear hb2
          go_wp2
          go_roundw
          case rel => exact ⟨k + 1, Q, by omega, by go_num, by first | rfl | rw [e1], HN.out.symm, HB2⟩
          case measure => simp [intOf]; omega
        · obtain rfl : k = n := by omega
          have hp0 : p ≠ 0 := by rw [HP.out]; exact HDIV.out.1
          have hpR : F / p = R := by rw [HP.out]; exact HDIV.out.2
          have hR8 : R ≤ 40320 := by rw [← hpR]; exact Nat.le_trans (Nat.div_le_self _ _) hf8
          have e1 : Int.tdiv (F : Int) (p : Int) = (R : Int) := by rw [← hpR]; rfl
          have e2 : IntKind.i64.wrap (Int.tdiv (F : Int) (p : Int)) = (R : Int) := by rw [e1, IntKind.wrap_i64]; omega
          have b3 : (p : Int) ≠ 0 := by omega
          have b4 : ((p : Int) == 0) = false := beq_false_of_ne b3
          have HF := Lib.hid (HB'.out.trans (HW.out.mono HB'.out.size))
          clear hpR hp0
          go_wp2_with fail
          refine (CF.out _).mono ?_
          rintro e w2 ⟨rfl, rfl⟩
          go_wp2
          go_ret
          exact ⟨by first | rfl | rw [e2] | rw [e1], HF.out⟩
    · rw [heapsO, if_neg (fun h => h16 (by have := h.2; rw [size_list] at this; exact this))]
      have b1 : (16 : Int) < (s.size : Int) := by omega
      clear hv
      go_enter Try.func17, Try.ntmps17
      go_wp2_with (go_at_call 27; refine (specValid_is true _ _ hs HV).mono ?_; rintro e w1 ⟨rfl, rfl⟩)
      go_ret
      exact ⟨rfl, Below.refl _ _⟩
end Go.Proofs.Ytmlcbeekimiaiaa
