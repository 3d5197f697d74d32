/-
  The contract of the model's ShiftFor.
-/
import Derived.Test.YtchfnbcpjiiphaaCSpecP
import Derived.Test.YtchfnbcpjiiphaaZW
namespace Go.Proofs.Ytchfnbcpjiiphaa
open Go.RowKit

set_option maxHeartbeats 3200000 in
set_option maxRecDepth 100000 in
theorem specShiftFor_any (l : List Int) (v : Value) (w : World) {B0 H0 : Nat} (hv : Hid (Own w B0 H0 3 v (iv l))) (hH : H0 ≤ w.heap.size) (hl : l.length ≤ 1048576) :
    Calls Try.prog 35 #[v] w fun e w' => e = .returned (.int .i64 (shiftB l)) ∧ Below w.heap.size w w' := by
  have CV := Lib.hid (validWishesM_any l v w hv hl)
  cases hwb : wishB l with
  | false =>
    have hd := Lib.hid (shiftB_bad hwb)
    rw [hwb] at CV
    go_enter Try.func35, Try.ntmps35
    go_wp2_with fail
    refine CV.out.mono ?_
    rintro e w' ⟨rfl, rfl⟩
    go_wp2
    go_ret
    exact ⟨by rw [hd.out]; rfl, Below.refl _ _⟩
  | true =>
    obtain ⟨i0, hi, hz0, hz1, hz2⟩ := info_parts Try.infoIntQ
    have hl8 := wishB_len hwb
    have HWB := Lib.hid hwb
    rw [hwb] at CV
    obtain ⟨av, cv, rfl, _, hcv, _, _⟩ := hv.out.slice
    rw [iv_length] at hv hcv CV ⊢
    obtain ⟨n, hn⟩ : ∃ n, n = l.length := ⟨_, rfl⟩
    have HN := Lib.hid hn
    rw [← hn] at hv hcv hl hl8 CV ⊢
    have hw1 : IntKind.i64.wrap ((n : Int) + 1) = (n : Int) + 1 := by rw [IntKind.wrap_i64]; omega
    have CP := Lib.hid (fun (k : Nat) (y : Value) (W : World) (B H : Nat) (hy : Hid (Own W B H 3 y (iv (shiftL l k)))) (hH : H ≤ W.heap.size) => parkM_any (shiftL l k) (Lib.hid (wishB_shift HWB.out k)) y W hy hH (by rw [shiftL_length]; omega))
    have CH := Lib.hid (fun (k : Nat) (y : Value) (W : World) (B H : Nat) (hy : Hid (Own W B H 3 y (iv (placesB (shiftL l k))))) => hasInt_any (placesB (shiftL l k)) y (-1) W hy (by rw [placesB_length, shiftL_length]; omega))
    have HPB := Lib.hid (fun k => show parkB (shiftL l k) = !(decide ((-1 : Int) ∈ placesB (shiftL l k))) by rw [parkB, wishB_shift HWB.out k, Bool.true_and, show decide ((-1 : Int) ∈ placesB (shiftL l k)) = (placesB (shiftL l k)).contains (-1) from by rw [Bool.eq_iff_iff, decide_eq_true_eq, List.contains_iff_mem]])
    clear hwb hn
    go_enter Try.func35, Try.ntmps35
    go_wp2_with fail
    refine CV.out.mono ?_
    rintro e w' ⟨rfl, rfl⟩
    go_wp2
    obtain ⟨G, hG⟩ : ∃ G, G = w.heap.size := ⟨_, rfl⟩
    rw [← hG] at hH
    have HG := Lib.hid hG
    go_loopw [3] (fun c wr => ∃ k : Nat, k ≤ n + 1 ∧ c = .int .i64 k ∧ Hid (Below G w wr) ∧ Hid (∀ j, j < k → parkB (shiftL l j) = false)) (fun c _ => n + 1 - (intOf c).toNat)
    case atStart => exact ⟨0, by omega, rfl, Below.refl _ _, fun j hj => absurd hj (Nat.not_lt_zero _)⟩
    case round =>
      obtain ⟨k, hk, rfl, HB, HNO⟩ := hrel
      have hsz : G ≤ wr.heap.size := by rw [hG]; exact HB.out.size
      by_cases hlt : k ≤ n
      · have b1 : (k : Int) ≤ (n : Int) := by omega
        have hst : (wr.alloc (.cells #[] 3)).ownsRow G 3 1 (.slice (some ⟨wr.heap.size, 0, none⟩) 0 0) 0 (iv ((shiftL l k).take 0)) := World.ownsRow_lit (base := G) (e := 3) (size := 1) wr #[] 0 hsz (by decide) rfl
        have hb0 : Below G w (wr.alloc (.cells #[] 3)) := HB.out.alloc hsz _
        have HST := Lib.hid hst
        have HB0 := Lib.hid hb0
        clear hst hb0 HB hG
        go_wp2
        go_loopw [4, 5] (fun s i wi => ∃ j : Nat, j ≤ n ∧ i = .int .i64 j ∧ s ≠ .slice none 0 0 ∧ Hid (wi.ownsRow G 3 1 s j (iv ((shiftL l k).take j))) ∧ Hid (Below G w wi)) (fun _ i _ => n - (intOf i).toNat)
        case atStart => exact ⟨0, Nat.zero_le _, rfl, by simp, HST, HB0⟩
        case round =>
          clear HST HB0 hsz
          obtain ⟨j, hj, rfl, hnil, HO, HB⟩ := hrel
          obtain ⟨g, cp, rfl⟩ := own_someQ HO.out hnil
          have hsz : G ≤ wr.heap.size := by have := (HO.out.lt g rfl).1; have := (HO.out.lt g rfl).2; omega
          by_cases hjlt : j < n
          · have hjl : j < l.length := by rw [← HN.out]; exact hjlt
            have b2 : (j : Int) < (n : Int) := by omega
            obtain ⟨g1, rfl, _, _, h1, _⟩ := (hv.out.below (HB.out.mono hH)).at_ j (by rw [iv_length]; exact hjl)
            rw [iv_at l j hjl] at h1
            have HSN := Lib.hid (shiftL_at l k hjl)
            obtain ⟨x, hx⟩ : ∃ x : Nat, l[j] = (x : Int) := ⟨l[j].toNat, by have := (wishB_at HWB.out hjl).1; omega⟩
            have hxn : x ≤ n := by have := (wishB_at HWB.out hjl).2; have := HN.out; omega
            rw [hx] at h1 HSN
            rw [← HN.out, shift_nat] at HSN
            have q0 : IntKind.i64.wrap ((x : Int) + (k : Int)) = (x : Int) + (k : Int) := by rw [IntKind.wrap_i64]; omega
            have q1 := shift_tmod x k n
            obtain ⟨z, hz⟩ : ∃ z, z = (x + k) % (n + 1) := ⟨_, rfl⟩
            have hzn : z ≤ n := by rw [hz]; have := Nat.mod_lt (x + k) (show 0 < n + 1 by omega); omega
            rw [← hz] at q1 HSN
            have hne : ¬ ((n : Int) + 1 = 0) := by omega
            have HZ := Lib.hid (show ∀ o : Obj, G ≤ (wr.alloc o).heap.size by intro o; rw [World.size_alloc]; omega)
            clear hz hx
            go_wp2_with (at_builtin; refine wpList_append_own _ rfl _ _ 23 rfl G 3 i0 (.int .i64 0) 1 8 Try.underlying23 hi hz0 hz1 hz2 rfl (by decide) _ j (iv ((shiftL l k).take j)) rfl (HO.out.alloc _) ⟨wr.heap.size, 0, none⟩ 1 1 [.int .i64 (z : Int)] rfl rfl (cell_one_new _ _ _) (by intro u hu; simp at hu; subst hu; rfl) (by unfold maxLen; omega) (by omega) (HZ.out _) ?_)
            intro v' w7 hown7 hg7 hn7
            rw [iv_snoc, ← HSN.out] at hown7
            have HO7 := Lib.hid hown7
            have HB7 : Hid (Below G w w7) := HB.out.trans (((Below.refl _ _).alloc hsz _).grown hg7 (by simp; omega) (fun r hr => (HO.out.lt r hr).1))
            clear HO HB hown7 hg7 HZ
            go_wp2
            go_roundw
            case rel => exact ⟨j + 1, by omega, by go_num, hn7, HO7, HB7⟩
            case measure => simp [intOf]; omega
          · have HJ := Lib.hid (show j = n by omega)
            have b2 : ¬ (j : Int) < (n : Int) := by omega
            have hsl : (iv (shiftL l k)).length = j := by rw [iv_length, shiftL_length, ← HN.out, HJ.out]
            have OS : Hid (Own wr G wr.heap.size 3 (.slice (some ⟨g, 0, none⟩) j cp) (iv (shiftL l k))) := by
              have e : (shiftL l k).take j = shiftL l k := List.take_of_length_le (by rw [shiftL_length, HJ.out, HN.out]; exact Nat.le_refl _)
              have h := HO.out
              rw [e] at h
              exact ⟨by rw [hsl]; exact h, fun g hg => (h.lt g hg).2⟩
            have CP1 := Lib.hid (CP.out k _ wr _ _ OS (Nat.le_refl _))
            clear HO hsl
            go_wp2_with fail
            refine CP1.out.mono ?_
            rintro e w8 ⟨y, rfl, hy, hb8⟩
            have HY := Lib.hid hy
            have HB8 := Lib.hid (HB.out.trans (hb8.mono hsz))
            clear hy hb8 HB CP1
            have CH1 := Lib.hid (CH.out k y w8 _ _ HY)
            have hpk := HPB.out k
            have HAT := Lib.hid (fun h => shiftB_at HWB.out (k := k) (by rw [← HN.out]; exact hlt) HNO.out h)
            obtain ⟨t, ht⟩ : ∃ t, t = decide ((-1 : Int) ∈ placesB (shiftL l k)) := ⟨_, rfl⟩
            rw [← ht] at CH1 hpk
            have HPK := Lib.hid hpk
            clear hpk ht
            go_wp2_with fail
            refine CH1.out.mono ?_
            rintro e w9 ⟨rfl, rfl⟩
            cases t with
            | false =>
              have hr := Lib.hid (HAT.out (by rw [HPK.out]; rfl))
              go_wp2
              go_ret
              exact ⟨by rw [hr.out]; rfl, by rw [← HG.out]; exact HB8.out⟩
            | true =>
              have HN2 : Hid (∀ j, j < k + 1 → parkB (shiftL l j) = false) := fun j hj => by
                by_cases e : j = k
                · subst e; rw [HPK.out]; rfl
                · exact HNO.out j (by omega)
              go_wp2
              go_roundw
              case rel => exact ⟨k + 1, by omega, by go_num, HB8, HN2⟩
              case measure => simp [intOf]; omega
      · have b1 : ¬ (k : Int) ≤ (n : Int) := by omega
        have hr := Lib.hid (shiftB_no HWB.out fun j hj => HNO.out j (by have := HN.out; omega))
        go_wp2
        go_ret
        exact ⟨by rw [hr.out]; rfl, by rw [← HG.out]; exact HB.out⟩
end Go.Proofs.Ytchfnbcpjiiphaa
