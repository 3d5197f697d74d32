/-
  For every argument of FnParkingIsShifted, whatever its value, the call returns true, leaves what it was handed as it was and changes no older memory. Conditions: none beside the row's own.
-/
import Derived.Test.YtchfnbcpjiiphaaRows
import Derived.Test.YtchfnbcpjiiphaaCDrawPX
import Derived.Test.YtchfnbcpjiiphaaCShiftX
import Derived.Test.YtchfnbcpjiiphaaCShiftS
import Derived.Test.YtchfnbcpjiiphaaZW
import Derived.Test.YtchfnbcpjiiphaaCWishP
import Derived.WalkKit
import Derived.ProofKit
import Derived.OpenShut
import Derived.ShutString
import Derived.ChangeOld
import Derived.Below
import Derived.SizedLaws
import Derived.HandedShaped
import Derived.Conc.Holds
import Derived.Test.YtchfnbcpjiiphaaCLeav
namespace Go.Proofs.Ytchfnbcpjiiphaa.fnParkingIsShifted
open Go.RowKit

theorem own_formI {w : World} {B n : Nat} {t : TypeId} {v : Value} {xs : List Value} (h : w.ownsRow B t 1 v n xs) : ∃ a c, v = .slice a n c := by
  rcases h.2 with ⟨h0, h1⟩ | ⟨g, cap, cur, e, _⟩
  · exact ⟨none, 0, by rw [h0, h1]⟩
  · exact ⟨_, _, e⟩
theorem Try.infoIntSi : (Try.prog.info? 3).map (fun i => (i.zero, i.size, i.bytes)) = some (some (.int .i64 0), 1, 8) := by kernel_rfl
theorem shifted_count {n : Nat} (h : n ≤ 8) : ∃ r : Nat, r = (n + 1) ^ n ∧ IntKind.i64.wrap (parkN (n : Int) * ((n : Int) + 1)) = (r : Int) := by
  refine ⟨_, rfl, ?_⟩
  rw [power_park h]
  have := pow9_le (n + 1) (by omega) n h
  rw [IntKind.wrap_i64]
  omega
set_option maxRecDepth 100000 in
set_option maxHeartbeats 3200000 in
theorem fnParkingIsShifted_walk (a : Option Addr) (len cap : Nat) (zs : List Int) (w : World) (hr0 : IsRow .u8 w a len cap zs) (_hreach : cap * 1 ≤ 140737488351232) (hs : SetX Try.prog w) :
    CallsX Try.prog 9 #[.slice a len cap] w (AnsX (.bool true) w) := by
  have hr := Lib.hid hr0
  clear hr0
  refine callsX_of_postX Try.func9 rfl ansX_like ?_
  simp only [Try.ntmps9, List.size_toArray, List.length_cons, List.length_nil, Nat.reduceAdd, Nat.reduceSub, Array.replicate_succ, Array.replicate_zero, List.push_toArray, List.append_toArray, List.nil_append, List.cons_append]
  obtain ⟨Q, hQ0⟩ : ∃ Q, Q = postX Try.f9 (AnsX (.bool true) w) := ⟨_, rfl⟩
  have hQl : LikeQ Q := by rw [hQ0]; exact likeQ_post ansX_like
  rw [← hQ0]
  have hQ := Lib.hid hQ0
  clear hQ0
  refine wpX_piece tameT (by kernel_rfl) rfl hs.set hQl fun w₁ hl₁ => ?_
  go_wp2
  refine wpX_like ?_ hl₁
  clear hl₁ w₁
  by_cases hbig : (1048576 : Int) < (len : Int)
  · refine wpX_piece tameT (by kernel_rfl) rfl hs.set hQl fun w₁ hl₁ => ?_
    have hb := Lib.hid (like_x (B := w.heap.size) hl₁)
    go_wp2
    show Q _ _ _
    rw [hQ.out]
    exact ⟨.inr rfl, rfl, _, results_one rfl _, rfl, hb.out⟩
  · refine wpX_piece tameT (by kernel_rfl) rfl hs.set hQl fun w₁ hl₁ => ?_
    go_wp2
    refine wpX_like ?_ hl₁
    clear hl₁ w₁
    obtain ⟨i0, hi, hz0, hz1, hz2⟩ := info_parts Try.infoIntSi
    refine wpX_seq (wpX_region ?_)
    simp only [List.size_toArray, List.length_cons, List.length_nil, Nat.reduceAdd, Nat.zero_add, List.range, List.range.loop]
    refine opsX_pure rfl rfl rfl fun w₁ hl₁ K hK => ?_
    go_simp
    refine hK _ ?_
    clear hK K hl₁ w₁
    refine opsX_calls (drawShiftFor_x a len cap zs w hr.out (by omega) hs) rfl rfl rfl (by simp [Act.eval]) Try.func33 rfl rfl fun v1 w2 hp => ?_
    obtain ⟨l, ho, h9, hb2⟩ := hp
    obtain ⟨av, cv, rfl, _⟩ := ho.slice
    rw [iv_length] at ho ⊢
    have HL := Lib.hid (show l.length ≤ 1048576 by omega)
    obtain ⟨n, hn⟩ : ∃ n, n = l.length := ⟨_, rfl⟩
    have HN := Lib.hid hn
    rw [← hn] at ho h9 ⊢
    have O := Lib.hid (fun (W : World) (k : BelowX w2.heap.size w2 W) => ho.x k)
    have BB := Lib.hid (fun (W : World) (k : BelowX w2.heap.size w2 W) => hb2.trans (k.mono hb2.size))
    have SS := Lib.hid (fun (W : World) (k : BelowX w2.heap.size w2 W) => hs.x (BB.out W k))
    have K2 := Lib.hid (BelowX.refl w2.heap.size w2)
    clear ho hb2 hn
    walk_nrm
    refine opsX_pure rfl rfl rfl fun w₁ hl₁ K hK => ?_
    go_simp
    refine hK _ ?_
    clear hK K hl₁ w₁
    refine opsX_nil ?_
    show WpX _ _ Q _ _
    have CP := Lib.hid (fun (v : Value) (W : World) (B H : Nat) (hv : Own W B H 3 v (iv l)) (hH : H ≤ W.heap.size) (hs : SetX Try.prog W) => shiftFor_x l v W hv hH HL.out hs)
    have CS := Lib.hid (fun (v : Value) (W : World) (B H : Nat) (hv : Own W B H 3 v (iv l)) (hH : H ≤ W.heap.size) (hs : SetX Try.prog W) => look_x (f := 35) rfl hs fun w₁ hl₁ => specShiftFor_any l v w₁ (Lib.hid (hv.like hl₁)) (by rw [hl₁.size]; exact hH) HL.out)
    have SF := Lib.hid (fun h => shift_facts (l := l) h)
    obtain ⟨d, hd⟩ : ∃ d, d = shiftB l := ⟨_, rfl⟩
    rw [← hd] at CP CS SF
    clear hd
    have dd : (d == d) = true := by simp
    have dn : (d != d) = false := by simp
    -- ShiftFor(list) twice
    refine wpX_seq (wpX_seq (wpX_region ?_))
    simp only [List.size_toArray, List.length_cons, List.length_nil, Nat.reduceAdd, Nat.zero_add, List.range, List.range.loop]
    refine opsX_pure rfl rfl rfl fun w₁ hl₁ K hK => ?_
    go_simp
    refine hK _ ?_
    clear hK K hl₁ w₁
    refine opsX_calls (CP.out (.slice av n cv) w2 _ _ (O.out w2 K2.out) K2.out.size (SS.out w2 K2.out)) rfl rfl rfl (by simp [Act.eval]) Try.func34 rfl rfl fun v3 w3 hp => ?_
    obtain ⟨rfl, hb3⟩ := hp
    have K3 := Lib.hid (K2.out.trans (hb3.mono K2.out.size))
    clear hb3
    walk_nrm
    refine opsX_pure rfl rfl rfl fun w₁ hl₁ K hK => ?_
    go_simp
    refine hK _ ?_
    clear hK K hl₁ w₁
    refine opsX_calls (CS.out (.slice av n cv) w3 _ _ (O.out w3 K3.out) K3.out.size (SS.out w3 K3.out)) rfl rfl rfl (by simp [Act.eval]) Try.func35 rfl rfl fun v4 w4 hp => ?_
    obtain ⟨rfl, hb4⟩ := hp
    have K4 := Lib.hid (K3.out.trans (hb4.mono K3.out.size))
    clear hb4
    walk_nrm
    refine opsX_pure rfl rfl rfl fun w₁ hl₁ K hK => ?_
    go_simp
    refine hK _ ?_
    clear hK K hl₁ w₁
    refine opsX_nil ?_
    refine wpX_cond (t := false) (by simp [Act.eval]) ?_
    rw [if_neg (by decide)]
    refine wpX_skip ?_
    show WpX _ _ _ _ _
    -- c := impl.ShiftFor(list)
    refine wpX_seq (wpX_region ?_)
    simp only [List.size_toArray, List.length_cons, List.length_nil, Nat.reduceAdd, Nat.zero_add, List.range, List.range.loop]
    refine opsX_pure rfl rfl rfl fun w₁ hl₁ K hK => ?_
    go_simp
    refine hK _ ?_
    clear hK K hl₁ w₁
    refine opsX_calls (CP.out (.slice av n cv) w4 _ _ (O.out w4 K4.out) K4.out.size (SS.out w4 K4.out)) rfl rfl rfl (by simp [Act.eval]) Try.func34 rfl rfl fun v5 w5 hp => ?_
    obtain ⟨rfl, hb5⟩ := hp
    have K5 := Lib.hid (K4.out.trans (hb5.mono K4.out.size))
    clear hb5
    walk_nrm
    refine opsX_pure rfl rfl rfl fun w₁ hl₁ K hK => ?_
    go_simp
    refine hK _ ?_
    clear hK K hl₁ w₁
    refine opsX_nil ?_
    show WpX _ _ Q _ _
    by_cases h0 : d < 0
    · refine wpX_piece tameT (by kernel_rfl) rfl (SS.out w5 K5.out).set hQl fun w₁ hl₁ => ?_
      have K6 := Lib.hid (K5.out.like hl₁)
      go_wp2
      show Q _ _ _
      rw [hQ.out]
      exact ⟨.inr rfl, rfl, _, results_one rfl _, rfl, BB.out _ K6.out⟩
    · refine wpX_piece tameT (by kernel_rfl) rfl (SS.out w5 K5.out).set hQl fun w₁ hl₁ => ?_
      have K6 := Lib.hid (K5.out.like hl₁)
      go_wp2
      obtain ⟨c, rfl, hc, hw, hpk⟩ := SF.out (by omega)
      rw [← HN.out] at hc hpk
      have hn8 : n ≤ 8 := by rw [HN.out]; exact wishB_len hw
      have HW := Lib.hid hw
      have PF := Lib.hid (shift_again hw (by rw [hpk c hc]; simp))
      have hw1 : IntKind.i64.wrap ((n : Int) + 1) = (n : Int) + 1 := by rw [IntKind.wrap_i64]; omega
      obtain ⟨r, hr1, hr2⟩ := shifted_count hn8
      have CC := Lib.hid (fun (W : World) (hs : SetX Try.prog W) => look_x (f := 23) rfl hs fun w₁ _ => (countPark_p (n : Int) w₁ (wf_smallX _ (by omega))).mono fun _ _ ⟨he, hw⟩ => ⟨he, by rw [← hw]; exact Below.refl _ _⟩)
      have CW0 := Lib.hid (fun (W : World) (hs : SetX Try.prog W) => look_x (f := 36) rfl hs fun w₁ _ => (lawPower_any (n + 1) n w₁ (by omega) hn8).mono fun _ _ ⟨he, hw⟩ => ⟨he, by rw [← hw]; exact Below.refl _ _⟩)
      have CW : Hid (∀ (W : World) (_ : SetX Try.prog W), CallsX Try.prog 36 #[.int .i64 ((n : Int) + 1), .int .i64 (n : Int)] W (AnsX (.int .i64 (r : Int)) W)) := fun W hs => by rw [hr1]; exact CW0.out W hs
      obtain ⟨p, hp2⟩ : ∃ p, p = parkN (n : Int) := ⟨_, rfl⟩
      rw [← hp2] at CC hr2
      have hrr : ((r : Int) == (r : Int)) = true := by simp
      clear hw hpk SF dd dn CS CP h0 hr1 hp2 CW0
      refine wpX_piece tameT (by kernel_rfl) rfl (SS.out w₁ K6.out).set hQl fun w₁ hl₁ => ?_
      have K7 := Lib.hid (K6.out.like hl₁)
      go_wp2
      -- some := []int{}
      refine wpX_piece tameT (by kernel_rfl) rfl (SS.out w₁ K7.out).set hQl fun w₁ hl₁ => ?_
      have K8 := Lib.hid (K7.out.like hl₁)
      clear hl₁
      go_wp2
      obtain ⟨G, hG⟩ : ∃ G, G = w₁.heap.size := ⟨_, rfl⟩
      have OS0 : Hid ((w₁.alloc (.cells #[] 3)).ownsRow G 3 1 (.slice (some ⟨w₁.heap.size, 0, none⟩) 0 0) 0 (iv [])) := World.ownsRow_lit (base := G) (e := 3) (size := 1) w₁ #[] 0 (Nat.le_of_eq hG) (by decide) rfl
      have HG : Hid (w2.heap.size ≤ G) := by show _ ≤ _; rw [hG]; exact K8.out.size
      have HZ0 : Hid (G ≤ (w₁.alloc (.cells #[] 3)).heap.size) := by show _ ≤ _; rw [World.size_alloc, hG]; omega
      have KC := Lib.hid (K8.out.trans (below_x ((Below.refl w2.heap.size w₁).alloc K8.out.size (.cells #[] 3))))
      rw [← hG] at OS0 ⊢
      generalize w₁.alloc (.cells #[] 3) = w9 at OS0 HZ0 KC ⊢
      clear hG
      -- the shifted list
      refine wpX_piece tameT (by kernel_rfl) rfl (SS.out w9 KC.out).set hQl fun w₁ hl₁ => ?_
      have OS : Hid (w₁.ownsRow G 3 1 (.slice (some ⟨G, 0, none⟩) 0 0) 0 (iv [])) := own_of_blocks OS0.out fun g _ => by rw [hl₁.heap]
      have HV := Lib.hid (O.out w₁ (KC.out.like hl₁))
      have HGZ : Hid (G ≤ w₁.heap.size) := by show _ ≤ _; rw [hl₁.size]; exact HZ0.out
      have KD := Lib.hid (KC.out.like hl₁)
      clear hl₁ OS0 HZ0 KC
      go_wp2
      go_loopw [6, 7] (fun s i wi => ∃ j : Nat, j ≤ n ∧ i = .int .i64 j ∧ Hid (wi.ownsRow G 3 1 s j (iv ((shiftL l c).take j))) ∧ Hid (Below G w₁ wi) ∧ Hid (G ≤ wi.heap.size)) (fun _ i _ => n - (intOf i).toNat)
      case atStart => exact ⟨0, Nat.zero_le _, rfl, OS.out, Below.refl _ _, HGZ⟩
      case round =>
        obtain ⟨j, hj, rfl, HO, HB, HZZ⟩ := hrel
        obtain ⟨sa, sc, rfl⟩ := own_formI HO.out
        by_cases hjlt : j < n
        · have hjl : j < l.length := by rw [← HN.out]; exact hjlt
          have b2 : (j : Int) < (n : Int) := by omega
          obtain ⟨g1, rfl, _, _, h1, _⟩ := (HV.out.below (HB.out.mono HG.out)).at_ j (by rw [iv_length]; exact hjl)
          rw [iv_at l j hjl] at h1
          have HSN := Lib.hid (shiftL_at l c hjl)
          obtain ⟨x, hx⟩ : ∃ x : Nat, l[j] = (x : Int) := ⟨l[j].toNat, by have := (wishB_at HW.out hjl).1; omega⟩
          have hxn : x ≤ n := by have := (wishB_at HW.out hjl).2; have := HN.out; omega
          rw [hx] at h1 HSN
          rw [← HN.out, shift_nat] at HSN
          have q0 : IntKind.i64.wrap ((x : Int) + (c : Int)) = (x : Int) + (c : Int) := by rw [IntKind.wrap_i64]; omega
          have q1 := shift_tmod x c n
          obtain ⟨z, hz⟩ : ∃ z, z = (x + c) % (n + 1) := ⟨_, rfl⟩
          have hzn : z ≤ n := by rw [hz]; have := Nat.mod_lt (x + c) (show 0 < n + 1 by omega); omega
          rw [← hz] at q1 HSN
          have hne : ¬ ((n : Int) + 1 = 0) := by omega
          have HZ := Lib.hid (show ∀ o : Obj, G ≤ (wr.alloc o).heap.size by intro o; rw [World.size_alloc]; have := HZZ.out; omega)
          clear hz hx
          go_wp2_with (at_builtin; refine wpList_append_own _ rfl _ _ 23 rfl G 3 i0 (.int .i64 0) 1 8 Try.underlying23 hi hz0 hz1 hz2 rfl (by decide) _ j (iv ((shiftL l c).take j)) rfl (HO.out.alloc _) ⟨wr.heap.size, 0, none⟩ 1 1 [.int .i64 (z : Int)] rfl rfl (cell_one_new _ _ _) (by intro u hu; simp at hu; subst hu; rfl) (by unfold maxLen; omega) (by omega) (HZ.out _) ?_)
          intro v' w7 hown7 hg7 hn7
          rw [iv_snoc, ← HSN.out] at hown7
          have HO7 := Lib.hid hown7
          have HB7 : Hid (Below G w₁ w7) := HB.out.trans (((Below.refl _ _).alloc HZZ.out _).grown hg7 (by have := HZZ.out; simp; omega) (fun r hr => (HO.out.lt r hr).1))
          have HZ7 : Hid (G ≤ w7.heap.size) := by show _ ≤ _; have h1 := hg7.size; rw [World.size_alloc] at h1; have := HZZ.out; omega
          clear HO HB hown7 hg7 HZ HZZ
          go_wp2
          go_roundw
          case rel => exact ⟨j + 1, by omega, by go_num, HO7, HB7, HZ7⟩
          case measure => simp [intOf]; omega
        · obtain rfl : n = j := by omega
          have b2 : ¬ (n : Int) < (n : Int) := by omega
          have OS2 : Hid (Own wr G wr.heap.size 3 (.slice sa n sc) (iv (shiftL l c))) := by
            have e : (shiftL l c).take n = shiftL l c := List.take_of_length_le (by rw [shiftL_length, HN.out]; exact Nat.le_refl _)
            have h := HO.out
            rw [e] at h
            exact ⟨by rw [iv_length, shiftL_length, ← HN.out]; exact h, fun g hg => (h.lt g hg).2⟩
          clear HO
          go_wp2
          have KE := Lib.hid (KD.out.trans (below_x (HB.out.mono HG.out)))
          have AP := Lib.hid (shiftFor_x (shiftL l c) (.slice sa n sc) wr OS2.out (Nat.le_refl _) (by rw [shiftL_length]; exact HL.out) (SS.out wr KE.out))
          rw [PF.out] at AP
          refine wpX_seq (wpX_region ?_)
          simp only [List.size_toArray, List.length_cons, List.length_nil, Nat.reduceAdd, Nat.zero_add, List.range, List.range.loop]
          refine opsX_pure rfl rfl rfl fun w₁ hl₁ K hK => ?_
          go_simp
          refine hK _ ?_
          clear hK K hl₁ w₁
          refine opsX_calls (AP.out) rfl rfl rfl (by simp [Act.eval]) Try.func34 rfl rfl fun v9 w9 hp => ?_
          obtain ⟨rfl, hb9⟩ := hp
          have K9 := Lib.hid (KE.out.trans (hb9.mono KE.out.size))
          clear hb9
          walk_nrm
          refine opsX_pure rfl rfl rfl fun w₁ hl₁ K hK => ?_
          go_simp
          refine hK _ ?_
          clear hK K hl₁ w₁
          refine opsX_pure rfl rfl rfl fun w₁ hl₁ K hK => ?_
          go_simp
          refine hK _ ?_
          clear hK K hl₁ w₁
          refine opsX_pure rfl rfl rfl fun w₁ hl₁ K hK => ?_
          go_simp
          refine hK _ ?_
          clear hK K hl₁ w₁
          refine opsX_calls (CC.out w9 (SS.out w9 K9.out)) rfl rfl rfl (by simp [Act.eval]) Try.func23 rfl rfl fun v10 w10 hp => ?_
          obtain ⟨rfl, hb10⟩ := hp
          have K10 := Lib.hid (K9.out.trans (hb10.mono K9.out.size))
          clear hb10
          walk_nrm
          refine opsX_pure rfl rfl rfl fun w₁ hl₁ K hK => ?_
          go_simp
          refine hK _ ?_
          clear hK K hl₁ w₁
          refine opsX_pure rfl rfl rfl fun w₁ hl₁ K hK => ?_
          go_simp
          refine hK _ ?_
          clear hK K hl₁ w₁
          refine opsX_pure rfl rfl rfl fun w₁ hl₁ K hK => ?_
          go_simp
          refine hK _ ?_
          clear hK K hl₁ w₁
          refine opsX_pure rfl rfl rfl fun w₁ hl₁ K hK => ?_
          go_simp
          refine hK _ ?_
          clear hK K hl₁ w₁
          refine opsX_pure rfl rfl rfl fun w₁ hl₁ K hK => ?_
          go_simp
          refine hK _ ?_
          clear hK K hl₁ w₁
          refine opsX_pure rfl rfl rfl fun w₁ hl₁ K hK => ?_
          go_simp
          refine hK _ ?_
          clear hK K hl₁ w₁
          refine opsX_calls (CW.out w10 (SS.out w10 K10.out)) rfl rfl rfl (by simp [Act.eval]) Try.func36 rfl rfl fun v11 w11 hp => ?_
          obtain ⟨rfl, hb11⟩ := hp
          have K11 := Lib.hid (K10.out.trans (hb11.mono K10.out.size))
          clear hb11
          walk_nrm
          refine opsX_pure rfl rfl rfl fun w₁ hl₁ K hK => ?_
          go_simp
          refine hK _ ?_
          clear hK K hl₁ w₁
          refine opsX_pure rfl rfl rfl fun w₁ hl₁ K hK => ?_
          go_simp
          refine hK _ ?_
          clear hK K hl₁ w₁
          refine opsX_pure rfl rfl rfl fun w₁ hl₁ K hK => ?_
          go_simp
          refine hK _ ?_
          clear hK K hl₁ w₁
          refine opsX_nil ?_
          refine wpX_ret ?_
          show Q _ _ _
          rw [hQ.out]
          exact ⟨.inr rfl, rfl, _, results_one rfl _, rfl, BB.out _ K11.out⟩

open Go.ChangeShapes Go.WideShapes Go.ChangeAt Go.RowKit
open Go.ChangeMaps (open_string shut_string)
set_option linter.unusedVariables false

theorem own : ownKnob Try.prog.godebug = none := by kernel_rfl
theorem laidOut : laidOutB Try.prog = true := by kernel_rfl

set_option maxRecDepth 100000 in
theorem lifted (os : Os) (started : os.Started) (H : Type) (enc : TypeId × Value → H) :
    ReturnsInLeavingWide {} Try.checked os 9 .any (Rows.fnParkingIsShiftedSpec.pre6 enc Try.prog Try.f9 Rows.fnParkingIsShiftedRow.domain false) (Rows.fnParkingIsShiftedSpec.post enc Try.prog Try.f9 false true false false) := by
  refine leaving_of_callsX (C := Try.checked) own started (by kernel_rfl) Try.func9
    (ChangeSpec.witness6 (enc := enc) (C := Try.checked) false ⟨#[], #[.slice none 0 0], []⟩ 8 (by kernel_rfl) (by kernel_rfl) (by kernel_rfl) (by kernel_rfl)) ?_
  intro W base args ds gs before hval0 hW hcnd hsz0 hsh
  have hval : ∀ (j : Nat) t v, Try.f9.params[j]? = some t → args[j]? = some v → Value.okWide Try.prog W .any base t v := hval0
  have hW' := hW
  obtain ⟨p, q, hA0, hV, rfl, hfz, hnd⟩ := hW
  have hA : DataW.TrodAll enc Try.prog W 0 (fun _ => true) true Try.f9.params.toList args.toList ds p := hA0
  have hsz : (DataW.weightsEach Try.prog (Try.f9.params.toList ++ Rows.fnParkingIsShiftedSpec.plain.varTypes Try.prog) (ds ++ gs)).all (· ≤ reachBytes) = true := hsz0
  rw [Try.params9] at hA hval hsz
  obtain ⟨v0, vs0, d0, ds0, p0, q0, hargs, rfl, rfl, h0, r0⟩ := trodAll_cons hA
  obtain ⟨rfl, rfl, rfl⟩ := trodAll_nil r0
  obtain rfl : args = #[v0] := by cases args; simp_all
  obtain ⟨rfl, rfl⟩ := trodVars_none hV
  obtain ⟨a0, len0, cap0, rfl⟩ := okWide_slice Try.underlying22 (hval 0 22 v0 rfl rfl)
  have k0 := h0
  have lt0 : ∀ x ∈ p0, x.block < W.heap.size := by obtain ⟨m, hm⟩ := k0; exact DataW.trod_lt m _ _ _ hm
  obtain ⟨z0, w0, hreach⟩ : ∃ zs, IsRow .u8 W a0 len0 cap0 zs ∧ cap0 * 1 ≤ 140737488351232 := by
    obtain ⟨fuel, hf⟩ := h0
    rcases open_ints Try.underlying22 Try.underlying5 (by kernel_rfl) hf with ⟨hcs, _⟩ | ⟨x, l, c, zs, hcs, _, hl, hm, hz, hx, hcell, hwz⟩
    · simp [Value.cells] at hcs
      obtain ⟨rfl, rfl, rfl⟩ := hcs
      exact ⟨[], .inl ⟨rfl, rfl, rfl, rfl⟩, by omega⟩
    · simp [Value.cells] at hcs
      obtain ⟨rfl, rfl, rfl⟩ := hcs
      refine ⟨zs, .inr ⟨_, rfl, hl, hm, by simpa using hz, hcell, hwz⟩, ?_⟩
      simp only [Prod.mk.injEq] at hx
      obtain ⟨hx1, hx2⟩ := hx
      rw [hx1] at hsz
      have hb := sized_slice hsz (j := 0) (t := 22) (e := 5) rfl rfl Try.underlying22
      have b8 : Try.prog.bytesOf 5 = 1 := by kernel_rfl
      rw [b8] at hb
      simp only [lits, List.length_map, List.length_take, List.length_drop, reachBytes] at hb
      simp only [if_true] at hz
      omega
  clear hA0 hval0
  refine ⟨fnParkingIsShifted_walk a0 len0 cap0 z0 W w0 hreach (setX_now hsh), fun W' belx => ?_⟩
  have bel := below_of_x belx
  exact ⟨_, _, _, [], _, [], hW', trodAll_mk1 (shut_bool Try.underlying4 _), trodAll_mk1 ((Below.trod laidOut (by kernel_rfl) (of_decide_eq_true (by kernel_rfl)) k0 bel lt0).of_heap (by rfl)), rfl, kept_x belx _, fun h => by cases h⟩

theorem over : Rows.fnParkingIsShiftedRow.holds Try.pinned (OpenSpec.ofChange Rows.fnParkingIsShiftedSpec) :=
  OpenClaim.holds_of_wide_leaving 9 Try.f9 rfl rfl rfl rfl rfl rfl rfl ⟨rfl, rfl, rfl, rfl, rfl⟩ rfl rfl rfl rfl rfl (by kernel_rfl) Try.func9 (by kernel_rfl)
    (of_decide_eq_true (by kernel_rfl)) (by unfold Func.isWrapper; first | (rw [if_pos (by decide +kernel)]; kernel_rfl) | (rw [if_neg (by decide +kernel)]; exact ⟨rfl, rfl⟩))
    (fun os started H enc _ => lifted os started H enc)

theorem proved : Rows.FnParkingIsShiftedSaid := over
#print axioms proved
end Go.Proofs.Ytchfnbcpjiiphaa.fnParkingIsShifted
