/-
  For every argument of FnPlacesOf, whatever its value, the call returns true, leaves what it was handed as it was and changes no older memory. Conditions: none beside the row's own.
-/
import Derived.Test.YtchfnbcpjiiphaaRows
import Derived.Test.YtchfnbcpjiiphaaCDrawPX
import Derived.Test.YtchfnbcpjiiphaaCPlX
import Derived.Test.YtchfnbcpjiiphaaZE
import Derived.Test.YtchfnbcpjiiphaaCPlace
import Derived.Test.YtchfnbcpjiiphaaZW
import Derived.WalkKit
import Derived.ProofKit
import Derived.OpenShut
import Derived.ShutString
import Derived.ChangeOld
import Derived.Below
import Derived.SizedLaws
import Derived.HandedShaped
import Derived.Conc.Holds
import Derived.Test.YtchfnbcpjiiphaaCLeav
namespace Go.Proofs.Ytchfnbcpjiiphaa.fnPlacesOf
open Go.RowKit

set_option maxRecDepth 100000 in
set_option maxHeartbeats 3200000 in
theorem fnPlacesOf_walk (a : Option Addr) (len cap : Nat) (zs : List Int) (w : World) (hr0 : IsRow .u8 w a len cap zs) (_hreach : cap * 1 ≤ 140737488351232) (hs : SetX Try.prog w) :
    CallsX Try.prog 3 #[.slice a len cap] w (AnsX (.bool true) w) := by
  have hr := Lib.hid hr0
  clear hr0
  refine callsX_of_postX Try.func3 rfl ansX_like ?_
  simp only [Try.ntmps3, List.size_toArray, List.length_cons, List.length_nil, Nat.reduceAdd, Nat.reduceSub, Array.replicate_succ, Array.replicate_zero, List.push_toArray, List.append_toArray, List.nil_append, List.cons_append]
  obtain ⟨Q, hQ0⟩ : ∃ Q, Q = postX Try.f3 (AnsX (.bool true) w) := ⟨_, rfl⟩
  have hQl : LikeQ Q := by rw [hQ0]; exact likeQ_post ansX_like
  rw [← hQ0]
  have hQ := Lib.hid hQ0
  clear hQ0
  refine wpX_piece tameT (by kernel_rfl) rfl hs.set hQl fun w₁ hl₁ => ?_
  go_wp2
  refine wpX_like ?_ hl₁
  clear hl₁ w₁
  by_cases hbig : (1048576 : Int) < (len : Int)
  · refine wpX_piece tameT (by kernel_rfl) rfl hs.set hQl fun w₁ hl₁ => ?_
    have hb := Lib.hid (like_x (B := w.heap.size) hl₁)
    go_wp2
    show Q _ _ _
    rw [hQ.out]
    exact ⟨.inr rfl, rfl, _, results_one rfl _, rfl, hb.out⟩
  · refine wpX_piece tameT (by kernel_rfl) rfl hs.set hQl fun w₁ hl₁ => ?_
    go_wp2
    refine wpX_like ?_ hl₁
    clear hl₁ w₁
    refine wpX_seq (wpX_region ?_)
    simp only [List.size_toArray, List.length_cons, List.length_nil, Nat.reduceAdd, Nat.zero_add, List.range, List.range.loop]
    refine opsX_pure rfl rfl rfl fun w₁ hl₁ K hK => ?_
    go_simp
    refine hK _ ?_
    clear hK K hl₁ w₁
    refine opsX_calls (drawPlacesOf_x a len cap zs w hr.out (by omega) hs) rfl rfl rfl (by simp [Act.eval]) Try.func10 rfl rfl fun v1 w2 hp => ?_
    obtain ⟨l, ho, h9, hb2⟩ := hp
    obtain ⟨av, cv, rfl, _⟩ := ho.slice
    rw [iv_length] at ho ⊢
    have HL := Lib.hid (show l.length ≤ 1048576 by omega)
    obtain ⟨n, hn⟩ : ∃ n, n = l.length := ⟨_, rfl⟩
    have HN := Lib.hid hn
    rw [← hn] at ho h9 ⊢
    have O := Lib.hid (fun (W : World) (k : BelowX w2.heap.size w2 W) => ho.x k)
    have BB := Lib.hid (fun (W : World) (k : BelowX w2.heap.size w2 W) => hb2.trans (k.mono hb2.size))
    have SS := Lib.hid (fun (W : World) (k : BelowX w2.heap.size w2 W) => hs.x (BB.out W k))
    have K2 := Lib.hid (BelowX.refl w2.heap.size w2)
    clear ho hb2 hn
    walk_nrm
    refine opsX_pure rfl rfl rfl fun w₁ hl₁ K hK => ?_
    go_simp
    refine hK _ ?_
    clear hK K hl₁ w₁
    refine opsX_nil ?_
    show WpX _ _ Q _ _
    have HP6 := Lib.hid (show (plB l).length ≤ 1048576 from Nat.le_trans (plB_length l) HL.out)
    have FW := Lib.hid (show 0 < (plB l).length → wishB l = true ∧ plB l = placesB l ∧ (plB l).length = n from fun h => by
      cases e : wishB l with
      | true =>
        have : plB l = placesB l := by rw [plB, if_pos e]
        exact ⟨rfl, this, by rw [this, placesB_length, HN.out]⟩
      | false => rw [plB, e] at h; simp at h)
    have CS := Lib.hid (fun (v : Value) (W : World) (B H : Nat) (hv : Hid (Own W B H 3 v (iv l))) (hH : H ≤ W.heap.size) => specPl_any l v W hv hH HL.out)
    have CP := Lib.hid (fun (v : Value) (W : World) (B H : Nat) (hv : Own W B H 3 v (iv l)) (hH : H ≤ W.heap.size) (hs : SetX Try.prog W) => placesPl_x l v W hv hH HL.out hs)
    obtain ⟨pl, hpl⟩ : ∃ pl, pl = plB l := ⟨_, rfl⟩
    rw [← hpl] at HP6 CS CP FW
    clear hpl
    -- out := impl.PlacesOf(list)
    refine wpX_seq (wpX_region ?_)
    simp only [List.size_toArray, List.length_cons, List.length_nil, Nat.reduceAdd, Nat.zero_add, List.range, List.range.loop]
    refine opsX_pure rfl rfl rfl fun w₁ hl₁ K hK => ?_
    go_simp
    refine hK _ ?_
    clear hK K hl₁ w₁
    refine opsX_calls (CP.out (.slice av n cv) w2 _ _ (O.out w2 K2.out) K2.out.size (SS.out w2 K2.out)) rfl rfl rfl (by simp [Act.eval]) Try.func11 rfl rfl fun y6 w6 hp => ?_
    obtain ⟨hb6, ho6⟩ := hp
    obtain ⟨ao, co, rfl, _⟩ := ho6.slice
    rw [iv_length] at ho6 ⊢
    obtain ⟨m, hm⟩ : ∃ m, m = pl.length := ⟨_, rfl⟩
    have HM := Lib.hid hm
    rw [← hm] at ho6 FW ⊢
    have K6 := Lib.hid (K2.out.trans hb6)
    have OL := Lib.hid (fun (W : World) (k : BelowX w6.heap.size w6 W) => O.out W (K6.out.trans (k.mono K6.out.size)))
    have OP := Lib.hid (fun (W : World) (k : BelowX w6.heap.size w6 W) => ho6.x k)
    have B6 := Lib.hid (fun (W : World) (k : BelowX w6.heap.size w6 W) => BB.out W (K6.out.trans (k.mono K6.out.size)))
    have S6 := Lib.hid (fun (W : World) (k : BelowX w6.heap.size w6 W) => SS.out W (K6.out.trans (k.mono K6.out.size)))
    have H6 := Lib.hid (fun (W : World) (k : BelowX w6.heap.size w6 W) => Nat.le_trans K6.out.size k.size)
    have KA := Lib.hid (BelowX.refl w6.heap.size w6)
    clear hb6 ho6 hm O BB SS CP K2 K6
    walk_nrm
    refine opsX_pure rfl rfl rfl fun w₁ hl₁ K hK => ?_
    go_simp
    refine hK _ ?_
    clear hK K hl₁ w₁
    refine opsX_nil ?_
    show WpX _ _ Q _ _
    by_cases h0 : m = 0
    · subst h0
      refine wpX_piece tameT (by kernel_rfl) rfl (S6.out w6 KA.out).set hQl fun w₁ hl₁ => ?_
      have K10 := Lib.hid (KA.out.like hl₁)
      clear hl₁
      go_wp2_with fail
      refine (CS.out (.slice av n cv) w₁ _ _ (Lib.hid (OL.out w₁ K10.out)) (H6.out w₁ K10.out)).mono ?_
      rintro e w11 ⟨y11, rfl, o11, b11⟩
      have Y11 := Lib.hid o11
      have K11 := Lib.hid (K10.out.trans (below_x (b11.mono K10.out.size)))
      clear o11 b11
      go_wp2_with fail
      refine (equalInts_yes pl (.slice ao 0 co) y11 w11 (Lib.hid (OP.out w11 K11.out)) Y11 HP6.out).mono ?_
      rintro e w12 ⟨rfl, s11⟩
      have K12 := Lib.hid (K11.out.trans (below_x (s11.below _)))
      clear s11
      go_wp2_with fail
      refine (CS.out (.slice av n cv) w12 _ _ (Lib.hid (OL.out w12 K12.out)) (H6.out w12 K12.out)).mono ?_
      rintro e w13 ⟨y13, rfl, o13, b13⟩
      have Y13 := Lib.hid o13
      have K13 := Lib.hid (K12.out.trans (below_x (b13.mono K12.out.size)))
      clear o13 b13
      go_wp2_with fail
      refine (equalInts_yes pl (.slice ao 0 co) y13 w13 (Lib.hid (OP.out w13 K13.out)) Y13 HP6.out).mono ?_
      rintro e w14 ⟨rfl, s13⟩
      have K14 := Lib.hid (K13.out.trans (below_x (s13.below _)))
      clear s13
      go_wp2
      show Q _ _ _
      rw [hQ.out]
      exact ⟨.inr rfl, rfl, _, results_one rfl _, rfl, B6.out _ K14.out⟩
    · obtain ⟨hw, he, rfl⟩ := FW.out (by omega)
      subst he
      have HW := Lib.hid hw
      have hm0 : ¬ ((m : Int) = 0) := by omega
      clear hw FW
      refine wpX_piece tameT (by kernel_rfl) rfl (S6.out w6 KA.out).set hQl fun w₁ hl₁ => ?_
      have K10 := Lib.hid (KA.out.like hl₁)
      clear hl₁
      go_wp2_with fail
      refine (CS.out (.slice av m cv) w₁ _ _ (Lib.hid (OL.out w₁ K10.out)) (H6.out w₁ K10.out)).mono ?_
      rintro e w11 ⟨y11, rfl, o11, b11⟩
      have Y11 := Lib.hid o11
      have K11 := Lib.hid (K10.out.trans (below_x (b11.mono K10.out.size)))
      clear o11 b11
      go_wp2_with fail
      refine (equalInts_yes (placesB l) (.slice ao m co) y11 w11 (Lib.hid (OP.out w11 K11.out)) Y11 HP6.out).mono ?_
      rintro e w12 ⟨rfl, s11⟩
      have K12 := Lib.hid (K11.out.trans (below_x (s11.below _)))
      clear s11
      go_wp2
      have PF := Lib.hid (fun k hk => place_facts HW.out (k := k) hk)
      have hn8 : m ≤ 8 := by rw [HN.out]; exact wishB_len HW.out
      rw [hQ.out]
      refine wpX_last tameT (by kernel_rfl) rfl (S6.out w12 K12.out).set ansX_like (fun w₁ hl₁ => ?_) fun tmps => ⟨_, results_one rfl tmps⟩
      have K15 := Lib.hid (K12.out.like hl₁)
      have HV := Lib.hid (OL.out w₁ K15.out)
      have HP := Lib.hid (OP.out w₁ K15.out)
      have BF := Lib.hid (B6.out w₁ K15.out)
      clear hl₁ OL OP B6 S6 H6 CS
      go_wp2
      go_loopw [5] (fun i wr => ∃ k : Nat, k ≤ m ∧ i = .int .i64 k ∧ Hid (∃ q, wr = w₁.drewN q)) (fun i _ => m - (intOf i).toNat)
      case atStart => exact ⟨0, Nat.zero_le _, rfl, 0, rfl⟩
      case round =>
        obtain ⟨k, hk, rfl, HS⟩ := hrel
        have hheap : wr.heap = w₁.heap := by obtain ⟨q, hq⟩ := HS.out; rw [hq]; rfl
        have HH := Lib.hid hheap
        clear hheap
        by_cases hlt : k < m
        · have hkl : k < l.length := by rw [← HN.out]; exact hlt
          have hvr := Lib.hid (HV.out.same HH.out)
          have hpr := Lib.hid (HP.out.same HH.out)
          obtain ⟨p, hp, hpf⟩ := PF.out k hkl
          have hkp : k < (placesB l).length := by rw [← HM.out]; exact hlt
          have hpk : (placesB l)[k] = p := by rw [List.getElem?_eq_getElem hkp] at hp; simpa using hp
          obtain ⟨gv, rfl, _, _, h1, _⟩ := hvr.out.at_ k (by rw [iv_length]; exact hkl)
          rw [iv_at l k hkl] at h1
          obtain ⟨gp, rfl, _, _, h2, _⟩ := hpr.out.at_ k (by rw [iv_length]; exact hkp)
          rw [iv_at _ k hkp, hpk] at h2
          have cells : ∀ (j : Nat) (hj : j < (placesB l).length), wr.cell? ⟨gp, j, none⟩ = some (.int .i64 (placesB l)[j]) := fun j hj => by
            obtain ⟨g2, e2, _, _, h3, _⟩ := hpr.out.at_ j (by rw [iv_length]; exact hj)
            cases e2
            rw [h3, iv_at _ j hj]
          have hcap := (hpr.out.slice)
          have b2 : (k : Int) ≤ (co : Int) := by
            obtain ⟨a1, c1, e1, _, h5, _⟩ := hcap
            cases e1
            rw [iv_length, ← HM.out] at h5
            omega
          have C := Lib.hid (fun x q => isIn_part (placesB l) k gp co x (wr.drewN q) (by omega) (by omega) (Lib.hid (fun j hj => cells j hj)) HP6.out)
          obtain ⟨x, hx⟩ : ∃ x, x = l[k] := ⟨_, rfl⟩
          rw [← hx] at h1 hpf
          have b1 : (k : Int) < (m : Int) := by omega
          have hx0 := wishB_at HW.out hkl
          rw [← hx] at hx0
          have hw2 : IntKind.i64.wrap ((k : Int) + 1) = ((k + 1 : Nat) : Int) := by rw [IntKind.wrap_i64]; omega
          clear hx hp hpk hcap
          by_cases hneg : p < 0
          · clear hpf C
            go_wp2
            go_roundw
            case rel => exact ⟨k + 1, by omega, by go_num, HS⟩
            case measure => simp [intOf]; omega
          · obtain ⟨f1, f2, f3, f4⟩ : x ≤ p ∧ p < (l.length : Int) ∧ p ∉ (placesB l).take k ∧ ∀ y : Int, x ≤ y → y < p → y ∈ (placesB l).take k := by
              rcases hpf with h | h
              · omega
              · exact h
            rw [← HN.out] at f2
            have F4 := Lib.hid f4
            have C0 : Hid (∀ n, Calls Try.prog 14 #[.slice (some ⟨gp, 0, none⟩) k co, .int .i64 p] (wr.drewN n) fun e w' => e = .returned (.bool false) ∧ ∃ m, w' = (wr.drewN n).drewN m) := fun n => (C.out p n).mono fun e w' h => ⟨by rw [h.1, decide_eq_false f3], 0, h.2.symm⟩
            have b3 : ¬ p < x := by omega
            have CV := Lib.hid (show ∀ W : World, W.heap = w₁.heap → W.cell? ⟨gv, k, none⟩ = some (.int .i64 x) from fun W e => by rw [← h1]; unfold World.cell?; rw [e, HH.out])
            have CQ := Lib.hid (show ∀ W : World, W.heap = w₁.heap → W.cell? ⟨gp, k, none⟩ = some (.int .i64 p) from fun W e => by rw [← h2]; unfold World.cell?; rw [e, HH.out])
            have CI := Lib.hid (fun (W : World) (e : W.heap = w₁.heap) y => isIn_part (placesB l) k gp co y W (by omega) (by omega) (Lib.hid (fun j hj => by rw [← cells j hj]; unfold World.cell?; rw [e, HH.out])) HP6.out)
            have h1q : ∀ q, (wr.drewN q).cell? ⟨gv, k, none⟩ = some (.int .i64 x) := fun q => CV.out _ HH.out
            clear hpf f3 f4 C cells
            go_wp2
            go_quiet ((go_at_call 14; exact Calls.quiet_of (C0.out _)))
            have h1r := h1q nq
            have HS2 : Hid (∃ q, wr.drewN nq = w₁.drewN q) := by obtain ⟨q, hq⟩ := HS.out; exact ⟨q + nq, by rw [hq, World.drewN_drewN]⟩
            clear C0 h1q HS
            go_wp2
            go_loopw [6] (fun xv wi => ∃ y : Int, x ≤ y ∧ y ≤ p ∧ xv = .int .i64 y ∧ Hid (∃ q, wi = w₁.drewN q)) (fun xv _ => (p - intOf xv).toNat)
            case atStart => exact ⟨x, Int.le_refl _, f1, rfl, HS2⟩
            case round =>
              obtain ⟨y, hy1, hy2, rfl, HT⟩ := hrel
              have hheap2 : wr.heap = w₁.heap := by obtain ⟨q, hq⟩ := HT.out; rw [hq]; rfl
              have h6 := CQ.out wr hheap2
              by_cases hyp : y < p
              · have CIy := Lib.hid (CI.out wr hheap2 y)
                have hwy : IntKind.i64.wrap (y + 1) = y + 1 := by rw [IntKind.wrap_i64]; omega
                have hin : decide (y ∈ (placesB l).take k) = true := decide_eq_true (F4.out y hy1 hyp)
                rw [hin] at CIy
                clear hheap2 hin h1 h2 h1r
                go_wp2_with fail
                refine CIy.out.mono ?_
                rintro e w9 ⟨rfl, rfl⟩
                go_wp2
                go_roundw
                case rel => exact ⟨y + 1, by omega, by omega, by go_num, HT⟩
                case measure => simp [intOf]; omega
              · clear hheap2 h1 h2 h1r
                go_wp2
                go_roundw
                case rel => exact ⟨k + 1, by omega, by go_num, HT⟩
                case measure => simp [intOf]; omega
        · obtain rfl : k = m := by omega
          go_wp2
          go_ret
          exact ⟨_, rfl, rfl, by obtain ⟨q, hq⟩ := HS.out; rw [hq]; exact BF.out.trans ⟨rfl, rfl, Nat.le_refl _, fun _ _ => rfl⟩⟩

open Go.ChangeShapes Go.WideShapes Go.ChangeAt Go.RowKit
open Go.ChangeMaps (open_string shut_string)
set_option linter.unusedVariables false

theorem own : ownKnob Try.prog.godebug = none := by kernel_rfl
theorem laidOut : laidOutB Try.prog = true := by kernel_rfl

set_option maxRecDepth 100000 in
theorem lifted (os : Os) (started : os.Started) (H : Type) (enc : TypeId × Value → H) :
    ReturnsInLeavingWide {} Try.checked os 3 .any (Rows.fnPlacesOfSpec.pre6 enc Try.prog Try.f3 Rows.fnPlacesOfRow.domain false) (Rows.fnPlacesOfSpec.post enc Try.prog Try.f3 false true false false) := by
  refine leaving_of_callsX (C := Try.checked) own started (by kernel_rfl) Try.func3
    (ChangeSpec.witness6 (enc := enc) (C := Try.checked) false ⟨#[], #[.slice none 0 0], []⟩ 8 (by kernel_rfl) (by kernel_rfl) (by kernel_rfl) (by kernel_rfl)) ?_
  intro W base args ds gs before hval0 hW hcnd hsz0 hsh
  have hval : ∀ (j : Nat) t v, Try.f3.params[j]? = some t → args[j]? = some v → Value.okWide Try.prog W .any base t v := hval0
  have hW' := hW
  obtain ⟨p, q, hA0, hV, rfl, hfz, hnd⟩ := hW
  have hA : DataW.TrodAll enc Try.prog W 0 (fun _ => true) true Try.f3.params.toList args.toList ds p := hA0
  have hsz : (DataW.weightsEach Try.prog (Try.f3.params.toList ++ Rows.fnPlacesOfSpec.plain.varTypes Try.prog) (ds ++ gs)).all (· ≤ reachBytes) = true := hsz0
  rw [Try.params3] at hA hval hsz
  obtain ⟨v0, vs0, d0, ds0, p0, q0, hargs, rfl, rfl, h0, r0⟩ := trodAll_cons hA
  obtain ⟨rfl, rfl, rfl⟩ := trodAll_nil r0
  obtain rfl : args = #[v0] := by cases args; simp_all
  obtain ⟨rfl, rfl⟩ := trodVars_none hV
  obtain ⟨a0, len0, cap0, rfl⟩ := okWide_slice Try.underlying22 (hval 0 22 v0 rfl rfl)
  have k0 := h0
  have lt0 : ∀ x ∈ p0, x.block < W.heap.size := by obtain ⟨m, hm⟩ := k0; exact DataW.trod_lt m _ _ _ hm
  obtain ⟨z0, w0, hreach⟩ : ∃ zs, IsRow .u8 W a0 len0 cap0 zs ∧ cap0 * 1 ≤ 140737488351232 := by
    obtain ⟨fuel, hf⟩ := h0
    rcases open_ints Try.underlying22 Try.underlying5 (by kernel_rfl) hf with ⟨hcs, _⟩ | ⟨x, l, c, zs, hcs, _, hl, hm, hz, hx, hcell, hwz⟩
    · simp [Value.cells] at hcs
      obtain ⟨rfl, rfl, rfl⟩ := hcs
      exact ⟨[], .inl ⟨rfl, rfl, rfl, rfl⟩, by omega⟩
    · simp [Value.cells] at hcs
      obtain ⟨rfl, rfl, rfl⟩ := hcs
      refine ⟨zs, .inr ⟨_, rfl, hl, hm, by simpa using hz, hcell, hwz⟩, ?_⟩
      simp only [Prod.mk.injEq] at hx
      obtain ⟨hx1, hx2⟩ := hx
      rw [hx1] at hsz
      have hb := sized_slice hsz (j := 0) (t := 22) (e := 5) rfl rfl Try.underlying22
      have b8 : Try.prog.bytesOf 5 = 1 := by kernel_rfl
      rw [b8] at hb
      simp only [lits, List.length_map, List.length_take, List.length_drop, reachBytes] at hb
      simp only [if_true] at hz
      omega
  clear hA0 hval0
  refine ⟨fnPlacesOf_walk a0 len0 cap0 z0 W w0 hreach (setX_now hsh), fun W' belx => ?_⟩
  have bel := below_of_x belx
  exact ⟨_, _, _, [], _, [], hW', trodAll_mk1 (shut_bool Try.underlying4 _), trodAll_mk1 ((Below.trod laidOut (by kernel_rfl) (of_decide_eq_true (by kernel_rfl)) k0 bel lt0).of_heap (by rfl)), rfl, kept_x belx _, fun h => by cases h⟩

theorem over : Rows.fnPlacesOfRow.holds Try.pinned (OpenSpec.ofChange Rows.fnPlacesOfSpec) :=
  OpenClaim.holds_of_wide_leaving 3 Try.f3 rfl rfl rfl rfl rfl rfl rfl ⟨rfl, rfl, rfl, rfl, rfl⟩ rfl rfl rfl rfl rfl (by kernel_rfl) Try.func3 (by kernel_rfl)
    (of_decide_eq_true (by kernel_rfl)) (by unfold Func.isWrapper; first | (rw [if_pos (by decide +kernel)]; kernel_rfl) | (rw [if_neg (by decide +kernel)]; exact ⟨rfl, rfl⟩))
    (fun os started H enc _ => lifted os started H enc)

theorem proved : Rows.FnPlacesOfSaid := over
#print axioms proved
end Go.Proofs.Ytchfnbcpjiiphaa.fnPlacesOf
