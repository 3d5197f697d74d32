/-
  For every argument of FnDriftOf, whatever its value, the call returns true, leaves what it was handed as it was and changes no older memory. Conditions: none beside the row's own.
-/
import Derived.Test.YtchfnbcpjiiphaaRows
import Derived.Test.YtchfnbcpjiiphaaCDrawPX
import Derived.Test.YtchfnbcpjiiphaaCDriftX
import Derived.Test.YtchfnbcpjiiphaaCDriftS
import Derived.Test.YtchfnbcpjiiphaaCBackX
import Derived.Test.YtchfnbcpjiiphaaCSumX
import Derived.WalkKit
import Derived.ProofKit
import Derived.OpenShut
import Derived.ShutString
import Derived.ChangeOld
import Derived.Below
import Derived.SizedLaws
import Derived.HandedShaped
import Derived.Conc.Holds
import Derived.Test.YtchfnbcpjiiphaaCLeav
namespace Go.Proofs.Ytchfnbcpjiiphaa.fnDriftOf
open Go.RowKit

set_option maxRecDepth 100000 in
set_option maxHeartbeats 3200000 in
theorem fnDriftOf_walk (a : Option Addr) (len cap : Nat) (zs : List Int) (w : World) (hr0 : IsRow .u8 w a len cap zs) (_hreach : cap * 1 ≤ 140737488351232) (hs : SetX Try.prog w) :
    CallsX Try.prog 7 #[.slice a len cap] w (AnsX (.bool true) w) := by
  have hr := Lib.hid hr0
  clear hr0
  refine callsX_of_postX Try.func7 rfl ansX_like ?_
  simp only [Try.ntmps7, List.size_toArray, List.length_cons, List.length_nil, Nat.reduceAdd, Nat.reduceSub, Array.replicate_succ, Array.replicate_zero, List.push_toArray, List.append_toArray, List.nil_append, List.cons_append]
  obtain ⟨Q, hQ0⟩ : ∃ Q, Q = postX Try.f7 (AnsX (.bool true) w) := ⟨_, rfl⟩
  have hQl : LikeQ Q := by rw [hQ0]; exact likeQ_post ansX_like
  rw [← hQ0]
  have hQ := Lib.hid hQ0
  clear hQ0
  refine wpX_piece tameT (by kernel_rfl) rfl hs.set hQl fun w₁ hl₁ => ?_
  go_wp2
  refine wpX_like ?_ hl₁
  clear hl₁ w₁
  by_cases hbig : (1048576 : Int) < (len : Int)
  · refine wpX_piece tameT (by kernel_rfl) rfl hs.set hQl fun w₁ hl₁ => ?_
    have hb := Lib.hid (like_x (B := w.heap.size) hl₁)
    go_wp2
    show Q _ _ _
    rw [hQ.out]
    exact ⟨.inr rfl, rfl, _, results_one rfl _, rfl, hb.out⟩
  · refine wpX_piece tameT (by kernel_rfl) rfl hs.set hQl fun w₁ hl₁ => ?_
    go_wp2
    refine wpX_like ?_ hl₁
    clear hl₁ w₁
    refine wpX_seq (wpX_region ?_)
    simp only [List.size_toArray, List.length_cons, List.length_nil, Nat.reduceAdd, Nat.zero_add, List.range, List.range.loop]
    refine opsX_pure rfl rfl rfl fun w₁ hl₁ K hK => ?_
    go_simp
    refine hK _ ?_
    clear hK K hl₁ w₁
    refine opsX_calls (drawDriftOf_x a len cap zs w hr.out (by omega) hs) rfl rfl rfl (by simp [Act.eval]) Try.func29 rfl rfl fun v1 w2 hp => ?_
    obtain ⟨l, ho, h9, hb2⟩ := hp
    obtain ⟨av, cv, rfl, _⟩ := ho.slice
    rw [iv_length] at ho ⊢
    have HL := Lib.hid (show l.length ≤ 1048576 by omega)
    obtain ⟨n, hn⟩ : ∃ n, n = l.length := ⟨_, rfl⟩
    have HN := Lib.hid hn
    rw [← hn] at ho h9 ⊢
    have O := Lib.hid (fun (W : World) (k : BelowX w2.heap.size w2 W) => ho.x k)
    have BB := Lib.hid (fun (W : World) (k : BelowX w2.heap.size w2 W) => hb2.trans (k.mono hb2.size))
    have SS := Lib.hid (fun (W : World) (k : BelowX w2.heap.size w2 W) => hs.x (BB.out W k))
    have K2 := Lib.hid (BelowX.refl w2.heap.size w2)
    clear ho hb2 hn
    walk_nrm
    refine opsX_pure rfl rfl rfl fun w₁ hl₁ K hK => ?_
    go_simp
    refine hK _ ?_
    clear hK K hl₁ w₁
    refine opsX_nil ?_
    show WpX _ _ Q _ _
    have CP := Lib.hid (fun (v : Value) (W : World) (B H : Nat) (hv : Own W B H 3 v (iv l)) (hH : H ≤ W.heap.size) (hs : SetX Try.prog W) => driftOf_x l v W hv hH HL.out hs)
    have CS := Lib.hid (fun (v : Value) (W : World) (B H : Nat) (hv : Hid (Own W B H 3 v (iv l))) (hH : H ≤ W.heap.size) => specDriftOf_any l v W hv hH HL.out)
    have CR := Lib.hid (fun (v : Value) (W : World) (B H : Nat) (hv : Own W B H 3 v (iv l)) (hH : H ≤ W.heap.size) (hs : SetX Try.prog W) => backwards_x l v W hv hH HL.out hs)
    have CPR := Lib.hid (fun (v : Value) (W : World) (B H : Nat) (hv : Own W B H 3 v (iv l.reverse)) (hH : H ≤ W.heap.size) (hs : SetX Try.prog W) => driftOf_x l.reverse v W hv hH (by rw [List.length_reverse]; exact HL.out) hs)
    have DL := Lib.hid (fun h => drift_law (l := l) h)
    have CT := Lib.hid (fun (hw : wishB l = true) (v : Value) (W : World) (B H : Nat) (hv : Own W B H 3 v (iv l)) (hs : SetX Try.prog W) => look_x (f := 32) rfl hs fun w₁ hl₁ => (total_any l v w₁ (Lib.hid (hv.like hl₁)) (by have := wishB_len hw; omega) (Lib.hid (fun x hx => by have := wishes_of hw x hx; have := wishB_len hw; omega))).mono fun _ _ ⟨he, hw⟩ => ⟨he, by rw [← hw]; exact Below.refl _ _⟩)
    obtain ⟨d, hd⟩ : ∃ d, d = driftB l := ⟨_, rfl⟩
    obtain ⟨s, hs2⟩ : ∃ s, s = sumI l l.length := ⟨_, rfl⟩
    rw [← hd] at CP CS DL
    rw [← hs2] at DL CT
    rw [← HN.out] at DL
    have dd : (d == d) = true := by simp
    have dn : (d != d) = false := by simp
    clear hd hs2
    -- out := impl.DriftOf(list)
    refine wpX_seq (wpX_region ?_)
    simp only [List.size_toArray, List.length_cons, List.length_nil, Nat.reduceAdd, Nat.zero_add, List.range, List.range.loop]
    refine opsX_pure rfl rfl rfl fun w₁ hl₁ K hK => ?_
    go_simp
    refine hK _ ?_
    clear hK K hl₁ w₁
    refine opsX_calls (CP.out (.slice av n cv) w2 _ _ (O.out w2 K2.out) K2.out.size (SS.out w2 K2.out)) rfl rfl rfl (by simp [Act.eval]) Try.func30 rfl rfl fun v3 w3 hp => ?_
    obtain ⟨rfl, hb3⟩ := hp
    have K3 := Lib.hid (K2.out.trans (hb3.mono K2.out.size))
    clear hb3
    walk_nrm
    refine opsX_pure rfl rfl rfl fun w₁ hl₁ K hK => ?_
    go_simp
    refine hK _ ?_
    clear hK K hl₁ w₁
    refine opsX_nil ?_
    show WpX _ _ Q _ _
    by_cases h0 : d < 0
    · refine wpX_piece tameT (by kernel_rfl) rfl (SS.out w3 K3.out).set hQl fun w₁ hl₁ => ?_
      have K4 := Lib.hid (K3.out.like hl₁)
      go_wp2_with fail
      refine (CS.out (.slice av n cv) w₁ _ _ (Lib.hid (O.out w₁ K4.out)) K4.out.size).mono ?_
      rintro e w5 ⟨rfl, hb5⟩
      have K5 := Lib.hid (K4.out.trans (below_x (hb5.mono K4.out.size)))
      clear hb5
      go_wp2_with fail
      refine (CS.out (.slice av n cv) w5 _ _ (Lib.hid (O.out w5 K5.out)) K5.out.size).mono ?_
      rintro e w6 ⟨rfl, hb6⟩
      have K6 := Lib.hid (K5.out.trans (below_x (hb6.mono K5.out.size)))
      clear hb6
      go_wp2
      show Q _ _ _
      rw [hQ.out]
      exact ⟨.inr rfl, rfl, _, results_one rfl _, rfl, BB.out _ K6.out⟩
    · refine wpX_piece tameT (by kernel_rfl) rfl (SS.out w3 K3.out).set hQl fun w₁ hl₁ => ?_
      have K4 := Lib.hid (K3.out.like hl₁)
      go_wp2_with fail
      refine (CS.out (.slice av n cv) w₁ _ _ (Lib.hid (O.out w₁ K4.out)) K4.out.size).mono ?_
      rintro e w5 ⟨rfl, hb5⟩
      have K5 := Lib.hid (K4.out.trans (below_x (hb5.mono K4.out.size)))
      clear hb5
      go_wp2
      obtain ⟨hw, he, hrev⟩ := DL.out (by omega)
      have hn8 : n ≤ 8 := by rw [HN.out]; exact wishB_len hw
      have CTW := Lib.hid (CT.out hw)
      have HE := Lib.hid (half_of hn8 he)
      obtain ⟨T, hT⟩ : ∃ T, T = d + s := ⟨_, rfl⟩
      rw [← hT] at HE
      have HT := Lib.hid hT
      rw [hrev] at CPR
      clear he hrev hw CT DL hT dn
      refine wpX_piece tameT (by kernel_rfl) rfl (SS.out w5 K5.out).set hQl fun w₁ hl₁ => ?_
      have K6 := Lib.hid (K5.out.like hl₁)
      go_wp2
      -- the sum
      refine wpX_seq (wpX_region ?_)
      simp only [List.size_toArray, List.length_cons, List.length_nil, Nat.reduceAdd, Nat.zero_add, List.range, List.range.loop]
      refine opsX_pure rfl rfl rfl fun w₁ hl₁ K hK => ?_
      go_simp
      refine hK _ ?_
      clear hK K hl₁ w₁
      refine opsX_pure rfl rfl rfl fun w₁ hl₁ K hK => ?_
      go_simp
      refine hK _ ?_
      clear hK K hl₁ w₁
      refine opsX_calls (CTW.out (.slice av n cv) w₁ _ _ (O.out w₁ K6.out) (SS.out w₁ K6.out)) rfl rfl rfl (by simp [Act.eval]) Try.func32 rfl rfl fun v7 w7 hp => ?_
      obtain ⟨rfl, hb7⟩ := hp
      have K7 := Lib.hid (K6.out.trans (hb7.mono K6.out.size))
      clear hb7
      walk_nrm
      refine opsX_pure rfl rfl rfl fun w₁ hl₁ K hK => ?_
      go_simp
      rw [← HT.out, HE.out.2.2.2]
      refine hK _ ?_
      clear hK K hl₁ w₁
      refine opsX_pure rfl rfl rfl fun w₁ hl₁ K hK => ?_
      go_simp
      refine hK _ ?_
      clear hK K hl₁ w₁
      refine opsX_pure rfl rfl rfl fun w₁ hl₁ K hK => ?_
      go_simp
      refine hK _ ?_
      clear hK K hl₁ w₁
      refine opsX_pure rfl rfl rfl fun w₁ hl₁ K hK => ?_
      go_simp
      rw [HE.out.1]
      refine hK _ ?_
      clear hK K hl₁ w₁
      refine opsX_pure rfl rfl rfl fun w₁ hl₁ K hK => ?_
      go_simp
      rw [HE.out.2.1]
      refine hK _ ?_
      clear hK K hl₁ w₁
      refine opsX_pure rfl rfl rfl fun w₁ hl₁ K hK => ?_
      go_simp
      rw [HE.out.2.2.2]
      refine hK _ ?_
      clear hK K hl₁ w₁
      refine opsX_pure rfl rfl rfl fun w₁ hl₁ K hK => ?_
      go_simp
      refine hK _ ?_
      clear hK K hl₁ w₁
      refine opsX_pure rfl rfl rfl fun w₁ hl₁ K hK => ?_
      go_simp
      refine hK _ ?_
      clear hK K hl₁ w₁
      refine opsX_pure rfl rfl rfl fun w₁ hl₁ K hK => ?_
      go_simp
      refine hK _ ?_
      clear hK K hl₁ w₁
      refine opsX_calls (CR.out (.slice av n cv) w7 _ _ (O.out w7 K7.out) K7.out.size (SS.out w7 K7.out)) rfl rfl rfl (by simp [Act.eval]) Try.func20 rfl rfl fun y1 w8 hp => ?_
      obtain ⟨hb8, ho8⟩ := hp
      have K8 := Lib.hid (K7.out.trans (hb8.mono K7.out.size))
      have R8 := Lib.hid ho8
      clear hb8 ho8
      walk_nrm
      refine opsX_calls (CPR.out y1 w8 _ _ R8.out (Nat.le_refl _) (SS.out w8 K8.out)) rfl rfl rfl (by simp [Act.eval]) Try.func30 rfl rfl fun v9 w9 hp => ?_
      obtain ⟨rfl, hb9⟩ := hp
      have K9 := Lib.hid (K8.out.trans (hb9.mono K8.out.size))
      clear hb9
      walk_nrm
      refine opsX_pure rfl rfl rfl fun w₁ hl₁ K hK => ?_
      go_simp
      refine hK _ ?_
      clear hK K hl₁ w₁
      refine opsX_pure rfl rfl rfl fun w₁ hl₁ K hK => ?_
      go_simp
      refine hK _ ?_
      clear hK K hl₁ w₁
      refine opsX_pure rfl rfl rfl fun w₁ hl₁ K hK => ?_
      go_simp
      refine hK _ ?_
      clear hK K hl₁ w₁
      refine opsX_pure rfl rfl rfl fun w₁ hl₁ K hK => ?_
      go_simp
      refine hK _ ?_
      clear hK K hl₁ w₁
      refine opsX_nil ?_
      refine wpX_ret ?_
      show Q _ _ _
      rw [hQ.out]
      exact ⟨.inr rfl, rfl, _, results_one rfl _, rfl, BB.out _ K9.out⟩

open Go.ChangeShapes Go.WideShapes Go.ChangeAt Go.RowKit
open Go.ChangeMaps (open_string shut_string)
set_option linter.unusedVariables false

theorem own : ownKnob Try.prog.godebug = none := by kernel_rfl
theorem laidOut : laidOutB Try.prog = true := by kernel_rfl

set_option maxRecDepth 100000 in
theorem lifted (os : Os) (started : os.Started) (H : Type) (enc : TypeId × Value → H) :
    ReturnsInLeavingWide {} Try.checked os 7 .any (Rows.fnDriftOfSpec.pre6 enc Try.prog Try.f7 Rows.fnDriftOfRow.domain false) (Rows.fnDriftOfSpec.post enc Try.prog Try.f7 false true false false) := by
  refine leaving_of_callsX (C := Try.checked) own started (by kernel_rfl) Try.func7
    (ChangeSpec.witness6 (enc := enc) (C := Try.checked) false ⟨#[], #[.slice none 0 0], []⟩ 8 (by kernel_rfl) (by kernel_rfl) (by kernel_rfl) (by kernel_rfl)) ?_
  intro W base args ds gs before hval0 hW hcnd hsz0 hsh
  have hval : ∀ (j : Nat) t v, Try.f7.params[j]? = some t → args[j]? = some v → Value.okWide Try.prog W .any base t v := hval0
  have hW' := hW
  obtain ⟨p, q, hA0, hV, rfl, hfz, hnd⟩ := hW
  have hA : DataW.TrodAll enc Try.prog W 0 (fun _ => true) true Try.f7.params.toList args.toList ds p := hA0
  have hsz : (DataW.weightsEach Try.prog (Try.f7.params.toList ++ Rows.fnDriftOfSpec.plain.varTypes Try.prog) (ds ++ gs)).all (· ≤ reachBytes) = true := hsz0
  rw [Try.params7] at hA hval hsz
  obtain ⟨v0, vs0, d0, ds0, p0, q0, hargs, rfl, rfl, h0, r0⟩ := trodAll_cons hA
  obtain ⟨rfl, rfl, rfl⟩ := trodAll_nil r0
  obtain rfl : args = #[v0] := by cases args; simp_all
  obtain ⟨rfl, rfl⟩ := trodVars_none hV
  obtain ⟨a0, len0, cap0, rfl⟩ := okWide_slice Try.underlying22 (hval 0 22 v0 rfl rfl)
  have k0 := h0
  have lt0 : ∀ x ∈ p0, x.block < W.heap.size := by obtain ⟨m, hm⟩ := k0; exact DataW.trod_lt m _ _ _ hm
  obtain ⟨z0, w0, hreach⟩ : ∃ zs, IsRow .u8 W a0 len0 cap0 zs ∧ cap0 * 1 ≤ 140737488351232 := by
    obtain ⟨fuel, hf⟩ := h0
    rcases open_ints Try.underlying22 Try.underlying5 (by kernel_rfl) hf with ⟨hcs, _⟩ | ⟨x, l, c, zs, hcs, _, hl, hm, hz, hx, hcell, hwz⟩
    · simp [Value.cells] at hcs
      obtain ⟨rfl, rfl, rfl⟩ := hcs
      exact ⟨[], .inl ⟨rfl, rfl, rfl, rfl⟩, by omega⟩
    · simp [Value.cells] at hcs
      obtain ⟨rfl, rfl, rfl⟩ := hcs
      refine ⟨zs, .inr ⟨_, rfl, hl, hm, by simpa using hz, hcell, hwz⟩, ?_⟩
      simp only [Prod.mk.injEq] at hx
      obtain ⟨hx1, hx2⟩ := hx
      rw [hx1] at hsz
      have hb := sized_slice hsz (j := 0) (t := 22) (e := 5) rfl rfl Try.underlying22
      have b8 : Try.prog.bytesOf 5 = 1 := by kernel_rfl
      rw [b8] at hb
      simp only [lits, List.length_map, List.length_take, List.length_drop, reachBytes] at hb
      simp only [if_true] at hz
      omega
  clear hA0 hval0
  refine ⟨fnDriftOf_walk a0 len0 cap0 z0 W w0 hreach (setX_now hsh), fun W' belx => ?_⟩
  have bel := below_of_x belx
  exact ⟨_, _, _, [], _, [], hW', trodAll_mk1 (shut_bool Try.underlying4 _), trodAll_mk1 ((Below.trod laidOut (by kernel_rfl) (of_decide_eq_true (by kernel_rfl)) k0 bel lt0).of_heap (by rfl)), rfl, kept_x belx _, fun h => by cases h⟩

theorem over : Rows.fnDriftOfRow.holds Try.pinned (OpenSpec.ofChange Rows.fnDriftOfSpec) :=
  OpenClaim.holds_of_wide_leaving 7 Try.f7 rfl rfl rfl rfl rfl rfl rfl ⟨rfl, rfl, rfl, rfl, rfl⟩ rfl rfl rfl rfl rfl (by kernel_rfl) Try.func7 (by kernel_rfl)
    (of_decide_eq_true (by kernel_rfl)) (by unfold Func.isWrapper; first | (rw [if_pos (by decide +kernel)]; kernel_rfl) | (rw [if_neg (by decide +kernel)]; exact ⟨rfl, rfl⟩))
    (fun os started H enc _ => lifted os started H enc)

theorem proved : Rows.FnDriftOfSaid := over
#print axioms proved
end Go.Proofs.Ytchfnbcpjiiphaa.fnDriftOf
