/-
  For every argument of FnExactPlacesOf, whatever its value, the call returns true, leaves what it was handed as it was and changes no older memory. Conditions: none beside the row's own.
-/
import Derived.Test.YtchfnbcpjiiphabRows
import Derived.Test.YtchfnbcpjiiphabCPlX
import Derived.WalkKit
import Derived.ProofKit
import Derived.OpenShut
import Derived.ShutString
import Derived.ChangeOld
import Derived.Below
import Derived.SizedLaws
import Derived.HandedShaped
import Derived.Conc.Holds
import Derived.Test.YtchfnbcpjiiphabCLeav
namespace Go.Proofs.Ytchfnbcpjiiphab.fnExactPlacesOf
open Go.RowKit

set_option maxRecDepth 100000 in
set_option maxHeartbeats 3200000 in
theorem fnExactPlacesOf_walk (a : Option Addr) (len cap : Nat) (zs : List Int) (w : World) (hr0 : IsRow .i64 w a len cap zs) (_hreach : cap * 8 ≤ 140737488351232) (hs : SetX Try.prog w) :
    CallsX Try.prog 3 #[.slice a len cap] w (AnsX (.bool true) w) := by
  refine callsX_of_postX Try.func3 rfl ansX_like ?_
  simp only [Try.ntmps3, List.size_toArray, List.length_cons, List.length_nil, Nat.reduceAdd, Nat.reduceSub, Array.replicate_succ, Array.replicate_zero, List.push_toArray, List.append_toArray, List.nil_append, List.cons_append]
  obtain ⟨Q, hQ0⟩ : ∃ Q, Q = postX Try.f3 (AnsX (.bool true) w) := ⟨_, rfl⟩
  have hQl : LikeQ Q := by rw [hQ0]; exact likeQ_post ansX_like
  rw [← hQ0]
  have hQ := Lib.hid hQ0
  clear hQ0
  refine wpX_piece tameT (by kernel_rfl) rfl hs.set hQl fun w₁ hl₁ => ?_
  go_wp2
  refine wpX_like ?_ hl₁
  clear hl₁ w₁
  by_cases hbig : (1048576 : Int) < (len : Int)
  · clear hr0
    refine wpX_piece tameT (by kernel_rfl) rfl hs.set hQl fun w₁ hl₁ => ?_
    have hb := Lib.hid (like_x (B := w.heap.size) hl₁)
    go_wp2
    show Q _ _ _
    rw [hQ.out]
    exact ⟨.inr rfl, rfl, _, results_one rfl _, rfl, hb.out⟩
  · have hr := Lib.hid hr0
    have hlen := hr0.len
    obtain ⟨l, hl⟩ : ∃ l, l = zs.take len := ⟨_, rfl⟩
    have hll : l.length = len := by rw [hl, List.length_take]; omega
    have HL := Lib.hid hl
    have HLL := Lib.hid hll
    have HL6 := Lib.hid (show l.length ≤ 1048576 by omega)
    clear hr0 hl hll
    refine wpX_piece tameT (by kernel_rfl) rfl hs.set hQl fun w₁ hl₁ => ?_
    go_wp2
    refine wpX_like ?_ hl₁
    clear hl₁ w₁
    have HP6 := Lib.hid (show (plB l).length ≤ 1048576 from Nat.le_trans (plB_length l) HL6.out)
    obtain ⟨pl, hpl⟩ : ∃ pl, pl = plB l := ⟨_, rfl⟩
    have CS := Lib.hid (fun (v : Value) (W : World) (B H : Nat) (hv : Hid (Own W B H 3 v (iv l))) (hH : H ≤ W.heap.size) => specPl_any l v W hv hH HL6.out)
    have CP := Lib.hid (fun (v : Value) (W : World) (B H : Nat) (hv : Own W B H 3 v (iv l)) (hH : H ≤ W.heap.size) (hs : SetX Try.prog W) => placesPl_x l v W hv hH HL6.out hs)
    rw [← hpl] at HP6 CS CP
    clear hpl
    -- w0 := spec.PlacesOf(toIntS(aList))
    refine wpX_piece tameT (by kernel_rfl) rfl (hs).set hQl fun w₁ hl₁ => ?_
    have R1 := Lib.hid (hr.out.like hl₁)
    have B1 := Lib.hid (like_x (B := w.heap.size) hl₁)
    clear hl₁
    go_wp2_with fail
    refine (toInts_any a len cap zs w₁ R1 (by omega)).mono ?_
    rintro e w2 ⟨v1, rfl, o1, b1⟩
    rw [← HL.out] at o1
    have O1 := Lib.hid o1
    have B2 := Lib.hid (B1.out.trans (below_x (b1.mono B1.out.size)))
    clear o1 b1 B1 R1
    go_wp2_with fail
    refine (CS.out v1 w2 _ _ O1 (Nat.le_refl _)).mono ?_
    rintro e w3 ⟨v0, rfl, o0, b3⟩
    have B3 := Lib.hid (B2.out.trans (below_x (b3.mono B2.out.size)))
    have O0 := Lib.hid o0
    clear b3 o0 O1 B2
    go_wp2
    -- x0 := toIntS(aList)
    refine wpX_piece tameT (by kernel_rfl) rfl (hs.x B3.out).set hQl fun w₁ hl₁ => ?_
    have R4 := Lib.hid ((hr.out.x B3.out).like hl₁)
    have B4 := Lib.hid (B3.out.like hl₁)
    have O4 := Lib.hid ((O0.out.like hl₁).more (Nat.le_of_eq hl₁.size.symm))
    clear hl₁ B3 O0
    go_wp2_with fail
    refine (toInts_any a len cap zs w₁ R4 (by omega)).mono ?_
    rintro e w5 ⟨v5, rfl, o5, b5⟩
    rw [← HL.out] at o5
    have OX := Lib.hid o5
    have OW := Lib.hid (O4.out.below b5)
    have B5 := Lib.hid (B4.out.trans (below_x (b5.mono B4.out.size)))
    have N15 := Lib.hid (show w₁.heap.size ≤ w5.heap.size from b5.size)
    obtain ⟨N1, hN1⟩ : ∃ N1, N1 = w₁.heap.size := ⟨_, rfl⟩
    have NN1 := Lib.hid (show w.heap.size ≤ w₁.heap.size from B4.out.size)
    rw [← hN1] at OX OW N15 NN1
    clear o5 b5 B4 R4 O4 hN1
    go_wp2
    -- g0 := impl.PlacesOf(x0)
    refine wpX_seq (wpX_region ?_)
    simp only [List.size_toArray, List.length_cons, List.length_nil, Nat.reduceAdd, Nat.zero_add, List.range, List.range.loop]
    refine opsX_pure rfl rfl rfl fun w₁ hl₁ K hK => ?_
    go_simp
    refine hK _ ?_
    clear hK K hl₁ w₁
    refine opsX_calls (CP.out v5 w5 _ _ OX.out (Nat.le_refl _) (hs.x B5.out)) rfl rfl rfl (by simp [Act.eval]) Try.func10 rfl rfl fun v6 w6 hp6 => ?_
    have hb6 := hp6.1
    have OG := Lib.hid hp6.2
    have B6 := Lib.hid (B5.out.trans (hb6.mono B5.out.size))
    have OX6 := Lib.hid (OX.out.x hb6)
    have OW6 := Lib.hid (OW.out.x (hb6.mono N15.out))
    have N56 := Lib.hid hb6.size
    obtain ⟨N5, hN5⟩ : ∃ N5, N5 = w5.heap.size := ⟨_, rfl⟩
    obtain ⟨N6, hN6⟩ : ∃ N6, N6 = w6.heap.size := ⟨_, rfl⟩
    rw [← hN5, ← hN6] at OG N56
    rw [← hN5] at OX6 N15
    have Z6 := Lib.hid (Nat.le_of_eq hN6)
    clear hb6 hp6 B5 OX OW hN5 hN6
    walk_nrm
    refine opsX_pure rfl rfl rfl fun w₁ hl₁ K hK => ?_
    go_simp
    refine hK _ ?_
    clear hK K hl₁ w₁
    refine opsX_nil ?_
    show WpX _ _ Q _ _
    -- g0 is w0
    refine wpX_piece tameT (by kernel_rfl) rfl (hs.x B6.out).set hQl fun w₁ hl₁ => ?_
    have O1 := Lib.hid (OG.out.like hl₁)
    have O2 := Lib.hid (OW6.out.like hl₁)
    go_wp2_with fail
    refine (eqInts_yes pl v6 v0 w₁ O1 O2 HP6.out).mono ?_
    rintro e w7 ⟨rfl, s7⟩
    have L7 := Lib.hid (hl₁.trans (same_like s7))
    clear s7 hl₁ O1 O2
    go_wp2
    refine wpX_like ?_ L7.out
    clear L7 w7 w₁
    -- x0 is the argument
    refine wpX_piece tameT (by kernel_rfl) rfl (hs.x B6.out).set hQl fun w₁ hl₁ => ?_
    have R7 := Lib.hid ((hr.out.x B6.out).like hl₁)
    have B7 := Lib.hid (B6.out.like hl₁)
    have Z7 := Lib.hid (Nat.le_trans Z6.out (Nat.le_of_eq hl₁.size.symm))
    have X7 := Lib.hid (OX6.out.like hl₁)
    have W7 := Lib.hid (OW6.out.like hl₁)
    have G7 := Lib.hid (OG.out.like hl₁)
    clear hl₁ B6 OX6 OW6 OG Z6
    go_wp2_with fail
    refine (toInts_any a len cap zs w₁ R7 (by omega)).mono ?_
    rintro e w8 ⟨v8, rfl, o8, b8⟩
    rw [← HL.out] at o8
    have O8 := Lib.hid o8
    have hb8 := b8.mono Z7.out
    have X8 := Lib.hid (X7.out.below (hb8.mono N56.out))
    have W8 := Lib.hid (W7.out.below (hb8.mono (Nat.le_trans N15.out N56.out)))
    have G8 := Lib.hid (G7.out.below hb8)
    have B8 := Lib.hid (B7.out.trans (below_x (b8.mono B7.out.size)))
    have Z8 := Lib.hid (Nat.le_trans Z7.out b8.size)
    clear o8 b8 hb8 X7 W7 G7 B7 R7 Z7
    go_wp2_with fail
    refine (eqInts_yes l v5 v8 w8 X8 O8 HL6.out).mono ?_
    rintro e w9 ⟨rfl, s9⟩
    have L9 := Lib.hid (same_like s9)
    clear s9 O8
    go_wp2
    refine wpX_like ?_ L9.out
    clear L9 w9 w₁
    -- k := 1
    refine wpX_piece tameT (by kernel_rfl) rfl (hs.x B8.out).set hQl fun w₁ hl₁ => ?_
    go_wp2
    refine wpX_like ?_ hl₁
    clear hl₁ w₁
    -- k = markIntS(x0, k)
    refine wpX_piece tameT (by kernel_rfl) rfl (hs.x B8.out).set hQl fun w₁ hl₁ => ?_
    have XX := Lib.hid (X8.out.like hl₁)
    have WW := Lib.hid (W8.out.like hl₁)
    have GG := Lib.hid (G8.out.like hl₁)
    have BB := Lib.hid (B8.out.like hl₁)
    have ZZ := Lib.hid (Nat.le_trans Z8.out (Nat.le_of_eq hl₁.size.symm))
    clear hl₁ X8 W8 G8 B8 Z8
    go_wp2_with fail
    refine (markInts_any l v5 w₁ XX HL6.out).mono ?_
    rintro e w10 ⟨rfl, o10, g10, z10⟩
    have WT := Lib.hid (WW.out.grown g10 (own_apart WW.out XX.out (Nat.le_refl _)))
    have GT := Lib.hid (GG.out.grown g10 (own_apart' XX.out GG.out (Nat.le_refl _)))
    have BT := Lib.hid (BB.out.grown g10 BB.out.size (fun q hq => by have := (XX.out.1.lt q hq).1; have := NN1.out; omega))
    have ZT := Lib.hid (Nat.le_trans ZZ.out (Nat.le_of_eq z10.symm))
    clear o10 g10 z10 XX WW GG BB ZZ
    go_wp2
    -- g0 is still w0
    refine wpX_piece tameT (by kernel_rfl) rfl (hs.x BT.out).set hQl fun w₁ hl₁ => ?_
    have O1 := Lib.hid (GT.out.like hl₁)
    have O2 := Lib.hid (WT.out.like hl₁)
    go_wp2_with fail
    refine (eqInts_yes pl v6 v0 w₁ O1 O2 HP6.out).mono ?_
    rintro e w7 ⟨rfl, s7⟩
    have L7 := Lib.hid (hl₁.trans (same_like s7))
    clear s7 hl₁ O1 O2
    go_wp2
    refine wpX_like ?_ L7.out
    clear L7 w7 w₁
    -- m := 1
    refine wpX_piece tameT (by kernel_rfl) rfl (hs.x BT.out).set hQl fun w₁ hl₁ => ?_
    go_wp2
    refine wpX_like ?_ hl₁
    clear hl₁ w₁
    -- m = markIntS(g0, m)
    refine wpX_piece tameT (by kernel_rfl) rfl (hs.x BT.out).set hQl fun w₁ hl₁ => ?_
    have WW := Lib.hid (WT.out.like hl₁)
    have GG := Lib.hid (GT.out.like hl₁)
    have BB := Lib.hid (BT.out.like hl₁)
    have ZZ := Lib.hid (Nat.le_trans ZT.out (Nat.le_of_eq hl₁.size.symm))
    clear hl₁ WT GT BT ZT
    go_wp2_with fail
    refine (markInts_any pl v6 w₁ GG HP6.out).mono ?_
    rintro e w11 ⟨rfl, o11, g11, z11⟩
    have GT := Lib.hid o11
    have WT := Lib.hid (WW.out.grown g11 (own_apart WW.out GG.out N15.out))
    have BT := Lib.hid (BB.out.grown g11 BB.out.size (fun q hq => by have := (GG.out.1.lt q hq).1; have := NN1.out; have := N15.out; omega))
    have ZT := Lib.hid (Nat.le_trans ZZ.out (Nat.le_of_eq z11.symm))
    clear o11 g11 z11 WW GG BB ZZ
    go_wp2
    -- q := 1
    refine wpX_piece tameT (by kernel_rfl) rfl (hs.x BT.out).set hQl fun w₁ hl₁ => ?_
    go_wp2
    refine wpX_like ?_ hl₁
    clear hl₁ w₁
    -- q = heldIntS(g0, q)
    refine wpX_piece tameT (by kernel_rfl) rfl (hs.x BT.out).set hQl fun w₁ hl₁ => ?_
    have GG := Lib.hid (GT.out.like hl₁)
    go_wp2_with fail
    refine (heldInts_any pl.length v6 w₁ GG HP6.out).mono ?_
    rintro e w7 ⟨rfl, rfl⟩
    clear GG
    go_wp2
    refine wpX_like ?_ hl₁
    clear hl₁ w₁
    refine wpX_piece tameT (by kernel_rfl) rfl (hs.x BT.out).set hQl fun w₁ hl₁ => ?_
    have hpos : ¬ ((pl.length : Int) + 1 < 0) := by omega
    go_wp2
    refine wpX_like ?_ hl₁
    clear hl₁ w₁ hpos
    refine wpX_piece tameT (by kernel_rfl) rfl (hs.x BT.out).set hQl fun w₁ hl₁ => ?_
    go_wp2
    refine wpX_like ?_ hl₁
    clear hl₁ w₁
    -- h0 := impl.PlacesOf(toIntS(aList))
    refine wpX_seq (wpX_region ?_)
    simp only [List.size_toArray, List.length_cons, List.length_nil, Nat.reduceAdd, Nat.zero_add, List.range, List.range.loop]
    refine opsX_pure rfl rfl rfl fun w₁ hl₁ K hK => ?_
    go_simp
    refine hK _ ?_
    clear hK K hl₁ w₁
    refine opsX_calls (toInts_x a len cap zs _ (hr.out.x BT.out) (by omega) (hs.x BT.out)) rfl rfl rfl (by simp [Act.eval]) Try.func9 rfl rfl fun v12 w12 hp12 => ?_
    rw [← HL.out] at hp12
    have hb12 := hp12.1.mono ZT.out
    have OA := Lib.hid hp12.2
    have W12 := Lib.hid (WT.out.x (hb12.mono (Nat.le_trans N15.out N56.out)))
    have G12 := Lib.hid (GT.out.x hb12)
    have B12 := Lib.hid (BT.out.trans (hp12.1.mono BT.out.size))
    have Z12 := Lib.hid (Nat.le_trans ZT.out hp12.1.size)
    clear hb12 hp12 WT GT BT ZT
    walk_nrm
    refine opsX_calls (CP.out v12 w12 _ _ OA.out (Nat.le_refl _) (hs.x B12.out)) rfl rfl rfl (by simp [Act.eval]) Try.func10 rfl rfl fun v13 w13 hp13 => ?_
    have hb13 := hp13.1.mono Z12.out
    have OH := Lib.hid hp13.2
    have W13 := Lib.hid (W12.out.x (hb13.mono (Nat.le_trans N15.out N56.out)))
    have G13 := Lib.hid (G12.out.x hb13)
    have B13 := Lib.hid (B12.out.trans (hp13.1.mono B12.out.size))
    clear hb13 hp13 W12 G12 B12 Z12 OA
    walk_nrm
    refine opsX_pure rfl rfl rfl fun w₁ hl₁ K hK => ?_
    go_simp
    refine hK _ ?_
    clear hK K hl₁ w₁
    refine opsX_nil ?_
    show WpX _ _ Q _ _
    rw [hQ.out]
    refine wpX_last tameT (by kernel_rfl) rfl (hs.x B13.out).set ansX_like (fun w₁ hl₁ => ?_) fun tmps => ⟨_, results_one rfl tmps⟩
    have H1 := Lib.hid (OH.out.like hl₁)
    have W1 := Lib.hid (W13.out.like hl₁)
    have G1 := Lib.hid (G13.out.like hl₁)
    have B1 := Lib.hid (B13.out.like hl₁)
    clear hl₁ OH W13 G13 B13
    go_wp2_with fail
    refine (eqInts_yes pl v13 v0 w₁ H1 W1 HP6.out).mono ?_
    rintro e w14 ⟨rfl, s14⟩
    have G14 := Lib.hid (G1.out.same s14.1)
    have B14 := Lib.hid (B1.out.trans (below_x (s14.below w.heap.size)))
    clear s14 H1 W1 G1 B1
    go_wp2_with fail
    refine (heldInts_any pl.length v6 w14 G14 HP6.out).mono ?_
    rintro e w15 ⟨rfl, rfl⟩
    have hpos : ¬ ((pl.length : Int) + 1 < 0) := by omega
    go_wp2
    go_ret
    exact ⟨_, rfl, rfl, B14.out⟩

open Go.ChangeShapes Go.WideShapes Go.ChangeAt Go.RowKit
open Go.ChangeMaps (open_string shut_string)
set_option linter.unusedVariables false

theorem own : ownKnob Try.prog.godebug = none := by kernel_rfl
theorem laidOut : laidOutB Try.prog = true := by kernel_rfl

set_option maxRecDepth 100000 in
theorem lifted (os : Os) (started : os.Started) (H : Type) (enc : TypeId × Value → H) :
    ReturnsInLeavingWide {} Try.checked os 3 .any (Rows.fnExactPlacesOfSpec.pre6 enc Try.prog Try.f3 Rows.fnExactPlacesOfRow.domain false) (Rows.fnExactPlacesOfSpec.post enc Try.prog Try.f3 false true false false) := by
  refine leaving_of_callsX (C := Try.checked) own started (by kernel_rfl) Try.func3
    (ChangeSpec.witness6 (enc := enc) (C := Try.checked) false ⟨#[], #[.slice none 0 0], []⟩ 8 (by kernel_rfl) (by kernel_rfl) (by kernel_rfl) (by kernel_rfl)) ?_
  intro W base args ds gs before hval0 hW hcnd hsz0 hsh
  have hval : ∀ (j : Nat) t v, Try.f3.params[j]? = some t → args[j]? = some v → Value.okWide Try.prog W .any base t v := hval0
  have hW' := hW
  obtain ⟨p, q, hA0, hV, rfl, hfz, hnd⟩ := hW
  have hA : DataW.TrodAll enc Try.prog W 0 (fun _ => true) true Try.f3.params.toList args.toList ds p := hA0
  have hsz : (DataW.weightsEach Try.prog (Try.f3.params.toList ++ Rows.fnExactPlacesOfSpec.plain.varTypes Try.prog) (ds ++ gs)).all (· ≤ reachBytes) = true := hsz0
  rw [Try.params3] at hA hval hsz
  obtain ⟨v0, vs0, d0, ds0, p0, q0, hargs, rfl, rfl, h0, r0⟩ := trodAll_cons hA
  obtain ⟨rfl, rfl, rfl⟩ := trodAll_nil r0
  obtain rfl : args = #[v0] := by cases args; simp_all
  obtain ⟨rfl, rfl⟩ := trodVars_none hV
  obtain ⟨a0, len0, cap0, rfl⟩ := okWide_slice Try.underlying22 (hval 0 22 v0 rfl rfl)
  have k0 := h0
  have lt0 : ∀ x ∈ p0, x.block < W.heap.size := by obtain ⟨m, hm⟩ := k0; exact DataW.trod_lt m _ _ _ hm
  obtain ⟨z0, w0, hreach⟩ : ∃ zs, IsRow .i64 W a0 len0 cap0 zs ∧ cap0 * 8 ≤ 140737488351232 := by
    obtain ⟨fuel, hf⟩ := h0
    rcases open_ints Try.underlying22 Try.underlying3 (by kernel_rfl) hf with ⟨hcs, _⟩ | ⟨x, l, c, zs, hcs, _, hl, hm, hz, hx, hcell, hwz⟩
    · simp [Value.cells] at hcs
      obtain ⟨rfl, rfl, rfl⟩ := hcs
      exact ⟨[], .inl ⟨rfl, rfl, rfl, rfl⟩, by omega⟩
    · simp [Value.cells] at hcs
      obtain ⟨rfl, rfl, rfl⟩ := hcs
      refine ⟨zs, .inr ⟨_, rfl, hl, hm, by simpa using hz, hcell, hwz⟩, ?_⟩
      simp only [Prod.mk.injEq] at hx
      obtain ⟨hx1, hx2⟩ := hx
      rw [hx1] at hsz
      have hb := sized_slice hsz (j := 0) (t := 22) (e := 3) rfl rfl Try.underlying22
      have b8 : Try.prog.bytesOf 3 = 8 := by kernel_rfl
      rw [b8] at hb
      simp only [lits, List.length_map, List.length_take, List.length_drop, reachBytes] at hb
      simp only [if_true] at hz
      omega
  clear hA0 hval0
  refine ⟨fnExactPlacesOf_walk a0 len0 cap0 z0 W w0 hreach (setX_now hsh), fun W' belx => ?_⟩
  have bel := below_of_x belx
  exact ⟨_, _, _, [], _, [], hW', trodAll_mk1 (shut_bool Try.underlying4 _), trodAll_mk1 ((Below.trod laidOut (by kernel_rfl) (of_decide_eq_true (by kernel_rfl)) k0 bel lt0).of_heap (by rfl)), rfl, kept_x belx _, fun h => by cases h⟩

theorem over : Rows.fnExactPlacesOfRow.holds Try.pinned (OpenSpec.ofChange Rows.fnExactPlacesOfSpec) :=
  OpenClaim.holds_of_wide_leaving 3 Try.f3 rfl rfl rfl rfl rfl rfl rfl ⟨rfl, rfl, rfl, rfl, rfl⟩ rfl rfl rfl rfl rfl (by kernel_rfl) Try.func3 (by kernel_rfl)
    (of_decide_eq_true (by kernel_rfl)) (by unfold Func.isWrapper; first | (rw [if_pos (by decide +kernel)]; kernel_rfl) | (rw [if_neg (by decide +kernel)]; exact ⟨rfl, rfl⟩))
    (fun os started H enc _ => lifted os started H enc)

theorem proved : Rows.FnExactPlacesOfSaid := over
#print axioms proved
end Go.Proofs.Ytchfnbcpjiiphab.fnExactPlacesOf
