/-
  For every argument of FnExactShiftFor, whatever its value, the call returns true, leaves what it was handed as it was and changes no older memory. Conditions: none beside the row's own.
-/
import Derived.Test.YtchfnbcpjiiphabRows
import Derived.Test.YtchfnbcpjiiphabCShiftX
import Derived.Test.YtchfnbcpjiiphabCShiftS
import Derived.Test.YtchfnbcpjiiphabCPlX
import Derived.WalkKit
import Derived.ProofKit
import Derived.OpenShut
import Derived.ShutString
import Derived.ChangeOld
import Derived.Below
import Derived.SizedLaws
import Derived.HandedShaped
import Derived.Conc.Holds
import Derived.Test.YtchfnbcpjiiphabCLeav
namespace Go.Proofs.Ytchfnbcpjiiphab.fnExactShiftFor
open Go.RowKit

set_option maxRecDepth 100000 in
set_option maxHeartbeats 1600000 in
theorem fnExactShiftFor_walk (a : Option Addr) (len cap : Nat) (zs : List Int) (w : World) (hr0 : IsRow .i64 w a len cap zs) (_hreach : cap * 8 ≤ 140737488351232) (hs : SetX Try.prog w) :
    CallsX Try.prog 7 #[.slice a len cap] w (AnsX (.bool true) w) := by
  refine callsX_of_postX Try.func7 rfl ansX_like ?_
  simp only [Try.ntmps7, List.size_toArray, List.length_cons, List.length_nil, Nat.reduceAdd, Nat.reduceSub, Array.replicate_succ, Array.replicate_zero, List.push_toArray, List.append_toArray, List.nil_append, List.cons_append]
  obtain ⟨Q, hQ0⟩ : ∃ Q, Q = postX Try.f7 (AnsX (.bool true) w) := ⟨_, rfl⟩
  have hQl : LikeQ Q := by rw [hQ0]; exact likeQ_post ansX_like
  rw [← hQ0]
  have hQ := Lib.hid hQ0
  clear hQ0
  refine wpX_piece tameT (by kernel_rfl) rfl hs.set hQl fun w₁ hl₁ => ?_
  go_wp2
  refine wpX_like ?_ hl₁
  clear hl₁ w₁
  by_cases hbig : (1048576 : Int) < (len : Int)
  · clear hr0
    refine wpX_piece tameT (by kernel_rfl) rfl hs.set hQl fun w₁ hl₁ => ?_
    have hb := Lib.hid (like_x (B := w.heap.size) hl₁)
    go_wp2
    show Q _ _ _
    rw [hQ.out]
    exact ⟨.inr rfl, rfl, _, results_one rfl _, rfl, hb.out⟩
  · have hr := Lib.hid hr0
    have hlen := hr0.len
    obtain ⟨l, hl⟩ : ∃ l, l = zs.take len := ⟨_, rfl⟩
    have hll : l.length = len := by rw [hl, List.length_take]; omega
    have HL := Lib.hid hl
    have HLL := Lib.hid hll
    clear hr0 hl hll
    refine wpX_piece tameT (by kernel_rfl) rfl hs.set hQl fun w₁ hl₁ => ?_
    go_wp2
    refine wpX_like ?_ hl₁
    clear hl₁ w₁
    -- w0 := spec.AllPark(toIntS(aList))
    refine wpX_piece tameT (by kernel_rfl) rfl hs.set hQl fun w₁ hl₁ => ?_
    have R1 := Lib.hid (hr.out.like hl₁)
    have B0 := Lib.hid (like_x (B := w.heap.size) hl₁)
    have HS0 := Lib.hid hl₁.size
    clear hl₁
    go_wp2_with fail
    refine (toInts_any a len cap zs w₁ R1 (by omega)).mono ?_
    rintro e w2 ⟨v1, rfl, o1, b1⟩
    rw [← HL.out] at o1
    have O1 := Lib.hid o1
    have B1 := Lib.hid (B0.out.trans (below_x (b1.mono (Nat.le_of_eq HS0.out.symm))))
    have Z1 := Lib.hid (show w₁.heap.size ≤ w2.heap.size from b1.size)
    clear o1 b1
    have CS := Lib.hid (specShiftFor_any l v1 w2 O1 (Nat.le_refl _) (by rw [HLL.out]; omega))
    obtain ⟨t, ht⟩ : ∃ t, t = shiftB l := ⟨_, rfl⟩
    rw [← ht] at CS
    have HT := Lib.hid ht
    clear ht
    go_wp2_with fail
    refine CS.out.mono ?_
    rintro e w3 ⟨rfl, b3⟩
    have B3 := Lib.hid (B1.out.trans (below_x (b3.mono (Nat.le_trans (Nat.le_of_eq HS0.out.symm) Z1.out))))
    have R3 := Lib.hid (hr.out.x B3.out)
    clear b3 CS O1 Z1 B1 R1 B0 HS0
    go_wp2
    -- x0 := toIntS(aList)
    have S3 := Lib.hid (hs.x B3.out)
    refine wpX_piece tameT (by kernel_rfl) rfl S3.out.set hQl fun w₄ hl₄ => ?_
    have R4 := Lib.hid (R3.out.like hl₄)
    have B4 := Lib.hid (B3.out.like hl₄)
    clear hl₄ R3 B3 S3
    go_wp2_with fail
    refine (toInts_any a len cap zs w₄ R4 (by omega)).mono ?_
    rintro e w5 ⟨v5, rfl, o5, b5⟩
    rw [← HL.out] at o5
    have O5 := Lib.hid o5
    have B5 := Lib.hid (B4.out.trans (below_x (b5.mono B4.out.size)))
    have R5 := Lib.hid (hr.out.x B5.out)
    clear o5 b5 B4 R4
    go_wp2
    -- g0 := impl.ShiftFor(x0)
    have S5 := Lib.hid (hs.x B5.out)
    refine wpX_seq (wpX_region ?_)
    simp only [List.size_toArray, List.length_cons, List.length_nil, Nat.reduceAdd, Nat.zero_add, List.range, List.range.loop]
    refine opsX_pure rfl rfl rfl fun w₁ hl₁ K hK => ?_
    go_simp
    refine hK _ ?_
    clear hK K hl₁ w₁
    refine opsX_calls (shiftFor_x l v5 w5 O5.out (Nat.le_refl _) (by rw [HLL.out]; omega) S5.out) rfl rfl rfl (by simp [Act.eval]) Try.func21 rfl rfl fun v6 w6 hp => ?_
    obtain ⟨rfl, hb6⟩ := hp
    rw [← HT.out]
    have B6 := Lib.hid (B5.out.trans (hb6.mono B5.out.size))
    have R6 := Lib.hid (hr.out.x B6.out)
    have O6 := Lib.hid (O5.out.x hb6)
    have S6 := Lib.hid (hs.x B6.out)
    have Z6 := Lib.hid (show w5.heap.size ≤ w6.heap.size from hb6.size)
    clear hb6 B5 R5 O5 S5
    walk_nrm
    refine opsX_pure rfl rfl rfl fun w₁ hl₁ K hK => ?_
    go_simp
    refine hK _ ?_
    clear hK K hl₁ w₁
    refine opsX_nil ?_
    show WpX _ _ Q _ _
    rw [hQ.out]
    refine wpX_last tameT (by kernel_rfl) rfl S6.out.set ansX_like (fun w₇ hl₇ => ?_) fun tmps => ⟨_, results_one rfl tmps⟩
    have R7 := Lib.hid (R6.out.like hl₇)
    have O7 := Lib.hid (O6.out.like hl₇)
    have B7 := Lib.hid (B6.out.like hl₇)
    have Z7 := Lib.hid (Nat.le_trans Z6.out (Nat.le_of_eq hl₇.size.symm))
    clear hl₇ R6 O6 B6 S6 Z6
    go_wp2_with fail
    refine (toInts_any a len cap zs w₇ R7 (by omega)).mono ?_
    rintro e w8 ⟨v8, rfl, o8, b8⟩
    rw [← HL.out] at o8
    have O8 := Lib.hid o8
    have O78 := Lib.hid (O7.out.below (b8.mono Z7.out))
    have B8 := Lib.hid (B7.out.trans (below_x (b8.mono B7.out.size)))
    clear o8 b8
    go_wp2_with fail
    refine (eqInts_yes l v5 v8 w8 O78 O8 (by rw [HLL.out]; omega)).mono ?_
    rintro e w9 ⟨rfl, s9⟩
    have B9 := Lib.hid (B8.out.trans (below_x (s9.below w.heap.size)))
    clear s9
    go_wp2
    go_ret
    exact ⟨_, rfl, rfl, B9.out⟩

open Go.ChangeShapes Go.WideShapes Go.ChangeAt Go.RowKit
open Go.ChangeMaps (open_string shut_string)
set_option linter.unusedVariables false

theorem own : ownKnob Try.prog.godebug = none := by kernel_rfl
theorem laidOut : laidOutB Try.prog = true := by kernel_rfl

set_option maxRecDepth 100000 in
theorem lifted (os : Os) (started : os.Started) (H : Type) (enc : TypeId × Value → H) :
    ReturnsInLeavingWide {} Try.checked os 7 .any (Rows.fnExactShiftForSpec.pre6 enc Try.prog Try.f7 Rows.fnExactShiftForRow.domain false) (Rows.fnExactShiftForSpec.post enc Try.prog Try.f7 false true false false) := by
  refine leaving_of_callsX (C := Try.checked) own started (by kernel_rfl) Try.func7
    (ChangeSpec.witness6 (enc := enc) (C := Try.checked) false ⟨#[], #[.slice none 0 0], []⟩ 8 (by kernel_rfl) (by kernel_rfl) (by kernel_rfl) (by kernel_rfl)) ?_
  intro W base args ds gs before hval0 hW hcnd hsz0 hsh
  have hval : ∀ (j : Nat) t v, Try.f7.params[j]? = some t → args[j]? = some v → Value.okWide Try.prog W .any base t v := hval0
  have hW' := hW
  obtain ⟨p, q, hA0, hV, rfl, hfz, hnd⟩ := hW
  have hA : DataW.TrodAll enc Try.prog W 0 (fun _ => true) true Try.f7.params.toList args.toList ds p := hA0
  have hsz : (DataW.weightsEach Try.prog (Try.f7.params.toList ++ Rows.fnExactShiftForSpec.plain.varTypes Try.prog) (ds ++ gs)).all (· ≤ reachBytes) = true := hsz0
  rw [Try.params7] at hA hval hsz
  obtain ⟨v0, vs0, d0, ds0, p0, q0, hargs, rfl, rfl, h0, r0⟩ := trodAll_cons hA
  obtain ⟨rfl, rfl, rfl⟩ := trodAll_nil r0
  obtain rfl : args = #[v0] := by cases args; simp_all
  obtain ⟨rfl, rfl⟩ := trodVars_none hV
  obtain ⟨a0, len0, cap0, rfl⟩ := okWide_slice Try.underlying22 (hval 0 22 v0 rfl rfl)
  have k0 := h0
  have lt0 : ∀ x ∈ p0, x.block < W.heap.size := by obtain ⟨m, hm⟩ := k0; exact DataW.trod_lt m _ _ _ hm
  obtain ⟨z0, w0, hreach⟩ : ∃ zs, IsRow .i64 W a0 len0 cap0 zs ∧ cap0 * 8 ≤ 140737488351232 := by
    obtain ⟨fuel, hf⟩ := h0
    rcases open_ints Try.underlying22 Try.underlying3 (by kernel_rfl) hf with ⟨hcs, _⟩ | ⟨x, l, c, zs, hcs, _, hl, hm, hz, hx, hcell, hwz⟩
    · simp [Value.cells] at hcs
      obtain ⟨rfl, rfl, rfl⟩ := hcs
      exact ⟨[], .inl ⟨rfl, rfl, rfl, rfl⟩, by omega⟩
    · simp [Value.cells] at hcs
      obtain ⟨rfl, rfl, rfl⟩ := hcs
      refine ⟨zs, .inr ⟨_, rfl, hl, hm, by simpa using hz, hcell, hwz⟩, ?_⟩
      simp only [Prod.mk.injEq] at hx
      obtain ⟨hx1, hx2⟩ := hx
      rw [hx1] at hsz
      have hb := sized_slice hsz (j := 0) (t := 22) (e := 3) rfl rfl Try.underlying22
      have b8 : Try.prog.bytesOf 3 = 8 := by kernel_rfl
      rw [b8] at hb
      simp only [lits, List.length_map, List.length_take, List.length_drop, reachBytes] at hb
      simp only [if_true] at hz
      omega
  clear hA0 hval0
  refine ⟨fnExactShiftFor_walk a0 len0 cap0 z0 W w0 hreach (setX_now hsh), fun W' belx => ?_⟩
  have bel := below_of_x belx
  exact ⟨_, _, _, [], _, [], hW', trodAll_mk1 (shut_bool Try.underlying4 _), trodAll_mk1 ((Below.trod laidOut (by kernel_rfl) (of_decide_eq_true (by kernel_rfl)) k0 bel lt0).of_heap (by rfl)), rfl, kept_x belx _, fun h => by cases h⟩

theorem over : Rows.fnExactShiftForRow.holds Try.pinned (OpenSpec.ofChange Rows.fnExactShiftForSpec) :=
  OpenClaim.holds_of_wide_leaving 7 Try.f7 rfl rfl rfl rfl rfl rfl rfl ⟨rfl, rfl, rfl, rfl, rfl⟩ rfl rfl rfl rfl rfl (by kernel_rfl) Try.func7 (by kernel_rfl)
    (of_decide_eq_true (by kernel_rfl)) (by unfold Func.isWrapper; first | (rw [if_pos (by decide +kernel)]; kernel_rfl) | (rw [if_neg (by decide +kernel)]; exact ⟨rfl, rfl⟩))
    (fun os started H enc _ => lifted os started H enc)

theorem proved : Rows.FnExactShiftForSaid := over
#print axioms proved
end Go.Proofs.Ytchfnbcpjiiphab.fnExactShiftFor
