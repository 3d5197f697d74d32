/-
  For every argument of FnExactParkTried, whatever its value, the call returns true, leaves what it was handed as it was and changes no older memory. Conditions: none beside the row's own.
-/
import Derived.Test.YtchfnbcpjiiphabRows
import Derived.Test.YtchfnbcpjiiphabCTryX
import Derived.Test.YtchfnbcpjiiphabCTriedQ
import Derived.WalkKit
import Derived.ProofKit
import Derived.OpenShut
import Derived.ShutString
import Derived.ChangeOld
import Derived.Below
import Derived.SizedLaws
import Derived.HandedShaped
import Derived.Conc.Holds
import Derived.Test.YtchfnbcpjiiphabCLeav
namespace Go.Proofs.Ytchfnbcpjiiphab.fnExactParkTried
open Go.RowKit

set_option maxRecDepth 100000 in
set_option maxHeartbeats 1600000 in
theorem fnExactParkTried_walk (n : Int) (w : World) (_hn : (Lit.int .i64 n).wf = true) (hs : SetX Try.prog w) :
    CallsX Try.prog 5 #[.int .i64 n] w (AnsX (.bool true) w) := by
  refine callsX_of_postX Try.func5 rfl ansX_like ?_
  simp only [Try.ntmps5, List.size_toArray, List.length_cons, List.length_nil, Nat.reduceAdd, Nat.reduceSub, Array.replicate_succ, Array.replicate_zero, List.push_toArray, List.append_toArray, List.nil_append, List.cons_append]
  obtain ⟨Q, hQ0⟩ : ∃ Q, Q = postX Try.f5 (AnsX (.bool true) w) := ⟨_, rfl⟩
  have hQl : LikeQ Q := by rw [hQ0]; exact likeQ_post ansX_like
  rw [← hQ0]
  have hQ := Lib.hid hQ0
  clear hQ0
  refine wpX_piece tameT (by kernel_rfl) rfl hs.set hQl fun w₁ hl₁ => ?_
  go_wp2
  refine wpX_like ?_ hl₁
  clear hl₁ w₁
  have CS := Lib.hid (fun W => specParkTried_any n W)
  have CP := Lib.hid (fun W hs => parkTried_x n W hs)
  obtain ⟨t, ht⟩ : ∃ t, t = triedN n := ⟨_, rfl⟩
  rw [← ht] at CS CP
  have q1 : (t == t) = true := by simp
  clear ht
  refine wpX_piece tameT (by kernel_rfl) rfl hs.set hQl fun w₁ hl₁ => ?_
  have B0 := Lib.hid (like_x (B := w.heap.size) hl₁)
  clear hl₁
  go_wp2_with fail
  refine (CS.out w₁).mono ?_
  rintro e w2 ⟨rfl, b1⟩
  have B2 := Lib.hid (B0.out.trans (below_x (b1.mono B0.out.size)))
  clear b1 B0
  go_wp2
  have S2 := Lib.hid (hs.x B2.out)
  refine wpX_seq (wpX_region ?_)
  simp only [List.size_toArray, List.length_cons, List.length_nil, Nat.reduceAdd, Nat.zero_add, List.range, List.range.loop]
  refine opsX_pure rfl rfl rfl fun w₁ hl₁ K hK => ?_
  go_simp
  refine hK _ ?_
  clear hK K hl₁ w₁
  refine opsX_calls (CP.out w2 S2.out) rfl rfl rfl (by simp [Act.eval]) Try.func17 rfl rfl fun v3 w3 hp => ?_
  obtain ⟨rfl, hb3⟩ := hp
  have B3 := Lib.hid (B2.out.trans (hb3.mono B2.out.size))
  have S3 := Lib.hid (hs.x B3.out)
  clear hb3 B2 S2
  walk_nrm
  refine opsX_pure rfl rfl rfl fun w₁ hl₁ K hK => ?_
  go_simp
  refine hK _ ?_
  clear hK K hl₁ w₁
  refine opsX_nil ?_
  show WpX _ _ Q _ _
  rw [hQ.out]
  refine wpX_last tameT (by kernel_rfl) rfl S3.out.set ansX_like (fun w₇ hl₇ => ?_) fun tmps => ⟨_, results_one rfl tmps⟩
  have B7 := Lib.hid (B3.out.like hl₇)
  clear hl₇
  go_wp2
  go_ret
  exact ⟨_, rfl, rfl, B7.out⟩

open Go.ChangeShapes Go.WideShapes Go.ChangeAt Go.RowKit
open Go.ChangeMaps (open_string shut_string)
set_option linter.unusedVariables false

theorem own : ownKnob Try.prog.godebug = none := by kernel_rfl
theorem laidOut : laidOutB Try.prog = true := by kernel_rfl

set_option maxRecDepth 100000 in
theorem lifted (os : Os) (started : os.Started) (H : Type) (enc : TypeId × Value → H) :
    ReturnsInLeavingWide {} Try.checked os 5 .any (Rows.fnExactParkTriedSpec.pre6 enc Try.prog Try.f5 Rows.fnExactParkTriedRow.domain false) (Rows.fnExactParkTriedSpec.post enc Try.prog Try.f5 false true false false) := by
  refine leaving_of_callsX (C := Try.checked) own started (by kernel_rfl) Try.func5
    (ChangeSpec.witness6 (enc := enc) (C := Try.checked) false ⟨#[], #[.int .i64 0], []⟩ 8 (by kernel_rfl) (by kernel_rfl) (by kernel_rfl) (by kernel_rfl)) ?_
  intro W base args ds gs before hval0 hW hcnd hsz0 hsh
  have hval : ∀ (j : Nat) t v, Try.f5.params[j]? = some t → args[j]? = some v → Value.okWide Try.prog W .any base t v := hval0
  have hW' := hW
  obtain ⟨p, q, hA0, hV, rfl, hfz, hnd⟩ := hW
  have hA : DataW.TrodAll enc Try.prog W 0 (fun _ => true) true Try.f5.params.toList args.toList ds p := hA0
  have hsz : (DataW.weightsEach Try.prog (Try.f5.params.toList ++ Rows.fnExactParkTriedSpec.plain.varTypes Try.prog) (ds ++ gs)).all (· ≤ reachBytes) = true := hsz0
  rw [Try.params5] at hA hval hsz
  obtain ⟨v0, vs0, d0, ds0, p0, q0, hargs, rfl, rfl, h0, r0⟩ := trodAll_cons hA
  obtain ⟨rfl, rfl, rfl⟩ := trodAll_nil r0
  obtain rfl : args = #[v0] := by cases args; simp_all
  obtain ⟨rfl, rfl⟩ := trodVars_none hV
  obtain ⟨a0, rfl, rfl, rfl, w0⟩ := open_int Try.underlying3 (hval 0 3 v0 rfl rfl) h0
  clear hA0 hval0
  refine ⟨fnExactParkTried_walk a0 W w0 (setX_now hsh), fun W' belx => ?_⟩
  have bel := below_of_x belx
  exact ⟨_, _, _, [], _, [], hW', trodAll_mk1 (shut_bool Try.underlying4 _), trodAll_mk1 (shut_int Try.underlying3 w0), rfl, kept_x belx _, fun h => by cases h⟩

theorem over : Rows.fnExactParkTriedRow.holds Try.pinned (OpenSpec.ofChange Rows.fnExactParkTriedSpec) :=
  OpenClaim.holds_of_wide_leaving 5 Try.f5 rfl rfl rfl rfl rfl rfl rfl ⟨rfl, rfl, rfl, rfl, rfl⟩ rfl rfl rfl rfl rfl (by kernel_rfl) Try.func5 (by kernel_rfl)
    (of_decide_eq_true (by kernel_rfl)) (by unfold Func.isWrapper; first | (rw [if_pos (by decide +kernel)]; kernel_rfl) | (rw [if_neg (by decide +kernel)]; exact ⟨rfl, rfl⟩))
    (fun os started H enc _ => lifted os started H enc)

theorem proved : Rows.FnExactParkTriedSaid := over
#print axioms proved
end Go.Proofs.Ytchfnbcpjiiphab.fnExactParkTried
