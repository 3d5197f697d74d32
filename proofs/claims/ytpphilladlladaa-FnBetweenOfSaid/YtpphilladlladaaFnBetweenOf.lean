/-
  For every argument of FnBetweenOf, whatever its value, the call returns true, leaves what it was handed as it was and changes no older memory. Conditions: none beside the row's own.
-/
import Derived.Test.YtpphilladlladaaRows
import Derived.Test.YtpphilladlladaaCDrawJ
import Derived.Test.YtpphilladlladaaCStackG
import Derived.Test.YtpphilladlladaaCPlace
import Derived.Test.YtpphilladlladaaCEqual
import Derived.Test.YtpphilladlladaaWRow
import Derived.WalkKit
import Derived.ProofKit
import Derived.OpenShut
import Derived.ShutString
import Derived.ChangeOld
import Derived.Below
import Derived.SizedLaws
import Derived.HandedShaped
namespace Go.Proofs.Ytpphilladlladaa.fnBetweenOf
open Go.RowKit

set_option maxHeartbeats 3200000 in
theorem fnBetweenOf_walk (a : Option Addr) (len cap : Nat) (zs : List Int) (w : World) (hr0 : IsRow .u8 w a len cap zs) (_hreach : cap * 1 ≤ 140737488351232) :
    Calls Try.prog 5 #[.slice a len cap] w fun e w' => e = .returned (.bool true) ∧ Below w.heap.size w w' := by
  have hr := Lib.hid hr0
  clear hr0
  by_cases hbig : (1048576 : Int) < (len : Int)
  · go_enter Try.func5, Try.ntmps5
    go_wp2
    go_ret
    exact ⟨rfl, Below.refl _ _⟩
  · go_enter Try.func5, Try.ntmps5
    go_wp2_with fail
    refine (drawBetweenOf a len cap zs w hr (by omega)).mono ?_
    rintro e w1 ⟨s, rfl, hs60, hb⟩
    have hsm : s.size ≤ maxLen := by unfold maxLen; omega
    have B1 := Lib.hid hb
    clear hb hr
    have hl := stackOut_len s
    have hfacts := stackOut_nodup s
    have C1 := Lib.hid (fun w => implBetweenOf_any s w hsm)
    have C2 := Lib.hid (fun w => specBetweenOf_any s w hsm)
    have C3 := Lib.hid (fun w => implStackRow_any s w hsm)
    obtain ⟨l, hle⟩ : ∃ l, l = stackOut s.data.toList := ⟨_, rfl⟩
    rw [← hle] at hl hfacts C1 C2 C3
    have HD := Lib.hid (diffK_nodup l hfacts l.length (Nat.le_refl _))
    clear hle hfacts
    go_wp2_with fail
    refine (C1.out _).mono ?_
    rintro e w2 ⟨v, rfl, o, hb⟩
    have O2 := Lib.hid o
    have B2 := Lib.hid (B1.out.trans (hb.mono B1.out.size))
    have z2 := hb.size
    clear o hb
    go_wp2_with fail
    refine (C2.out _).mono ?_
    rintro e w3 ⟨u, rfl, o, hb⟩
    have O3 := Lib.hid o
    have O23 := Lib.hid (O2.out.below hb)
    have B3 := Lib.hid (B2.out.trans (hb.mono B2.out.size))
    have z3 := hb.size
    clear o hb
    obtain ⟨av, cv, rfl, _, hcv, _, _⟩ := O2.out.slice
    rw [iv_length] at hcv O2 O23 ⊢
    go_wp2_with fail
    refine (equalInts_yes l _ u w3 O23 O3 (by omega)).mono ?_
    rintro e w4 ⟨rfl, s4⟩
    have O24 := Lib.hid (O23.out.same s4.1)
    have B4 := Lib.hid (B3.out.trans (s4.below w.heap.size))
    have z4 : w4.heap.size = w3.heap.size := by rw [s4.1]
    have Z4 := Lib.hid z4
    clear s4 z4
    by_cases h0 : l.length = 0
    · have q0 : ((l.length : Int) == 0) = true := by rw [h0]; rfl
      have H0 := Lib.hid h0
      clear h0
      go_wp2_with fail
      refine (C2.out _).mono ?_
      rintro e w5 ⟨u, rfl, o, hb⟩
      have O5 := Lib.hid o
      have O25 := Lib.hid ((O24.out.more (show w2.heap.size ≤ w4.heap.size by rw [Z4.out]; exact z3)).below hb)
      have B5 := Lib.hid (B4.out.trans (hb.mono B4.out.size))
      clear o hb
      go_wp2_with fail
      refine (equalInts_yes l _ u w5 O25 O5 (by omega)).mono ?_
      rintro e w6 ⟨rfl, s6⟩
      go_wp2
      go_ret
      exact ⟨rfl, B5.out.trans (s6.below w.heap.size)⟩
    · have q0 : ((l.length : Int) == 0) = false := beq_false_of_ne (by omega)
      clear h0
      go_wp2_with fail
      refine (C3.out _).mono ?_
      rintro e w5 ⟨u, rfl, o, hb⟩
      have O5 := Lib.hid o
      have O25 := Lib.hid ((O24.out.more (show w2.heap.size ≤ w4.heap.size by rw [Z4.out]; exact z3)).below hb)
      have B5 := Lib.hid (B4.out.trans (hb.mono B4.out.size))
      clear o hb
      go_wp2_with fail
      refine (equalInts_yes l u _ w5 O5 O25 (by omega)).mono ?_
      rintro e w6 ⟨rfl, s6⟩
      have O26 := Lib.hid (O25.out.same s6.1)
      have B6 := Lib.hid (B5.out.trans (s6.below w.heap.size))
      clear s6
      go_wp2_with fail
      refine (different_any l _ w6 O26 (by omega)).mono ?_
      rintro e w7 ⟨rfl, m, rfl⟩
      rw [HD.out]
      go_wp2
      go_ret
      exact ⟨rfl, B6.out.trans ⟨rfl, rfl, rfl, Nat.le_refl _, fun _ _ => rfl⟩⟩

open Go.ChangeShapes Go.WideShapes Go.ChangeAt Go.RowKit
open Go.ChangeMaps (open_string shut_string)
set_option linter.unusedVariables false

theorem own : ownKnob Try.prog.godebug = none := by kernel_rfl
theorem laidOut : laidOutB Try.prog = true := by kernel_rfl

set_option maxRecDepth 100000 in
theorem lifted (os : Os) (started : os.Started) (H : Type) (enc : TypeId × Value → H) :
    ReturnsInHanded {} Try.checked os 5 .any (Rows.fnBetweenOfSpec.pre6 enc Try.prog Try.f5 Rows.fnBetweenOfRow.domain false) (Rows.fnBetweenOfSpec.post enc Try.prog Try.f5 false true false false) := by
  refine returnsInHanded_of_change_shaped (C := Try.checked) own started (by kernel_rfl) Try.func5
    (ChangeSpec.witness6 (enc := enc) (C := Try.checked) false ⟨#[], #[.slice none 0 0], []⟩ 8 (by kernel_rfl) (by kernel_rfl) (by kernel_rfl) (by kernel_rfl)) ?_
  intro W base args ds gs before hval0 hW hcnd hsz0 hsh _
  have hval : ∀ (j : Nat) t v, Try.f5.params[j]? = some t → args[j]? = some v → Value.okWide Try.prog W .any base t v := hval0
  have hW' := hW
  obtain ⟨p, q, hA0, hV, rfl, hfz, hnd⟩ := hW
  have hA : DataW.TrodAll enc Try.prog W 0 (fun _ => true) true Try.f5.params.toList args.toList ds p := hA0
  have hsz : (DataW.weightsEach Try.prog (Try.f5.params.toList ++ Rows.fnBetweenOfSpec.plain.varTypes Try.prog) (ds ++ gs)).all (· ≤ reachBytes) = true := hsz0
  rw [Try.params5] at hA hval hsz
  obtain ⟨v0, vs0, d0, ds0, p0, q0, hargs, rfl, rfl, h0, r0⟩ := trodAll_cons hA
  obtain ⟨rfl, rfl, rfl⟩ := trodAll_nil r0
  obtain rfl : args = #[v0] := by cases args; simp_all
  obtain ⟨rfl, rfl⟩ := trodVars_none hV
  obtain ⟨a0, len0, cap0, rfl⟩ := okWide_slice Try.underlying22 (hval 0 22 v0 rfl rfl)
  have k0 := h0
  have lt0 : ∀ x ∈ p0, x.block < W.heap.size := by obtain ⟨m, hm⟩ := k0; exact DataW.trod_lt m _ _ _ hm
  obtain ⟨z0, w0, hreach⟩ : ∃ zs, IsRow .u8 W a0 len0 cap0 zs ∧ cap0 * 1 ≤ 140737488351232 := by
    obtain ⟨fuel, hf⟩ := h0
    rcases open_ints Try.underlying22 Try.underlying5 (by kernel_rfl) hf with ⟨hcs, _⟩ | ⟨x, l, c, zs, hcs, _, hl, hm, hz, hx, hcell, hwz⟩
    · simp [Value.cells] at hcs
      obtain ⟨rfl, rfl, rfl⟩ := hcs
      exact ⟨[], .inl ⟨rfl, rfl, rfl, rfl⟩, by omega⟩
    · simp [Value.cells] at hcs
      obtain ⟨rfl, rfl, rfl⟩ := hcs
      refine ⟨zs, .inr ⟨_, rfl, hl, hm, by simpa using hz, hcell, hwz⟩, ?_⟩
      simp only [Prod.mk.injEq] at hx
      obtain ⟨hx1, hx2⟩ := hx
      rw [hx1] at hsz
      have hb := sized_slice hsz (j := 0) (t := 22) (e := 5) rfl rfl Try.underlying22
      have b8 : Try.prog.bytesOf 5 = 1 := by kernel_rfl
      rw [b8] at hb
      simp only [lits, List.length_map, List.length_take, List.length_drop, reachBytes] at hb
      simp only [if_true] at hz
      omega
  clear hA0 hval0
  refine (fnBetweenOf_walk a0 len0 cap0 z0 W w0 hreach).mono fun e W' ⟨he, bel⟩ => ?_
  subst he
  exact ⟨_, rfl, _, _, _, [], _, [], hW', trodAll_mk1 (shut_bool Try.underlying4 _), trodAll_mk1 (Below.trod laidOut (by kernel_rfl) (of_decide_eq_true (by kernel_rfl)) k0 bel lt0), rfl, bel.frame _, fun h => by cases h⟩

theorem over : Rows.fnBetweenOfRow.holds Try.pinned (OpenSpec.ofChange Rows.fnBetweenOfSpec) :=
  OpenClaim.holds_of_wide 5 Try.f5 rfl rfl rfl rfl rfl rfl rfl ⟨rfl, rfl, rfl, rfl, rfl⟩ rfl rfl rfl rfl rfl (by kernel_rfl) Try.func5 (by kernel_rfl)
    (of_decide_eq_true (by kernel_rfl)) (by unfold Func.isWrapper; first | (rw [if_pos (by decide +kernel)]; kernel_rfl) | (rw [if_neg (by decide +kernel)]; exact ⟨rfl, rfl⟩))
    (fun os started H enc _ => lifted os started H enc)

theorem proved : Rows.FnBetweenOfSaid := over
#print axioms proved
end Go.Proofs.Ytpphilladlladaa.fnBetweenOf
