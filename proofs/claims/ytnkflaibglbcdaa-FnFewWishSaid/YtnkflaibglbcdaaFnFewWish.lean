/-
  For every argument of FnFewWish, whatever its value, the call returns true, leaves what it was handed as it was and changes no older memory. Conditions: none beside the row's own.
-/
import Derived.Test.YtnkflaibglbcdaaRows
import Derived.Test.YtnkflaibglbcdaaCDrawP
import Derived.Test.YtnkflaibglbcdaaCWishP
import Derived.Test.YtnkflaibglbcdaaCWishS
import Derived.Test.YtnkflaibglbcdaaCAsc
import Derived.Test.YtnkflaibglbcdaaZW
import Derived.WalkKit
import Derived.ProofKit
import Derived.OpenShut
import Derived.ShutString
import Derived.ChangeOld
import Derived.Below
import Derived.SizedLaws
import Derived.HandedShaped
namespace Go.Proofs.Ytnkflaibglbcdaa.fnFewWish
open Go.RowKit

set_option maxHeartbeats 1600000 in
theorem fnFewWish_walk (a : Option Addr) (len cap : Nat) (zs : List Int) (w : World) (hr0 : IsRow .u8 w a len cap zs) (_hreach : cap * 1 ≤ 140737488351232) :
    Calls Try.prog 11 #[.slice a len cap] w fun e w' => e = .returned (.bool true) ∧ Below w.heap.size w w' := by
  have hr := Lib.hid hr0
  clear hr0
  by_cases hbig : (1048576 : Int) < (len : Int)
  · go_enter Try.func11, Try.ntmps11
    go_wp2
    go_ret
    exact ⟨rfl, Below.refl _ _⟩
  · go_enter Try.func11, Try.ntmps11
    go_wp2_with fail
    refine (drawFewWish a len cap zs w hr (by omega)).mono ?_
    rintro e w1 ⟨v, l, rfl, o, hl9, hb⟩
    have O1 := Lib.hid o
    have B1 := Lib.hid hb
    have CP := Lib.hid (fewWish_p l v w1 O1 (by omega))
    have CS := Lib.hid (specFewWish_any l v w1 O1 (by omega))
    have CV := Lib.hid (validWishes_p l v w1 O1 (by omega))
    have FN := Lib.hid (fewB_no (l := l))
    obtain ⟨m, up, hm, hml, hup0, hups, hfa⟩ := asc_facts l
    have FA := Lib.hid hfa
    have AS := Lib.hid hups
    have A0 := Lib.hid hup0
    have HML := Lib.hid hml
    clear hml hup0 hups hfa
    obtain ⟨t, ht⟩ : ∃ t, t = fewB l := ⟨_, rfl⟩
    obtain ⟨u, hu⟩ : ∃ u, u = wishB l := ⟨_, rfl⟩
    rw [← ht] at CP CS FN FA
    rw [← hu] at CV FN FA
    have HL := Lib.hid (show l.length ≤ 9 by omega)
    have tt : (t == t) = true := by simp
    have tn : (t != t) = false := by simp
    clear o hb hr ht hu hl9
    go_wp2_with fail
    refine CP.out.mono ?_
    rintro e w2 ⟨rfl, rfl⟩
    go_wp2_with fail
    refine CS.out.mono ?_
    rintro e w2 ⟨rfl, rfl⟩
    cases u
    · obtain rfl : t = false := FN.out rfl
      go_wp2_with fail
      refine CV.out.mono ?_
      rintro e w2 ⟨rfl, rfl⟩
      go_wp2_with fail
      refine CS.out.mono ?_
      rintro e w2 ⟨rfl, rfl⟩
      go_wp2
      go_ret
      exact ⟨rfl, B1.out⟩
    · have HFA := Lib.hid (FA.out rfl)
      clear FN FA
      go_wp2_with fail
      refine CV.out.mono ?_
      rintro e w2 ⟨rfl, rfl⟩
      go_wp2_with fail
      refine (ascendingOf_any l v w1 O1 (Nat.le_refl _) (by have := HL.out; omega)).mono ?_
      rintro e w2 ⟨v2, rfl, o2, b2⟩
      rw [hm] at o2
      have O2 := Lib.hid o2
      have B2 := Lib.hid (B1.out.trans (b2.mono B1.out.size))
      have hml9 : m.length ≤ 9 := by rw [HML.out]; exact HL.out
      clear o2 b2 hm CP CS CV HL HML
      obtain ⟨av, cv, rfl, _, hcv, _, _⟩ := O2.out.slice
      rw [iv_length] at O2 hcv ⊢
      go_wp2
      go_loop [6, 7] (fun f i => ∃ (k : Nat) (b : Bool), k ≤ m.length ∧ i = .int .i64 k ∧ f = .bool b ∧ Hid (up k = b)) (fun _ i => m.length - (intOf i).toNat)
      case atStart => exact ⟨0, true, Nat.zero_le _, rfl, rfl, A0⟩
      case round =>
        obtain ⟨k, b, hk, rfl, rfl, HU⟩ := hrel
        by_cases hlt : k < m.length
        · obtain ⟨g1, rfl, _, _, h1, _⟩ := O2.out.at_ k (by rw [iv_length]; exact hlt)
          rw [iv_at m k hlt] at h1
          have b1 : (k : Int) < (m.length : Int) := by omega
          have HAT := Lib.hid (AS.out k hlt)
          obtain ⟨y, hy⟩ : ∃ y, y = m[k] := ⟨_, rfl⟩
          rw [← hy] at h1 HAT
          rw [HU.out] at HAT
          clear hy
          cases b
          · have HU2 : Hid (up (k + 1) = false) := by show _ = _; rw [HAT.out]; rfl
            clear HAT
            go_wp2
            go_round
            case rel => exact ⟨k + 1, false, by omega, by go_num, rfl, HU2⟩
            case measure => simp [intOf]; omega
          · have HU2 : Hid (up (k + 1) = decide (y ≤ (k : Int))) := by show _ = _; rw [HAT.out]; rfl
            clear HAT
            go_wp2
            go_round
            case rel => exact ⟨k + 1, decide (y ≤ (k : Int)), by omega, by go_num, rfl, HU2⟩
            case measure => simp [intOf]; omega
        · obtain rfl : k = m.length := by omega
          obtain rfl : t = b := by rw [HFA.out, HU.out]
          go_wp2
          go_ret
          exact ⟨by simp, B2.out⟩

open Go.ChangeShapes Go.WideShapes Go.ChangeAt Go.RowKit
open Go.ChangeMaps (open_string shut_string)
set_option linter.unusedVariables false

theorem own : ownKnob Try.prog.godebug = none := by kernel_rfl
theorem laidOut : laidOutB Try.prog = true := by kernel_rfl

set_option maxRecDepth 100000 in
theorem lifted (os : Os) (started : os.Started) (H : Type) (enc : TypeId × Value → H) :
    ReturnsInHanded {} Try.checked os 11 .any (Rows.fnFewWishSpec.pre6 enc Try.prog Try.f11 Rows.fnFewWishRow.domain false) (Rows.fnFewWishSpec.post enc Try.prog Try.f11 false true false false) := by
  refine returnsInHanded_of_change_shaped (C := Try.checked) own started (by kernel_rfl) Try.func11
    (ChangeSpec.witness6 (enc := enc) (C := Try.checked) false ⟨#[], #[.slice none 0 0], []⟩ 8 (by kernel_rfl) (by kernel_rfl) (by kernel_rfl) (by kernel_rfl)) ?_
  intro W base args ds gs before hval0 hW hcnd hsz0 hsh _
  have hval : ∀ (j : Nat) t v, Try.f11.params[j]? = some t → args[j]? = some v → Value.okWide Try.prog W .any base t v := hval0
  have hW' := hW
  obtain ⟨p, q, hA0, hV, rfl, hfz, hnd⟩ := hW
  have hA : DataW.TrodAll enc Try.prog W 0 (fun _ => true) true Try.f11.params.toList args.toList ds p := hA0
  have hsz : (DataW.weightsEach Try.prog (Try.f11.params.toList ++ Rows.fnFewWishSpec.plain.varTypes Try.prog) (ds ++ gs)).all (· ≤ reachBytes) = true := hsz0
  rw [Try.params11] at hA hval hsz
  obtain ⟨v0, vs0, d0, ds0, p0, q0, hargs, rfl, rfl, h0, r0⟩ := trodAll_cons hA
  obtain ⟨rfl, rfl, rfl⟩ := trodAll_nil r0
  obtain rfl : args = #[v0] := by cases args; simp_all
  obtain ⟨rfl, rfl⟩ := trodVars_none hV
  obtain ⟨a0, len0, cap0, rfl⟩ := okWide_slice Try.underlying22 (hval 0 22 v0 rfl rfl)
  have k0 := h0
  have lt0 : ∀ x ∈ p0, x.block < W.heap.size := by obtain ⟨m, hm⟩ := k0; exact DataW.trod_lt m _ _ _ hm
  obtain ⟨z0, w0, hreach⟩ : ∃ zs, IsRow .u8 W a0 len0 cap0 zs ∧ cap0 * 1 ≤ 140737488351232 := by
    obtain ⟨fuel, hf⟩ := h0
    rcases open_ints Try.underlying22 Try.underlying5 (by kernel_rfl) hf with ⟨hcs, _⟩ | ⟨x, l, c, zs, hcs, _, hl, hm, hz, hx, hcell, hwz⟩
    · simp [Value.cells] at hcs
      obtain ⟨rfl, rfl, rfl⟩ := hcs
      exact ⟨[], .inl ⟨rfl, rfl, rfl, rfl⟩, by omega⟩
    · simp [Value.cells] at hcs
      obtain ⟨rfl, rfl, rfl⟩ := hcs
      refine ⟨zs, .inr ⟨_, rfl, hl, hm, by simpa using hz, hcell, hwz⟩, ?_⟩
      simp only [Prod.mk.injEq] at hx
      obtain ⟨hx1, hx2⟩ := hx
      rw [hx1] at hsz
      have hb := sized_slice hsz (j := 0) (t := 22) (e := 5) rfl rfl Try.underlying22
      have b8 : Try.prog.bytesOf 5 = 1 := by kernel_rfl
      rw [b8] at hb
      simp only [lits, List.length_map, List.length_take, List.length_drop, reachBytes] at hb
      simp only [if_true] at hz
      omega
  clear hA0 hval0
  refine (fnFewWish_walk a0 len0 cap0 z0 W w0 hreach).mono fun e W' ⟨he, bel⟩ => ?_
  subst he
  exact ⟨_, rfl, _, _, _, [], _, [], hW', trodAll_mk1 (shut_bool Try.underlying4 _), trodAll_mk1 (Below.trod laidOut (by kernel_rfl) (of_decide_eq_true (by kernel_rfl)) k0 bel lt0), rfl, bel.frame _, fun h => by cases h⟩

theorem over : Rows.fnFewWishRow.holds Try.pinned (OpenSpec.ofChange Rows.fnFewWishSpec) :=
  OpenClaim.holds_of_wide 11 Try.f11 rfl rfl rfl rfl rfl rfl rfl ⟨rfl, rfl, rfl, rfl, rfl⟩ rfl rfl rfl rfl rfl (by kernel_rfl) Try.func11 (by kernel_rfl)
    (of_decide_eq_true (by kernel_rfl)) (by unfold Func.isWrapper; first | (rw [if_pos (by decide +kernel)]; kernel_rfl) | (rw [if_neg (by decide +kernel)]; exact ⟨rfl, rfl⟩))
    (fun os started H enc _ => lifted os started H enc)

theorem proved : Rows.FnFewWishSaid := over
#print axioms proved
end Go.Proofs.Ytnkflaibglbcdaa.fnFewWish
