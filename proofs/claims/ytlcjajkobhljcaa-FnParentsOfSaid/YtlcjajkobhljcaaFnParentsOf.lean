/-
  For every argument of FnParentsOf, whatever its value, the call returns true, leaves what it was handed as it was and changes no older memory. Conditions: none beside the row's own.
-/
import Derived.Test.YtlcjajkobhljcaaRows
import Derived.Test.YtlcjajkobhljcaaCDrawF
import Derived.Test.YtlcjajkobhljcaaCIs
import Derived.Test.YtlcjajkobhljcaaCDepths
import Derived.Test.YtlcjajkobhljcaaCParents
import Derived.Test.YtlcjajkobhljcaaCEqual
import Derived.Test.YtlcjajkobhljcaaWFactsC
import Derived.Test.YtlcjajkobhljcaaWRow
import Derived.WalkKit
import Derived.ProofKit
import Derived.OpenShut
import Derived.ShutString
import Derived.ChangeOld
import Derived.Below
import Derived.SizedLaws
import Derived.HandedShaped
namespace Go.Proofs.Ytlcjajkobhljcaa.fnParentsOf
open Go.RowKit

theorem ret_b2 {a b : Bool} (h : a = b) : Ending.returned (.bool a) = .returned (.bool b) := by rw [h]
theorem par_cases {l : List UInt8} (h : valid l = true) (i : Nat) (hi : i < (parentsL l).length) : ((parentsL l)[i] = -1 ∧ (depthsL l).getD i 0 = 0) ∨ ∃ y : Nat, (parentsL l)[i] = (y : Int) ∧ y < i ∧ (depthsL l).getD i 0 = (depthsL l).getD y 0 + 1 := by
  have := par_at h i hi
  unfold parAt at this
  have e : (parentsL l).getD i 0 = (parentsL l)[i] := by simp [List.getElem?_eq_getElem hi]
  simp only [e] at this
  split at this
  · simp only [Bool.and_eq_true] at this
    exact .inl ⟨eq_of_beq this.1, eq_of_beq this.2⟩
  · simp only [Bool.and_eq_true, decide_eq_true_eq] at this
    refine .inr ⟨((parentsL l)[i]).toNat, by omega, by omega, eq_of_beq this.2⟩

set_option maxHeartbeats 3200000 in
theorem fnParentsOf_walk (a : Option Addr) (len cap : Nat) (zs : List Int) (w : World) (hr0 : IsRow .u8 w a len cap zs) (_hreach : cap * 1 ≤ 140737488351232) :
    Calls Try.prog 7 #[.slice a len cap] w fun e w' => e = .returned (.bool true) ∧ Below w.heap.size w w' := by
  have hr := Lib.hid hr0
  clear hr0
  by_cases hbig : (1048576 : Int) < (len : Int)
  · go_enter Try.func7, Try.ntmps7
    go_wp2
    go_ret
    exact ⟨rfl, Below.refl _ _⟩
  · go_enter Try.func7, Try.ntmps7
    go_wp2_with fail
    refine (drawParentsOf a len cap zs w hr (by omega)).mono ?_
    rintro e w1 ⟨s, rfl, hs60, hb⟩
    have hsm : s.size ≤ maxLen := by unfold maxLen; omega
    have B1 := Lib.hid hb
    clear hb hr
    have C1 := Lib.hid (fun w => implParents_any s w hsm)
    have C2 := Lib.hid (fun w => specParentsOf_any s w hsm)
    have C3 := Lib.hid (fun w => implDepths_any s w hsm)
    have hpl := parOut_length s
    have hdl := depOut_length s
    have hfacts : 0 < (parOut s.data.toList).length → 2 * (parOut s.data.toList).length = s.size ∧ (depOut s.data.toList).length = (parOut s.data.toList).length ∧ ∀ (i : Nat) (hi : i < (parOut s.data.toList).length), ((parOut s.data.toList)[i] = -1 ∧ (depOut s.data.toList).getD i 0 = 0) ∨ ∃ y : Nat, (parOut s.data.toList)[i] = (y : Int) ∧ y < i ∧ (depOut s.data.toList).getD i 0 = (depOut s.data.toList).getD y 0 + 1 := by
      intro h0
      by_cases hv : valid s.data.toList = true
      · have e1 : parOut s.data.toList = parentsL s.data.toList := by rw [parOut, if_pos hv]
        have e2 : depOut s.data.toList = depthsL s.data.toList := by rw [depOut, if_pos hv]
        refine ⟨by rw [e1, par_len hv, size_list], by rw [e1, e2, par_dep hv], fun i hi => ?_⟩
        have h2 := par_cases hv i (by rw [← e1]; exact hi)
        simp only [e1, e2]
        exact h2
      · rw [parOut, if_neg hv] at h0; simp at h0
    have hsmall : ∀ i : Nat, 0 ≤ (depOut s.data.toList).getD i 0 ∧ (depOut s.data.toList).getD i 0 ≤ 1000 := by
      intro i
      by_cases hi : i < (depOut s.data.toList).length
      · have e : (depOut s.data.toList).getD i 0 = (depOut s.data.toList)[i] := by simp [List.getElem?_eq_getElem hi]
        rw [e]
        have hm : (depOut s.data.toList)[i] ∈ depOut s.data.toList := List.getElem_mem hi
        revert hm
        generalize (depOut s.data.toList)[i] = x
        intro hm
        by_cases hv : valid s.data.toList = true
        · rw [depOut, if_pos hv] at hm
          obtain ⟨r, hr, rfl⟩ := List.mem_map.1 hm
          have := open_row hv hr
          omega
        · rw [depOut, if_neg hv] at hm; cases hm
      · have e : (depOut s.data.toList).getD i 0 = 0 := by simp [List.getElem?_eq_none (show (depOut s.data.toList).length ≤ i by omega)]
        rw [e]; omega
    obtain ⟨p, hpe⟩ : ∃ p, p = parOut s.data.toList := ⟨_, rfl⟩
    obtain ⟨d, hde⟩ : ∃ d, d = depOut s.data.toList := ⟨_, rfl⟩
    rw [← hpe] at hpl C1 C2
    rw [← hde] at hdl C3 hsmall
    have HF : Hid (0 < p.length → 2 * p.length = s.size ∧ d.length = p.length ∧ ∀ (i : Nat) (hi : i < p.length), (p[i] = -1 ∧ d.getD i 0 = 0) ∨ ∃ y : Nat, p[i] = (y : Int) ∧ y < i ∧ d.getD i 0 = d.getD y 0 + 1) := by
      subst hpe
      subst hde
      exact hfacts
    have HSM := Lib.hid hsmall
    clear hpe hde hfacts hsmall
    go_wp2_with fail
    refine (C1.out _).mono ?_
    rintro e w2 ⟨v, rfl, o, hb⟩
    have O2 := Lib.hid o
    have B2 := Lib.hid (B1.out.trans (hb.mono B1.out.size))
    have z2 := hb.size
    clear o hb
    go_wp2_with fail
    refine (C2.out _).mono ?_
    rintro e w3 ⟨u, rfl, o, hb⟩
    have O3 := Lib.hid o
    have O23 := Lib.hid (O2.out.below hb)
    have B3 := Lib.hid (B2.out.trans (hb.mono B2.out.size))
    have z3 := hb.size
    clear o hb
    obtain ⟨av, cv, rfl, _, hcv, _, _⟩ := O2.out.slice
    rw [iv_length] at hcv O2 O23 ⊢
    go_wp2_with fail
    refine (equalInts_yes p _ u w3 O23 O3 (by omega)).mono ?_
    rintro e w4 ⟨rfl, s4⟩
    have O24 := Lib.hid (O23.out.same s4.1)
    have B4 := Lib.hid (B3.out.trans (s4.below w.heap.size))
    have z4 : w4.heap.size = w3.heap.size := by rw [s4.1]
    have Z4 := Lib.hid z4
    clear s4 z4
    by_cases h0 : p.length = 0
    · have q0 : ((p.length : Int) == 0) = true := by rw [h0]; rfl
      have H0 := Lib.hid h0
      clear h0
      go_wp2_with fail
      refine (C2.out _).mono ?_
      rintro e w5 ⟨u, rfl, o, hb⟩
      have O5 := Lib.hid o
      have O25 := Lib.hid ((O24.out.more (show w2.heap.size ≤ w4.heap.size by rw [Z4.out]; exact z3)).below hb)
      have B5 := Lib.hid (B4.out.trans (hb.mono B4.out.size))
      clear o hb
      go_wp2_with fail
      refine (equalInts_yes p _ u w5 O25 O5 (by omega)).mono ?_
      rintro e w6 ⟨rfl, s6⟩
      go_wp2
      go_ret
      exact ⟨rfl, B5.out.trans (s6.below w.heap.size)⟩
    · have q0 : ((p.length : Int) == 0) = false := beq_false_of_ne (by omega)
      have hp0 : 0 < p.length := by omega
      obtain ⟨hlen2, hdp, hat⟩ := HF.out hp0
      have HL2 := Lib.hid hlen2
      have HDP := Lib.hid hdp
      have HAT := Lib.hid hat
      clear h0 hlen2 hdp hat
      go_wp2_with fail
      refine (C3.out _).mono ?_
      rintro e w5 ⟨u5, rfl, o, hb⟩
      have O5 := Lib.hid o
      have O25 := Lib.hid ((O24.out.more (show w2.heap.size ≤ w4.heap.size by rw [Z4.out]; exact z3)).below hb)
      have B5 := Lib.hid (B4.out.trans (hb.mono B4.out.size))
      clear o hb
      obtain ⟨ad, cd, rfl, _, hcd, _, _⟩ := O5.out.slice
      rw [iv_length] at hcd O5 ⊢
      go_wp2
      go_loopw [6] (fun i wr => ∃ k : Nat, k ≤ p.length ∧ i = .int .i64 k ∧ Hid (Same w5 wr)) (fun i _ => p.length - (intOf i).toNat)
      case atStart => exact ⟨0, Nat.zero_le _, rfl, Same.refl _⟩
      case round =>
        obtain ⟨k, hk, rfl, HS⟩ := hrel
        by_cases hlt : k < p.length
        · have hkd : k < d.length := by rw [HDP.out]; exact hlt
          obtain ⟨g1, hg1, _, _, h1, _⟩ := (O25.out.same HS.out.1).at_ k (by rw [iv_length]; exact hlt)
          obtain ⟨g2, hg2, _, _, h2, _⟩ := (O5.out.same HS.out.1).at_ k (by rw [iv_length]; exact hkd)
          rw [iv_at p k hlt] at h1
          rw [iv_at d k hkd, show d[k] = d.getD k 0 by simp [List.getElem?_eq_getElem hkd]] at h2
          have hd1 := HSM.out k
          have b1 : (k : Int) < (p.length : Int) := by omega
          have b2 : (k : Int) < (d.length : Int) := by omega
          rcases HAT.out k hlt with ⟨hx, hz⟩ | ⟨y, hx, hyk, hz⟩
          · rw [hx] at h1
            rw [hz] at h2
            subst hg1
            subst hg2
            clear hx hz hd1
            go_wp2
            go_quiet (fail)
            go_wp2
            go_roundw
            case rel => exact ⟨k + 1, by omega, by go_num, HS.out.drewN _⟩
            case measure => simp [intOf]; omega
          · rw [hx] at h1
            have hyd : y < d.length := by omega
            obtain ⟨g3, hg3, _, _, h3, _⟩ := (O5.out.same HS.out.1).at_ y (by rw [iv_length]; exact hyd)
            rw [iv_at d y hyd, show d[y] = d.getD y 0 by simp [List.getElem?_eq_getElem hyd]] at h3
            have hgg : g2 = g3 := by rw [hg2] at hg3; simp at hg3; exact hg3
            subst hgg
            have hd2 := HSM.out y
            obtain ⟨D, hD⟩ : ∃ D, D = d.getD y 0 := ⟨_, rfl⟩
            rw [hz, ← hD] at h2
            rw [← hD] at h3 hd2
            subst hg1
            subst hg2
            have y1 : ¬ (y : Int) < 0 := by omega
            have y1' : decide ((y : Int) < 0) = false := decide_eq_false y1
            have y2 : (0 : Int) ≤ (y : Int) := by omega
            have y3 : ¬ (k : Int) ≤ (y : Int) := by omega
            have y3' : decide ((k : Int) ≤ (y : Int)) = false := decide_eq_false y3
            have y2' : decide ((0 : Int) ≤ (y : Int)) = true := decide_eq_true y2
            have y4 : (y : Int) < (d.length : Int) := by omega
            have y5 : IntKind.i64.wrap (D + 1) = D + 1 := by rw [IntKind.wrap_i64]; omega
            clear hx hz hd1 hD
            go_wp2
            go_quiet (fail)
            go_wp2
            go_roundw
            case rel => exact ⟨k + 1, by omega, by go_num, HS.out.drewN _⟩
            case measure => simp [intOf]; omega
        · obtain rfl : k = p.length := by omega
          go_wp2
          go_ret
          exact ⟨ret_b2 (by have := HL2.out; rw [show (s.size : Int) / 2 = (p.length : Int) by omega]; exact beq_self_eq_true _), B5.out.trans (HS.out.below w.heap.size)⟩

open Go.ChangeShapes Go.WideShapes Go.ChangeAt Go.RowKit
open Go.ChangeMaps (open_string shut_string)
set_option linter.unusedVariables false

theorem own : ownKnob Try.prog.godebug = none := by kernel_rfl
theorem laidOut : laidOutB Try.prog = true := by kernel_rfl

set_option maxRecDepth 100000 in
theorem lifted (os : Os) (started : os.Started) (H : Type) (enc : TypeId × Value → H) :
    ReturnsInHanded {} Try.checked os 7 .any (Rows.fnParentsOfSpec.pre6 enc Try.prog Try.f7 Rows.fnParentsOfRow.domain false) (Rows.fnParentsOfSpec.post enc Try.prog Try.f7 false true false false) := by
  refine returnsInHanded_of_change_shaped (C := Try.checked) own started (by kernel_rfl) Try.func7
    (ChangeSpec.witness6 (enc := enc) (C := Try.checked) false ⟨#[], #[.slice none 0 0], []⟩ 8 (by kernel_rfl) (by kernel_rfl) (by kernel_rfl) (by kernel_rfl)) ?_
  intro W base args ds gs before hval0 hW hcnd hsz0 hsh _
  have hval : ∀ (j : Nat) t v, Try.f7.params[j]? = some t → args[j]? = some v → Value.okWide Try.prog W .any base t v := hval0
  have hW' := hW
  obtain ⟨p, q, hA0, hV, rfl, hfz, hnd⟩ := hW
  have hA : DataW.TrodAll enc Try.prog W 0 (fun _ => true) true Try.f7.params.toList args.toList ds p := hA0
  have hsz : (DataW.weightsEach Try.prog (Try.f7.params.toList ++ Rows.fnParentsOfSpec.plain.varTypes Try.prog) (ds ++ gs)).all (· ≤ reachBytes) = true := hsz0
  rw [Try.params7] at hA hval hsz
  obtain ⟨v0, vs0, d0, ds0, p0, q0, hargs, rfl, rfl, h0, r0⟩ := trodAll_cons hA
  obtain ⟨rfl, rfl, rfl⟩ := trodAll_nil r0
  obtain rfl : args = #[v0] := by cases args; simp_all
  obtain ⟨rfl, rfl⟩ := trodVars_none hV
  obtain ⟨a0, len0, cap0, rfl⟩ := okWide_slice Try.underlying22 (hval 0 22 v0 rfl rfl)
  have k0 := h0
  have lt0 : ∀ x ∈ p0, x.block < W.heap.size := by obtain ⟨m, hm⟩ := k0; exact DataW.trod_lt m _ _ _ hm
  obtain ⟨z0, w0, hreach⟩ : ∃ zs, IsRow .u8 W a0 len0 cap0 zs ∧ cap0 * 1 ≤ 140737488351232 := by
    obtain ⟨fuel, hf⟩ := h0
    rcases open_ints Try.underlying22 Try.underlying5 (by kernel_rfl) hf with ⟨hcs, _⟩ | ⟨x, l, c, zs, hcs, _, hl, hm, hz, hx, hcell, hwz⟩
    · simp [Value.cells] at hcs
      obtain ⟨rfl, rfl, rfl⟩ := hcs
      exact ⟨[], .inl ⟨rfl, rfl, rfl, rfl⟩, by omega⟩
    · simp [Value.cells] at hcs
      obtain ⟨rfl, rfl, rfl⟩ := hcs
      refine ⟨zs, .inr ⟨_, rfl, hl, hm, by simpa using hz, hcell, hwz⟩, ?_⟩
      simp only [Prod.mk.injEq] at hx
      obtain ⟨hx1, hx2⟩ := hx
      rw [hx1] at hsz
      have hb := sized_slice hsz (j := 0) (t := 22) (e := 5) rfl rfl Try.underlying22
      have b8 : Try.prog.bytesOf 5 = 1 := by kernel_rfl
      rw [b8] at hb
      simp only [lits, List.length_map, List.length_take, List.length_drop, reachBytes] at hb
      simp only [if_true] at hz
      omega
  clear hA0 hval0
  refine (fnParentsOf_walk a0 len0 cap0 z0 W w0 hreach).mono fun e W' ⟨he, bel⟩ => ?_
  subst he
  exact ⟨_, rfl, _, _, _, [], _, [], hW', trodAll_mk1 (shut_bool Try.underlying4 _), trodAll_mk1 (Below.trod laidOut (by kernel_rfl) (of_decide_eq_true (by kernel_rfl)) k0 bel lt0), rfl, bel.frame _, fun h => by cases h⟩

theorem over : Rows.fnParentsOfRow.holds Try.pinned (OpenSpec.ofChange Rows.fnParentsOfSpec) :=
  OpenClaim.holds_of_wide 7 Try.f7 rfl rfl rfl rfl rfl rfl rfl ⟨rfl, rfl, rfl, rfl, rfl⟩ rfl rfl rfl rfl rfl (by kernel_rfl) Try.func7 (by kernel_rfl)
    (of_decide_eq_true (by kernel_rfl)) (by unfold Func.isWrapper; first | (rw [if_pos (by decide +kernel)]; kernel_rfl) | (rw [if_neg (by decide +kernel)]; exact ⟨rfl, rfl⟩))
    (fun os started H enc _ => lifted os started H enc)

theorem proved : Rows.FnParentsOfSaid := over
#print axioms proved
end Go.Proofs.Ytlcjajkobhljcaa.fnParentsOf
