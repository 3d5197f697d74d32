/-
  For every argument of FnMirrorsKeepParents, whatever its value, the call returns true, leaves what it was handed as it was and changes no older memory. Conditions: none beside the row's own.
-/
import Derived.Test.YtpphilladlladaaRows
import Derived.Test.YtpphilladlladaaCDrawF
import Derived.Test.YtpphilladlladaaCMirG
import Derived.Test.YtpphilladlladaaCParents
import Derived.Test.YtpphilladlladaaCMirrorB
import Derived.Test.YtpphilladlladaaCEqual
import Derived.Test.YtpphilladlladaaWRow
import Derived.WalkKit
import Derived.ProofKit
import Derived.OpenShut
import Derived.ShutString
import Derived.ChangeOld
import Derived.Below
import Derived.SizedLaws
import Derived.HandedShaped
namespace Go.Proofs.Ytpphilladlladaa.fnMirrorsKeepParents
open Go.RowKit

theorem implMirror_to2 (s t : ByteArray) (w : World) (hv : Hid (valid s.data.toList = true)) (ht : Hid (t = ByteArray.mk (mirrorL s.data.toList).toArray)) :
    Calls Try.prog 30 #[.string s] w fun e w' => e = .returned (.string t) ∧ Below w.heap.size w w' := by
  rw [ht.out]; exact implMirror_yes s w hv
theorem specMirror_to2 (s t : ByteArray) (w : World) (hv : Hid (valid s.data.toList = true)) (ht : Hid (t = ByteArray.mk (mirrorL s.data.toList).toArray)) :
    Calls Try.prog 31 #[.string s] w fun e w' => e = .returned (.string t) ∧ w = w' := by
  rw [ht.out]; exact specMirror_yes s w hv
set_option maxHeartbeats 3200000 in
theorem fnMirrorsKeepParents_walk (a : Option Addr) (len cap : Nat) (zs : List Int) (w : World) (hr0 : IsRow .u8 w a len cap zs) (_hreach : cap * 1 ≤ 140737488351232) :
    Calls Try.prog 8 #[.slice a len cap] w fun e w' => e = .returned (.bool true) ∧ Below w.heap.size w w' := by
  have hr := Lib.hid hr0
  clear hr0
  by_cases hbig : (1048576 : Int) < (len : Int)
  · go_enter Try.func8, Try.ntmps8
    go_wp2
    go_ret
    exact ⟨rfl, Below.refl _ _⟩
  · go_enter Try.func8, Try.ntmps8
    go_wp2_with fail
    refine (drawMirrorOf a len cap zs w hr (by omega)).mono ?_
    rintro e w1 ⟨s, rfl, hs60, hb⟩
    have hsm : s.size ≤ maxLen := by unfold maxLen; omega
    have B1 := Lib.hid hb
    clear hb hr
    cases hv0 : valid s.data.toList with
    | false =>
      have hv := Lib.hid hv0
      clear hv0
      go_wp2_with fail
      refine (implMirror_no s w1 hsm hv).mono ?_
      rintro e w2 ⟨rfl, hb⟩
      have B2 := Lib.hid (B1.out.trans (hb.mono B1.out.size))
      clear hb
      go_wp2_with fail
      refine (specMirror_no s w2 hsm hv).mono ?_
      rintro e w' ⟨rfl, rfl⟩
      go_wp2_with fail
      refine (implMirror_no s w2 hsm hv).mono ?_
      rintro e w3 ⟨rfl, hb⟩
      have B3 := Lib.hid (B2.out.trans (hb.mono B2.out.size))
      clear hb
      go_wp2
      go_ret
      exact ⟨rfl, B3.out⟩
    | true =>
      have h18 := valid_size hv0
      obtain ⟨t, ht⟩ : ∃ t, t = ByteArray.mk (mirrorL s.data.toList).toArray := ⟨_, rfl⟩
      have htl : t.data.toList = mirrorL s.data.toList := by rw [ht]
      obtain ⟨m0, m1, m2, m3, m4⟩ := mir_facts hv0
      rw [← htl] at m0 m2 m4
      have hts : t.data.toList.length = s.data.toList.length := by rw [htl]; simp [mirrorL]
      rw [size_list, size_list] at hts
      have HT := Lib.hid ht
      have HVT := Lib.hid m0
      have hv := Lib.hid hv0
      have CA := Lib.hid (fun w => implStackRow_yes s w hv)
      have CP := Lib.hid (fun w => implParents_yes s w hv)
      have CQ := Lib.hid (fun w => implParents_yes t w HVT)
      obtain ⟨la, hla⟩ : ∃ la, la = stackL s.data.toList := ⟨_, rfl⟩
      obtain ⟨lp, hlp⟩ : ∃ lp, lp = parentsL s.data.toList := ⟨_, rfl⟩
      obtain ⟨lq, hlq⟩ : ∃ lq, lq = parentsL t.data.toList := ⟨_, rfl⟩
      obtain ⟨n, hn⟩ : ∃ n, n = s.data.toList.length / 2 := ⟨_, rfl⟩
      rw [← hla] at CA m3 m4
      rw [← hlp] at CP m1 m4
      rw [← hlq] at CQ m2 m4
      rw [← hn] at m1 m2 m3 m4
      have hn9 : n ≤ 9 := by rw [hn, size_list]; omega
      have M1 := Lib.hid m1
      have M2 := Lib.hid m2
      have M3 := Lib.hid m3
      have M4 := Lib.hid m4
      have HTS := Lib.hid hts
      clear hv0 ht htl m0 m1 m2 m3 m4 hla hlp hlq hn hts
      go_wp2_with fail
      refine (implMirror_to2 s t w1 hv HT).mono ?_
      rintro e w2 ⟨rfl, hb⟩
      have B2 := Lib.hid (B1.out.trans (hb.mono B1.out.size))
      clear hb
      go_wp2_with fail
      refine (specMirror_to2 s t w2 hv HT).mono ?_
      rintro e w' ⟨rfl, rfl⟩
      go_wp2_with fail
      refine (implMirror_to2 s t w2 hv HT).mono ?_
      rintro e w3 ⟨rfl, hb⟩
      have B3 := Lib.hid (B2.out.trans (hb.mono B2.out.size))
      clear hb
      by_cases h0 : s.size = 0
      · obtain rfl : t = ⟨#[]⟩ := bytes_ext (List.eq_nil_of_length_eq_zero (by rw [size_list, HTS.out]; exact h0))
        clear h0 HTS
        go_wp2
        go_ret
        exact ⟨rfl, B3.out⟩
      · have hne : t.toList.isEmpty = false := by
          rw [ByteArray.toList_eq]
          cases e : t.data.toList with
          | nil => have h2 := size_list t; rw [e] at h2; have h3 := HTS.out; simp at h2; omega
          | cons _ _ => rfl
        clear h0 HTS
        go_wp2_with fail
        refine (CA.out _).mono ?_
        rintro e w4 ⟨va, rfl, oa, hb⟩
        have OA := Lib.hid oa
        have B4 := Lib.hid (B3.out.trans (hb.mono B3.out.size))
        obtain ⟨aa, ca, rfl, _, _, _, _⟩ := oa.slice
        rw [iv_length, M3.out] at OA ⊢
        clear oa hb
        go_wp2_with fail
        refine (CP.out _).mono ?_
        rintro e w5 ⟨vp, rfl, op, hb⟩
        have OP := Lib.hid op
        have OA5 := Lib.hid (OA.out.below hb)
        have B5 := Lib.hid (B4.out.trans (hb.mono B4.out.size))
        obtain ⟨ap, cp, rfl, _, _, _, _⟩ := op.slice
        rw [iv_length, M1.out] at OP ⊢
        have Z5 := Lib.hid hb.size
        clear op hb OA
        go_wp2_with fail
        refine (CQ.out _).mono ?_
        rintro e w6 ⟨vq, rfl, oq, hb⟩
        have OQ := Lib.hid oq
        have OA6 := Lib.hid ((OA5.out.more Z5.out).below hb)
        have OP6 := Lib.hid (OP.out.below hb)
        have B6 := Lib.hid (B5.out.trans (hb.mono B5.out.size))
        obtain ⟨aq, cq, rfl, _, _, _, _⟩ := oq.slice
        rw [iv_length, M2.out] at OQ ⊢
        clear oq hb OA5 OP Z5
        go_wp2
        go_loopw [9] (fun i wr => ∃ v : Nat, v ≤ n ∧ i = .int .i64 v ∧ wr = w6) (fun i _ => n - (intOf i).toNat)
        case atStart => exact ⟨0, Nat.zero_le _, rfl, rfl⟩
        case round =>
          obtain ⟨v, hvn, rfl, rfl⟩ := hrel
          by_cases hlt : v < n
          · have b1 : (v : Int) < (n : Int) := by omega
            obtain ⟨k, hk, hpk, hcase⟩ := M4.out v hlt
            have CV := placeOf_any la (.slice aa n ca) (v : Int) wr OA6 (by rw [M3.out]; omega)
            rw [hpk] at CV
            have CV := Lib.hid CV
            obtain ⟨k', hk'⟩ : ∃ k', k' = n - 1 - k := ⟨_, rfl⟩
            have e1 : (n : Int) - 1 - (k : Int) = (k' : Int) := by omega
            have hk2 : k' < n := by omega
            have b2 : (k' : Int) < (n : Int) := by omega
            obtain ⟨gp, hgp, _, _, hc1, _⟩ := OP6.out.at_ v (by rw [iv_length, M1.out]; exact hlt)
            obtain ⟨gq, hgq, _, _, hc2, _⟩ := OQ.out.at_ k' (by rw [iv_length, M2.out]; exact hk2)
            rw [iv, List.getElem?_map] at hc1 hc2
            rw [← hk'] at hcase
            subst hgp
            subst hgq
            rcases hcase with ⟨h1, h2⟩ | ⟨y, j, hj, h1, h3, h2⟩
            · rw [h1] at hc1
              rw [h2] at hc2
              have hc1 : wr.cell? ⟨gp, v, none⟩ = some (.int .i64 (-1)) := hc1
              have hc2 : wr.cell? ⟨gq, k', none⟩ = some (.int .i64 (-1)) := hc2
              clear h1 h2 hpk hk' hk
              go_wp2_with fail
              refine CV.out.mono ?_
              rintro e w7 ⟨rfl, rfl⟩
              clear CV
              go_wp2
              go_roundw
              case rel => exact ⟨v + 1, by omega, by go_num, by simp⟩
              case measure => simp [intOf]; omega
            · have CY := placeOf_any la (.slice aa n ca) (y : Int) wr OA6 (by rw [M3.out]; omega)
              rw [h3] at CY
              have CY := Lib.hid CY
              obtain ⟨z, hz⟩ : ∃ z, z = n - 1 - j := ⟨_, rfl⟩
              rw [← hz] at h2
              have e2 : (n : Int) - 1 - (j : Int) = (z : Int) := by omega
              rw [h1] at hc1
              rw [h2] at hc2
              have hc1 : wr.cell? ⟨gp, v, none⟩ = some (.int .i64 (y : Int)) := hc1
              have hc2 : wr.cell? ⟨gq, k', none⟩ = some (.int .i64 (z : Int)) := hc2
              have c3 : ((z : Int) != (z : Int)) = false := by simp
              have hj9 : j ≤ 9 := by omega
              clear h1 h2 h3 hpk hk' hk hz hj
              go_wp2_with fail
              refine CY.out.mono ?_
              rintro e w7 ⟨rfl, rfl⟩
              clear CY
              go_wp2_with fail
              refine CV.out.mono ?_
              rintro e w7 ⟨rfl, rfl⟩
              clear CV
              go_wp2
              go_roundw
              case rel => exact ⟨v + 1, by omega, by go_num, by simp⟩
              case measure => simp [intOf]; omega
          · have b1 : (n : Int) ≤ (v : Int) := by omega
            go_wp2
            go_ret
            exact ⟨rfl, B6.out⟩

open Go.ChangeShapes Go.WideShapes Go.ChangeAt Go.RowKit
open Go.ChangeMaps (open_string shut_string)
set_option linter.unusedVariables false

theorem own : ownKnob Try.prog.godebug = none := by kernel_rfl
theorem laidOut : laidOutB Try.prog = true := by kernel_rfl

set_option maxRecDepth 100000 in
theorem lifted (os : Os) (started : os.Started) (H : Type) (enc : TypeId × Value → H) :
    ReturnsInHanded {} Try.checked os 8 .any (Rows.fnMirrorsKeepParentsSpec.pre6 enc Try.prog Try.f8 Rows.fnMirrorsKeepParentsRow.domain false) (Rows.fnMirrorsKeepParentsSpec.post enc Try.prog Try.f8 false true false false) := by
  refine returnsInHanded_of_change_shaped (C := Try.checked) own started (by kernel_rfl) Try.func8
    (ChangeSpec.witness6 (enc := enc) (C := Try.checked) false ⟨#[], #[.slice none 0 0], []⟩ 8 (by kernel_rfl) (by kernel_rfl) (by kernel_rfl) (by kernel_rfl)) ?_
  intro W base args ds gs before hval0 hW hcnd hsz0 hsh _
  have hval : ∀ (j : Nat) t v, Try.f8.params[j]? = some t → args[j]? = some v → Value.okWide Try.prog W .any base t v := hval0
  have hW' := hW
  obtain ⟨p, q, hA0, hV, rfl, hfz, hnd⟩ := hW
  have hA : DataW.TrodAll enc Try.prog W 0 (fun _ => true) true Try.f8.params.toList args.toList ds p := hA0
  have hsz : (DataW.weightsEach Try.prog (Try.f8.params.toList ++ Rows.fnMirrorsKeepParentsSpec.plain.varTypes Try.prog) (ds ++ gs)).all (· ≤ reachBytes) = true := hsz0
  rw [Try.params8] at hA hval hsz
  obtain ⟨v0, vs0, d0, ds0, p0, q0, hargs, rfl, rfl, h0, r0⟩ := trodAll_cons hA
  obtain ⟨rfl, rfl, rfl⟩ := trodAll_nil r0
  obtain rfl : args = #[v0] := by cases args; simp_all
  obtain ⟨rfl, rfl⟩ := trodVars_none hV
  obtain ⟨a0, len0, cap0, rfl⟩ := okWide_slice Try.underlying22 (hval 0 22 v0 rfl rfl)
  have k0 := h0
  have lt0 : ∀ x ∈ p0, x.block < W.heap.size := by obtain ⟨m, hm⟩ := k0; exact DataW.trod_lt m _ _ _ hm
  obtain ⟨z0, w0, hreach⟩ : ∃ zs, IsRow .u8 W a0 len0 cap0 zs ∧ cap0 * 1 ≤ 140737488351232 := by
    obtain ⟨fuel, hf⟩ := h0
    rcases open_ints Try.underlying22 Try.underlying5 (by kernel_rfl) hf with ⟨hcs, _⟩ | ⟨x, l, c, zs, hcs, _, hl, hm, hz, hx, hcell, hwz⟩
    · simp [Value.cells] at hcs
      obtain ⟨rfl, rfl, rfl⟩ := hcs
      exact ⟨[], .inl ⟨rfl, rfl, rfl, rfl⟩, by omega⟩
    · simp [Value.cells] at hcs
      obtain ⟨rfl, rfl, rfl⟩ := hcs
      refine ⟨zs, .inr ⟨_, rfl, hl, hm, by simpa using hz, hcell, hwz⟩, ?_⟩
      simp only [Prod.mk.injEq] at hx
      obtain ⟨hx1, hx2⟩ := hx
      rw [hx1] at hsz
      have hb := sized_slice hsz (j := 0) (t := 22) (e := 5) rfl rfl Try.underlying22
      have b8 : Try.prog.bytesOf 5 = 1 := by kernel_rfl
      rw [b8] at hb
      simp only [lits, List.length_map, List.length_take, List.length_drop, reachBytes] at hb
      simp only [if_true] at hz
      omega
  clear hA0 hval0
  refine (fnMirrorsKeepParents_walk a0 len0 cap0 z0 W w0 hreach).mono fun e W' ⟨he, bel⟩ => ?_
  subst he
  exact ⟨_, rfl, _, _, _, [], _, [], hW', trodAll_mk1 (shut_bool Try.underlying4 _), trodAll_mk1 (Below.trod laidOut (by kernel_rfl) (of_decide_eq_true (by kernel_rfl)) k0 bel lt0), rfl, bel.frame _, fun h => by cases h⟩

theorem over : Rows.fnMirrorsKeepParentsRow.holds Try.pinned (OpenSpec.ofChange Rows.fnMirrorsKeepParentsSpec) :=
  OpenClaim.holds_of_wide 8 Try.f8 rfl rfl rfl rfl rfl rfl rfl ⟨rfl, rfl, rfl, rfl, rfl⟩ rfl rfl rfl rfl rfl (by kernel_rfl) Try.func8 (by kernel_rfl)
    (of_decide_eq_true (by kernel_rfl)) (by unfold Func.isWrapper; first | (rw [if_pos (by decide +kernel)]; kernel_rfl) | (rw [if_neg (by decide +kernel)]; exact ⟨rfl, rfl⟩))
    (fun os started H enc _ => lifted os started H enc)

theorem proved : Rows.FnMirrorsKeepParentsSaid := over
#print axioms proved
end Go.Proofs.Ytpphilladlladaa.fnMirrorsKeepParents
