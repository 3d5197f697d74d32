/-
  For every argument of FnMirrorOf, whatever its value, the call returns true, leaves what it was handed as it was and changes no older memory. Conditions: none beside the row's own.
-/
import Derived.Test.YtlcjajkobhljcaaRows
import Derived.Test.YtlcjajkobhljcaaCDrawF
import Derived.Test.YtlcjajkobhljcaaCIs
import Derived.Test.YtlcjajkobhljcaaCLeaves
import Derived.Test.YtlcjajkobhljcaaWFactsA
import Derived.Test.YtlcjajkobhljcaaWRow
import Derived.WalkKit
import Derived.ProofKit
import Derived.OpenShut
import Derived.ShutString
import Derived.ChangeOld
import Derived.Below
import Derived.SizedLaws
import Derived.HandedShaped
namespace Go.Proofs.Ytlcjajkobhljcaa.fnMirrorOf
open Go.RowKit

theorem implMirror_to (s t : ByteArray) (w : World) (hv : Hid (valid s.data.toList = true)) (ht : Hid (t = ByteArray.mk (mirrorL s.data.toList).toArray)) :
    Calls Try.prog 14 #[.string s] w fun e w' => e = .returned (.string t) ∧ Below w.heap.size w w' := by
  rw [ht.out]; exact implMirror_yes s w hv
theorem specMirror_to (s t : ByteArray) (w : World) (hv : Hid (valid s.data.toList = true)) (ht : Hid (t = ByteArray.mk (mirrorL s.data.toList).toArray)) :
    Calls Try.prog 30 #[.string s] w fun e w' => e = .returned (.string t) ∧ w = w' := by
  rw [ht.out]; exact specMirror_yes s w hv
theorem implLeaves_is (n : Nat) (s : ByteArray) (w : World) (hv : Hid (valid s.data.toList = true)) (hn : Hid (leavesL s.data.toList = n)) (hsh : w.ShapedOpen Try.prog) :
    Calls Try.prog 31 #[.string s] w fun e w' => e = .returned (.int .i64 n) ∧ Below w.heap.size w w' := by
  rw [← hn.out]; exact implLeaves_yes s w hv hsh

set_option maxHeartbeats 1600000 in
theorem fnMirrorOf_walk (a : Option Addr) (len cap : Nat) (zs : List Int) (w : World) (hr0 : IsRow .u8 w a len cap zs) (_hreach : cap * 1 ≤ 140737488351232) (hsh0 : w.ShapedOpen Try.prog) :
    Calls Try.prog 8 #[.slice a len cap] w fun e w' => e = .returned (.bool true) ∧ Below w.heap.size w w' := by
  have hr := Lib.hid hr0
  have hsh := Lib.hid hsh0
  clear hr0 hsh0
  by_cases hbig : (1048576 : Int) < (len : Int)
  · go_enter Try.func8, Try.ntmps8
    go_wp2
    go_ret
    exact ⟨rfl, Below.refl _ _⟩
  · go_enter Try.func8, Try.ntmps8
    go_wp2_with fail
    refine (drawMirrorOf a len cap zs w hr (by omega)).mono ?_
    rintro e w1 ⟨s, rfl, hs60, hb⟩
    have hsm : s.size ≤ maxLen := by unfold maxLen; omega
    have B1 := Lib.hid hb
    clear hb hr
    cases hv0 : valid s.data.toList with
    | false =>
      have hv := Lib.hid hv0
      clear hv0
      go_wp2_with fail
      refine (implMirror_no s w1 hsm hv).mono ?_
      rintro e w2 ⟨rfl, hb⟩
      have B2 := Lib.hid (B1.out.trans (hb.mono B1.out.size))
      clear hb
      go_wp2_with (go_at_call 30; refine (specMirror_no _ _ hsm hv).mono ?_; rintro e w' ⟨rfl, rfl⟩)
      go_ret
      exact ⟨rfl, B2.out⟩
    | true =>
      have h18 := valid_size hv0
      obtain ⟨t, ht⟩ : ∃ t, t = ByteArray.mk (mirrorL s.data.toList).toArray := ⟨_, rfl⟩
      have htl : t.data.toList = mirrorL s.data.toList := by rw [ht]
      have hvt : valid t.data.toList = true := by rw [htl]; exact mirror_valid hv0
      have hts : t.size = s.size := by rw [ht]; exact mirror_size s
      have hst : s = ByteArray.mk (mirrorL t.data.toList).toArray := by
        rw [htl, mirror_twice hv0]
      have hlt : leavesL t.data.toList = leavesL s.data.toList := by rw [htl]; exact mirror_leaves hv0
      have HT := Lib.hid ht
      have HST := Lib.hid hst
      have HLT := Lib.hid hlt
      have HVT := Lib.hid hvt
      have hv := Lib.hid hv0
      have hts1 : t.size ≤ s.size := by omega
      have hts2 : s.size ≤ t.size := by omega
      clear hv0 ht htl hvt hst hlt hts
      go_wp2_with fail
      refine (implMirror_to s t w1 hv HT).mono ?_
      rintro e w2 ⟨rfl, hb⟩
      have B2 := Lib.hid (B1.out.trans (hb.mono B1.out.size))
      clear hb
      by_cases h0 : s.size = 0
      · obtain rfl : t = ⟨#[]⟩ := bytes_ext (List.eq_nil_of_length_eq_zero (by rw [size_list]; omega))
        go_wp2_with (go_at_call 30; refine (specMirror_to s ⟨#[]⟩ _ hv HT).mono ?_; rintro e w' ⟨rfl, rfl⟩)
        go_ret
        exact ⟨rfl, B2.out⟩
      · have hne : t.toList.isEmpty = false := by
          rw [ByteArray.toList_eq]
          cases e : t.data.toList with
          | nil => have := size_list t; rw [e] at this; simp at this; omega
          | cons _ _ => rfl
        have hll := Lib.hid (rfl : leavesL s.data.toList = leavesL s.data.toList)
        obtain ⟨n, hn⟩ : ∃ n, n = leavesL s.data.toList := ⟨_, rfl⟩
        have HN1 : Hid (leavesL t.data.toList = n) := by show _ = _; rw [HLT.out, hn]
        have HN2 : Hid (leavesL s.data.toList = n) := hn.symm
        have hsz : ((t.size : Int) == (s.size : Int)) = true := by rw [show t.size = s.size by omega]; exact beq_self_eq_true _
        clear hll hn
        go_wp2_with (go_at_call 30; refine (specMirror_to s t _ hv HT).mono ?_; rintro e w' ⟨rfl, rfl⟩)
        refine (implMirror_to t s w2 HVT HST).mono ?_
        rintro e w3 ⟨rfl, hb⟩
        have B3 := Lib.hid (B2.out.trans (hb.mono B2.out.size))
        clear hb
        go_wp2_with fail
        refine (implLeaves_is n t w3 HVT HN1 (shaped_below hsh.out B3.out)).mono ?_
        rintro e w4 ⟨rfl, hb⟩
        have B4 := Lib.hid (B3.out.trans (hb.mono B3.out.size))
        clear hb
        go_wp2_with fail
        refine (implLeaves_is n s w4 hv HN2 (shaped_below hsh.out B4.out)).mono ?_
        rintro e w5 ⟨rfl, hb⟩
        go_wp2
        go_ret
        exact ⟨rfl, B4.out.trans (hb.mono B4.out.size)⟩

open Go.ChangeShapes Go.WideShapes Go.ChangeAt Go.RowKit
open Go.ChangeMaps (open_string shut_string)
set_option linter.unusedVariables false

theorem own : ownKnob Try.prog.godebug = none := by kernel_rfl
theorem laidOut : laidOutB Try.prog = true := by kernel_rfl

set_option maxRecDepth 100000 in
theorem lifted (os : Os) (started : os.Started) (H : Type) (enc : TypeId × Value → H) :
    ReturnsInHanded {} Try.checked os 8 .any (Rows.fnMirrorOfSpec.pre6 enc Try.prog Try.f8 Rows.fnMirrorOfRow.domain false) (Rows.fnMirrorOfSpec.post enc Try.prog Try.f8 false true false false) := by
  refine returnsInHanded_of_change_shaped (C := Try.checked) own started (by kernel_rfl) Try.func8
    (ChangeSpec.witness6 (enc := enc) (C := Try.checked) false ⟨#[], #[.slice none 0 0], []⟩ 8 (by kernel_rfl) (by kernel_rfl) (by kernel_rfl) (by kernel_rfl)) ?_
  intro W base args ds gs before hval0 hW hcnd hsz0 hsh _
  have hval : ∀ (j : Nat) t v, Try.f8.params[j]? = some t → args[j]? = some v → Value.okWide Try.prog W .any base t v := hval0
  have hW' := hW
  obtain ⟨p, q, hA0, hV, rfl, hfz, hnd⟩ := hW
  have hA : DataW.TrodAll enc Try.prog W 0 (fun _ => true) true Try.f8.params.toList args.toList ds p := hA0
  have hsz : (DataW.weightsEach Try.prog (Try.f8.params.toList ++ Rows.fnMirrorOfSpec.plain.varTypes Try.prog) (ds ++ gs)).all (· ≤ reachBytes) = true := hsz0
  rw [Try.params8] at hA hval hsz
  obtain ⟨v0, vs0, d0, ds0, p0, q0, hargs, rfl, rfl, h0, r0⟩ := trodAll_cons hA
  obtain ⟨rfl, rfl, rfl⟩ := trodAll_nil r0
  obtain rfl : args = #[v0] := by cases args; simp_all
  obtain ⟨rfl, rfl⟩ := trodVars_none hV
  obtain ⟨a0, len0, cap0, rfl⟩ := okWide_slice Try.underlying22 (hval 0 22 v0 rfl rfl)
  have k0 := h0
  have lt0 : ∀ x ∈ p0, x.block < W.heap.size := by obtain ⟨m, hm⟩ := k0; exact DataW.trod_lt m _ _ _ hm
  obtain ⟨z0, w0, hreach⟩ : ∃ zs, IsRow .u8 W a0 len0 cap0 zs ∧ cap0 * 1 ≤ 140737488351232 := by
    obtain ⟨fuel, hf⟩ := h0
    rcases open_ints Try.underlying22 Try.underlying5 (by kernel_rfl) hf with ⟨hcs, _⟩ | ⟨x, l, c, zs, hcs, _, hl, hm, hz, hx, hcell, hwz⟩
    · simp [Value.cells] at hcs
      obtain ⟨rfl, rfl, rfl⟩ := hcs
      exact ⟨[], .inl ⟨rfl, rfl, rfl, rfl⟩, by omega⟩
    · simp [Value.cells] at hcs
      obtain ⟨rfl, rfl, rfl⟩ := hcs
      refine ⟨zs, .inr ⟨_, rfl, hl, hm, by simpa using hz, hcell, hwz⟩, ?_⟩
      simp only [Prod.mk.injEq] at hx
      obtain ⟨hx1, hx2⟩ := hx
      rw [hx1] at hsz
      have hb := sized_slice hsz (j := 0) (t := 22) (e := 5) rfl rfl Try.underlying22
      have b8 : Try.prog.bytesOf 5 = 1 := by kernel_rfl
      rw [b8] at hb
      simp only [lits, List.length_map, List.length_take, List.length_drop, reachBytes] at hb
      simp only [if_true] at hz
      omega
  clear hA0 hval0
  refine (fnMirrorOf_walk a0 len0 cap0 z0 W w0 hreach hsh).mono fun e W' ⟨he, bel⟩ => ?_
  subst he
  exact ⟨_, rfl, _, _, _, [], _, [], hW', trodAll_mk1 (shut_bool Try.underlying4 _), trodAll_mk1 (Below.trod laidOut (by kernel_rfl) (of_decide_eq_true (by kernel_rfl)) k0 bel lt0), rfl, bel.frame _, fun h => by cases h⟩

theorem over : Rows.fnMirrorOfRow.holds Try.pinned (OpenSpec.ofChange Rows.fnMirrorOfSpec) :=
  OpenClaim.holds_of_wide 8 Try.f8 rfl rfl rfl rfl rfl rfl rfl ⟨rfl, rfl, rfl, rfl, rfl⟩ rfl rfl rfl rfl rfl (by kernel_rfl) Try.func8 (by kernel_rfl)
    (of_decide_eq_true (by kernel_rfl)) (by unfold Func.isWrapper; first | (rw [if_pos (by decide +kernel)]; kernel_rfl) | (rw [if_neg (by decide +kernel)]; exact ⟨rfl, rfl⟩))
    (fun os started H enc _ => lifted os started H enc)

theorem proved : Rows.FnMirrorOfSaid := over
#print axioms proved
end Go.Proofs.Ytlcjajkobhljcaa.fnMirrorOf
