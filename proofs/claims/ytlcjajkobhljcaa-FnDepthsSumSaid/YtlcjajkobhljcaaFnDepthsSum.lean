/-
  For every argument of FnDepthsSum, whatever its value, the call returns true, leaves what it was handed as it was and changes no older memory. Conditions: none beside the row's own.
-/
import Derived.Test.YtlcjajkobhljcaaRows
import Derived.Test.YtlcjajkobhljcaaCDrawF
import Derived.Test.YtlcjajkobhljcaaCIs
import Derived.Test.YtlcjajkobhljcaaCDepths
import Derived.Test.YtlcjajkobhljcaaCParents
import Derived.Test.YtlcjajkobhljcaaCEqual
import Derived.Test.YtlcjajkobhljcaaCTotal
import Derived.Test.YtlcjajkobhljcaaWFactsC
import Derived.Test.YtlcjajkobhljcaaWFactsD
import Derived.Test.YtlcjajkobhljcaaWRow
import Derived.WalkKit
import Derived.ProofKit
import Derived.OpenShut
import Derived.ShutString
import Derived.ChangeOld
import Derived.Below
import Derived.SizedLaws
import Derived.HandedShaped
namespace Go.Proofs.Ytlcjajkobhljcaa.fnDepthsSum
open Go.RowKit

theorem way_neg (p : List Int) (f : Nat) (x : Int) (h : x < 0) : way p f x = 0 := by
  cases f with
  | zero => rfl
  | succ f => rw [way, if_pos h]
theorem way_pos (p : List Int) (f x : Nat) : way p (f + 1) (x : Int) = 1 + way p f (p.getD x (-1)) := by
  rw [way, if_neg (by omega)]; rfl
theorem way_le (p : List Int) : ∀ (f : Nat) (x : Int), way p f x ≤ f
  | 0, _ => Nat.le_refl _
  | f + 1, x => by
    have := way_le p f (p.getD x.toNat (-1))
    rw [way]; split <;> omega
theorem ways_le (p : List Int) : ∀ k, ways p k ≤ 10 * k
  | 0 => Nat.le_refl _
  | k + 1 => by
    have := ways_le p k
    have := way_le p 10 (p.getD k (-1))
    rw [ways]; omega
theorem par_lt {l : List UInt8} (h : valid l = true) (i : Nat) (hi : i < (parentsL l).length) : (parentsL l)[i] < i := by
  have := par_at h i hi
  unfold parAt at this
  have e : (parentsL l).getD i 0 = (parentsL l)[i] := by simp [List.getElem?_eq_getElem hi]
  simp only [e] at this
  split at this
  · omega
  · simp only [Bool.and_eq_true, decide_eq_true_eq] at this
    exact this.1
theorem parOut_lt (s : ByteArray) (i : Nat) (hi : i < (parOut s.data.toList).length) : (parOut s.data.toList)[i] < i := by
  by_cases hv : valid s.data.toList = true
  · have e : parOut s.data.toList = parentsL s.data.toList := by rw [parOut, if_pos hv]
    have h2 := par_lt hv i (by rw [← e]; exact hi)
    simp only [e]
    exact h2
  · have e : parOut s.data.toList = [] := by rw [parOut, if_neg hv]
    rw [e] at hi
    simp at hi
theorem parOut_nine (s : ByteArray) : (parOut s.data.toList).length ≤ 9 := by
  by_cases hv : valid s.data.toList = true
  · rw [parOut, if_pos hv]
    have h1 := par_len hv
    have h2 := valid_size hv
    rw [size_list] at h1
    omega
  · rw [parOut, if_neg hv]; simp
theorem depOut_small (s : ByteArray) : ∀ x ∈ depOut s.data.toList, 0 ≤ x ∧ x ≤ 1000 := by
  intro x hx
  by_cases hv : valid s.data.toList = true
  · rw [depOut, if_pos hv] at hx
    obtain ⟨r, hr, rfl⟩ := List.mem_map.1 hx
    have := open_row hv hr
    omega
  · rw [depOut, if_neg hv] at hx
    cases hx
theorem out_ways (s : ByteArray) : sumI (depOut s.data.toList) (depOut s.data.toList).length = (ways (parOut s.data.toList) (parOut s.data.toList).length : Int) := by
  by_cases hv : valid s.data.toList = true
  · rw [depOut, if_pos hv, parOut, if_pos hv]; exact ways_sum hv
  · rw [depOut, if_neg hv, parOut, if_neg hv]; rfl

set_option maxHeartbeats 3200000 in
theorem fnDepthsSum_walk (a : Option Addr) (len cap : Nat) (zs : List Int) (w : World) (hr0 : IsRow .u8 w a len cap zs) (_hreach : cap * 1 ≤ 140737488351232) :
    Calls Try.prog 10 #[.slice a len cap] w fun e w' => e = .returned (.bool true) ∧ Below w.heap.size w w' := by
  have hr := Lib.hid hr0
  clear hr0
  by_cases hbig : (1048576 : Int) < (len : Int)
  · go_enter Try.func10, Try.ntmps10
    go_wp2
    go_ret
    exact ⟨rfl, Below.refl _ _⟩
  · go_enter Try.func10, Try.ntmps10
    go_wp2_with fail
    refine (drawDepthsOf a len cap zs w hr (by omega)).mono ?_
    rintro e w1 ⟨s, rfl, hs60, hb⟩
    have hsm : s.size ≤ maxLen := by unfold maxLen; omega
    have B1 := Lib.hid hb
    clear hb hr
    have hl := depOut_length s
    have hpl := parOut_nine s
    have hlt0 := parOut_lt s
    have hsmall := depOut_small s
    have hways := out_ways s
    have C1 := Lib.hid (fun w => implDepths_any s w hsm)
    have C2 := Lib.hid (fun w => specDepthsOf_any s w hsm)
    have C3 := Lib.hid (fun w => implParents_any s w hsm)
    obtain ⟨l, hle⟩ : ∃ l, l = depOut s.data.toList := ⟨_, rfl⟩
    obtain ⟨p, hpe⟩ : ∃ p, p = parOut s.data.toList := ⟨_, rfl⟩
    rw [← hle] at hl hsmall hways C1 C2
    rw [← hpe] at hpl hways C3
    have HLT : Hid (∀ (i : Nat) (hi : i < p.length), p[i] < (i : Int)) := by
      intro i hi
      subst hpe
      exact hlt0 i hi
    have HSM := Lib.hid hsmall
    have HW := Lib.hid hways
    clear hle hpe hsmall hways hlt0
    go_wp2_with fail
    refine (C1.out _).mono ?_
    rintro e w2 ⟨v, rfl, o, hb⟩
    have O2 := Lib.hid o
    have B2 := Lib.hid (B1.out.trans (hb.mono B1.out.size))
    clear o hb
    go_wp2_with fail
    refine (C2.out _).mono ?_
    rintro e w3 ⟨u, rfl, o, hb⟩
    have O3 := Lib.hid o
    have O23 := Lib.hid (O2.out.below hb)
    have B3 := Lib.hid (B2.out.trans (hb.mono B2.out.size))
    clear o hb
    go_wp2_with fail
    refine (equalInts_yes l v u w3 O23 O3 (by omega)).mono ?_
    rintro e w4 ⟨rfl, s4⟩
    have B4 := Lib.hid (B3.out.trans (s4.below w.heap.size))
    clear s4
    go_wp2_with fail
    refine (C1.out _).mono ?_
    rintro e w5 ⟨d, rfl, o, hb⟩
    have O5 := Lib.hid o
    have B5 := Lib.hid (B4.out.trans (hb.mono B4.out.size))
    clear o hb
    go_wp2_with fail
    refine (C3.out _).mono ?_
    rintro e w6 ⟨v6, rfl, o, hb⟩
    have O6 := Lib.hid o
    have O56 := Lib.hid (O5.out.below hb)
    have B6 := Lib.hid (B5.out.trans (hb.mono B5.out.size))
    clear o hb
    obtain ⟨av, cv, rfl, _, hcv, _, _⟩ := O6.out.slice
    rw [iv_length] at hcv O6 ⊢
    go_wp2
    go_loop [6, 7, 8] (fun n i _ => ∃ k : Nat, k ≤ p.length ∧ i = .int .i64 k ∧ n = .int .i64 (ways p k)) (fun _ i _ => p.length - (intOf i).toNat)
    case atStart => exact ⟨0, Nat.zero_le _, rfl, rfl⟩
    case round =>
      obtain ⟨k, hk, rfl, rfl⟩ := hrel
      have hwk := ways_le p k
      by_cases hlt : k < p.length
      · obtain ⟨g, rfl, _, _, hc, _⟩ := O6.out.at_ k (by rw [iv_length]; exact hlt)
        rw [iv_at p k hlt] at hc
        have b1 : (k : Int) < (p.length : Int) := by omega
        have hx := HLT.out k hlt
        have ew : ways p (k + 1) = ways p k + way p 10 p[k] := by rw [ways]; simp [List.getElem?_eq_getElem hlt]
        have EW := Lib.hid ew
        obtain ⟨x0, hx0⟩ : ∃ x0, x0 = p[k] := ⟨_, rfl⟩
        rw [← hx0] at hc hx EW
        clear ew hx0
        go_wp2
        obtain ⟨wo, rfl⟩ : ∃ wo : World, wo = w6 := ⟨_, rfl⟩
        go_loop [6, 8] (fun n y => ∃ (f m : Nat) (x : Int), n = .int .i64 m ∧ y = .int .i64 x ∧ x < f ∧ f ≤ 10 ∧ x < p.length ∧ m + f ≤ 1000 ∧ Hid (m + way p f x = ways p (k + 1))) (fun _ y => (intOf y + 1).toNat)
        case atStart => exact ⟨10, ways p k, x0, rfl, rfl, by omega, Nat.le_refl _, by omega, by omega, by show _ = _; rw [EW.out]⟩
        case round =>
          obtain ⟨f, m, x, rfl, rfl, hxf, hf, hxl, hmf, HWY⟩ := hrel
          clear hwk hc hx
          by_cases hneg : x < 0
          · have HM := Lib.hid (show m = ways p (k + 1) by have := HWY.out; rw [way_neg p f x hneg] at this; exact this)
            go_wp2
            go_round
            case rel => exact ⟨k + 1, by omega, by go_num, by rw [HM.out]⟩
            case measure => simp [intOf]; omega
          · obtain ⟨y, rfl⟩ : ∃ y : Nat, x = y := ⟨x.toNat, by omega⟩
            obtain ⟨f, rfl⟩ : ∃ f', f = f' + 1 := ⟨f - 1, by omega⟩
            have hyl : y < p.length := by omega
            obtain ⟨g', hg', _, _, hc, _⟩ := O6.out.at_ y (by rw [iv_length]; exact hyl)
            cases hg'
            rw [iv_at p y hyl] at hc
            have hz := HLT.out y hyl
            have hwy : m + 1 + way p f p[y] = ways p (k + 1) := by
              have h1 := HWY.out
              rw [way_pos p f y] at h1
              have h2 : p.getD y (-1) = p[y] := by simp [List.getElem?_eq_getElem hyl]
              rw [h2] at h1
              omega
            obtain ⟨z, hze⟩ : ∃ z, z = p[y] := ⟨_, rfl⟩
            rw [← hze] at hc hz hwy
            have HWY' := Lib.hid hwy
            have i1 : (y : Int) < (p.length : Int) := by omega
            have i0 : (0 : Int) ≤ (y : Int) := by omega
            clear hwy hze HWY
            go_wp2
            go_round
            case rel => exact ⟨f, m + 1, z, by go_num, rfl, by omega, by omega, by omega, by omega, HWY'⟩
            case measure => simp [intOf]; omega
      · obtain rfl : k = p.length := by omega
        go_wp2_with fail
        refine (total_any l d w6 O56 (by omega) HSM).mono ?_
        rintro e w7 ⟨rfl, rfl⟩
        rw [HW.out]
        go_wp2
        go_ret
        exact ⟨rfl, B6.out⟩

open Go.ChangeShapes Go.WideShapes Go.ChangeAt Go.RowKit
open Go.ChangeMaps (open_string shut_string)
set_option linter.unusedVariables false

theorem own : ownKnob Try.prog.godebug = none := by kernel_rfl
theorem laidOut : laidOutB Try.prog = true := by kernel_rfl

set_option maxRecDepth 100000 in
theorem lifted (os : Os) (started : os.Started) (H : Type) (enc : TypeId × Value → H) :
    ReturnsInHanded {} Try.checked os 10 .any (Rows.fnDepthsSumSpec.pre6 enc Try.prog Try.f10 Rows.fnDepthsSumRow.domain false) (Rows.fnDepthsSumSpec.post enc Try.prog Try.f10 false true false false) := by
  refine returnsInHanded_of_change_shaped (C := Try.checked) own started (by kernel_rfl) Try.func10
    (ChangeSpec.witness6 (enc := enc) (C := Try.checked) false ⟨#[], #[.slice none 0 0], []⟩ 8 (by kernel_rfl) (by kernel_rfl) (by kernel_rfl) (by kernel_rfl)) ?_
  intro W base args ds gs before hval0 hW hcnd hsz0 hsh _
  have hval : ∀ (j : Nat) t v, Try.f10.params[j]? = some t → args[j]? = some v → Value.okWide Try.prog W .any base t v := hval0
  have hW' := hW
  obtain ⟨p, q, hA0, hV, rfl, hfz, hnd⟩ := hW
  have hA : DataW.TrodAll enc Try.prog W 0 (fun _ => true) true Try.f10.params.toList args.toList ds p := hA0
  have hsz : (DataW.weightsEach Try.prog (Try.f10.params.toList ++ Rows.fnDepthsSumSpec.plain.varTypes Try.prog) (ds ++ gs)).all (· ≤ reachBytes) = true := hsz0
  rw [Try.params10] at hA hval hsz
  obtain ⟨v0, vs0, d0, ds0, p0, q0, hargs, rfl, rfl, h0, r0⟩ := trodAll_cons hA
  obtain ⟨rfl, rfl, rfl⟩ := trodAll_nil r0
  obtain rfl : args = #[v0] := by cases args; simp_all
  obtain ⟨rfl, rfl⟩ := trodVars_none hV
  obtain ⟨a0, len0, cap0, rfl⟩ := okWide_slice Try.underlying22 (hval 0 22 v0 rfl rfl)
  have k0 := h0
  have lt0 : ∀ x ∈ p0, x.block < W.heap.size := by obtain ⟨m, hm⟩ := k0; exact DataW.trod_lt m _ _ _ hm
  obtain ⟨z0, w0, hreach⟩ : ∃ zs, IsRow .u8 W a0 len0 cap0 zs ∧ cap0 * 1 ≤ 140737488351232 := by
    obtain ⟨fuel, hf⟩ := h0
    rcases open_ints Try.underlying22 Try.underlying5 (by kernel_rfl) hf with ⟨hcs, _⟩ | ⟨x, l, c, zs, hcs, _, hl, hm, hz, hx, hcell, hwz⟩
    · simp [Value.cells] at hcs
      obtain ⟨rfl, rfl, rfl⟩ := hcs
      exact ⟨[], .inl ⟨rfl, rfl, rfl, rfl⟩, by omega⟩
    · simp [Value.cells] at hcs
      obtain ⟨rfl, rfl, rfl⟩ := hcs
      refine ⟨zs, .inr ⟨_, rfl, hl, hm, by simpa using hz, hcell, hwz⟩, ?_⟩
      simp only [Prod.mk.injEq] at hx
      obtain ⟨hx1, hx2⟩ := hx
      rw [hx1] at hsz
      have hb := sized_slice hsz (j := 0) (t := 22) (e := 5) rfl rfl Try.underlying22
      have b8 : Try.prog.bytesOf 5 = 1 := by kernel_rfl
      rw [b8] at hb
      simp only [lits, List.length_map, List.length_take, List.length_drop, reachBytes] at hb
      simp only [if_true] at hz
      omega
  clear hA0 hval0
  refine (fnDepthsSum_walk a0 len0 cap0 z0 W w0 hreach).mono fun e W' ⟨he, bel⟩ => ?_
  subst he
  exact ⟨_, rfl, _, _, _, [], _, [], hW', trodAll_mk1 (shut_bool Try.underlying4 _), trodAll_mk1 (Below.trod laidOut (by kernel_rfl) (of_decide_eq_true (by kernel_rfl)) k0 bel lt0), rfl, bel.frame _, fun h => by cases h⟩

theorem over : Rows.fnDepthsSumRow.holds Try.pinned (OpenSpec.ofChange Rows.fnDepthsSumSpec) :=
  OpenClaim.holds_of_wide 10 Try.f10 rfl rfl rfl rfl rfl rfl rfl ⟨rfl, rfl, rfl, rfl, rfl⟩ rfl rfl rfl rfl rfl (by kernel_rfl) Try.func10 (by kernel_rfl)
    (of_decide_eq_true (by kernel_rfl)) (by unfold Func.isWrapper; first | (rw [if_pos (by decide +kernel)]; kernel_rfl) | (rw [if_neg (by decide +kernel)]; exact ⟨rfl, rfl⟩))
    (fun os started H enc _ => lifted os started H enc)

theorem proved : Rows.FnDepthsSumSaid := over
#print axioms proved
end Go.Proofs.Ytlcjajkobhljcaa.fnDepthsSum
