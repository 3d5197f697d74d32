/-
  For every argument of FnStackRow, whatever its value, the call returns true, leaves what it was handed as it was and changes no older memory. Conditions: none beside the row's own.
-/
import Derived.Test.YtpphilladlladaaRows
import Derived.Test.YtpphilladlladaaCDrawJ
import Derived.Test.YtpphilladlladaaCStackG
import Derived.Test.YtpphilladlladaaCEqual
import Derived.Test.YtpphilladlladaaWRow
import Derived.WalkKit
import Derived.ProofKit
import Derived.OpenShut
import Derived.ShutString
import Derived.ChangeOld
import Derived.Below
import Derived.SizedLaws
import Derived.HandedShaped
namespace Go.Proofs.Ytpphilladlladaa.fnStackRow
open Go.RowKit

set_option maxHeartbeats 3200000 in
theorem fnStackRow_walk (a : Option Addr) (len cap : Nat) (zs : List Int) (w : World) (hr0 : IsRow .u8 w a len cap zs) (_hreach : cap * 1 ≤ 140737488351232) :
    Calls Try.prog 6 #[.slice a len cap] w fun e w' => e = .returned (.bool true) ∧ Below w.heap.size w w' := by
  have hr := Lib.hid hr0
  clear hr0
  by_cases hbig : (1048576 : Int) < (len : Int)
  · go_enter Try.func6, Try.ntmps6
    go_wp2
    go_ret
    exact ⟨rfl, Below.refl _ _⟩
  · go_enter Try.func6, Try.ntmps6
    go_wp2_with fail
    refine (drawStackRow a len cap zs w hr (by omega)).mono ?_
    rintro e w1 ⟨s, rfl, hs60, hb⟩
    have hsm : s.size ≤ maxLen := by unfold maxLen; omega
    have B1 := Lib.hid hb
    clear hb hr
    have hl := stackOut_len s
    have hfacts := stackOut_pat s
    have hback : 0 < (stackOut s.data.toList).length → wosV (stackOut s.data.toList) = .tuple #[.string s, .bool true] := fun h0 => by
      obtain ⟨h1, h2⟩ := stackOut_pos h0
      rw [h2]; exact wos_back h1
    have C1 := Lib.hid (fun w => implStackRow_any s w hsm)
    have C2 := Lib.hid (fun w => specStackRow_any s w hsm)
    obtain ⟨l, hle⟩ : ∃ l, l = stackOut s.data.toList := ⟨_, rfl⟩
    rw [← hle] at hl hfacts C1 C2 hback
    have HF := Lib.hid hfacts
    have HBK := Lib.hid hback
    clear hle hfacts hback
    go_wp2_with fail
    refine (C1.out _).mono ?_
    rintro e w2 ⟨v, rfl, o, hb⟩
    have O2 := Lib.hid o
    have B2 := Lib.hid (B1.out.trans (hb.mono B1.out.size))
    have z2 := hb.size
    clear o hb
    go_wp2_with fail
    refine (C2.out _).mono ?_
    rintro e w3 ⟨u, rfl, o, hb⟩
    have O3 := Lib.hid o
    have O23 := Lib.hid (O2.out.below hb)
    have B3 := Lib.hid (B2.out.trans (hb.mono B2.out.size))
    have z3 := hb.size
    clear o hb
    obtain ⟨av, cv, rfl, _, hcv, _, _⟩ := O2.out.slice
    rw [iv_length] at hcv O2 O23 ⊢
    go_wp2_with fail
    refine (equalInts_yes l _ u w3 O23 O3 (by omega)).mono ?_
    rintro e w4 ⟨rfl, s4⟩
    have O24 := Lib.hid (O23.out.same s4.1)
    have B4 := Lib.hid (B3.out.trans (s4.below w.heap.size))
    have z4 : w4.heap.size = w3.heap.size := by rw [s4.1]
    have Z4 := Lib.hid z4
    clear s4 z4
    by_cases h0 : l.length = 0
    · have q0 : ((l.length : Int) == 0) = true := by rw [h0]; rfl
      have H0 := Lib.hid h0
      clear h0
      go_wp2_with fail
      refine (C2.out _).mono ?_
      rintro e w5 ⟨u, rfl, o, hb⟩
      have O5 := Lib.hid o
      have O25 := Lib.hid ((O24.out.more (show w2.heap.size ≤ w4.heap.size by rw [Z4.out]; exact z3)).below hb)
      have B5 := Lib.hid (B4.out.trans (hb.mono B4.out.size))
      clear o hb
      go_wp2_with fail
      refine (equalInts_yes l _ u w5 O25 O5 (by omega)).mono ?_
      rintro e w6 ⟨rfl, s6⟩
      go_wp2
      go_ret
      exact ⟨rfl, B5.out.trans (s6.below w.heap.size)⟩
    · have q0 : ((l.length : Int) == 0) = false := beq_false_of_ne (by omega)
      have hV := HBK.out (by omega)
      have HV := Lib.hid hV
      have hw24 : w2.heap.size ≤ w4.heap.size := by rw [Z4.out]; exact z3
      clear h0 hV
      go_wp2
      go_loopw [5] (fun i wr => ∃ k : Nat, k ≤ l.length ∧ i = .int .i64 k ∧ Hid (Same w4 wr)) (fun i _ => l.length - (intOf i).toNat)
      case atStart => exact ⟨0, Nat.zero_le _, rfl, Same.refl _⟩
      case round =>
        obtain ⟨k, hk, rfl, HS⟩ := hrel
        by_cases hlt : k < l.length
        · have b1 : (k : Int) < (l.length : Int) := by omega
          go_wp2
          go_loopw [6] (fun i wr => ∃ j : Nat, j ≤ k ∧ i = .int .i64 j ∧ Hid (Same w4 wr)) (fun i _ => k - (intOf i).toNat)
          case atStart => exact ⟨0, Nat.zero_le _, rfl, HS⟩
          case round =>
            obtain ⟨j, hj, rfl, HS2⟩ := hrel
            clear HS
            by_cases hjk : j < k
            · have b2 : (j : Int) < (k : Int) := by omega
              go_wp2
              go_loopw [7] (fun x wr => ∃ i : Nat, i ≤ j ∧ x = .int .i64 i ∧ Hid (Same w4 wr)) (fun x _ => j - (intOf x).toNat)
              case atStart => exact ⟨0, Nat.zero_le _, rfl, HS2⟩
              case round =>
                obtain ⟨i, hi, rfl, HS3⟩ := hrel
                clear HS2
                by_cases hij : i < j
                · have b3 : (i : Int) < (j : Int) := by omega
                  have b4 : (i : Int) < (l.length : Int) := by omega
                  have b5 : (j : Int) < (l.length : Int) := by omega
                  have O3' := O24.out.same HS3.out.1
                  obtain ⟨g1, hg1, _, _, h1, _⟩ := O3'.at_ k (by rw [iv_length]; exact hlt)
                  obtain ⟨g2, hg2, _, _, h2, _⟩ := O3'.at_ j (by rw [iv_length]; omega)
                  obtain ⟨g3, hg3, _, _, h3, _⟩ := O3'.at_ i (by rw [iv_length]; omega)
                  rw [iv_at l k hlt] at h1
                  rw [iv_at l j (by omega)] at h2
                  rw [iv_at l i (by omega)] at h3
                  subst hg1
                  cases hg2
                  cases hg3
                  have hpat := HF.out i j k hlt hij hjk
                  obtain ⟨x, hx⟩ : ∃ x, x = l[k] := ⟨_, rfl⟩
                  obtain ⟨y, hy⟩ : ∃ y, y = l[j]'(by omega) := ⟨_, rfl⟩
                  obtain ⟨z, hz⟩ : ∃ z, z = l[i]'(by omega) := ⟨_, rfl⟩
                  rw [← hx] at h1
                  rw [← hy] at h2
                  rw [← hz] at h3
                  have hp : ¬ (y < x ∧ x < z) := by rw [hx, hy, hz]; exact hpat
                  clear hx hy hz hpat O3'
                  by_cases hyx : y < x
                  · have hxz : ¬ x < z := fun h => hp ⟨hyx, h⟩
                    have d1 : decide (y < x) = true := decide_eq_true hyx
                    have d2 : decide (x < z) = false := decide_eq_false hxz
                    clear hp hyx hxz
                    go_wp2
                    go_quiet (fail)
                    go_wp2
                    go_roundw
                    case rel => exact ⟨i + 1, by omega, by go_num, HS3.out.drewN _⟩
                    case measure => simp [intOf]; omega
                  · have d1 : decide (y < x) = false := decide_eq_false hyx
                    clear hp hyx
                    go_wp2
                    go_quiet (fail)
                    go_wp2
                    go_roundw
                    case rel => exact ⟨i + 1, by omega, by go_num, HS3.out.drewN _⟩
                    case measure => simp [intOf]; omega
                · have b3 : (j : Int) ≤ (i : Int) := by omega
                  go_wp2
                  go_roundw
                  case rel => exact ⟨j + 1, by omega, by go_num, HS3⟩
                  case measure => simp [intOf]; omega
            · have b2 : (k : Int) ≤ (j : Int) := by omega
              go_wp2
              go_roundw
              case rel => exact ⟨k + 1, by omega, by go_num, HS2⟩
              case measure => simp [intOf]; omega
        · have b1 : (l.length : Int) ≤ (k : Int) := by omega
          have OF := Lib.hid (O24.out.same HS.out.1)
          have BF := Lib.hid (B4.out.trans (HS.out.below w.heap.size))
          have ZF := Lib.hid (show w2.heap.size ≤ wr.heap.size by rw [HS.out.1]; exact hw24)
          clear HS
          go_wp2_with fail
          refine (implWos_any l _ wr OF ZF.out (by omega)).mono ?_
          rintro e w5 ⟨rfl, hb⟩
          have B5 := Lib.hid (BF.out.trans (hb.mono BF.out.size))
          rw [HV.out]
          clear hb
          go_wp2
          go_ret
          exact ⟨rfl, B5.out⟩

open Go.ChangeShapes Go.WideShapes Go.ChangeAt Go.RowKit
open Go.ChangeMaps (open_string shut_string)
set_option linter.unusedVariables false

theorem own : ownKnob Try.prog.godebug = none := by kernel_rfl
theorem laidOut : laidOutB Try.prog = true := by kernel_rfl

set_option maxRecDepth 100000 in
theorem lifted (os : Os) (started : os.Started) (H : Type) (enc : TypeId × Value → H) :
    ReturnsInHanded {} Try.checked os 6 .any (Rows.fnStackRowSpec.pre6 enc Try.prog Try.f6 Rows.fnStackRowRow.domain false) (Rows.fnStackRowSpec.post enc Try.prog Try.f6 false true false false) := by
  refine returnsInHanded_of_change_shaped (C := Try.checked) own started (by kernel_rfl) Try.func6
    (ChangeSpec.witness6 (enc := enc) (C := Try.checked) false ⟨#[], #[.slice none 0 0], []⟩ 8 (by kernel_rfl) (by kernel_rfl) (by kernel_rfl) (by kernel_rfl)) ?_
  intro W base args ds gs before hval0 hW hcnd hsz0 hsh _
  have hval : ∀ (j : Nat) t v, Try.f6.params[j]? = some t → args[j]? = some v → Value.okWide Try.prog W .any base t v := hval0
  have hW' := hW
  obtain ⟨p, q, hA0, hV, rfl, hfz, hnd⟩ := hW
  have hA : DataW.TrodAll enc Try.prog W 0 (fun _ => true) true Try.f6.params.toList args.toList ds p := hA0
  have hsz : (DataW.weightsEach Try.prog (Try.f6.params.toList ++ Rows.fnStackRowSpec.plain.varTypes Try.prog) (ds ++ gs)).all (· ≤ reachBytes) = true := hsz0
  rw [Try.params6] at hA hval hsz
  obtain ⟨v0, vs0, d0, ds0, p0, q0, hargs, rfl, rfl, h0, r0⟩ := trodAll_cons hA
  obtain ⟨rfl, rfl, rfl⟩ := trodAll_nil r0
  obtain rfl : args = #[v0] := by cases args; simp_all
  obtain ⟨rfl, rfl⟩ := trodVars_none hV
  obtain ⟨a0, len0, cap0, rfl⟩ := okWide_slice Try.underlying22 (hval 0 22 v0 rfl rfl)
  have k0 := h0
  have lt0 : ∀ x ∈ p0, x.block < W.heap.size := by obtain ⟨m, hm⟩ := k0; exact DataW.trod_lt m _ _ _ hm
  obtain ⟨z0, w0, hreach⟩ : ∃ zs, IsRow .u8 W a0 len0 cap0 zs ∧ cap0 * 1 ≤ 140737488351232 := by
    obtain ⟨fuel, hf⟩ := h0
    rcases open_ints Try.underlying22 Try.underlying5 (by kernel_rfl) hf with ⟨hcs, _⟩ | ⟨x, l, c, zs, hcs, _, hl, hm, hz, hx, hcell, hwz⟩
    · simp [Value.cells] at hcs
      obtain ⟨rfl, rfl, rfl⟩ := hcs
      exact ⟨[], .inl ⟨rfl, rfl, rfl, rfl⟩, by omega⟩
    · simp [Value.cells] at hcs
      obtain ⟨rfl, rfl, rfl⟩ := hcs
      refine ⟨zs, .inr ⟨_, rfl, hl, hm, by simpa using hz, hcell, hwz⟩, ?_⟩
      simp only [Prod.mk.injEq] at hx
      obtain ⟨hx1, hx2⟩ := hx
      rw [hx1] at hsz
      have hb := sized_slice hsz (j := 0) (t := 22) (e := 5) rfl rfl Try.underlying22
      have b8 : Try.prog.bytesOf 5 = 1 := by kernel_rfl
      rw [b8] at hb
      simp only [lits, List.length_map, List.length_take, List.length_drop, reachBytes] at hb
      simp only [if_true] at hz
      omega
  clear hA0 hval0
  refine (fnStackRow_walk a0 len0 cap0 z0 W w0 hreach).mono fun e W' ⟨he, bel⟩ => ?_
  subst he
  exact ⟨_, rfl, _, _, _, [], _, [], hW', trodAll_mk1 (shut_bool Try.underlying4 _), trodAll_mk1 (Below.trod laidOut (by kernel_rfl) (of_decide_eq_true (by kernel_rfl)) k0 bel lt0), rfl, bel.frame _, fun h => by cases h⟩

theorem over : Rows.fnStackRowRow.holds Try.pinned (OpenSpec.ofChange Rows.fnStackRowSpec) :=
  OpenClaim.holds_of_wide 6 Try.f6 rfl rfl rfl rfl rfl rfl rfl ⟨rfl, rfl, rfl, rfl, rfl⟩ rfl rfl rfl rfl rfl (by kernel_rfl) Try.func6 (by kernel_rfl)
    (of_decide_eq_true (by kernel_rfl)) (by unfold Func.isWrapper; first | (rw [if_pos (by decide +kernel)]; kernel_rfl) | (rw [if_neg (by decide +kernel)]; exact ⟨rfl, rfl⟩))
    (fun os started H enc _ => lifted os started H enc)

theorem proved : Rows.FnStackRowSaid := over
#print axioms proved
end Go.Proofs.Ytpphilladlladaa.fnStackRow
