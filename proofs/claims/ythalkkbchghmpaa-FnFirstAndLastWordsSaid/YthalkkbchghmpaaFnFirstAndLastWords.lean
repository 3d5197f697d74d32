/-
  For every argument of FnFirstAndLastWords, whatever its value, the call returns true, leaves what it was handed as it was and changes no older memory. Conditions: none beside the row's own.
-/
import Derived.Test.YthalkkbchghmpaaRows
import Derived.Test.YthalkkbchghmpaaCDrawH
import Derived.Test.YthalkkbchghmpaaCAt
import Derived.Test.YthalkkbchghmpaaCCountB
import Derived.Test.YthalkkbchghmpaaCTextsC
import Derived.Test.YthalkkbchghmpaaWFactsK
import Derived.Test.YthalkkbchghmpaaWRow
import Derived.WalkKit
import Derived.ProofKit
import Derived.OpenShut
import Derived.ShutString
import Derived.ChangeOld
import Derived.Below
import Derived.SizedLaws
import Derived.HandedShaped
namespace Go.Proofs.Ythalkkbchghmpaa.fnFirstAndLastWords
open Go.RowKit

theorem times_tms (s : List UInt8) (n : Nat) : timesL s n = tms s n := by
  induction n with
  | zero => rfl
  | succ n ih => rw [timesL, tms, ih]
theorem atV_two (n r : Int) : ∃ x b, atV n r = .tuple #[.string x, .bool b] := by
  unfold atV
  split <;> exact ⟨_, _, rfl⟩
set_option maxHeartbeats 1600000 in
theorem fnFirstAndLastWords_walk (a : Option Addr) (len cap : Nat) (zs : List Int) (w : World) (hr0 : IsRow .u8 w a len cap zs) (_hreach : cap * 1 ≤ 140737488351232) :
    Calls Try.prog 10 #[.slice a len cap] w fun e w' => e = .returned (.bool true) ∧ Below w.heap.size w w' := by
  have hr := Lib.hid hr0
  clear hr0
  by_cases hbig : (1048576 : Int) < (len : Int)
  · go_enter Try.func10, Try.ntmps10
    go_wp2
    go_ret
    exact ⟨rfl, Below.refl _ _⟩
  · go_enter Try.func10, Try.ntmps10
    go_wp2_with fail
    refine (drawWordAt a len cap zs w hr (by omega)).mono ?_
    rintro e w1 ⟨x, y, hx, hy, rfl, hb⟩
    have B1 := Lib.hid hb
    clear hb hr
    have wy : (Lit.int .i64 y).wf = true := wf_small y (by omega)
    have c1 := fun w => implAt_any x y wy w
    have c2 := fun w => specAt_any x y wy w
    obtain ⟨g, b, hg⟩ := atV_two x y
    rw [hg] at c1 c2
    have C1 := Lib.hid c1
    have C2 := Lib.hid c2
    clear c1 c2 hg wy
    by_cases hv : 0 ≤ x ∧ x ≤ 9
    · obtain ⟨n, rfl⟩ : ∃ k : Nat, x = k := ⟨x.toNat, by omega⟩
      have hn9 : n ≤ 9 := by omega
      obtain ⟨f1, f2, f3⟩ := ends_ok hn9
      have c3 := fun w => implCount_in n hn9 w
      rw [ee_catI n hn9] at c3
      have hbd := (ee_bd n hn9 0 (by omega)).2
      have h0 : atV n (0 : Nat) = .tuple #[.string ⟨(wat (2 * n) 0 0 n).toArray⟩, .bool true] := by
        rw [atV, if_pos (by simp; omega)]; simp only [Int.toNat_natCast]
      have h1 : atV n (ee n 0 - 1 : Nat) = .tuple #[.string ⟨(wat (2 * n) (ee n 0 - 1) 0 n).toArray⟩, .bool true] := by
        rw [atV, if_pos (by simp; omega)]; simp only [Int.toNat_natCast]
      have c4 := fun w => implAt_any n (0 : Nat) (wf_small _ (by omega)) w
      have c5 := fun w => implAt_any n (ee n 0 - 1 : Nat) (wf_small _ (by omega)) w
      rw [h0] at c4
      rw [h1] at c5
      obtain ⟨F, hF⟩ : ∃ F, F = ByteArray.mk (wat (2 * n) 0 0 n).toArray := ⟨_, rfl⟩
      obtain ⟨G, hG⟩ : ∃ G, G = ByteArray.mk (wat (2 * n) (ee n 0 - 1) 0 n).toArray := ⟨_, rfl⟩
      rw [← hF] at c4
      rw [← hG] at c5
      obtain ⟨X, hX⟩ : ∃ X, X = ee n 0 := ⟨_, rfl⟩
      rw [← hX] at c3 c5 f3 hbd
      rw [show ((X - 1 : Nat) : Int) = (X : Int) - 1 by omega] at c5
      have c6 := fun w => times_any ⟨#[40]⟩ n (by omega) (by decide) w
      have c7 := fun w => times_any ⟨#[41]⟩ n (by omega) (by decide) w
      have c8 := fun w => times_any ⟨#[40, 41]⟩ n (by omega) (by decide) w
      have l6 : (timesL (ByteArray.mk #[40]).data.toList n).length = n := by rw [timesL_length]; simp
      have l7 : (timesL (ByteArray.mk #[41]).data.toList n).length = n := by rw [timesL_length]; simp
      have hFe : F = ByteArray.mk (timesL (ByteArray.mk #[40]).data.toList n).toArray ++ ByteArray.mk (timesL (ByteArray.mk #[41]).data.toList n).toArray := bytes_ext (by
        rw [hF, toList_append, f1, times_tms, times_tms])
      have hGe : G = ByteArray.mk (timesL (ByteArray.mk #[40, 41]).data.toList n).toArray := bytes_ext (by rw [hG, f2, times_tms])
      obtain ⟨P, hP⟩ : ∃ P, P = ByteArray.mk (timesL (ByteArray.mk #[40]).data.toList n).toArray := ⟨_, rfl⟩
      obtain ⟨Q, hQ⟩ : ∃ Q, Q = ByteArray.mk (timesL (ByteArray.mk #[41]).data.toList n).toArray := ⟨_, rfl⟩
      have hPs : P.size = n := by rw [hP, ← size_list]; exact l6
      have hQs : Q.size = n := by rw [hQ, ← size_list]; exact l7
      rw [← hP] at c6 hFe
      rw [← hQ] at c7 hFe
      rw [← hGe] at c8
      rw [hFe] at c4
      have z1 : P.size + Q.size ≤ 9223372036854775807 := by omega
      have q1 : (0 : Int) ≤ (X : Int) := by omega
      have q2 : -1 ≤ y := hy.1
      have C3 := Lib.hid c3
      have C4 := Lib.hid c4
      have C5 := Lib.hid c5
      have C6 := Lib.hid c6
      have C7 := Lib.hid c7
      have C8 := Lib.hid c8
      clear c3 c4 c5 c6 c7 c8 hFe hGe hPs hQs hP hQ l6 l7 hF hG hX h0 h1 f1 f2 hv hx
      go_wp2_with fail
      refine (C1.out _).mono ?_
      rintro e w2 ⟨rfl, hb⟩
      have B2 := Lib.hid (B1.out.trans (hb.mono B1.out.size))
      clear hb
      go_wp2_with fail
      refine (C2.out _).mono ?_
      rintro e w3 ⟨rfl, hb⟩
      have B3 := Lib.hid (B2.out.trans (hb.mono B2.out.size))
      clear hb
      go_wp2_with fail
      refine (C3.out _).mono ?_
      rintro e w4 ⟨rfl, hb⟩
      have B4 := Lib.hid (B3.out.trans (hb.mono B3.out.size))
      clear hb
      go_wp2_with fail
      refine (C4.out _).mono ?_
      rintro e w5 ⟨rfl, hb⟩
      have B5 := Lib.hid (B4.out.trans (hb.mono B4.out.size))
      clear hb
      go_wp2_with fail
      refine (C5.out _).mono ?_
      rintro e w6 ⟨rfl, hb⟩
      have B6 := Lib.hid (B5.out.trans (hb.mono B5.out.size))
      clear hb
      go_wp2_with fail
      refine (C6.out _).mono ?_
      rintro e w7 ⟨rfl, rfl⟩
      go_wp2_with fail
      refine (C7.out _).mono ?_
      rintro e w8 ⟨rfl, rfl⟩
      go_wp2_with fail
      refine (C8.out _).mono ?_
      rintro e w9 ⟨rfl, rfl⟩
      go_wp2
      go_ret
      exact ⟨by first | rfl | simp, B6.out⟩
    · have c3 := fun w => implCount_any x w
      have e3 : catOut x = -1 := by unfold catOut; rw [if_neg hv]
      rw [e3] at c3
      have C3 := Lib.hid c3
      clear c3 e3 hv hx hy
      go_wp2_with fail
      refine (C1.out _).mono ?_
      rintro e w2 ⟨rfl, hb⟩
      have B2 := Lib.hid (B1.out.trans (hb.mono B1.out.size))
      clear hb
      go_wp2_with fail
      refine (C2.out _).mono ?_
      rintro e w3 ⟨rfl, hb⟩
      have B3 := Lib.hid (B2.out.trans (hb.mono B2.out.size))
      clear hb
      go_wp2_with fail
      refine (C3.out _).mono ?_
      rintro e w4 ⟨rfl, hb⟩
      have B4 := Lib.hid (B3.out.trans (hb.mono B3.out.size))
      clear hb
      go_wp2
      go_ret
      exact ⟨by first | rfl | simp, B4.out⟩

open Go.ChangeShapes Go.WideShapes Go.ChangeAt Go.RowKit
open Go.ChangeMaps (open_string shut_string)
set_option linter.unusedVariables false

theorem own : ownKnob Try.prog.godebug = none := by kernel_rfl
theorem laidOut : laidOutB Try.prog = true := by kernel_rfl

set_option maxRecDepth 100000 in
theorem lifted (os : Os) (started : os.Started) (H : Type) (enc : TypeId × Value → H) :
    ReturnsInHanded {} Try.checked os 10 .any (Rows.fnFirstAndLastWordsSpec.pre6 enc Try.prog Try.f10 Rows.fnFirstAndLastWordsRow.domain false) (Rows.fnFirstAndLastWordsSpec.post enc Try.prog Try.f10 false true false false) := by
  refine returnsInHanded_of_change_shaped (C := Try.checked) own started (by kernel_rfl) Try.func10
    (ChangeSpec.witness6 (enc := enc) (C := Try.checked) false ⟨#[], #[.slice none 0 0], []⟩ 8 (by kernel_rfl) (by kernel_rfl) (by kernel_rfl) (by kernel_rfl)) ?_
  intro W base args ds gs before hval0 hW hcnd hsz0 hsh _
  have hval : ∀ (j : Nat) t v, Try.f10.params[j]? = some t → args[j]? = some v → Value.okWide Try.prog W .any base t v := hval0
  have hW' := hW
  obtain ⟨p, q, hA0, hV, rfl, hfz, hnd⟩ := hW
  have hA : DataW.TrodAll enc Try.prog W 0 (fun _ => true) true Try.f10.params.toList args.toList ds p := hA0
  have hsz : (DataW.weightsEach Try.prog (Try.f10.params.toList ++ Rows.fnFirstAndLastWordsSpec.plain.varTypes Try.prog) (ds ++ gs)).all (· ≤ reachBytes) = true := hsz0
  rw [Try.params10] at hA hval hsz
  obtain ⟨v0, vs0, d0, ds0, p0, q0, hargs, rfl, rfl, h0, r0⟩ := trodAll_cons hA
  obtain ⟨rfl, rfl, rfl⟩ := trodAll_nil r0
  obtain rfl : args = #[v0] := by cases args; simp_all
  obtain ⟨rfl, rfl⟩ := trodVars_none hV
  obtain ⟨a0, len0, cap0, rfl⟩ := okWide_slice Try.underlying22 (hval 0 22 v0 rfl rfl)
  have k0 := h0
  have lt0 : ∀ x ∈ p0, x.block < W.heap.size := by obtain ⟨m, hm⟩ := k0; exact DataW.trod_lt m _ _ _ hm
  obtain ⟨z0, w0, hreach⟩ : ∃ zs, IsRow .u8 W a0 len0 cap0 zs ∧ cap0 * 1 ≤ 140737488351232 := by
    obtain ⟨fuel, hf⟩ := h0
    rcases open_ints Try.underlying22 Try.underlying5 (by kernel_rfl) hf with ⟨hcs, _⟩ | ⟨x, l, c, zs, hcs, _, hl, hm, hz, hx, hcell, hwz⟩
    · simp [Value.cells] at hcs
      obtain ⟨rfl, rfl, rfl⟩ := hcs
      exact ⟨[], .inl ⟨rfl, rfl, rfl, rfl⟩, by omega⟩
    · simp [Value.cells] at hcs
      obtain ⟨rfl, rfl, rfl⟩ := hcs
      refine ⟨zs, .inr ⟨_, rfl, hl, hm, by simpa using hz, hcell, hwz⟩, ?_⟩
      simp only [Prod.mk.injEq] at hx
      obtain ⟨hx1, hx2⟩ := hx
      rw [hx1] at hsz
      have hb := sized_slice hsz (j := 0) (t := 22) (e := 5) rfl rfl Try.underlying22
      have b8 : Try.prog.bytesOf 5 = 1 := by kernel_rfl
      rw [b8] at hb
      simp only [lits, List.length_map, List.length_take, List.length_drop, reachBytes] at hb
      simp only [if_true] at hz
      omega
  clear hA0 hval0
  refine (fnFirstAndLastWords_walk a0 len0 cap0 z0 W w0 hreach).mono fun e W' ⟨he, bel⟩ => ?_
  subst he
  exact ⟨_, rfl, _, _, _, [], _, [], hW', trodAll_mk1 (shut_bool Try.underlying4 _), trodAll_mk1 (Below.trod laidOut (by kernel_rfl) (of_decide_eq_true (by kernel_rfl)) k0 bel lt0), rfl, bel.frame _, fun h => by cases h⟩

theorem over : Rows.fnFirstAndLastWordsRow.holds Try.pinned (OpenSpec.ofChange Rows.fnFirstAndLastWordsSpec) :=
  OpenClaim.holds_of_wide 10 Try.f10 rfl rfl rfl rfl rfl rfl rfl ⟨rfl, rfl, rfl, rfl, rfl⟩ rfl rfl rfl rfl rfl (by kernel_rfl) Try.func10 (by kernel_rfl)
    (of_decide_eq_true (by kernel_rfl)) (by unfold Func.isWrapper; first | (rw [if_pos (by decide +kernel)]; kernel_rfl) | (rw [if_neg (by decide +kernel)]; exact ⟨rfl, rfl⟩))
    (fun os started H enc _ => lifted os started H enc)

theorem proved : Rows.FnFirstAndLastWordsSaid := over
#print axioms proved
end Go.Proofs.Ythalkkbchghmpaa.fnFirstAndLastWords
