/-
  For every argument of FnEndsOf, whatever its value, the call returns true, leaves what it was handed as it was and changes no older memory. Conditions: none beside the row's own.
-/
import Derived.Test.YthalkkbchghmpaaRows
import Derived.Test.YthalkkbchghmpaaCDrawH
import Derived.Test.YthalkkbchghmpaaCEnds
import Derived.Test.YthalkkbchghmpaaCCountB
import Derived.Test.YthalkkbchghmpaaCAt
import Derived.Test.YthalkkbchghmpaaWRow
import Derived.WalkKit
import Derived.ProofKit
import Derived.OpenShut
import Derived.ShutString
import Derived.ChangeOld
import Derived.Below
import Derived.SizedLaws
import Derived.HandedShaped
namespace Go.Proofs.Ythalkkbchghmpaa.fnEndsOf
open Go.RowKit

set_option maxHeartbeats 1600000 in
theorem fnEndsOf_walk (a : Option Addr) (len cap : Nat) (zs : List Int) (w : World) (hr0 : IsRow .u8 w a len cap zs) (_hreach : cap * 1 ≤ 140737488351232) :
    Calls Try.prog 4 #[.slice a len cap] w fun e w' => e = .returned (.bool true) ∧ Below w.heap.size w w' := by
  have hr := Lib.hid hr0
  clear hr0
  by_cases hbig : (1048576 : Int) < (len : Int)
  · go_enter Try.func4, Try.ntmps4
    go_wp2
    go_ret
    exact ⟨rfl, Below.refl _ _⟩
  · go_enter Try.func4, Try.ntmps4
    go_wp2_with fail
    refine (drawEndsOf a len cap zs w hr (by omega)).mono ?_
    rintro e w1 ⟨x, y, hx, hy, rfl, hb⟩
    have B1 := Lib.hid hb
    have wx : (Lit.int .i64 x).wf = true := wf_small x (by omega)
    have wy : (Lit.int .i64 y).wf = true := wf_small y (by omega)
    clear hb hr
    by_cases hv : 0 ≤ x ∧ 0 ≤ y ∧ x + y ≤ 9
    · obtain ⟨o, rfl⟩ : ∃ k : Nat, x = k := ⟨x.toNat, by omega⟩
      obtain ⟨l, rfl⟩ : ∃ k : Nat, y = k := ⟨y.toNat, by omega⟩
      have h9 : o + l ≤ 9 := by omega
      have c1 : ∀ w, Calls Try.prog 21 #[.int .i64 o, .int .i64 l] w fun e w' => e = .returned (.int .i64 (ee l o : Nat)) ∧ Below w.heap.size w w' := fun w => implEnds_in o l h9 w
      have c2 : ∀ w, Calls Try.prog 22 #[.int .i64 o, .int .i64 l] w fun e w' => e = .returned (.int .i64 (ee l o : Nat)) ∧ w = w' := fun w => by rw [← endsOut_in o l h9]; exact specEnds_any o l wx wy w
      have yb := ee_bd l (by omega) o (by omega)
      clear hx hy wx wy hv
      by_cases hl : 0 < l
      · have q0 : ((l : Int) == 0) = false := beq_false_of_ne (by omega)
        have c3 : ∀ w, Calls Try.prog 21 #[.int .i64 ((o : Int) + 1), .int .i64 ((l : Int) - 1)] w fun e w' => e = .returned (.int .i64 (ee (l - 1) (o + 1) : Nat)) ∧ Below w.heap.size w w' := fun w => by
          rw [show ((o : Int) + 1) = ((o + 1 : Nat) : Int) by omega, show ((l : Int) - 1) = ((l - 1 : Nat) : Int) by omega]; exact implEnds_in (o + 1) (l - 1) (by omega) w
        by_cases ho : 0 < o
        · have hst := ee_step l o hl ho
          have c4 : ∀ w, Calls Try.prog 21 #[.int .i64 ((o : Int) - 1), .int .i64 (l : Int)] w fun e w' => e = .returned (.int .i64 (ee l (o - 1) : Nat)) ∧ Below w.heap.size w w' := fun w => by
            rw [show ((o : Int) - 1) = ((o - 1 : Nat) : Int) by omega]; exact implEnds_in (o - 1) l (by omega) w
          rw [hst] at c1 c2 yb
          obtain ⟨X, hX⟩ : ∃ X, X = ee (l - 1) (o + 1) := ⟨_, rfl⟩
          obtain ⟨Y, hY⟩ : ∃ Y, Y = ee l (o - 1) := ⟨_, rfl⟩
          rw [← hX] at yb
          rw [← hY] at yb
          simp only [← hX] at c1 c2 c3
          simp only [← hY] at c1 c2 c4
          have C1 := Lib.hid c1
          have C2 := Lib.hid c2
          have C3 := Lib.hid c3
          have C4 := Lib.hid c4
          have q1 : (0 : Int) < (o : Int) := by omega
          have q2 : (0 : Int) ≤ (X : Int) + (Y : Int) := by omega
          clear c1 c2 c3 c4 hst hX hY
          go_wp2_with fail
          refine (C1.out _).mono ?_
          rintro e w2 ⟨rfl, hb⟩
          have B2 := Lib.hid (B1.out.trans (hb.mono B1.out.size))
          clear hb
          go_wp2_with fail
          refine (C2.out _).mono ?_
          rintro e w3 ⟨rfl, rfl⟩
          go_wp2_with fail
          refine (C3.out _).mono ?_
          rintro e w4 ⟨rfl, hb⟩
          have B4 := Lib.hid (B2.out.trans (hb.mono B2.out.size))
          clear hb
          go_wp2_with fail
          refine (C4.out _).mono ?_
          rintro e w5 ⟨rfl, hb⟩
          have B5 := Lib.hid (B4.out.trans (hb.mono B4.out.size))
          clear hb
          go_wp2
          go_ret
          exact ⟨rfl, B5.out⟩
        · obtain rfl : o = 0 := by omega
          have hst := ee_open l hl
          have hcat := ee_catI l (by omega)
          have c4 := fun w => implCount_in l (by omega) w
          rw [hcat] at c4
          rw [hst] at c1 c2 c4 yb
          obtain ⟨X, hX⟩ : ∃ X, X = ee (l - 1) 1 := ⟨_, rfl⟩
          rw [← hX] at yb
          simp only [← hX] at c1 c2 c4
          simp only [Nat.zero_add, ← hX] at c3
          have C1 := Lib.hid c1
          have C2 := Lib.hid c2
          have C3 := Lib.hid c3
          have C4 := Lib.hid c4
          clear c1 c2 c3 c4 hst hX hcat
          go_wp2_with fail
          refine (C1.out _).mono ?_
          rintro e w2 ⟨rfl, hb⟩
          have B2 := Lib.hid (B1.out.trans (hb.mono B1.out.size))
          clear hb
          go_wp2_with fail
          refine (C2.out _).mono ?_
          rintro e w3 ⟨rfl, rfl⟩
          go_wp2_with fail
          refine (C3.out _).mono ?_
          rintro e w4 ⟨rfl, hb⟩
          have B4 := Lib.hid (B2.out.trans (hb.mono B2.out.size))
          clear hb
          go_wp2_with fail
          refine (C4.out _).mono ?_
          rintro e w5 ⟨rfl, hb⟩
          have B5 := Lib.hid (B4.out.trans (hb.mono B4.out.size))
          clear hb
          go_wp2
          go_ret
          exact ⟨rfl, B5.out⟩
      · obtain rfl : l = 0 := by omega
        have C1 := Lib.hid c1
        have C2 := Lib.hid c2
        clear c1 c2 yb
        go_wp2_with fail
        refine (C1.out _).mono ?_
        rintro e w2 ⟨rfl, hb⟩
        have B2 := Lib.hid (B1.out.trans (hb.mono B1.out.size))
        clear hb
        go_wp2_with fail
        refine (C2.out _).mono ?_
        rintro e w3 ⟨rfl, rfl⟩
        go_wp2
        go_ret
        exact ⟨rfl, B2.out⟩
    · have e1 : endsOut x y = -1 := by unfold endsOut; rw [if_neg hv]
      have c1 := fun w => implEnds_any x y wx wy w
      have c2 := fun w => specEnds_any x y wx wy w
      rw [e1] at c1 c2
      have C1 := Lib.hid c1
      have C2 := Lib.hid c2
      clear c1 c2 e1 hv wx wy hx hy
      go_wp2_with fail
      refine (C1.out _).mono ?_
      rintro e w2 ⟨rfl, hb⟩
      have B2 := Lib.hid (B1.out.trans (hb.mono B1.out.size))
      clear hb
      go_wp2_with fail
      refine (C2.out _).mono ?_
      rintro e w3 ⟨rfl, rfl⟩
      go_wp2_with fail
      refine (C2.out _).mono ?_
      rintro e w4 ⟨rfl, rfl⟩
      go_wp2
      go_ret
      exact ⟨rfl, B2.out⟩

open Go.ChangeShapes Go.WideShapes Go.ChangeAt Go.RowKit
open Go.ChangeMaps (open_string shut_string)
set_option linter.unusedVariables false

theorem own : ownKnob Try.prog.godebug = none := by kernel_rfl
theorem laidOut : laidOutB Try.prog = true := by kernel_rfl

set_option maxRecDepth 100000 in
theorem lifted (os : Os) (started : os.Started) (H : Type) (enc : TypeId × Value → H) :
    ReturnsInHanded {} Try.checked os 4 .any (Rows.fnEndsOfSpec.pre6 enc Try.prog Try.f4 Rows.fnEndsOfRow.domain false) (Rows.fnEndsOfSpec.post enc Try.prog Try.f4 false true false false) := by
  refine returnsInHanded_of_change_shaped (C := Try.checked) own started (by kernel_rfl) Try.func4
    (ChangeSpec.witness6 (enc := enc) (C := Try.checked) false ⟨#[], #[.slice none 0 0], []⟩ 8 (by kernel_rfl) (by kernel_rfl) (by kernel_rfl) (by kernel_rfl)) ?_
  intro W base args ds gs before hval0 hW hcnd hsz0 hsh _
  have hval : ∀ (j : Nat) t v, Try.f4.params[j]? = some t → args[j]? = some v → Value.okWide Try.prog W .any base t v := hval0
  have hW' := hW
  obtain ⟨p, q, hA0, hV, rfl, hfz, hnd⟩ := hW
  have hA : DataW.TrodAll enc Try.prog W 0 (fun _ => true) true Try.f4.params.toList args.toList ds p := hA0
  have hsz : (DataW.weightsEach Try.prog (Try.f4.params.toList ++ Rows.fnEndsOfSpec.plain.varTypes Try.prog) (ds ++ gs)).all (· ≤ reachBytes) = true := hsz0
  rw [Try.params4] at hA hval hsz
  obtain ⟨v0, vs0, d0, ds0, p0, q0, hargs, rfl, rfl, h0, r0⟩ := trodAll_cons hA
  obtain ⟨rfl, rfl, rfl⟩ := trodAll_nil r0
  obtain rfl : args = #[v0] := by cases args; simp_all
  obtain ⟨rfl, rfl⟩ := trodVars_none hV
  obtain ⟨a0, len0, cap0, rfl⟩ := okWide_slice Try.underlying22 (hval 0 22 v0 rfl rfl)
  have k0 := h0
  have lt0 : ∀ x ∈ p0, x.block < W.heap.size := by obtain ⟨m, hm⟩ := k0; exact DataW.trod_lt m _ _ _ hm
  obtain ⟨z0, w0, hreach⟩ : ∃ zs, IsRow .u8 W a0 len0 cap0 zs ∧ cap0 * 1 ≤ 140737488351232 := by
    obtain ⟨fuel, hf⟩ := h0
    rcases open_ints Try.underlying22 Try.underlying5 (by kernel_rfl) hf with ⟨hcs, _⟩ | ⟨x, l, c, zs, hcs, _, hl, hm, hz, hx, hcell, hwz⟩
    · simp [Value.cells] at hcs
      obtain ⟨rfl, rfl, rfl⟩ := hcs
      exact ⟨[], .inl ⟨rfl, rfl, rfl, rfl⟩, by omega⟩
    · simp [Value.cells] at hcs
      obtain ⟨rfl, rfl, rfl⟩ := hcs
      refine ⟨zs, .inr ⟨_, rfl, hl, hm, by simpa using hz, hcell, hwz⟩, ?_⟩
      simp only [Prod.mk.injEq] at hx
      obtain ⟨hx1, hx2⟩ := hx
      rw [hx1] at hsz
      have hb := sized_slice hsz (j := 0) (t := 22) (e := 5) rfl rfl Try.underlying22
      have b8 : Try.prog.bytesOf 5 = 1 := by kernel_rfl
      rw [b8] at hb
      simp only [lits, List.length_map, List.length_take, List.length_drop, reachBytes] at hb
      simp only [if_true] at hz
      omega
  clear hA0 hval0
  refine (fnEndsOf_walk a0 len0 cap0 z0 W w0 hreach).mono fun e W' ⟨he, bel⟩ => ?_
  subst he
  exact ⟨_, rfl, _, _, _, [], _, [], hW', trodAll_mk1 (shut_bool Try.underlying4 _), trodAll_mk1 (Below.trod laidOut (by kernel_rfl) (of_decide_eq_true (by kernel_rfl)) k0 bel lt0), rfl, bel.frame _, fun h => by cases h⟩

theorem over : Rows.fnEndsOfRow.holds Try.pinned (OpenSpec.ofChange Rows.fnEndsOfSpec) :=
  OpenClaim.holds_of_wide 4 Try.f4 rfl rfl rfl rfl rfl rfl rfl ⟨rfl, rfl, rfl, rfl, rfl⟩ rfl rfl rfl rfl rfl (by kernel_rfl) Try.func4 (by kernel_rfl)
    (of_decide_eq_true (by kernel_rfl)) (by unfold Func.isWrapper; first | (rw [if_pos (by decide +kernel)]; kernel_rfl) | (rw [if_neg (by decide +kernel)]; exact ⟨rfl, rfl⟩))
    (fun os started H enc _ => lifted os started H enc)

theorem proved : Rows.FnEndsOfSaid := over
#print axioms proved
end Go.Proofs.Ythalkkbchghmpaa.fnEndsOf
