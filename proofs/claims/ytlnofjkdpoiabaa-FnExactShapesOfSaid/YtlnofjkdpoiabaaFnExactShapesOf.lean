/-
  For every argument of FnExactShapesOf, whatever its value, the call returns true, leaves what it was handed as it was and changes no older memory. Conditions: none beside the row's own.
-/
import Derived.Test.YtlnofjkdpoiabaaRows
import Derived.Test.YtlnofjkdpoiabaaCShapeP
import Derived.Test.YtlnofjkdpoiabaaCShapeS
import Derived.Test.YtlnofjkdpoiabaaCTextsB
import Derived.WalkKit
import Derived.ProofKit
import Derived.OpenShut
import Derived.ShutString
import Derived.ChangeOld
import Derived.Below
import Derived.SizedLaws
import Derived.HandedShaped
namespace Go.Proofs.Ytlnofjkdpoiabaa.fnExactShapesOf
open Go.RowKit

set_option maxHeartbeats 800000 in
theorem fnExactShapesOf_walk (n : Int) (w : World) (hn : (Lit.int .i64 n).wf = true) :
    Calls Try.prog 3 #[.int .i64 n] w fun e w' => e = .returned (.bool true) ∧ Below w.heap.size w w' := by
  have hl := shapesW_length n
  obtain ⟨l, hle⟩ : ∃ l, l = shapesW n := ⟨_, rfl⟩
  have c1 := fun (w : World) => specShapes_any n w
  have c2 := fun (w : World) => implShapes_any n w hn
  rw [← hle] at hl
  simp only [← hle] at c1 c2
  have C1 := Lib.hid c1
  have C2 := Lib.hid c2
  clear c1 c2 hle
  go_enter Try.func3, Try.ntmps3
  go_wp2_with fail
  refine (C1.out _).mono ?_
  rintro e w1 ⟨v0, rfl, o0, b0⟩
  go_wp2_with fail
  refine (C2.out _).mono ?_
  rintro e w2 ⟨v1, rfl, o1, b1⟩
  have O0 := Lib.hid (o0.below b1)
  have O1 := Lib.hid o1
  have hne : v0.ownBlock = none ∨ v0.ownBlock ≠ v1.ownBlock := by
    cases h0 : v0.ownBlock with
    | none => exact .inl rfl
    | some g =>
      right
      intro e
      have h2 := o0.2 g h0
      have h3 := (o1.1.lt g e.symm).1
      omega
  have B2 := Lib.hid (b0.trans (b1.mono b0.size))
  have z0 := b0.size
  have z1 := b1.size
  clear o0 o1 b0 b1
  go_wp2_with fail
  refine (eqTexts_yes l v1 v0 w2 O1 O0 (by omega)).mono ?_
  rintro e w3 ⟨rfl, s3⟩
  have O0' := Lib.hid (O0.out.same s3.1)
  have O1' := Lib.hid (O1.out.same s3.1)
  have B3 := Lib.hid (B2.out.trans (s3.below w.heap.size))
  have z3 : w3.heap.size = w2.heap.size := by rw [s3.1]
  have z3' : w2.heap.size ≤ w3.heap.size := by omega
  have Z3 := Lib.hid z3
  clear s3 z3
  go_wp2_with fail
  refine (markTexts_any (sv l) v1 w3 O1' z3' (by rw [sv_length]; omega)).mono ?_
  rintro e w4 ⟨rfl, o4, g4⟩
  rw [sv_length] at o4 ⊢
  have O4 := Lib.hid o4
  have O04 := Lib.hid (O0'.out.grown g4 hne)
  have B4 : Hid (Below w.heap.size w w4) := B3.out.grown g4 (by omega) (fun q hq => by
    have := (O1'.out.1.lt q hq).1; omega)
  have z4 := g4.size
  have z24 : w2.heap.size ≤ w4.heap.size := by omega
  clear o4 g4
  go_wp2_with fail
  refine (heldTexts_any l.length v1 w4 O4 z24 (by omega)).mono ?_
  rintro e w5 ⟨rfl, b5⟩
  have O5 := Lib.hid (O4.out.below (b5.mono z24))
  have O05 := Lib.hid (O04.out.below (b5.mono (by omega)))
  have B5 := Lib.hid (B4.out.trans (b5.mono (by omega)))
  have z5 := b5.size
  clear b5
  go_wp2_with fail
  refine (C2.out _).mono ?_
  rintro e w6 ⟨v6, rfl, o6, b6⟩
  have O6 := Lib.hid o6
  have O06 := Lib.hid ((O05.out.more (by omega : w1.heap.size ≤ w5.heap.size)).below b6)
  have O16 := Lib.hid ((O5.out.more (by omega : w2.heap.size ≤ w5.heap.size)).below b6)
  have B6 := Lib.hid (B5.out.trans (b6.mono (by omega)))
  have z6 := b6.size
  clear o6 b6
  go_wp2_with fail
  refine (eqTexts_yes l v6 v0 w6 O6 O06 (by omega)).mono ?_
  rintro e w7 ⟨rfl, s7⟩
  have O17 := Lib.hid (O16.out.same s7.1)
  have B7 := Lib.hid (B6.out.trans (s7.below w.heap.size))
  have z7 : w6.heap.size ≤ w7.heap.size := by rw [s7.1]; exact Nat.le_refl _
  clear s7
  go_wp2_with fail
  refine (heldTexts_any l.length v1 w7 O17 (by omega) (by omega)).mono ?_
  rintro e w8 ⟨rfl, b8⟩
  have B8 := Lib.hid (B7.out.trans (b8.mono (by omega)))
  clear b8
  go_wp2
  go_ret
  exact ⟨rfl, B8.out⟩

open Go.ChangeShapes Go.WideShapes Go.ChangeAt Go.RowKit
open Go.ChangeMaps (open_string shut_string)
set_option linter.unusedVariables false

theorem own : ownKnob Try.prog.godebug = none := by kernel_rfl
theorem laidOut : laidOutB Try.prog = true := by kernel_rfl

set_option maxRecDepth 100000 in
theorem lifted (os : Os) (started : os.Started) (H : Type) (enc : TypeId × Value → H) :
    ReturnsInHanded {} Try.checked os 3 .any (Rows.fnExactShapesOfSpec.pre6 enc Try.prog Try.f3 Rows.fnExactShapesOfRow.domain false) (Rows.fnExactShapesOfSpec.post enc Try.prog Try.f3 false true false false) := by
  refine returnsInHanded_of_change_shaped (C := Try.checked) own started (by kernel_rfl) Try.func3
    (ChangeSpec.witness6 (enc := enc) (C := Try.checked) false ⟨#[], #[.int .i64 0], []⟩ 8 (by kernel_rfl) (by kernel_rfl) (by kernel_rfl) (by kernel_rfl)) ?_
  intro W base args ds gs before hval0 hW hcnd hsz0 hsh _
  have hval : ∀ (j : Nat) t v, Try.f3.params[j]? = some t → args[j]? = some v → Value.okWide Try.prog W .any base t v := hval0
  have hW' := hW
  obtain ⟨p, q, hA0, hV, rfl, hfz, hnd⟩ := hW
  have hA : DataW.TrodAll enc Try.prog W 0 (fun _ => true) true Try.f3.params.toList args.toList ds p := hA0
  have hsz : (DataW.weightsEach Try.prog (Try.f3.params.toList ++ Rows.fnExactShapesOfSpec.plain.varTypes Try.prog) (ds ++ gs)).all (· ≤ reachBytes) = true := hsz0
  rw [Try.params3] at hA hval hsz
  obtain ⟨v0, vs0, d0, ds0, p0, q0, hargs, rfl, rfl, h0, r0⟩ := trodAll_cons hA
  obtain ⟨rfl, rfl, rfl⟩ := trodAll_nil r0
  obtain rfl : args = #[v0] := by cases args; simp_all
  obtain ⟨rfl, rfl⟩ := trodVars_none hV
  obtain ⟨a0, rfl, rfl, rfl, w0⟩ := open_int Try.underlying3 (hval 0 3 v0 rfl rfl) h0
  clear hA0 hval0
  refine (fnExactShapesOf_walk a0 W w0).mono fun e W' ⟨he, bel⟩ => ?_
  subst he
  exact ⟨_, rfl, _, _, _, [], _, [], hW', trodAll_mk1 (shut_bool Try.underlying4 _), trodAll_mk1 (shut_int Try.underlying3 w0), rfl, bel.frame _, fun h => by cases h⟩

theorem over : Rows.fnExactShapesOfRow.holds Try.pinned (OpenSpec.ofChange Rows.fnExactShapesOfSpec) :=
  OpenClaim.holds_of_wide 3 Try.f3 rfl rfl rfl rfl rfl rfl rfl ⟨rfl, rfl, rfl, rfl, rfl⟩ rfl rfl rfl rfl rfl (by kernel_rfl) Try.func3 (by kernel_rfl)
    (of_decide_eq_true (by kernel_rfl)) (by unfold Func.isWrapper; first | (rw [if_pos (by decide +kernel)]; kernel_rfl) | (rw [if_neg (by decide +kernel)]; exact ⟨rfl, rfl⟩))
    (fun os started H enc _ => lifted os started H enc)

theorem proved : Rows.FnExactShapesOfSaid := over
#print axioms proved
end Go.Proofs.Ytlnofjkdpoiabaa.fnExactShapesOf
