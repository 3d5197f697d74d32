/-
  For every argument of FnExactStackRow, whatever its value, the call returns true, leaves what it was handed as it was and changes no older memory. Conditions: none beside the row's own.
-/
import Derived.Test.YtpphilladlladabRows
import Derived.Test.YtpphilladlladabCExRows
import Derived.WalkKit
import Derived.ProofKit
import Derived.OpenShut
import Derived.ShutString
import Derived.ChangeOld
import Derived.Below
import Derived.SizedLaws
import Derived.HandedShaped
namespace Go.Proofs.Ytpphilladlladab.fnExactStackRow
open Go.RowKit

set_option maxHeartbeats 800000 in
theorem fnExactStackRow_walk (s : ByteArray) (w : World) (hs : s.size ≤ maxLen) :
    Calls Try.prog 6 #[.string s] w fun e w' => e = .returned (.bool true) ∧ Below w.heap.size w w' := by
  by_cases hbig : (1048576 : Int) < (s.size : Int)
  · go_enter Try.func6, Try.ntmps6
    go_wp2
    go_ret
    exact ⟨rfl, Below.refl _ _⟩
  · have hl := stackOut_length s
    obtain ⟨l, hle⟩ : ∃ l, l = stackOut s.data.toList := ⟨_, rfl⟩
    have c1 := fun w => specStackRow_any s w hs
    have c2 := fun w => implStackRow_any s w hs
    rw [← hle] at hl
    simp only [← hle] at c1 c2
    have C1 := Lib.hid c1
    have C2 := Lib.hid c2
    clear c1 c2 hle
    go_enter Try.func6, Try.ntmps6
    go_wp2_with fail
    refine (C1.out _).mono ?_
    rintro e w1 ⟨v0, rfl, o0, b0⟩
    go_wp2_with fail
    refine (C2.out _).mono ?_
    rintro e w2 ⟨v1, rfl, o1, b1⟩
    have O0 := Lib.hid (o0.below b1)
    have O1 := Lib.hid o1
    have hne : v0.ownBlock = none ∨ v0.ownBlock ≠ v1.ownBlock := by
      cases h0 : v0.ownBlock with
      | none => exact .inl rfl
      | some g =>
        right
        intro e
        have h2 := o0.2 g h0
        have h3 := (o1.1.lt g e.symm).1
        omega
    have B2 := Lib.hid (b0.trans (b1.mono b0.size))
    have z0 := b0.size
    have z1 := b1.size
    clear o0 o1 b0 b1
    go_wp2_with fail
    refine (eqInts_yes l v1 v0 w2 O1 O0 (by omega)).mono ?_
    rintro e w3 ⟨rfl, s3⟩
    have O0' := Lib.hid (O0.out.same s3.1)
    have O1' := Lib.hid (O1.out.same s3.1)
    have B3 := Lib.hid (B2.out.trans (s3.below w.heap.size))
    have z3 : w3.heap.size = w2.heap.size := by rw [s3.1]
    have Z3 := Lib.hid z3
    clear s3 z3
    go_wp2_with fail
    refine (markInts_any l v1 w3 O1' (by omega)).mono ?_
    rintro e w4 ⟨rfl, o4, g4, z4⟩
    have O4 := Lib.hid o4
    have O04 := Lib.hid (O0'.out.grown g4 hne)
    have B4 : Hid (Below w.heap.size w w4) := B3.out.grown g4 (by rw [Z3.out]; omega) (fun q hq => by
      have := (O1'.out.1.lt q hq).1; omega)
    have Z4 := Lib.hid z4
    clear o4 g4 z4
    go_wp2_with fail
    refine (heldInts_any l.length v1 w4 O4 (by omega)).mono ?_
    rintro e w5 ⟨rfl, rfl⟩
    go_wp2_with fail
    refine (C2.out _).mono ?_
    rintro e w6 ⟨v6, rfl, o6, b6⟩
    have hz4 : w4.heap.size = w2.heap.size := by rw [Z4.out, Z3.out]
    have O6 := Lib.hid o6
    have O06 := Lib.hid ((O04.out.more (by omega : w1.heap.size ≤ w4.heap.size)).below b6)
    have O16 := Lib.hid ((O4.out.more (by omega : w2.heap.size ≤ w4.heap.size)).below b6)
    have B6 := Lib.hid (B4.out.trans (b6.mono (by omega)))
    clear o6 b6 hz4
    go_wp2_with fail
    refine (eqInts_yes l v6 v0 w6 O6 O06 (by omega)).mono ?_
    rintro e w7 ⟨rfl, s7⟩
    have O17 := Lib.hid (O16.out.same s7.1)
    have B7 := Lib.hid (B6.out.trans (s7.below w.heap.size))
    clear s7
    go_wp2_with fail
    refine (heldInts_any l.length v1 w7 O17 (by omega)).mono ?_
    rintro e w8 ⟨rfl, rfl⟩
    go_wp2
    go_ret
    exact ⟨rfl, B7.out⟩

open Go.ChangeShapes Go.WideShapes Go.ChangeAt Go.RowKit
open Go.ChangeMaps (open_string shut_string)
set_option linter.unusedVariables false

theorem own : ownKnob Try.prog.godebug = none := by kernel_rfl
theorem laidOut : laidOutB Try.prog = true := by kernel_rfl

set_option maxRecDepth 100000 in
theorem lifted (os : Os) (started : os.Started) (H : Type) (enc : TypeId × Value → H) :
    ReturnsInHanded {} Try.checked os 6 .any (Rows.fnExactStackRowSpec.pre6 enc Try.prog Try.f6 Rows.fnExactStackRowRow.domain false) (Rows.fnExactStackRowSpec.post enc Try.prog Try.f6 false true false false) := by
  refine returnsInHanded_of_change_shaped (C := Try.checked) own started (by kernel_rfl) Try.func6
    (ChangeSpec.witness6 (enc := enc) (C := Try.checked) false ⟨#[], #[.string ⟨#[]⟩], []⟩ 8 (by kernel_rfl) (by kernel_rfl) (by kernel_rfl) (by kernel_rfl)) ?_
  intro W base args ds gs before hval0 hW hcnd hsz0 hsh _
  have hval : ∀ (j : Nat) t v, Try.f6.params[j]? = some t → args[j]? = some v → Value.okWide Try.prog W .any base t v := hval0
  have hW' := hW
  obtain ⟨p, q, hA0, hV, rfl, hfz, hnd⟩ := hW
  have hA : DataW.TrodAll enc Try.prog W 0 (fun _ => true) true Try.f6.params.toList args.toList ds p := hA0
  have hsz : (DataW.weightsEach Try.prog (Try.f6.params.toList ++ Rows.fnExactStackRowSpec.plain.varTypes Try.prog) (ds ++ gs)).all (· ≤ reachBytes) = true := hsz0
  rw [Try.params6] at hA hval hsz
  obtain ⟨v0, vs0, d0, ds0, p0, q0, hargs, rfl, rfl, h0, r0⟩ := trodAll_cons hA
  obtain ⟨rfl, rfl, rfl⟩ := trodAll_nil r0
  obtain rfl : args = #[v0] := by cases args; simp_all
  obtain ⟨rfl, rfl⟩ := trodVars_none hV
  obtain ⟨s, rfl, rfl, rfl, ws⟩ := open_string Try.underlying9 (hval 0 9 v0 rfl rfl) h0
  clear hA0 hval0
  refine (fnExactStackRow_walk s W ws).mono fun e W' ⟨he, bel⟩ => ?_
  subst he
  exact ⟨_, rfl, _, _, _, [], _, [], hW', trodAll_mk1 (shut_bool Try.underlying4 _), trodAll_mk1 (shut_string Try.underlying9 ws), rfl, bel.frame _, fun h => by cases h⟩

theorem over : Rows.fnExactStackRowRow.holds Try.pinned (OpenSpec.ofChange Rows.fnExactStackRowSpec) :=
  OpenClaim.holds_of_wide 6 Try.f6 rfl rfl rfl rfl rfl rfl rfl ⟨rfl, rfl, rfl, rfl, rfl⟩ rfl rfl rfl rfl rfl (by kernel_rfl) Try.func6 (by kernel_rfl)
    (of_decide_eq_true (by kernel_rfl)) (by unfold Func.isWrapper; first | (rw [if_pos (by decide +kernel)]; kernel_rfl) | (rw [if_neg (by decide +kernel)]; exact ⟨rfl, rfl⟩))
    (fun os started H enc _ => lifted os started H enc)

theorem proved : Rows.FnExactStackRowSaid := over
#print axioms proved
end Go.Proofs.Ytpphilladlladab.fnExactStackRow
