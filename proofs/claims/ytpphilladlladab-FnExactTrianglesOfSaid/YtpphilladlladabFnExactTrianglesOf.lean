/-
  For every argument of FnExactTrianglesOf, whatever its value, the call returns true, leaves what it was handed as it was and changes no older memory. Conditions: none beside the row's own.
-/
import Derived.Test.YtpphilladlladabRows
import Derived.Test.YtpphilladlladabCExRows
import Derived.Test.YtpphilladlladabCRowsI
import Derived.WalkKit
import Derived.ProofKit
import Derived.OpenShut
import Derived.ShutString
import Derived.ChangeOld
import Derived.Below
import Derived.SizedLaws
import Derived.HandedShaped
namespace Go.Proofs.Ytpphilladlladab.fnExactTrianglesOf
open Go.RowKit

set_option maxHeartbeats 1600000 in
theorem fnExactTrianglesOf_walk (s : ByteArray) (w : World) (hs : s.size ≤ maxLen) :
    Calls Try.prog 8 #[.string s] w fun e w' => e = .returned (.bool true) ∧ Below w.heap.size w w' := by
  by_cases hbig : (1048576 : Int) < (s.size : Int)
  · go_enter Try.func8, Try.ntmps8
    go_wp2
    go_ret
    exact ⟨rfl, Below.refl _ _⟩
  · obtain ⟨hl, hr⟩ := fanOut_size s
    obtain ⟨l, hle⟩ : ∃ l, l = fanOut s.data.toList := ⟨_, rfl⟩
    have c1 := fun w => specTrianglesOf_any s w hs
    have c2 := fun w => implTrianglesOf_any s w hs
    rw [← hle] at hl hr
    simp only [← hle] at c1 c2
    have ho := offs_bound l hr l.length
    have HR := Lib.hid (show ∀ r ∈ l, r.length ≤ 1048576 from fun r h => Nat.le_trans (hr r h) (by decide))
    have C1 := Lib.hid c1
    have C2 := Lib.hid c2
    obtain ⟨N, hN⟩ : ∃ N, N = offs l l.length := ⟨_, rfl⟩
    have HN := Lib.hid hN
    rw [← hN] at ho
    clear c1 c2 hle hr hN
    go_enter Try.func8, Try.ntmps8
    go_wp2_with fail
    refine (C1.out _).mono ?_
    rintro e w1 ⟨v0, RV0, rfl, G0, b0⟩
    go_wp2_with fail
    refine (C2.out _).mono ?_
    rintro e w2 ⟨v1, RV1, rfl, G1, b1⟩
    have E0 := Lib.hid (G0.below b1)
    have HB := Lib.hid G1.bases
    have HD := Lib.hid G1.dist
    have E1 := Lib.hid G1.grid
    have B2 := Lib.hid (b0.trans (b1.mono b0.size))
    have z0 := b0.size
    have z1 := b1.size
    clear G0 G1 b0 b1
    go_wp2_with fail
    refine (eqRows_yes l v1 v0 w2 E1 E0 (by omega) HR.out).mono ?_
    rintro e w3 ⟨rfl, s3⟩
    have E0' := Lib.hid (E0.out.same s3.1)
    have E1' := Lib.hid (E1.out.same s3.1)
    have B3 := Lib.hid (B2.out.trans (s3.below w.heap.size))
    have z3 : w3.heap.size = w2.heap.size := by rw [s3.1]
    have Z3 := Lib.hid z3
    clear s3 z3
    go_wp2_with fail
    have hm := markRows_any 1 l v1 RV1 w3 E1' HD.out (by rw [← HN.out]; omega) (by omega) HR.out
    rw [← HN.out] at hm
    refine hm.mono ?_
    rintro e w4 ⟨rfl, g4, s4⟩
    have E4 := Lib.hid g4
    have E04 := Lib.hid (E0'.out.spots s4 HB.out)
    have B4 : Hid (Below w.heap.size w w4) := B3.out.trans (s4.below (by rw [Z3.out]; omega) (fun u hu q hq => by
      have := HB.out u hu q hq; omega))
    have hz4 : w4.heap.size = w2.heap.size := by rw [s4.4, Z3.out]
    have Z4 := Lib.hid hz4
    clear g4 s4 hz4 hm
    go_wp2_with fail
    have hh := heldRows_any 1 l v1 RV1 w4 E4 (by rw [← HN.out]; omega) (by omega) HR.out
    rw [← HN.out] at hh
    refine hh.mono ?_
    rintro e w5 ⟨rfl, rfl⟩
    clear hh
    go_wp2_with fail
    refine (C2.out _).mono ?_
    rintro e w6 ⟨v6, RV6, rfl, G6, b6⟩
    have hz4 := Z4.out
    have E6 := Lib.hid G6.grid
    have E06 := Lib.hid ((E04.out.more (by omega : w1.heap.size ≤ w4.heap.size)).below b6)
    have E16 := Lib.hid ((E4.out.more (by omega : w2.heap.size ≤ w4.heap.size)).below b6)
    have B6 := Lib.hid (B4.out.trans (b6.mono (by omega)))
    clear G6 b6 hz4
    go_wp2_with fail
    refine (eqRows_yes l v6 v0 w6 E6 E06 (by omega) HR.out).mono ?_
    rintro e w7 ⟨rfl, s7⟩
    have E17 := Lib.hid (E16.out.same s7.1)
    have B7 := Lib.hid (B6.out.trans (s7.below w.heap.size))
    clear s7
    go_wp2_with fail
    have hh := heldRows_any 1 l v1 RV1 w7 E17 (by rw [← HN.out]; omega) (by omega) HR.out
    rw [← HN.out] at hh
    refine hh.mono ?_
    rintro e w8 ⟨rfl, rfl⟩
    clear hh
    go_wp2
    go_ret
    exact ⟨rfl, B7.out⟩

open Go.ChangeShapes Go.WideShapes Go.ChangeAt Go.RowKit
open Go.ChangeMaps (open_string shut_string)
set_option linter.unusedVariables false

theorem own : ownKnob Try.prog.godebug = none := by kernel_rfl
theorem laidOut : laidOutB Try.prog = true := by kernel_rfl

set_option maxRecDepth 100000 in
theorem lifted (os : Os) (started : os.Started) (H : Type) (enc : TypeId × Value → H) :
    ReturnsInHanded {} Try.checked os 8 .any (Rows.fnExactTrianglesOfSpec.pre6 enc Try.prog Try.f8 Rows.fnExactTrianglesOfRow.domain false) (Rows.fnExactTrianglesOfSpec.post enc Try.prog Try.f8 false true false false) := by
  refine returnsInHanded_of_change_shaped (C := Try.checked) own started (by kernel_rfl) Try.func8
    (ChangeSpec.witness6 (enc := enc) (C := Try.checked) false ⟨#[], #[.string ⟨#[]⟩], []⟩ 8 (by kernel_rfl) (by kernel_rfl) (by kernel_rfl) (by kernel_rfl)) ?_
  intro W base args ds gs before hval0 hW hcnd hsz0 hsh _
  have hval : ∀ (j : Nat) t v, Try.f8.params[j]? = some t → args[j]? = some v → Value.okWide Try.prog W .any base t v := hval0
  have hW' := hW
  obtain ⟨p, q, hA0, hV, rfl, hfz, hnd⟩ := hW
  have hA : DataW.TrodAll enc Try.prog W 0 (fun _ => true) true Try.f8.params.toList args.toList ds p := hA0
  have hsz : (DataW.weightsEach Try.prog (Try.f8.params.toList ++ Rows.fnExactTrianglesOfSpec.plain.varTypes Try.prog) (ds ++ gs)).all (· ≤ reachBytes) = true := hsz0
  rw [Try.params8] at hA hval hsz
  obtain ⟨v0, vs0, d0, ds0, p0, q0, hargs, rfl, rfl, h0, r0⟩ := trodAll_cons hA
  obtain ⟨rfl, rfl, rfl⟩ := trodAll_nil r0
  obtain rfl : args = #[v0] := by cases args; simp_all
  obtain ⟨rfl, rfl⟩ := trodVars_none hV
  obtain ⟨s, rfl, rfl, rfl, ws⟩ := open_string Try.underlying9 (hval 0 9 v0 rfl rfl) h0
  clear hA0 hval0
  refine (fnExactTrianglesOf_walk s W ws).mono fun e W' ⟨he, bel⟩ => ?_
  subst he
  exact ⟨_, rfl, _, _, _, [], _, [], hW', trodAll_mk1 (shut_bool Try.underlying4 _), trodAll_mk1 (shut_string Try.underlying9 ws), rfl, bel.frame _, fun h => by cases h⟩

theorem over : Rows.fnExactTrianglesOfRow.holds Try.pinned (OpenSpec.ofChange Rows.fnExactTrianglesOfSpec) :=
  OpenClaim.holds_of_wide 8 Try.f8 rfl rfl rfl rfl rfl rfl rfl ⟨rfl, rfl, rfl, rfl, rfl⟩ rfl rfl rfl rfl rfl (by kernel_rfl) Try.func8 (by kernel_rfl)
    (of_decide_eq_true (by kernel_rfl)) (by unfold Func.isWrapper; first | (rw [if_pos (by decide +kernel)]; kernel_rfl) | (rw [if_neg (by decide +kernel)]; exact ⟨rfl, rfl⟩))
    (fun os started H enc _ => lifted os started H enc)

theorem proved : Rows.FnExactTrianglesOfSaid := over
#print axioms proved
end Go.Proofs.Ytpphilladlladab.fnExactTrianglesOf
