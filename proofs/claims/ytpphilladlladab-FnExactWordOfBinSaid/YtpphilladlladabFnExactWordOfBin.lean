/-
  For every argument of FnExactWordOfBin, whatever its value, the call returns true, leaves what it was handed as it was and changes no older memory. Conditions: none beside the row's own.
-/
import Derived.Test.YtpphilladlladabRows
import Derived.Test.YtpphilladlladabCGridIn
import Derived.Test.YtpphilladlladabCReader
import Derived.Test.YtpphilladlladabCRowsI
import Derived.Deep.Matrix
import Derived.WalkKit
import Derived.ProofKit
import Derived.OpenShut
import Derived.ShutString
import Derived.ChangeOld
import Derived.Below
import Derived.SizedLaws
import Derived.HandedShaped
namespace Go.Proofs.Ytpphilladlladab.fnExactWordOfBin
open Go.RowKit

theorem bwV_form (l : List (List Int)) : ∃ (t : ByteArray) (b : Bool), bwV l = .tuple #[.string t, .bool b] := by
  unfold bwV
  split
  · exact ⟨_, _, rfl⟩
  · exact ⟨_, _, rfl⟩
theorem rowsIn_small {len : Nat} {L : Nat → Nat} {Z : Nat → List Int} (h : ∀ r, r < len → L r ≤ 1048576) : ∀ r ∈ rowsIn len L Z, r.length ≤ 1048576 := by
  intro r hr
  obtain ⟨k, hk, rfl⟩ := List.mem_map.1 hr
  rw [List.length_take]
  have := h k (List.mem_range.1 hk)
  omega
set_option maxHeartbeats 1600000 in
theorem fnExactWordOfBin_walk (a : Option Addr) (len cap : Nat) (A : Nat → Option Addr) (L C : Nat → Nat) (Z : Nat → List Int) (w : World) (hr0 : IsRows w a len cap A L C Z) :
    Calls Try.prog 4 #[.slice a len cap] w fun e w' => e = .returned (.bool true) ∧ Below w.heap.size w w' := by
  have hr := Lib.hid hr0
  clear hr0
  go_enter Try.func4, Try.ntmps4
  go_wp2_with fail
  refine (szRows_any a len cap A L C Z w hr).mono ?_
  rintro e w1 ⟨z, rfl, hz, rfl⟩
  by_cases hneg : z < 0
  · clear hz
    go_wp2
    go_ret
    exact ⟨rfl, Below.refl _ _⟩
  · obtain ⟨hl, hL⟩ := hz (by omega)
    have HL := Lib.hid hL
    have hrl := rowsIn_length len L Z
    have hrs := rowsIn_small (Z := Z) hL
    have CR := Lib.hid (fun (w' : World) (hr' : Hid (IsRows w' a len cap A L C Z)) => toRows_any a len cap A L C Z w' hr' hl HL)
    obtain ⟨rows, hrows⟩ : ∃ rows, rows = rowsIn len L Z := ⟨_, rfl⟩
    rw [← hrows] at hrl hrs
    simp only [← hrows] at CR
    have hrl2 : rows.length ≤ 1048576 := by omega
    have HRS := Lib.hid hrs
    clear hz hL hrows hrl hrs
    go_wp2_with fail
    refine (CR.out _ hr).mono ?_
    rintro e w2 ⟨v2, RV2, rfl, g2, b2⟩
    have R2 := Lib.hid (hr.out.below b2)
    have B2 := Lib.hid b2
    have G2 := Lib.hid g2
    clear g2 b2
    go_wp2_with fail
    refine (specWordOfBin_any rows hrl2 w2 G2).mono ?_
    rintro e w3 ⟨rfl, m, rfl⟩
    have b3 : Below w2.heap.size w2 (w2.drewN m) := ⟨rfl, rfl, rfl, Nat.le_refl _, fun _ _ => rfl⟩
    have R3 := Lib.hid (R2.out.below b3)
    have B3 := Lib.hid (B2.out.trans (b3.mono B2.out.size))
    obtain ⟨w3, hw3⟩ : ∃ w3, w3 = w2.drewN m := ⟨_, rfl⟩
    rw [← hw3] at R3 B3 ⊢
    obtain ⟨V1, V2, hV⟩ := bwV_form rows
    rw [hV]
    have HV := Lib.hid hV
    clear b3 hw3 hV
    go_wp2_with fail
    refine (CR.out _ R3).mono ?_
    rintro e w4 ⟨v4, RV4, rfl, g4, b4⟩
    have R4 := Lib.hid (R3.out.below b4)
    have B4 := Lib.hid (B3.out.trans (b4.mono B3.out.size))
    have G4 := Lib.hid g4
    clear g4 b4
    obtain ⟨a4, c4, rfl⟩ := grid_val G4.out
    go_wp2_with fail
    refine (implWordOfBin_any rows w4 G4 (Nat.le_refl _)).mono ?_
    rintro e w5 ⟨rfl, b5⟩
    rw [HV.out]
    have R5 := Lib.hid (R4.out.below b5)
    have B5 := Lib.hid (B4.out.trans (b5.mono B4.out.size))
    have G5 := Lib.hid (G4.out.below b5)
    have z5 := b5.size
    have Z5 := Lib.hid z5
    clear b5 z5
    go_wp2_with fail
    refine (CR.out _ R5).mono ?_
    rintro e w6 ⟨v6, RV6, rfl, g6, b6⟩
    have B6 := Lib.hid (B5.out.trans (b6.mono B5.out.size))
    have G6 := Lib.hid g6
    have G56 := Lib.hid (G5.out.below (b6.mono Z5.out))
    clear g6 b6
    go_wp2_with fail
    refine (eqRows_yes rows _ v6 w6 G56 G6 hrl2 HRS.out).mono ?_
    rintro e w7 ⟨rfl, s7⟩
    have B7 := Lib.hid (B6.out.trans (s7.below _))
    clear s7
    go_wp2
    go_ret
    exact ⟨rfl, B7.out⟩

open Go.ChangeShapes Go.WideShapes Go.ChangeAt Go.RowKit
open Go.ChangeMaps (open_string shut_string)
set_option linter.unusedVariables false

theorem own : ownKnob Try.prog.godebug = none := by kernel_rfl
theorem laidOut : laidOutB Try.prog = true := by kernel_rfl

set_option maxRecDepth 100000 in
theorem lifted (os : Os) (started : os.Started) (H : Type) (enc : TypeId × Value → H) :
    ReturnsInHanded {} Try.checked os 4 .any (Rows.fnExactWordOfBinSpec.pre6 enc Try.prog Try.f4 Rows.fnExactWordOfBinRow.domain false) (Rows.fnExactWordOfBinSpec.post enc Try.prog Try.f4 false true false false) := by
  refine returnsInHanded_of_change_shaped (C := Try.checked) own started (by kernel_rfl) Try.func4
    (ChangeSpec.witness6 (enc := enc) (C := Try.checked) false ⟨#[], #[.slice none 0 0], []⟩ 8 (by kernel_rfl) (by kernel_rfl) (by kernel_rfl) (by kernel_rfl)) ?_
  intro W base args ds gs before hval0 hW hcnd hsz0 hsh _
  have hval : ∀ (j : Nat) t v, Try.f4.params[j]? = some t → args[j]? = some v → Value.okWide Try.prog W .any base t v := hval0
  have hW' := hW
  obtain ⟨p, q, hA0, hV, rfl, hfz, hnd⟩ := hW
  have hA : DataW.TrodAll enc Try.prog W 0 (fun _ => true) true Try.f4.params.toList args.toList ds p := hA0
  have hsz : (DataW.weightsEach Try.prog (Try.f4.params.toList ++ Rows.fnExactWordOfBinSpec.plain.varTypes Try.prog) (ds ++ gs)).all (· ≤ reachBytes) = true := hsz0
  rw [Try.params4] at hA hval hsz
  obtain ⟨v0, vs0, d0, ds0, p0, q0, hargs, rfl, rfl, h0, r0⟩ := trodAll_cons hA
  obtain ⟨rfl, rfl, rfl⟩ := trodAll_nil r0
  obtain rfl : args = #[v0] := by cases args; simp_all
  obtain ⟨rfl, rfl⟩ := trodVars_none hV
  obtain ⟨a0, len0, cap0, rfl⟩ := okWide_slice Try.underlying22 (hval 0 22 v0 rfl rfl)
  have k0 := h0
  have lt0 : ∀ x ∈ p0, x.block < W.heap.size := by obtain ⟨m, hm⟩ := k0; exact DataW.trod_lt m _ _ _ hm
  obtain ⟨A, L, C, Z, w0⟩ : ∃ (A : Nat → Option Addr) (L C : Nat → Nat) (Z : Nat → List Int), IsRows W a0 len0 cap0 A L C Z := by
    obtain ⟨fuel, hf⟩ := h0
    rcases Go.Deep.open_int_rows Try.underlying22 Try.underlying31 Try.underlying3 (by kernel_rfl) (by kernel_rfl) hf with ⟨hcs, _⟩ | ⟨x, l, c, A, L, C, Z, hcs, _, hl, hm, hx, hrows⟩
    · simp [Value.cells] at hcs
      obtain ⟨rfl, rfl, rfl⟩ := hcs
      exact ⟨fun _ => none, fun _ => 0, fun _ => 0, fun _ => [], .inl ⟨rfl, rfl, rfl⟩⟩
    · simp [Value.cells] at hcs
      obtain ⟨rfl, rfl, rfl⟩ := hcs
      exact ⟨A, L, C, Z, isRows_open x len0 cap0 A L C Z W hl hm hrows⟩
  clear hA0 hval0
  refine (fnExactWordOfBin_walk a0 len0 cap0 A L C Z W w0).mono fun e W' ⟨he, bel⟩ => ?_
  subst he
  exact ⟨_, rfl, _, _, _, [], _, [], hW', trodAll_mk1 (shut_bool Try.underlying4 _), trodAll_mk1 (Below.trod laidOut (by kernel_rfl) (of_decide_eq_true (by kernel_rfl)) k0 bel lt0), rfl, bel.frame _, fun h => by cases h⟩

theorem over : Rows.fnExactWordOfBinRow.holds Try.pinned (OpenSpec.ofChange Rows.fnExactWordOfBinSpec) :=
  OpenClaim.holds_of_wide 4 Try.f4 rfl rfl rfl rfl rfl rfl rfl ⟨rfl, rfl, rfl, rfl, rfl⟩ rfl rfl rfl rfl rfl (by kernel_rfl) Try.func4 (by kernel_rfl)
    (of_decide_eq_true (by kernel_rfl)) (by unfold Func.isWrapper; first | (rw [if_pos (by decide +kernel)]; kernel_rfl) | (rw [if_neg (by decide +kernel)]; exact ⟨rfl, rfl⟩))
    (fun os started H enc _ => lifted os started H enc)

theorem proved : Rows.FnExactWordOfBinSaid := over
#print axioms proved
end Go.Proofs.Ytpphilladlladab.fnExactWordOfBin
