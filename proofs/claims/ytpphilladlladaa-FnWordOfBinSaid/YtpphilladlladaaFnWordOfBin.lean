/-
  For every argument of FnWordOfBin, whatever its value, the call returns true, leaves what it was handed as it was and changes no older memory. Conditions: none beside the row's own.
-/
import Derived.Test.YtpphilladlladaaRows
import Derived.Test.YtpphilladlladaaCDrawI
import Derived.Test.YtpphilladlladaaCReader
import Derived.Test.YtpphilladlladaaCFamI
import Derived.Test.YtpphilladlladaaCRowsI
import Derived.Test.YtpphilladlladaaCEqual
import Derived.Test.YtpphilladlladaaWRow
import Derived.WalkKit
import Derived.ProofKit
import Derived.OpenShut
import Derived.ShutString
import Derived.ChangeOld
import Derived.Below
import Derived.SizedLaws
import Derived.HandedShaped
namespace Go.Proofs.Ytpphilladlladaa.fnWordOfBin
open Go.RowKit

theorem bin_back (rows : List (List Int)) (h : treeB rows = true) : ∃ t : ByteArray, bwV rows = .tuple #[.string t, .bool true] ∧ t.size ≤ 18 ∧ binOut t.data.toList = rows := by
  by_cases h0 : rows.length = 0
  · refine ⟨⟨#[]⟩, bwV_nil h0, by decide, ?_⟩
    have e : rows = [] := List.eq_nil_of_length_eq_zero h0
    rw [e]
    rfl
  · obtain ⟨h1, h2, h3, h4⟩ := tree_word rows h h0
    refine ⟨wobS rows 10 0, bwV_yes h h0, by rw [wobS_size, h2]; omega, ?_⟩
    have hv : valid (wobS rows 10 0).data.toList = true := of_scan h1 (by show (wobL rows 10 0).length ≤ 18; omega)
    rw [binOut, if_pos hv]
    exact h4
set_option maxHeartbeats 1600000 in
theorem fnWordOfBin_walk (a : Option Addr) (len cap : Nat) (zs : List Int) (w : World) (hr0 : IsRow .u8 w a len cap zs) (_hreach : cap * 1 ≤ 140737488351232) :
    Calls Try.prog 4 #[.slice a len cap] w fun e w' => e = .returned (.bool true) ∧ Below w.heap.size w w' := by
  have hr := Lib.hid hr0
  clear hr0
  by_cases hbig : (1048576 : Int) < (len : Int)
  · go_enter Try.func4, Try.ntmps4
    go_wp2
    go_ret
    exact ⟨rfl, Below.refl _ _⟩
  · go_enter Try.func4, Try.ntmps4
    go_wp2_with fail
    refine (drawWordOfBin a len cap zs w hr (by omega)).mono ?_
    rintro e w1 ⟨rows, g, c0, RV, rfl, hG, hl, h2, hb⟩
    have B1 := Lib.hid hb
    have G1 := Lib.hid hG
    have HRS := Lib.hid (show ∀ r ∈ rows, r.length ≤ 1048576 from fun r h => by rw [h2 r h]; omega)
    clear hb hr hG h2
    cases ht : treeB rows with
    | false =>
      have e := bwV_no ht
      have HE := Lib.hid e
      clear ht e
      go_wp2_with fail
      refine (implWordOfBin_any rows w1 G1 (Nat.le_refl _)).mono ?_
      rintro e w2 ⟨rfl, hb⟩
      rw [HE.out]
      have G2 := Lib.hid (G1.out.below hb)
      have B2 := Lib.hid (B1.out.trans (hb.mono B1.out.size))
      clear hb
      go_wp2_with fail
      refine (specWordOfBin_any rows (by omega) w2 G2).mono ?_
      rintro e w3 ⟨rfl, m, rfl⟩
      rw [HE.out]
      go_wp2
      go_ret
      exact ⟨rfl, B2.out.trans ⟨rfl, rfl, rfl, Nat.le_refl _, fun _ _ => rfl⟩⟩
    | true =>
      obtain ⟨t, ht1, ht2, ht3⟩ := bin_back rows ht
      have HE := Lib.hid ht1
      have htm : t.size ≤ maxLen := by unfold maxLen; omega
      have CB := Lib.hid (fun w => implBinOf_any t w htm)
      rw [ht3] at CB
      clear ht ht1 ht3
      go_wp2_with fail
      refine (implWordOfBin_any rows w1 G1 (Nat.le_refl _)).mono ?_
      rintro e w2 ⟨rfl, hb⟩
      rw [HE.out]
      have G2 := Lib.hid (G1.out.below hb)
      have B2 := Lib.hid (B1.out.trans (hb.mono B1.out.size))
      have z2 := hb.size
      have Z2 := Lib.hid z2
      clear hb z2
      go_wp2_with fail
      refine (specWordOfBin_any rows (by omega) w2 G2).mono ?_
      rintro e w3 ⟨rfl, m, rfl⟩
      rw [HE.out]
      have G3 := Lib.hid (G2.out.drewN m)
      have B3 : Hid (Below w.heap.size w (w2.drewN m)) := B2.out.trans ⟨rfl, rfl, rfl, Nat.le_refl _, fun _ _ => rfl⟩
      have Z3 : Hid (w1.heap.size ≤ (w2.drewN m).heap.size) := Z2
      obtain ⟨w3, hw3⟩ : ∃ w3, w3 = w2.drewN m := ⟨_, rfl⟩
      rw [← hw3] at G3 B3 Z3 ⊢
      clear hw3
      go_wp2_with fail
      refine (CB.out _).mono ?_
      rintro e w4 ⟨v, RV4, rfl, g4, hb⟩
      have G4 := Lib.hid g4.grid
      have G34 := Lib.hid ((G3.out.more Z3.out).below hb)
      have B4 := Lib.hid (B3.out.trans (hb.mono B3.out.size))
      obtain ⟨av, cv, rfl⟩ := grid_val G4.out
      clear g4 hb
      go_wp2_with fail
      refine (equalRows_yes rows _ _ w4 G4 G34 (by omega) HRS.out).mono ?_
      rintro e w5 ⟨rfl, s5⟩
      go_wp2
      go_ret
      exact ⟨rfl, B4.out.trans (s5.below w.heap.size)⟩

open Go.ChangeShapes Go.WideShapes Go.ChangeAt Go.RowKit
open Go.ChangeMaps (open_string shut_string)
set_option linter.unusedVariables false

theorem own : ownKnob Try.prog.godebug = none := by kernel_rfl
theorem laidOut : laidOutB Try.prog = true := by kernel_rfl

set_option maxRecDepth 100000 in
theorem lifted (os : Os) (started : os.Started) (H : Type) (enc : TypeId × Value → H) :
    ReturnsInHanded {} Try.checked os 4 .any (Rows.fnWordOfBinSpec.pre6 enc Try.prog Try.f4 Rows.fnWordOfBinRow.domain false) (Rows.fnWordOfBinSpec.post enc Try.prog Try.f4 false true false false) := by
  refine returnsInHanded_of_change_shaped (C := Try.checked) own started (by kernel_rfl) Try.func4
    (ChangeSpec.witness6 (enc := enc) (C := Try.checked) false ⟨#[], #[.slice none 0 0], []⟩ 8 (by kernel_rfl) (by kernel_rfl) (by kernel_rfl) (by kernel_rfl)) ?_
  intro W base args ds gs before hval0 hW hcnd hsz0 hsh _
  have hval : ∀ (j : Nat) t v, Try.f4.params[j]? = some t → args[j]? = some v → Value.okWide Try.prog W .any base t v := hval0
  have hW' := hW
  obtain ⟨p, q, hA0, hV, rfl, hfz, hnd⟩ := hW
  have hA : DataW.TrodAll enc Try.prog W 0 (fun _ => true) true Try.f4.params.toList args.toList ds p := hA0
  have hsz : (DataW.weightsEach Try.prog (Try.f4.params.toList ++ Rows.fnWordOfBinSpec.plain.varTypes Try.prog) (ds ++ gs)).all (· ≤ reachBytes) = true := hsz0
  rw [Try.params4] at hA hval hsz
  obtain ⟨v0, vs0, d0, ds0, p0, q0, hargs, rfl, rfl, h0, r0⟩ := trodAll_cons hA
  obtain ⟨rfl, rfl, rfl⟩ := trodAll_nil r0
  obtain rfl : args = #[v0] := by cases args; simp_all
  obtain ⟨rfl, rfl⟩ := trodVars_none hV
  obtain ⟨a0, len0, cap0, rfl⟩ := okWide_slice Try.underlying22 (hval 0 22 v0 rfl rfl)
  have k0 := h0
  have lt0 : ∀ x ∈ p0, x.block < W.heap.size := by obtain ⟨m, hm⟩ := k0; exact DataW.trod_lt m _ _ _ hm
  obtain ⟨z0, w0, hreach⟩ : ∃ zs, IsRow .u8 W a0 len0 cap0 zs ∧ cap0 * 1 ≤ 140737488351232 := by
    obtain ⟨fuel, hf⟩ := h0
    rcases open_ints Try.underlying22 Try.underlying5 (by kernel_rfl) hf with ⟨hcs, _⟩ | ⟨x, l, c, zs, hcs, _, hl, hm, hz, hx, hcell, hwz⟩
    · simp [Value.cells] at hcs
      obtain ⟨rfl, rfl, rfl⟩ := hcs
      exact ⟨[], .inl ⟨rfl, rfl, rfl, rfl⟩, by omega⟩
    · simp [Value.cells] at hcs
      obtain ⟨rfl, rfl, rfl⟩ := hcs
      refine ⟨zs, .inr ⟨_, rfl, hl, hm, by simpa using hz, hcell, hwz⟩, ?_⟩
      simp only [Prod.mk.injEq] at hx
      obtain ⟨hx1, hx2⟩ := hx
      rw [hx1] at hsz
      have hb := sized_slice hsz (j := 0) (t := 22) (e := 5) rfl rfl Try.underlying22
      have b8 : Try.prog.bytesOf 5 = 1 := by kernel_rfl
      rw [b8] at hb
      simp only [lits, List.length_map, List.length_take, List.length_drop, reachBytes] at hb
      simp only [if_true] at hz
      omega
  clear hA0 hval0
  refine (fnWordOfBin_walk a0 len0 cap0 z0 W w0 hreach).mono fun e W' ⟨he, bel⟩ => ?_
  subst he
  exact ⟨_, rfl, _, _, _, [], _, [], hW', trodAll_mk1 (shut_bool Try.underlying4 _), trodAll_mk1 (Below.trod laidOut (by kernel_rfl) (of_decide_eq_true (by kernel_rfl)) k0 bel lt0), rfl, bel.frame _, fun h => by cases h⟩

theorem over : Rows.fnWordOfBinRow.holds Try.pinned (OpenSpec.ofChange Rows.fnWordOfBinSpec) :=
  OpenClaim.holds_of_wide 4 Try.f4 rfl rfl rfl rfl rfl rfl rfl ⟨rfl, rfl, rfl, rfl, rfl⟩ rfl rfl rfl rfl rfl (by kernel_rfl) Try.func4 (by kernel_rfl)
    (of_decide_eq_true (by kernel_rfl)) (by unfold Func.isWrapper; first | (rw [if_pos (by decide +kernel)]; kernel_rfl) | (rw [if_neg (by decide +kernel)]; exact ⟨rfl, rfl⟩))
    (fun os started H enc _ => lifted os started H enc)

theorem proved : Rows.FnWordOfBinSaid := over
#print axioms proved
end Go.Proofs.Ytpphilladlladaa.fnWordOfBin
