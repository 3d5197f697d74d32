/-
  For every argument of FnTreeOf, whatever its value, the call returns true, leaves what it was handed as it was and changes no older memory. Conditions: none beside the row's own.
-/
import Derived.Test.YtcldbjpcbhkmpaaRows
import Derived.Test.YtcldbjpcbhkmpaaCDrawT
import Derived.Test.YtcldbjpcbhkmpaaWCodeF
import Derived.Test.YtcldbjpcbhkmpaaCVTreeP
import Derived.Test.YtcldbjpcbhkmpaaCCodeR
import Derived.Test.YtcldbjpcbhkmpaaCTreeQ
import Derived.Test.YtcldbjpcbhkmpaaCRowsI
import Derived.Test.YtcldbjpcbhkmpaaZE
import Derived.Test.YtcldbjpcbhkmpaaZW
import Derived.WalkKit
import Derived.ProofKit
import Derived.OpenShut
import Derived.ShutString
import Derived.ChangeOld
import Derived.Below
import Derived.SizedLaws
import Derived.HandedShaped
namespace Go.Proofs.Ytcldbjpcbhkmpaa.fnTreeOf
open Go.RowKit

set_option maxHeartbeats 3200000 in
set_option maxRecDepth 100000 in
theorem fnTreeOf_walk (a : Option Addr) (len cap : Nat) (zs : List Int) (w : World) (hr0 : IsRow .u8 w a len cap zs) (_hreach : cap * 1 ≤ 140737488351232) :
    Calls Try.prog 6 #[.slice a len cap] w fun e w' => e = .returned (.bool true) ∧ Below w.heap.size w w' := by
  have hr := Lib.hid hr0
  clear hr0
  by_cases hbig : (1048576 : Int) < (len : Int)
  · go_enter Try.func6, Try.ntmps6
    go_wp2
    go_ret
    exact ⟨rfl, Below.refl _ _⟩
  · go_enter Try.func6, Try.ntmps6
    go_wp2_with fail
    refine (drawTreeOf a len cap zs w hr (by omega)).mono ?_
    rintro e w1 ⟨n, l, v, rfl, o1, hn, hl, b1⟩
    have hwf : (Lit.int .i64 n).wf = true := wf_smallC n (by omega)
    have O1 := Lib.hid o1
    have B1 := Lib.hid b1
    have CT := Lib.hid (fun (v : Value) (w : World) (B0 H0 : Nat) (hv : Hid (Own w B0 H0 3 v (iv l))) hH => treeOf_p n l v w B0 H0 hv hH (by omega) hwf)
    have CS := Lib.hid (fun (v : Value) (w : World) (B0 H0 : Nat) (hv : Hid (Own w B0 H0 3 v (iv l))) hH => specTreeOf_any n l v w hv hH (by omega))
    obtain ⟨hrl, hrs⟩ := treeOut_le n l
    have HRS := Lib.hid hrs
    have HBK := Lib.hid (code_back (n := n) (code := l))
    obtain ⟨rows, hle⟩ : ∃ rows, rows = treeOut n l := ⟨_, rfl⟩
    rw [← hle] at hrl HRS HBK
    simp only [← hle] at CT CS
    obtain ⟨av, cv, rfl, _, _, _, _⟩ := o1.slice
    obtain ⟨m, hm⟩ : ∃ m, m = (iv l).length := ⟨_, rfl⟩
    rw [← hm] at O1 ⊢
    have s01 := b1.size
    clear o1 b1 hr hrs hle hm
    go_wp2_with fail
    refine (CT.out _ w1 _ _ O1 (Nat.le_refl _)).mono ?_
    rintro e w2 ⟨v2, RV2, rfl, g2, b2⟩
    have O2 := Lib.hid (O1.out.below b2)
    have B2 := Lib.hid (B1.out.trans (b2.mono s01))
    have G2 := Lib.hid g2.grid
    have s12 := b2.size
    clear b2 g2
    go_wp2_with fail
    refine (CS.out _ w2 _ _ O2 s12).mono ?_
    rintro e w3 ⟨v3, RV3, rfl, g3, b3⟩
    have O3 := Lib.hid (O2.out.below (b3.mono s12))
    have B3 := Lib.hid (B2.out.trans (b3.mono (by omega)))
    have G23 := Lib.hid (G2.out.below b3)
    have G3 := Lib.hid g3
    have s23 := b3.size
    clear b3 g3 O2 B2 G2
    go_wp2_with fail
    refine (equalRows_yes rows v2 v3 w3 G23 G3 (by omega) HRS.out).mono ?_
    rintro e w4 ⟨rfl, t4⟩
    have z4 : w4.heap.size = w3.heap.size := by rw [t4.1]
    have G4 := Lib.hid (G23.out.same t4.1)
    have B4 := Lib.hid (B3.out.trans (t4.below _))
    have O4 := Lib.hid (O3.out.same t4.1)
    have s14 : w1.heap.size ≤ w4.heap.size := by omega
    have s24 : w2.heap.size ≤ w4.heap.size := by omega
    obtain ⟨a2, c2, rfl, _, _, _, _⟩ := G4.out.1.slice
    have hul : RV2.length = rows.length := G4.out.2.1
    obtain ⟨k, hk⟩ : ∃ k, k = RV2.length := ⟨_, rfl⟩
    rw [← hk] at G4 hul ⊢
    clear t4 z4 G3 B3 O3 G23 hk
    by_cases h0 : k = 0
    · have q0 : ((k : Int) == 0) = true := by rw [h0]; rfl
      clear h0 hul HBK
      go_wp2_with fail
      refine (CS.out _ w4 _ _ O4 s14).mono ?_
      rintro e w5 ⟨v5, RV5, rfl, g5, b5⟩
      have B5 := Lib.hid (B4.out.trans (b5.mono (by omega)))
      have G5 := Lib.hid (G4.out.below (b5.mono s24))
      have G55 := Lib.hid g5
      clear g5 b5
      go_wp2_with fail
      refine (equalRows_yes rows _ v5 w5 G5 G55 (by omega) HRS.out).mono ?_
      rintro e w6 ⟨rfl, t6⟩
      have B6 := Lib.hid (B5.out.trans (t6.below _))
      clear t6
      go_wp2
      go_ret
      exact ⟨rfl, B6.out⟩
    · have q0 : ((k : Int) == 0) = false := by rw [beq_eq_false_iff_ne]; omega
      obtain ⟨hB, hC⟩ := HBK.out (by omega)
      have CV := Lib.hid (validTree_p n rows _ RV2 w4 _ _ G4 s24 (by omega) HRS.out hwf)
      have CC := Lib.hid (fun (w : World) (hG : Hid (Grid w w1.heap.size w2.heap.size (.slice a2 k c2) RV2 rows)) hH => codeOf_p n rows _ RV2 w _ _ hG hH (by omega) HRS.out hwf)
      rw [hB] at CV
      simp only [hC] at CC
      clear h0 hul HBK hB hC CS CT
      go_wp2_with fail
      refine CV.out.mono ?_
      rintro e w5 ⟨rfl, b5⟩
      have B5 := Lib.hid (B4.out.trans (b5.mono (by omega)))
      have G5 := Lib.hid (G4.out.below (b5.mono s24))
      have O5 := Lib.hid (O4.out.below (b5.mono s14))
      have s25 : w2.heap.size ≤ w5.heap.size := by have := b5.size; omega
      clear b5 B4 G4 O4 CV
      go_wp2_with fail
      refine (CC.out w5 G5 s25).mono ?_
      rintro e w6 ⟨v6, rfl, o6, b6⟩
      have B6 := Lib.hid (B5.out.trans (b6.mono (by omega)))
      have O6 := Lib.hid (O5.out.below (b6.mono (by omega)))
      have O66 := Lib.hid o6
      clear b6 o6
      go_wp2_with fail
      refine (equalInts_yes l v6 _ w6 O66 O6 (by omega)).mono ?_
      rintro e w7 ⟨rfl, t7⟩
      have B7 := Lib.hid (B6.out.trans (t7.below _))
      clear t7
      go_wp2
      go_ret
      exact ⟨rfl, B7.out⟩

open Go.ChangeShapes Go.WideShapes Go.ChangeAt Go.RowKit
open Go.ChangeMaps (open_string shut_string)
set_option linter.unusedVariables false

theorem own : ownKnob Try.prog.godebug = none := by kernel_rfl
theorem laidOut : laidOutB Try.prog = true := by kernel_rfl

set_option maxRecDepth 100000 in
theorem lifted (os : Os) (started : os.Started) (H : Type) (enc : TypeId × Value → H) :
    ReturnsInHanded {} Try.checked os 6 .any (Rows.fnTreeOfSpec.pre6 enc Try.prog Try.f6 Rows.fnTreeOfRow.domain false) (Rows.fnTreeOfSpec.post enc Try.prog Try.f6 false true false false) := by
  refine returnsInHanded_of_change_shaped (C := Try.checked) own started (by kernel_rfl) Try.func6
    (ChangeSpec.witness6 (enc := enc) (C := Try.checked) false ⟨#[], #[.slice none 0 0], []⟩ 8 (by kernel_rfl) (by kernel_rfl) (by kernel_rfl) (by kernel_rfl)) ?_
  intro W base args ds gs before hval0 hW hcnd hsz0 hsh _
  have hval : ∀ (j : Nat) t v, Try.f6.params[j]? = some t → args[j]? = some v → Value.okWide Try.prog W .any base t v := hval0
  have hW' := hW
  obtain ⟨p, q, hA0, hV, rfl, hfz, hnd⟩ := hW
  have hA : DataW.TrodAll enc Try.prog W 0 (fun _ => true) true Try.f6.params.toList args.toList ds p := hA0
  have hsz : (DataW.weightsEach Try.prog (Try.f6.params.toList ++ Rows.fnTreeOfSpec.plain.varTypes Try.prog) (ds ++ gs)).all (· ≤ reachBytes) = true := hsz0
  rw [Try.params6] at hA hval hsz
  obtain ⟨v0, vs0, d0, ds0, p0, q0, hargs, rfl, rfl, h0, r0⟩ := trodAll_cons hA
  obtain ⟨rfl, rfl, rfl⟩ := trodAll_nil r0
  obtain rfl : args = #[v0] := by cases args; simp_all
  obtain ⟨rfl, rfl⟩ := trodVars_none hV
  obtain ⟨a0, len0, cap0, rfl⟩ := okWide_slice Try.underlying22 (hval 0 22 v0 rfl rfl)
  have k0 := h0
  have lt0 : ∀ x ∈ p0, x.block < W.heap.size := by obtain ⟨m, hm⟩ := k0; exact DataW.trod_lt m _ _ _ hm
  obtain ⟨z0, w0, hreach⟩ : ∃ zs, IsRow .u8 W a0 len0 cap0 zs ∧ cap0 * 1 ≤ 140737488351232 := by
    obtain ⟨fuel, hf⟩ := h0
    rcases open_ints Try.underlying22 Try.underlying5 (by kernel_rfl) hf with ⟨hcs, _⟩ | ⟨x, l, c, zs, hcs, _, hl, hm, hz, hx, hcell, hwz⟩
    · simp [Value.cells] at hcs
      obtain ⟨rfl, rfl, rfl⟩ := hcs
      exact ⟨[], .inl ⟨rfl, rfl, rfl, rfl⟩, by omega⟩
    · simp [Value.cells] at hcs
      obtain ⟨rfl, rfl, rfl⟩ := hcs
      refine ⟨zs, .inr ⟨_, rfl, hl, hm, by simpa using hz, hcell, hwz⟩, ?_⟩
      simp only [Prod.mk.injEq] at hx
      obtain ⟨hx1, hx2⟩ := hx
      rw [hx1] at hsz
      have hb := sized_slice hsz (j := 0) (t := 22) (e := 5) rfl rfl Try.underlying22
      have b8 : Try.prog.bytesOf 5 = 1 := by kernel_rfl
      rw [b8] at hb
      simp only [lits, List.length_map, List.length_take, List.length_drop, reachBytes] at hb
      simp only [if_true] at hz
      omega
  clear hA0 hval0
  refine (fnTreeOf_walk a0 len0 cap0 z0 W w0 hreach).mono fun e W' ⟨he, bel⟩ => ?_
  subst he
  exact ⟨_, rfl, _, _, _, [], _, [], hW', trodAll_mk1 (shut_bool Try.underlying4 _), trodAll_mk1 (Below.trod laidOut (by kernel_rfl) (of_decide_eq_true (by kernel_rfl)) k0 bel lt0), rfl, bel.frame _, fun h => by cases h⟩

theorem over : Rows.fnTreeOfRow.holds Try.pinned (OpenSpec.ofChange Rows.fnTreeOfSpec) :=
  OpenClaim.holds_of_wide 6 Try.f6 rfl rfl rfl rfl rfl rfl rfl ⟨rfl, rfl, rfl, rfl, rfl⟩ rfl rfl rfl rfl rfl (by kernel_rfl) Try.func6 (by kernel_rfl)
    (of_decide_eq_true (by kernel_rfl)) (by unfold Func.isWrapper; first | (rw [if_pos (by decide +kernel)]; kernel_rfl) | (rw [if_neg (by decide +kernel)]; exact ⟨rfl, rfl⟩))
    (fun os started H enc _ => lifted os started H enc)

theorem proved : Rows.FnTreeOfSaid := over
#print axioms proved
end Go.Proofs.Ytcldbjpcbhkmpaa.fnTreeOf
