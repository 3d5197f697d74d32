/-
  For every argument of FnValidTree, whatever its value, the call returns true, leaves what it was handed as it was and changes no older memory. Conditions: none beside the row's own.
-/
import Derived.Test.YtcldbjpcbhkmpaaRows
import Derived.Test.YtcldbjpcbhkmpaaCDrawT
import Derived.Test.YtcldbjpcbhkmpaaWCodeF
import Derived.Test.YtcldbjpcbhkmpaaCVTreeP
import Derived.Test.YtcldbjpcbhkmpaaCCodeR
import Derived.Test.YtcldbjpcbhkmpaaCTreeQ
import Derived.Test.YtcldbjpcbhkmpaaCRowsI
import Derived.Test.YtcldbjpcbhkmpaaZW
import Derived.WalkKit
import Derived.ProofKit
import Derived.OpenShut
import Derived.ShutString
import Derived.ChangeOld
import Derived.Below
import Derived.SizedLaws
import Derived.HandedShaped
namespace Go.Proofs.Ytcldbjpcbhkmpaa.fnValidTree
open Go.RowKit

set_option maxHeartbeats 3200000 in
set_option maxRecDepth 100000 in
theorem fnValidTree_walk (a : Option Addr) (len cap : Nat) (zs : List Int) (w : World) (hr0 : IsRow .u8 w a len cap zs) (_hreach : cap * 1 ≤ 140737488351232) :
    Calls Try.prog 3 #[.slice a len cap] w fun e w' => e = .returned (.bool true) ∧ Below w.heap.size w w' := by
  have hr := Lib.hid hr0
  clear hr0
  by_cases hbig : (1048576 : Int) < (len : Int)
  · go_enter Try.func3, Try.ntmps3
    go_wp2
    go_ret
    exact ⟨rfl, Below.refl _ _⟩
  · go_enter Try.func3, Try.ntmps3
    go_wp2_with fail
    refine (drawValidTree a len cap zs w hr (by omega)).mono ?_
    rintro e w1 ⟨n, rows, v, RV, rfl, g1, hn, hl, hr2, b1⟩
    have hn := hn
    have hwf : (Lit.int .i64 n).wf = true := wf_smallC n (by omega)
    have G1 := Lib.hid g1
    have B1 := Lib.hid b1
    have hrs : ∀ r ∈ rows, r.length ≤ 1048576 := fun r h => by rw [hr2 r h]; decide
    have HRS := Lib.hid hrs
    have hrl : rows.length ≤ 1048576 := by omega
    have CI := Lib.hid (fun (v : Value) (RV : List Value) (w : World) (B0 H0 : Nat) (hG : Hid (Grid w B0 H0 v RV rows)) hH => validTree_p n rows v RV w B0 H0 hG hH hrl hrs hwf)
    have CS := Lib.hid (fun (v : Value) (RV : List Value) (w : World) (B0 H0 : Nat) (hG : Hid (Grid w B0 H0 v RV rows)) hH => specValidTree_any n rows v RV w hG hH hrl)
    obtain ⟨av, cv, rfl, _, _, _, _⟩ := g1.1.slice
    have s01 := b1.size
    clear g1 b1 hr hrs
    go_wp2_with fail
    refine (CI.out _ RV w1 _ _ G1 (Nat.le_refl _)).mono ?_
    rintro e w2 ⟨rfl, b2⟩
    have G2 := Lib.hid (G1.out.below b2)
    have B2 := Lib.hid (B1.out.trans (b2.mono s01))
    have s12 := b2.size
    clear b2
    go_wp2_with fail
    refine (CS.out _ RV w2 _ _ G2 s12).mono ?_
    rintro e w3 ⟨rfl, b3⟩
    have G3 := Lib.hid (G2.out.below (b3.mono s12))
    have B3 := Lib.hid (B2.out.trans (b3.mono (by omega)))
    have s13 : w1.heap.size ≤ w3.heap.size := by have := b3.size; omega
    clear b3 G2 B2
    cases ht : treeB n rows with
    | false =>
      have CS := Lib.hid (CS.out _ RV w3 _ _ G3 s13)
      rw [ht] at CS
      clear ht CI
      go_wp2_with fail
      refine CS.out.mono ?_
      rintro e w4 ⟨rfl, b4⟩
      have B4 := Lib.hid (B3.out.trans (b4.mono (by omega)))
      clear b4
      go_wp2
      go_ret
      exact ⟨rfl, B4.out⟩
    | true =>
      have CC := Lib.hid (codeOf_p n rows _ RV w3 _ _ G3 s13 hrl HRS.out hwf)
      have hcl := codeOut_le n rows
      have HBK := Lib.hid (tree_back ht)
      obtain ⟨l, hle⟩ : ∃ l, l = codeOut n rows := ⟨_, rfl⟩
      rw [← hle] at CC hcl HBK
      clear ht CI CS hle
      go_wp2_with fail
      refine CC.out.mono ?_
      rintro e w4 ⟨v4, rfl, o4, b4⟩
      have G4 := Lib.hid (G3.out.below (b4.mono s13))
      have B4 := Lib.hid (B3.out.trans (b4.mono (by omega)))
      have s14 : w1.heap.size ≤ w4.heap.size := by have := b4.size; omega
      have CT := Lib.hid (treeOf_p n l v4 w4 _ _ (Lib.hid o4) (Nat.le_refl _) (by omega) hwf)
      rw [HBK.out] at CT
      clear b4 o4 CC G3 B3
      go_wp2_with fail
      refine CT.out.mono ?_
      rintro e w5 ⟨v5, RV5, rfl, g5, b5⟩
      have G5 := Lib.hid (G4.out.below (b5.mono s14))
      have B5 := Lib.hid (B4.out.trans (b5.mono (by omega)))
      have GG := Lib.hid g5.grid
      clear g5 b5 CT G4 B4
      go_wp2_with fail
      refine (equalRows_yes rows v5 _ w5 GG G5 hrl HRS.out).mono ?_
      rintro e w6 ⟨rfl, t6⟩
      have B6 := Lib.hid (B5.out.trans (t6.below _))
      clear t6
      go_wp2
      go_ret
      exact ⟨rfl, B6.out⟩

open Go.ChangeShapes Go.WideShapes Go.ChangeAt Go.RowKit
open Go.ChangeMaps (open_string shut_string)
set_option linter.unusedVariables false

theorem own : ownKnob Try.prog.godebug = none := by kernel_rfl
theorem laidOut : laidOutB Try.prog = true := by kernel_rfl

set_option maxRecDepth 100000 in
theorem lifted (os : Os) (started : os.Started) (H : Type) (enc : TypeId × Value → H) :
    ReturnsInHanded {} Try.checked os 3 .any (Rows.fnValidTreeSpec.pre6 enc Try.prog Try.f3 Rows.fnValidTreeRow.domain false) (Rows.fnValidTreeSpec.post enc Try.prog Try.f3 false true false false) := by
  refine returnsInHanded_of_change_shaped (C := Try.checked) own started (by kernel_rfl) Try.func3
    (ChangeSpec.witness6 (enc := enc) (C := Try.checked) false ⟨#[], #[.slice none 0 0], []⟩ 8 (by kernel_rfl) (by kernel_rfl) (by kernel_rfl) (by kernel_rfl)) ?_
  intro W base args ds gs before hval0 hW hcnd hsz0 hsh _
  have hval : ∀ (j : Nat) t v, Try.f3.params[j]? = some t → args[j]? = some v → Value.okWide Try.prog W .any base t v := hval0
  have hW' := hW
  obtain ⟨p, q, hA0, hV, rfl, hfz, hnd⟩ := hW
  have hA : DataW.TrodAll enc Try.prog W 0 (fun _ => true) true Try.f3.params.toList args.toList ds p := hA0
  have hsz : (DataW.weightsEach Try.prog (Try.f3.params.toList ++ Rows.fnValidTreeSpec.plain.varTypes Try.prog) (ds ++ gs)).all (· ≤ reachBytes) = true := hsz0
  rw [Try.params3] at hA hval hsz
  obtain ⟨v0, vs0, d0, ds0, p0, q0, hargs, rfl, rfl, h0, r0⟩ := trodAll_cons hA
  obtain ⟨rfl, rfl, rfl⟩ := trodAll_nil r0
  obtain rfl : args = #[v0] := by cases args; simp_all
  obtain ⟨rfl, rfl⟩ := trodVars_none hV
  obtain ⟨a0, len0, cap0, rfl⟩ := okWide_slice Try.underlying22 (hval 0 22 v0 rfl rfl)
  have k0 := h0
  have lt0 : ∀ x ∈ p0, x.block < W.heap.size := by obtain ⟨m, hm⟩ := k0; exact DataW.trod_lt m _ _ _ hm
  obtain ⟨z0, w0, hreach⟩ : ∃ zs, IsRow .u8 W a0 len0 cap0 zs ∧ cap0 * 1 ≤ 140737488351232 := by
    obtain ⟨fuel, hf⟩ := h0
    rcases open_ints Try.underlying22 Try.underlying5 (by kernel_rfl) hf with ⟨hcs, _⟩ | ⟨x, l, c, zs, hcs, _, hl, hm, hz, hx, hcell, hwz⟩
    · simp [Value.cells] at hcs
      obtain ⟨rfl, rfl, rfl⟩ := hcs
      exact ⟨[], .inl ⟨rfl, rfl, rfl, rfl⟩, by omega⟩
    · simp [Value.cells] at hcs
      obtain ⟨rfl, rfl, rfl⟩ := hcs
      refine ⟨zs, .inr ⟨_, rfl, hl, hm, by simpa using hz, hcell, hwz⟩, ?_⟩
      simp only [Prod.mk.injEq] at hx
      obtain ⟨hx1, hx2⟩ := hx
      rw [hx1] at hsz
      have hb := sized_slice hsz (j := 0) (t := 22) (e := 5) rfl rfl Try.underlying22
      have b8 : Try.prog.bytesOf 5 = 1 := by kernel_rfl
      rw [b8] at hb
      simp only [lits, List.length_map, List.length_take, List.length_drop, reachBytes] at hb
      simp only [if_true] at hz
      omega
  clear hA0 hval0
  refine (fnValidTree_walk a0 len0 cap0 z0 W w0 hreach).mono fun e W' ⟨he, bel⟩ => ?_
  subst he
  exact ⟨_, rfl, _, _, _, [], _, [], hW', trodAll_mk1 (shut_bool Try.underlying4 _), trodAll_mk1 (Below.trod laidOut (by kernel_rfl) (of_decide_eq_true (by kernel_rfl)) k0 bel lt0), rfl, bel.frame _, fun h => by cases h⟩

theorem over : Rows.fnValidTreeRow.holds Try.pinned (OpenSpec.ofChange Rows.fnValidTreeSpec) :=
  OpenClaim.holds_of_wide 3 Try.f3 rfl rfl rfl rfl rfl rfl rfl ⟨rfl, rfl, rfl, rfl, rfl⟩ rfl rfl rfl rfl rfl (by kernel_rfl) Try.func3 (by kernel_rfl)
    (of_decide_eq_true (by kernel_rfl)) (by unfold Func.isWrapper; first | (rw [if_pos (by decide +kernel)]; kernel_rfl) | (rw [if_neg (by decide +kernel)]; exact ⟨rfl, rfl⟩))
    (fun os started H enc _ => lifted os started H enc)

theorem proved : Rows.FnValidTreeSaid := over
#print axioms proved
end Go.Proofs.Ytcldbjpcbhkmpaa.fnValidTree
