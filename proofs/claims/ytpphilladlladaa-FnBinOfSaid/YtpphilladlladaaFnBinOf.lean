/-
  For every argument of FnBinOf, whatever its value, the call returns true, leaves what it was handed as it was and changes no older memory. Conditions: none beside the row's own.
-/
import Derived.Test.YtpphilladlladaaRows
import Derived.Test.YtpphilladlladaaCDrawJ
import Derived.Test.YtpphilladlladaaCBinG
import Derived.Test.YtpphilladlladaaCRowsI
import Derived.Test.YtpphilladlladaaCPlace
import Derived.Test.YtpphilladlladaaCEqual
import Derived.Test.YtpphilladlladaaWRow
import Derived.WalkKit
import Derived.ProofKit
import Derived.OpenShut
import Derived.ShutString
import Derived.ChangeOld
import Derived.Below
import Derived.SizedLaws
import Derived.HandedShaped
namespace Go.Proofs.Ytpphilladlladaa.fnBinOf
open Go.RowKit

set_option maxHeartbeats 3200000 in
theorem fnBinOf_walk (a : Option Addr) (len cap : Nat) (zs : List Int) (w : World) (hr0 : IsRow .u8 w a len cap zs) (_hreach : cap * 1 ≤ 140737488351232) :
    Calls Try.prog 3 #[.slice a len cap] w fun e w' => e = .returned (.bool true) ∧ Below w.heap.size w w' := by
  have hr := Lib.hid hr0
  clear hr0
  by_cases hbig : (1048576 : Int) < (len : Int)
  · go_enter Try.func3, Try.ntmps3
    go_wp2
    go_ret
    exact ⟨rfl, Below.refl _ _⟩
  · obtain ⟨i0, hi, hz0, hz1, hz2⟩ := info_parts Try.infoIntS
    go_enter Try.func3, Try.ntmps3
    go_wp2_with fail
    refine (drawBinOf a len cap zs w hr (by omega)).mono ?_
    rintro e w1 ⟨s, rfl, hs60, hb⟩
    have hsm : s.size ≤ maxLen := by unfold maxLen; omega
    have B1 := Lib.hid hb
    clear hb hr
    obtain ⟨hl, hr2⟩ := binOut_small s
    have hfacts := @binOut_facts s
    have C1 := Lib.hid (fun w => implBinOf_any s w hsm)
    have C2 := Lib.hid (fun w => specBinOf_any s w hsm)
    obtain ⟨l, hle⟩ : ∃ l, l = binOut s.data.toList := ⟨_, rfl⟩
    rw [← hle] at hl hr2 hfacts C1 C2
    have HF := Lib.hid hfacts
    have HR2 := Lib.hid hr2
    have HRS := Lib.hid (show ∀ r ∈ l, r.length ≤ 1048576 from fun r h => by rw [hr2 r h]; omega)
    clear hle hfacts hr2
    go_wp2_with fail
    refine (C1.out _).mono ?_
    rintro e w2 ⟨v, RV, rfl, g, hb⟩
    have G2 := Lib.hid g.grid
    have B2 := Lib.hid (B1.out.trans (hb.mono B1.out.size))
    have z2 := hb.size
    clear g hb
    go_wp2_with fail
    refine (C2.out _).mono ?_
    rintro e w3 ⟨u, RU, rfl, g, hb⟩
    have G3 := Lib.hid g
    have G23 := Lib.hid (G2.out.below hb)
    have B3 := Lib.hid (B2.out.trans (hb.mono B2.out.size))
    have z3 := hb.size
    clear g hb
    obtain ⟨av, cv, rfl⟩ := grid_val G2.out
    go_wp2_with fail
    refine (equalRows_yes l _ u w3 G23 G3 (by omega) HRS.out).mono ?_
    rintro e w4 ⟨rfl, s4⟩
    have G24 := Lib.hid (G23.out.same s4.1)
    have B4 := Lib.hid (B3.out.trans (s4.below w.heap.size))
    have z4 : w4.heap.size = w3.heap.size := by rw [s4.1]
    have Z4 := Lib.hid z4
    clear s4 z4
    by_cases h0 : l.length = 0
    · have q0 : ((l.length : Int) == 0) = true := by rw [h0]; rfl
      have H0 := Lib.hid h0
      clear h0
      go_wp2_with fail
      refine (C2.out _).mono ?_
      rintro e w5 ⟨u, RU5, rfl, g, hb⟩
      have G5 := Lib.hid g
      have G25 := Lib.hid ((G24.out.more (show w2.heap.size ≤ w4.heap.size by rw [Z4.out]; exact z3)).below hb)
      have B5 := Lib.hid (B4.out.trans (hb.mono B4.out.size))
      clear g hb
      go_wp2_with fail
      refine (equalRows_yes l _ u w5 G25 G5 (by omega) HRS.out).mono ?_
      rintro e w6 ⟨rfl, s6⟩
      go_wp2
      go_ret
      exact ⟨rfl, B5.out.trans (s6.below w.heap.size)⟩
    · have q0 : ((l.length : Int) == 0) = false := beq_false_of_ne (by omega)
      obtain ⟨f1, f2, f3, f4⟩ := HF.out (by omega)
      have F1 := Lib.hid f1
      have F2 := Lib.hid f2
      have F3 := Lib.hid (diffK_nodup _ f3 _ (Nat.le_refl _))
      have F4 := Lib.hid f4
      have hl0 : 0 < l.length := by omega
      have hw24 : w2.heap.size ≤ w4.heap.size := by rw [Z4.out]; exact z3
      have HW24 := Lib.hid hw24
      clear h0 f1 f2 f3 f4
      go_wp2_with fail
      refine (implWordOfBin_any l w4 G24 hw24).mono ?_
      rintro e w5 ⟨rfl, hb⟩
      rw [F1.out]
      have G25 := Lib.hid ((G24.out.more hw24).below hb)
      have B5 := Lib.hid (B4.out.trans (hb.mono B4.out.size))
      have Z5 := Lib.hid hb.size
      clear hb hw24
      go_wp2
      obtain ⟨w6, hw6⟩ : ∃ w6, w6 = w5.alloc (.cells #[] 3) := ⟨_, rfl⟩
      have hlit := World.ownsRow_lit (base := w5.heap.size) (e := 3) (size := 1) w5 #[] 0 (Nat.le_refl _) (by decide) rfl
      rw [← hw6] at hlit ⊢
      have hb6 : Below w5.heap.size w5 w6 := by rw [hw6]; exact (Below.refl _ _).alloc (Nat.le_refl _) _
      have HB6 := Lib.hid hb6
      have HLIT := Lib.hid hlit
      obtain ⟨Bz, hBz⟩ : ∃ Bz, Bz = w5.heap.size := ⟨_, rfl⟩
      rw [← hBz] at HB6 HLIT ⊢
      have HBZ := Lib.hid hBz
      have Z45 : Hid (w4.heap.size ≤ Bz) := by rw [hBz]; exact Z5
      clear hw6 hlit hb6 hBz
      go_loopw [7, 8] (fun ar i wr => ∃ (k m : Nat) (sa : Option Addr) (c : Nat), k ≤ l.length ∧ m ≤ 2 * k ∧ ar = .slice sa m c ∧ i = .int .i64 k ∧ Hid ((armsOf (l.take k)).length = m) ∧ Hid (wr.ownsRow Bz 3 1 (.slice sa m c) m (iv (armsOf (l.take k)))) ∧ Hid (Below Bz w5 wr)) (fun _ i _ => l.length - (intOf i).toNat)
      case atStart => exact ⟨0, 0, _, _, Nat.zero_le _, Nat.le_refl _, rfl, rfl, rfl, HLIT, HB6⟩
      case round =>
        obtain ⟨k, m, sa, c, hk, hm, rfl, rfl, HLN, HOW, HB⟩ := hrel
        clear HLIT HB6
        by_cases hlt : k < l.length
        · have b1 : (k : Int) < (l.length : Int) := by omega
          have h2 : (l.getD k []).length = 2 := by
            rw [List.getD_eq_getElem?_getD, List.getElem?_eq_getElem hlt]
            exact HR2.out _ (List.getElem_mem hlt)
          have E2 := Lib.hid (armsTo_two hlt h2)
          have H2 := Lib.hid h2
          have HLN2 : Hid ((armsTo l k 0).length = m) := by show _ = _; rw [armsTo_zero]; exact HLN.out
          have HOW2 : Hid (wr.ownsRow Bz 3 1 (.slice sa m c) m (iv (armsTo l k 0))) := by rw [armsTo_zero]; exact HOW
          clear HLN HOW h2
          go_wp2
          go_loopw [7, 9] (fun ar i wr => ∃ (j m : Nat) (sa : Option Addr) (c : Nat), j ≤ 2 ∧ m ≤ 2 * k + j ∧ ar = .slice sa m c ∧ i = .int .i64 j ∧ Hid ((armsTo l k j).length = m) ∧ Hid (wr.ownsRow Bz 3 1 (.slice sa m c) m (iv (armsTo l k j))) ∧ Hid (Below Bz w5 wr)) (fun _ i _ => 2 - (intOf i).toNat)
          case atStart => exact ⟨0, m, sa, c, Nat.zero_le _, hm, rfl, rfl, HLN2, HOW2, HB⟩
          case round =>
            clear HLN2 HOW2 HB
            obtain ⟨j, m, sa, c, hj, hm2, rfl, rfl, HLN, HOW, HB⟩ := hrel
            by_cases hj2 : j < 2
            · have b2 : (j : Int) < 2 := by omega
              have g6 := G25.out.below (w' := wr) (HB.out.mono Z45.out)
              obtain ⟨x, hx⟩ : ∃ x, (l.getD k [])[j]? = some x := ⟨_, List.getElem?_eq_getElem (by rw [H2.out]; exact hj2)⟩
              obtain ⟨g1, cap1, g2, c2, hv, h1, h3, h4⟩ := grid_row g6 k hlt H2.out
              have hcell : wr.cell? ⟨g2, j, none⟩ = some (.int .i64 x) := by
                have e : j = 0 ∨ j = 1 := by omega
                rcases e with rfl | rfl
                · rw [h3, armA, List.getD_eq_getElem?_getD, hx]; rfl
                · rw [h4, armB, List.getD_eq_getElem?_getD, hx]; rfl
              have ST := Lib.hid (armsTo_step hx)
              cases hv
              clear g6 h3 h4 hx
              by_cases hx0 : 0 ≤ x
              · rw [if_pos hx0] at ST
                have d0 : decide (0 ≤ x) = true := decide_eq_true hx0
                have y1 : m + 1 ≤ maxLen := by unfold maxLen; omega
                have y2 : (m + 1) * 8 ≤ 140737488355328 := by omega
                have hsz := HB.out.size
                have Y3 := Lib.hid (show ∀ o : Obj, Bz ≤ (wr.alloc o).heap.size by intro o; rw [HBZ.out]; simp; omega)
                have Y4 := Lib.hid (show Bz ≤ wr.heap.size by rw [HBZ.out]; exact hsz)
                clear hsz
                go_wp2_with (at_builtin; refine wpList_append_own _ rfl (.tmp 55) (.tmp 63) 29 rfl Bz 3 i0 (.int .i64 0) 1 8 Try.underlying29 hi hz0 hz1 hz2 rfl (by decide) _ m (iv (armsTo l k j)) rfl (HOW.out.alloc _) ⟨wr.heap.size, 0, none⟩ 1 1 [.int .i64 x] rfl rfl (cell_one_new _ _ _) (one_int2 _) y1 y2 (Y3.out _) ?_)
                intro v2 w7 hv2 hg2 hn2
                obtain ⟨g3, c3, rfl⟩ := own_some3 hv2 hn2
                rw [iv_snoc, ← ST.out] at hv2
                have O7 := Lib.hid hv2
                have L7 : Hid ((armsTo l k (j + 1)).length = m + 1) := by show _ = _; rw [ST.out, List.length_append, HLN.out]; rfl
                have B7 := Lib.hid ((HB.out.alloc Y4.out _).grown hg2 (Y3.out _) (fun q hq => (HOW.out.lt q hq).1))
                clear hv2 hg2 hn2 Y3 Y4 HOW HB
                go_wp2
                go_roundw
                case rel => exact ⟨j + 1, m + 1, _, _, by omega, by omega, rfl, by go_num, L7, O7, B7⟩
                case measure => simp [intOf]; omega
              · rw [if_neg hx0] at ST
                have d0 : decide (0 ≤ x) = false := decide_eq_false hx0
                rw [← ST.out] at HLN HOW
                go_wp2
                go_roundw
                case rel => exact ⟨j + 1, m, _, _, by omega, by omega, rfl, by go_num, HLN, HOW, HB⟩
                case measure => simp [intOf]; omega
            · obtain rfl : j = 2 := by omega
              rw [E2.out] at HLN HOW
              go_wp2
              go_roundw
              case rel => exact ⟨k + 1, m, _, _, by omega, by omega, rfl, by go_num, HLN, HOW, HB⟩
              case measure => simp [intOf]; omega
        · obtain rfl : k = l.length := by omega
          rw [List.take_of_length_le (Nat.le_refl _)] at HLN HOW
          obtain ⟨xs, hxs⟩ : ∃ xs, xs = armsOf l := ⟨_, rfl⟩
          rw [← hxs] at HLN HOW F2 F3 F4
          have hxl := HLN.out
          have hml : (m : Int) = (l.length : Int) - 1 := by have := F2.out; omega
          have OX : Hid (Own wr Bz wr.heap.size 3 (.slice sa m c) (iv xs)) := Own.of_own (by rw [iv_length, hxl]; exact HOW.out)
          have hm9 : xs.length ≤ 1048576 := by omega
          have BF := Lib.hid (B5.out.trans (HB.out.mono (by rw [HBZ.out]; exact B5.out.size)))
          have CD := Lib.hid (different_any xs (.slice sa m c) wr OX hm9)
          have CI := Lib.hid (fun n => isIn_any xs (.slice sa m c) 0 (wr.drewN n) (Lib.hid (OX.out.same rfl)) hm9)
          have HXL := Lib.hid hxl
          clear hxs HLN HOW hxl OX
          go_wp2_with fail
          refine CD.out.mono ?_
          rintro e w8 ⟨rfl, q, rfl⟩
          rw [F3.out, HXL.out]
          go_wp2_with fail
          refine (CI.out q).mono ?_
          rintro e w9 ⟨rfl, rfl⟩
          rw [F4.out]
          go_wp2
          go_ret
          exact ⟨rfl, BF.out.trans ⟨rfl, rfl, rfl, Nat.le_refl _, fun _ _ => rfl⟩⟩

open Go.ChangeShapes Go.WideShapes Go.ChangeAt Go.RowKit
open Go.ChangeMaps (open_string shut_string)
set_option linter.unusedVariables false

theorem own : ownKnob Try.prog.godebug = none := by kernel_rfl
theorem laidOut : laidOutB Try.prog = true := by kernel_rfl

set_option maxRecDepth 100000 in
theorem lifted (os : Os) (started : os.Started) (H : Type) (enc : TypeId × Value → H) :
    ReturnsInHanded {} Try.checked os 3 .any (Rows.fnBinOfSpec.pre6 enc Try.prog Try.f3 Rows.fnBinOfRow.domain false) (Rows.fnBinOfSpec.post enc Try.prog Try.f3 false true false false) := by
  refine returnsInHanded_of_change_shaped (C := Try.checked) own started (by kernel_rfl) Try.func3
    (ChangeSpec.witness6 (enc := enc) (C := Try.checked) false ⟨#[], #[.slice none 0 0], []⟩ 8 (by kernel_rfl) (by kernel_rfl) (by kernel_rfl) (by kernel_rfl)) ?_
  intro W base args ds gs before hval0 hW hcnd hsz0 hsh _
  have hval : ∀ (j : Nat) t v, Try.f3.params[j]? = some t → args[j]? = some v → Value.okWide Try.prog W .any base t v := hval0
  have hW' := hW
  obtain ⟨p, q, hA0, hV, rfl, hfz, hnd⟩ := hW
  have hA : DataW.TrodAll enc Try.prog W 0 (fun _ => true) true Try.f3.params.toList args.toList ds p := hA0
  have hsz : (DataW.weightsEach Try.prog (Try.f3.params.toList ++ Rows.fnBinOfSpec.plain.varTypes Try.prog) (ds ++ gs)).all (· ≤ reachBytes) = true := hsz0
  rw [Try.params3] at hA hval hsz
  obtain ⟨v0, vs0, d0, ds0, p0, q0, hargs, rfl, rfl, h0, r0⟩ := trodAll_cons hA
  obtain ⟨rfl, rfl, rfl⟩ := trodAll_nil r0
  obtain rfl : args = #[v0] := by cases args; simp_all
  obtain ⟨rfl, rfl⟩ := trodVars_none hV
  obtain ⟨a0, len0, cap0, rfl⟩ := okWide_slice Try.underlying22 (hval 0 22 v0 rfl rfl)
  have k0 := h0
  have lt0 : ∀ x ∈ p0, x.block < W.heap.size := by obtain ⟨m, hm⟩ := k0; exact DataW.trod_lt m _ _ _ hm
  obtain ⟨z0, w0, hreach⟩ : ∃ zs, IsRow .u8 W a0 len0 cap0 zs ∧ cap0 * 1 ≤ 140737488351232 := by
    obtain ⟨fuel, hf⟩ := h0
    rcases open_ints Try.underlying22 Try.underlying5 (by kernel_rfl) hf with ⟨hcs, _⟩ | ⟨x, l, c, zs, hcs, _, hl, hm, hz, hx, hcell, hwz⟩
    · simp [Value.cells] at hcs
      obtain ⟨rfl, rfl, rfl⟩ := hcs
      exact ⟨[], .inl ⟨rfl, rfl, rfl, rfl⟩, by omega⟩
    · simp [Value.cells] at hcs
      obtain ⟨rfl, rfl, rfl⟩ := hcs
      refine ⟨zs, .inr ⟨_, rfl, hl, hm, by simpa using hz, hcell, hwz⟩, ?_⟩
      simp only [Prod.mk.injEq] at hx
      obtain ⟨hx1, hx2⟩ := hx
      rw [hx1] at hsz
      have hb := sized_slice hsz (j := 0) (t := 22) (e := 5) rfl rfl Try.underlying22
      have b8 : Try.prog.bytesOf 5 = 1 := by kernel_rfl
      rw [b8] at hb
      simp only [lits, List.length_map, List.length_take, List.length_drop, reachBytes] at hb
      simp only [if_true] at hz
      omega
  clear hA0 hval0
  refine (fnBinOf_walk a0 len0 cap0 z0 W w0 hreach).mono fun e W' ⟨he, bel⟩ => ?_
  subst he
  exact ⟨_, rfl, _, _, _, [], _, [], hW', trodAll_mk1 (shut_bool Try.underlying4 _), trodAll_mk1 (Below.trod laidOut (by kernel_rfl) (of_decide_eq_true (by kernel_rfl)) k0 bel lt0), rfl, bel.frame _, fun h => by cases h⟩

theorem over : Rows.fnBinOfRow.holds Try.pinned (OpenSpec.ofChange Rows.fnBinOfSpec) :=
  OpenClaim.holds_of_wide 3 Try.f3 rfl rfl rfl rfl rfl rfl rfl ⟨rfl, rfl, rfl, rfl, rfl⟩ rfl rfl rfl rfl rfl (by kernel_rfl) Try.func3 (by kernel_rfl)
    (of_decide_eq_true (by kernel_rfl)) (by unfold Func.isWrapper; first | (rw [if_pos (by decide +kernel)]; kernel_rfl) | (rw [if_neg (by decide +kernel)]; exact ⟨rfl, rfl⟩))
    (fun os started H enc _ => lifted os started H enc)

theorem proved : Rows.FnBinOfSaid := over
#print axioms proved
end Go.Proofs.Ytpphilladlladaa.fnBinOf
