/-
  For every argument of FnCentersOf, whatever its value, the call returns true, leaves what it was handed as it was and changes no older memory. Conditions: none beside the row's own.
-/
import Derived.Test.YtmoelhaobnloaaaRows
import Derived.Test.YtmoelhaobnloaaaKFreeL
import Derived.Test.YtmoelhaobnloaaaZU
import Derived.Test.YtmoelhaobnloaaaWCodeF
import Derived.Test.YtmoelhaobnloaaaZG
import Derived.Test.YtmoelhaobnloaaaCFreeS
import Derived.Test.YtmoelhaobnloaaaZE
import Derived.Test.YtmoelhaobnloaaaZW
import Derived.WalkKit
import Derived.ProofKit
import Derived.OpenShut
import Derived.ShutString
import Derived.ChangeOld
import Derived.Below
import Derived.SizedLaws
import Derived.HandedShaped
namespace Go.Proofs.Ytmoelhaobnloaaa.fnCentersOf
open Go.RowKit

set_option maxHeartbeats 3200000 in
set_option maxRecDepth 100000 in
theorem fnCentersOf_walk (a : Option Addr) (len cap : Nat) (zs : List Int) (w : World) (hr0 : IsRow .u8 w a len cap zs) (_hreach : cap * 1 ≤ 140737488351232) :
    Calls Try.prog 3 #[.slice a len cap] w fun e w' => e = .returned (.bool true) ∧ Below w.heap.size w w' := by
  have hr := Lib.hid hr0
  clear hr0
  by_cases hbig : (1048576 : Int) < (len : Int)
  · go_enter Try.func3, Try.ntmps3
    go_wp2
    go_ret
    exact ⟨rfl, Below.refl _ _⟩
  · go_enter Try.func3, Try.ntmps3
    go_wp2_with fail
    refine (drawCentersOf a len cap zs w hr (by omega)).mono ?_
    rintro e w1 ⟨n, rows, v, RV, rfl, g1, hn, hl, hr2, b1⟩
    have hn := hn
    have hwf : (Lit.int .i64 n).wf = true := wf_smallC n (by omega)
    have G1 := Lib.hid g1
    have B1 := Lib.hid b1
    have hrs : ∀ r ∈ rows, r.length ≤ 1048576 := fun r h => by rw [hr2 r h]; decide
    have HR2 := Lib.hid hr2
    have hrl : rows.length ≤ 1048576 := by omega
    have CI := Lib.hid (fun (v : Value) (RV : List Value) (w : World) (B0 H0 : Nat) (hG : Hid (Grid w B0 H0 v RV rows)) hH => centersOf_any n rows v RV w hG hH hrl hrs hwf)
    have CS := Lib.hid (fun (v : Value) (RV : List Value) (w : World) (B0 H0 : Nat) (hG : Hid (Grid w B0 H0 v RV rows)) hH => specCentersOf_any n rows v RV w hG hH hrl)
    have FC := Lib.hid (centsL_facts (n := n) (rows := rows))
    obtain ⟨l, hle⟩ : ∃ l, l = centsOut n rows := ⟨_, rfl⟩
    rw [← hle] at FC
    simp only [← hle] at CI CS
    have hl2 : l.length ≤ 2 := by
      by_cases hz : 0 < l.length
      · rcases FC.out hz with h | ⟨a, b, h, _⟩
        · omega
        · rw [h]; simp
      · omega
    obtain ⟨av, cv, rfl, _, _, _, _⟩ := g1.1.slice
    have HGL := Lib.hid g1.2.1
    have s01 := b1.size
    clear g1 b1 hr hrs hle hr2
    go_wp2_with fail
    refine (CI.out _ RV w1 _ _ G1 (Nat.le_refl _)).mono ?_
    rintro e w2 ⟨v2, rfl, o2, b2⟩
    have G2 := Lib.hid (G1.out.below b2)
    have B2 := Lib.hid (B1.out.trans (b2.mono s01))
    obtain ⟨a2, c2, rfl, _, _, _, _⟩ := o2.slice
    obtain ⟨m, hm⟩ : ∃ m, m = l.length := ⟨_, rfl⟩
    rw [iv_length, ← hm] at o2 ⊢
    have O2 := Lib.hid o2
    have HM := Lib.hid hm
    have hm2 : m ≤ 2 := by omega
    have s12 := b2.size
    clear b2 o2 hm
    go_wp2_with fail
    refine (CS.out _ RV w2 _ _ G2 s12).mono ?_
    rintro e w3 ⟨v3, rfl, o3, b3⟩
    have G3 := Lib.hid (G2.out.below (b3.mono s12))
    have B3 := Lib.hid (B2.out.trans (b3.mono (by omega)))
    have O23 := Lib.hid (O2.out.below b3)
    have O3 := Lib.hid o3
    have s23 := b3.size
    clear b3 o3 G2 B2 O2
    go_wp2_with fail
    refine (equalInts_yes l _ v3 w3 O23 O3 (by omega)).mono ?_
    rintro e w4 ⟨rfl, t4⟩
    have z4 : w4.heap.size = w3.heap.size := by rw [t4.1]
    have G4 := Lib.hid (G3.out.same t4.1)
    have B4 := Lib.hid (B3.out.trans (t4.below _))
    have O4 := Lib.hid (O23.out.same t4.1)
    have s14 : w1.heap.size ≤ w4.heap.size := by omega
    have s24 : w2.heap.size ≤ w4.heap.size := by omega
    clear t4 z4 G3 B3 O3 O23
    by_cases h0 : m = 0
    · have q0 : ((m : Int) == 0) = true := by rw [h0]; rfl
      clear h0 FC CI
      go_wp2_with fail
      refine (CS.out _ RV w4 _ _ G4 s14).mono ?_
      rintro e w6 ⟨v6, rfl, o6, b6⟩
      have B6 := Lib.hid (B4.out.trans (b6.mono (by omega)))
      have O6 := Lib.hid (O4.out.below (b6.mono s24))
      have O66 := Lib.hid o6
      clear b6 o6
      go_wp2_with fail
      refine (equalInts_yes l _ v6 w6 O6 O66 (by omega)).mono ?_
      rintro e w7 ⟨rfl, t7⟩
      have B7 := Lib.hid (B6.out.trans (t7.below _))
      clear t7
      go_wp2
      go_ret
      exact ⟨rfl, B7.out⟩
    · have q0 : ((m : Int) == 0) = false := by rw [beq_eq_false_iff_ne]; omega
      have FC2 := Lib.hid (FC.out (by rw [← HM.out]; omega))
      obtain ⟨M, hMr⟩ : ∃ M, M = rows.length := ⟨_, rfl⟩
      have HMR := Lib.hid hMr
      have hgl2 : RV.length = M := by rw [HGL.out, hMr]
      rw [hgl2] at G4 ⊢
      have hM64 : M ≤ 1048576 := by omega
      clear h0 FC CI CS HGL hMr hgl2 hl hrl G1
      by_cases hm1 : m = 1
      · subst hm1
        clear q0
        have SB : Hid (∀ q, Below w.heap.size w (w4.drewN q)) := fun q => B4.out.trans ⟨rfl, rfl, rfl, Nat.le_refl _, fun _ _ => rfl⟩
        go_wp2_with fail
        go_loopw [6, 7] (fun e6 ii wr => ∃ k : Nat, k ≤ M ∧ ii = .int .i64 (k : Int) ∧ e6 = .bool false ∧ Hid (Below w.heap.size w wr)) (fun _ ii _ => M - (intOf ii).toNat)
        case atStart => exact ⟨0, Nat.zero_le _, rfl, rfl, B4⟩
        case round =>
          obtain ⟨k, hk, rfl, rfl, HB⟩ := hrel
          by_cases hlt : k < M
          · have b1 : (k : Int) < (M : Int) := by omega
            go_wp2_with fail
            go_quiet (fail)
            all_goals
              go_wp2
              go_roundw
              case rel => exact ⟨k + 1, by omega, by go_num, rfl, HB.out.trans ⟨rfl, rfl, rfl, Nat.le_refl _, fun _ _ => rfl⟩⟩
              case measure => simp [intOf]; omega
          · obtain rfl : k = M := by omega
            go_wp2
            go_ret
            exact ⟨rfl, HB.out⟩
      · obtain ⟨p, q, hl, hin, hrw⟩ : ∃ p q : Int, l = [p, q] ∧ [p, q] ∈ rows ∧ ∀ r ∈ rows, ∃ x y : Int, r = [x, y] := by
          rcases FC2.out with h | h
          · exfalso; apply hm1; rw [HM.out, h]
          · exact h
        have hm2' : m = 2 := by rw [HM.out, hl]; rfl
        subst hm2'
        obtain ⟨g, rfl, _, hgl4, d0, _⟩ := O4.out.at_ 0 (by rw [iv_length, hl]; simp)
        obtain ⟨g', e4, _, _, d1, _⟩ := O4.out.at_ 1 (by rw [iv_length, hl]; simp)
        simp only [Option.some.injEq, Addr.mk.injEq] at e4
        obtain ⟨rfl, _⟩ := e4
        rw [hl] at d0 d1
        replace d0 : w4.cell? ⟨g, 0, none⟩ = some (.int .i64 p) := d0
        replace d1 : w4.cell? ⟨g, 1, none⟩ = some (.int .i64 q) := d1
        have HD : Hid (∀ W, Below w4.heap.size w4 W → W.cell? ⟨g, 0, none⟩ = some (.int .i64 p) ∧ W.cell? ⟨g, 1, none⟩ = some (.int .i64 q)) := fun W hW => ⟨(hW.cell (p := ⟨g, 0, none⟩) (Nat.lt_of_lt_of_le hgl4 s24)).trans d0, (hW.cell (p := ⟨g, 1, none⟩) (Nat.lt_of_lt_of_le hgl4 s24)).trans d1⟩
        have HIN := Lib.hid hin
        have HRW := Lib.hid hrw
        have S04 : Hid (w.heap.size ≤ w4.heap.size) := B4.out.size
        have RB : Hid (Below w4.heap.size w4 w4) := Below.refl _ _
        have GB : Hid (∀ W, Below w4.heap.size w4 W → Grid W w.heap.size w1.heap.size (.slice av M cv) RV rows) := fun W hW => G4.out.below (hW.mono s14)
        have K0 : Hid (false = decide ([p, q] ∈ rows.take 0)) := by show _ = _; simp
        clear q0 hl hin hrw d0 d1 hgl4 FC2 HM O4 G4 hm1 HR2
        go_wp2_with fail
        go_loopw [6, 7] (fun e6 ii wr => ∃ (k : Nat) (t : Bool), k ≤ M ∧ ii = .int .i64 (k : Int) ∧ e6 = .bool t ∧ Hid (t = decide ([p, q] ∈ rows.take k)) ∧ Hid (Below w4.heap.size w4 wr)) (fun _ ii _ => M - (intOf ii).toNat)
        case atStart => exact ⟨0, false, Nat.zero_le _, rfl, rfl, K0, RB⟩
        case round =>
          clear K0 RB
          obtain ⟨k, t, hk, rfl, rfl, HT, HB⟩ := hrel
          by_cases hlt : k < M
          · have b1 : (k : Int) < (M : Int) := by omega
            have hkR : k < rows.length := by rw [← HMR.out]; exact hlt
            have TN : decide ([p, q] ∈ rows.take (k + 1)) = (decide ([p, q] ∈ rows.take k) || decide (rows[k] = [p, q])) := by
              rw [List.take_succ_eq_append_getElem hkR, Bool.eq_iff_iff, Bool.or_eq_true, decide_eq_true_eq, decide_eq_true_eq, decide_eq_true_eq, List.mem_append, List.mem_singleton]
              exact ⟨fun h => h.imp id Eq.symm, fun h => h.imp id Eq.symm⟩
            rw [← HT.out] at TN
            cases t with
            | true =>
              have TN2 : Hid (true = decide ([p, q] ∈ rows.take (k + 1))) := by show _ = _; rw [TN]; rfl
              clear TN HT hkR
              go_wp2_with fail
              go_quiet (fail)
              all_goals
                go_wp2
                go_roundw
                case rel => exact ⟨k + 1, true, by omega, by go_num, rfl, TN2, HB.out.trans ⟨rfl, rfl, rfl, Nat.le_refl _, fun _ _ => rfl⟩⟩
                case measure => simp [intOf]; omega
            | false =>
              obtain ⟨x, y, hxy⟩ := HRW.out _ (List.getElem_mem hkR)
              obtain ⟨ga, gr, cr, hga, hcr, c1, c2, c3⟩ := pair_at (by have := GB.out _ HB.out; rwa [HMR.out] at this) hkR hxy
              obtain ⟨d0, d1⟩ := HD.out _ HB.out
              replace c2 : wr.cell? ⟨gr, 0, none⟩ = some (.int .i64 x) := c2
              replace c3 : wr.cell? ⟨gr, 1, none⟩ = some (.int .i64 y) := c3
              rw [hxy] at TN
              obtain ⟨b, hb⟩ : ∃ b, b = (x == p && y == q) := ⟨_, rfl⟩
              have TN2 : Hid (b = decide ([p, q] ∈ rows.take (k + 1))) := by
                show _ = _
                rw [TN, hb, Bool.false_or, Bool.eq_iff_iff]; simp
              subst hga
              clear TN HT hkR hxy HRW HIN GB HD
              by_cases h1 : x = p
              · have q1 : (x == p) = true := by rw [h1]; simp
                by_cases h2 : y = q
                · have q2 : (y == q) = true := by rw [h2]; simp
                  have hbt : b = true := by rw [hb, q1, q2]; rfl
                  subst hbt
                  clear h1 h2 hb
                  go_wp2_with fail
                  go_quiet (fail)
                  all_goals
                    go_wp2
                    go_roundw
                    case rel => exact ⟨k + 1, true, by omega, by go_num, rfl, TN2, HB.out.trans ⟨rfl, rfl, rfl, Nat.le_refl _, fun _ _ => rfl⟩⟩
                    case measure => simp [intOf]; omega
                · have q2 : (y == q) = false := by rw [beq_eq_false_iff_ne]; exact h2
                  have hbt : b = false := by rw [hb, q1, q2]; rfl
                  subst hbt
                  clear h1 h2 hb
                  go_wp2_with fail
                  go_quiet (fail)
                  all_goals
                    go_wp2
                    go_roundw
                    case rel => exact ⟨k + 1, false, by omega, by go_num, rfl, TN2, HB.out.trans ⟨rfl, rfl, rfl, Nat.le_refl _, fun _ _ => rfl⟩⟩
                    case measure => simp [intOf]; omega
              · have q1 : (x == p) = false := by rw [beq_eq_false_iff_ne]; exact h1
                have hbt : b = false := by rw [hb, q1]; rfl
                subst hbt
                clear h1 hb
                go_wp2_with fail
                go_quiet (fail)
                all_goals
                  go_wp2
                  go_roundw
                  case rel => exact ⟨k + 1, false, by omega, by go_num, rfl, TN2, HB.out.trans ⟨rfl, rfl, rfl, Nat.le_refl _, fun _ _ => rfl⟩⟩
                  case measure => simp [intOf]; omega
          · obtain rfl : k = M := by omega
            have HT2 : Hid (t = true) := by show _ = _; rw [HT.out, HMR.out, List.take_length]; exact decide_eq_true HIN.out
            have BF : Hid (Below w.heap.size w wr) := B4.out.trans (HB.out.mono S04.out)
            clear HT HB
            go_wp2
            go_ret
            rw [HT2.out]
            exact ⟨rfl, BF.out⟩

open Go.ChangeShapes Go.WideShapes Go.ChangeAt Go.RowKit
open Go.ChangeMaps (open_string shut_string)
set_option linter.unusedVariables false

theorem own : ownKnob Try.prog.godebug = none := by kernel_rfl
theorem laidOut : laidOutB Try.prog = true := by kernel_rfl

set_option maxRecDepth 100000 in
theorem lifted (os : Os) (started : os.Started) (H : Type) (enc : TypeId × Value → H) :
    ReturnsInHanded {} Try.checked os 3 .any (Rows.fnCentersOfSpec.pre6 enc Try.prog Try.f3 Rows.fnCentersOfRow.domain false) (Rows.fnCentersOfSpec.post enc Try.prog Try.f3 false true false false) := by
  refine returnsInHanded_of_change_shaped (C := Try.checked) own started (by kernel_rfl) Try.func3
    (ChangeSpec.witness6 (enc := enc) (C := Try.checked) false ⟨#[], #[.slice none 0 0], []⟩ 8 (by kernel_rfl) (by kernel_rfl) (by kernel_rfl) (by kernel_rfl)) ?_
  intro W base args ds gs before hval0 hW hcnd hsz0 hsh _
  have hval : ∀ (j : Nat) t v, Try.f3.params[j]? = some t → args[j]? = some v → Value.okWide Try.prog W .any base t v := hval0
  have hW' := hW
  obtain ⟨p, q, hA0, hV, rfl, hfz, hnd⟩ := hW
  have hA : DataW.TrodAll enc Try.prog W 0 (fun _ => true) true Try.f3.params.toList args.toList ds p := hA0
  have hsz : (DataW.weightsEach Try.prog (Try.f3.params.toList ++ Rows.fnCentersOfSpec.plain.varTypes Try.prog) (ds ++ gs)).all (· ≤ reachBytes) = true := hsz0
  rw [Try.params3] at hA hval hsz
  obtain ⟨v0, vs0, d0, ds0, p0, q0, hargs, rfl, rfl, h0, r0⟩ := trodAll_cons hA
  obtain ⟨rfl, rfl, rfl⟩ := trodAll_nil r0
  obtain rfl : args = #[v0] := by cases args; simp_all
  obtain ⟨rfl, rfl⟩ := trodVars_none hV
  obtain ⟨a0, len0, cap0, rfl⟩ := okWide_slice Try.underlying22 (hval 0 22 v0 rfl rfl)
  have k0 := h0
  have lt0 : ∀ x ∈ p0, x.block < W.heap.size := by obtain ⟨m, hm⟩ := k0; exact DataW.trod_lt m _ _ _ hm
  obtain ⟨z0, w0, hreach⟩ : ∃ zs, IsRow .u8 W a0 len0 cap0 zs ∧ cap0 * 1 ≤ 140737488351232 := by
    obtain ⟨fuel, hf⟩ := h0
    rcases open_ints Try.underlying22 Try.underlying5 (by kernel_rfl) hf with ⟨hcs, _⟩ | ⟨x, l, c, zs, hcs, _, hl, hm, hz, hx, hcell, hwz⟩
    · simp [Value.cells] at hcs
      obtain ⟨rfl, rfl, rfl⟩ := hcs
      exact ⟨[], .inl ⟨rfl, rfl, rfl, rfl⟩, by omega⟩
    · simp [Value.cells] at hcs
      obtain ⟨rfl, rfl, rfl⟩ := hcs
      refine ⟨zs, .inr ⟨_, rfl, hl, hm, by simpa using hz, hcell, hwz⟩, ?_⟩
      simp only [Prod.mk.injEq] at hx
      obtain ⟨hx1, hx2⟩ := hx
      rw [hx1] at hsz
      have hb := sized_slice hsz (j := 0) (t := 22) (e := 5) rfl rfl Try.underlying22
      have b8 : Try.prog.bytesOf 5 = 1 := by kernel_rfl
      rw [b8] at hb
      simp only [lits, List.length_map, List.length_take, List.length_drop, reachBytes] at hb
      simp only [if_true] at hz
      omega
  clear hA0 hval0
  refine (fnCentersOf_walk a0 len0 cap0 z0 W w0 hreach).mono fun e W' ⟨he, bel⟩ => ?_
  subst he
  exact ⟨_, rfl, _, _, _, [], _, [], hW', trodAll_mk1 (shut_bool Try.underlying4 _), trodAll_mk1 (Below.trod laidOut (by kernel_rfl) (of_decide_eq_true (by kernel_rfl)) k0 bel lt0), rfl, bel.frame _, fun h => by cases h⟩

theorem over : Rows.fnCentersOfRow.holds Try.pinned (OpenSpec.ofChange Rows.fnCentersOfSpec) :=
  OpenClaim.holds_of_wide 3 Try.f3 rfl rfl rfl rfl rfl rfl rfl ⟨rfl, rfl, rfl, rfl, rfl⟩ rfl rfl rfl rfl rfl (by kernel_rfl) Try.func3 (by kernel_rfl)
    (of_decide_eq_true (by kernel_rfl)) (by unfold Func.isWrapper; first | (rw [if_pos (by decide +kernel)]; kernel_rfl) | (rw [if_neg (by decide +kernel)]; exact ⟨rfl, rfl⟩))
    (fun os started H enc _ => lifted os started H enc)

theorem proved : Rows.FnCentersOfSaid := over
#print axioms proved
end Go.Proofs.Ytmoelhaobnloaaa.fnCentersOf
