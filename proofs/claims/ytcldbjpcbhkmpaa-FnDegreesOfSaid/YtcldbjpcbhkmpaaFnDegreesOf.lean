/-
  For every argument of FnDegreesOf, whatever its value, the call returns true, leaves what it was handed as it was and changes no older memory. Conditions: none beside the row's own.
-/
import Derived.Test.YtcldbjpcbhkmpaaRows
import Derived.Test.YtcldbjpcbhkmpaaCDrawT
import Derived.Test.YtcldbjpcbhkmpaaWCodeF
import Derived.Test.YtcldbjpcbhkmpaaCCntE
import Derived.Test.YtcldbjpcbhkmpaaCCodeR
import Derived.Test.YtcldbjpcbhkmpaaZE
import Derived.Test.YtcldbjpcbhkmpaaKTotal
import Derived.Test.YtcldbjpcbhkmpaaZW
import Derived.WalkKit
import Derived.ProofKit
import Derived.OpenShut
import Derived.ShutString
import Derived.ChangeOld
import Derived.Below
import Derived.SizedLaws
import Derived.HandedShaped
namespace Go.Proofs.Ytcldbjpcbhkmpaa.fnDegreesOf
open Go.RowKit

set_option maxHeartbeats 3200000 in
set_option maxRecDepth 100000 in
theorem fnDegreesOf_walk (a : Option Addr) (len cap : Nat) (zs : List Int) (w : World) (hr0 : IsRow .u8 w a len cap zs) (_hreach : cap * 1 ≤ 140737488351232) :
    Calls Try.prog 4 #[.slice a len cap] w fun e w' => e = .returned (.bool true) ∧ Below w.heap.size w w' := by
  have hr := Lib.hid hr0
  clear hr0
  by_cases hbig : (1048576 : Int) < (len : Int)
  · go_enter Try.func4, Try.ntmps4
    go_wp2
    go_ret
    exact ⟨rfl, Below.refl _ _⟩
  · go_enter Try.func4, Try.ntmps4
    go_wp2_with fail
    refine (drawDegreesOf a len cap zs w hr (by omega)).mono ?_
    rintro e w1 ⟨n, rows, v, RV, rfl, g1, hn, hl, hr2, b1⟩
    have hn := hn
    have hwf : (Lit.int .i64 n).wf = true := wf_smallC n (by omega)
    have G1 := Lib.hid g1
    have B1 := Lib.hid b1
    have hrs : ∀ r ∈ rows, r.length ≤ 1048576 := fun r h => by rw [hr2 r h]; decide
    have HRS := Lib.hid hrs
    have hrl : rows.length ≤ 1048576 := by omega
    have CI := Lib.hid (fun (v : Value) (RV : List Value) (w : World) (B0 H0 : Nat) (hG : Hid (Grid w B0 H0 v RV rows)) hH => degreesOf_p n rows v RV w B0 H0 hG hH hrl hrs hwf)
    have CC := Lib.hid (fun (v : Value) (RV : List Value) (w : World) (B0 H0 : Nat) (hG : Hid (Grid w B0 H0 v RV rows)) hH => codeOf_p n rows v RV w B0 H0 hG hH hrl hrs hwf)
    have CS := Lib.hid (fun (v : Value) (RV : List Value) (w : World) (B0 H0 : Nat) (hG : Hid (Grid w B0 H0 v RV rows)) hH => specDegrees_any n rows v RV w hG hH hrl)
    have hdl := degOut_le n rows
    have HPO := Lib.hid (deg_facts (n := n) (rows := rows))
    obtain ⟨l, hle⟩ : ∃ l, l = degOut n rows := ⟨_, rfl⟩
    rw [← hle] at hdl HPO
    simp only [← hle] at CI CS
    obtain ⟨av, cv, rfl, _, _, _, _⟩ := g1.1.slice
    have s01 := b1.size
    clear g1 b1 hr hrs hle
    go_wp2_with fail
    refine (CI.out _ RV w1 _ _ G1 (Nat.le_refl _)).mono ?_
    rintro e w2 ⟨v2, rfl, o2, b2⟩
    have G2 := Lib.hid (G1.out.below b2)
    have B2 := Lib.hid (B1.out.trans (b2.mono s01))
    obtain ⟨a2, c2, rfl, _, _, _, _⟩ := o2.slice
    obtain ⟨m, hm⟩ : ∃ m, m = l.length := ⟨_, rfl⟩
    rw [iv_length, ← hm] at o2 ⊢
    have O2 := Lib.hid o2
    have HM := Lib.hid hm
    have hm64 : m ≤ 64 := by omega
    have s12 := b2.size
    clear b2 o2 hm
    go_wp2_with fail
    refine (CS.out _ RV w2 _ _ G2 s12).mono ?_
    rintro e w3 ⟨v3, rfl, o3, b3⟩
    have G3 := Lib.hid (G2.out.below (b3.mono s12))
    have B3 := Lib.hid (B2.out.trans (b3.mono (by omega)))
    have O23 := Lib.hid (O2.out.below b3)
    have O3 := Lib.hid o3
    have s23 := b3.size
    clear b3 o3 G2 B2 O2
    go_wp2_with fail
    refine (equalInts_yes l _ v3 w3 O23 O3 (by omega)).mono ?_
    rintro e w4 ⟨rfl, t4⟩
    have z4 : w4.heap.size = w3.heap.size := by rw [t4.1]
    have G4 := Lib.hid (G3.out.same t4.1)
    have B4 := Lib.hid (B3.out.trans (t4.below _))
    have O4 := Lib.hid (O23.out.same t4.1)
    have s14 : w1.heap.size ≤ w4.heap.size := by omega
    have s24 : w2.heap.size ≤ w4.heap.size := by omega
    clear t4 z4 G3 B3 O3 O23
    by_cases h0 : m = 0
    · have q0 : ((m : Int) == 0) = true := by rw [h0]; rfl
      clear h0 HPO CI CC
      go_wp2_with fail
      refine (CS.out _ RV w4 _ _ G4 s14).mono ?_
      rintro e w6 ⟨v6, rfl, o6, b6⟩
      have B6 := Lib.hid (B4.out.trans (b6.mono (by omega)))
      have O6 := Lib.hid (O4.out.below (b6.mono s24))
      have O66 := Lib.hid o6
      clear b6 o6
      go_wp2_with fail
      refine (equalInts_yes l _ v6 w6 O6 O66 (by omega)).mono ?_
      rintro e w7 ⟨rfl, t7⟩
      have B7 := Lib.hid (B6.out.trans (t7.below _))
      clear t7
      go_wp2
      go_ret
      exact ⟨rfl, B7.out⟩
    · have q0 : ((m : Int) == 0) = false := by rw [beq_eq_false_iff_ne]; omega
      obtain ⟨N, c, d, hnN, hN1, hN7, hld, hcc, hcl, hd100, hcnt, hsum⟩ := HPO.out (by rw [← HM.out]; omega)
      subst hnN
      have CK := Lib.hid (CC.out _ RV w4 _ _ G4 s14)
      rw [hcc] at CK
      have hmN : m = N := by rw [HM.out, hld]; simp
      have HL := Lib.hid hld
      have HCNT := Lib.hid hcnt
      have HSUM := Lib.hid hsum
      have HD := Lib.hid hd100
      have HCL := Lib.hid hcl
      have HMN := Lib.hid hmN
      clear h0 HPO CI CC CS hld hcc hcnt hsum hd100 hcl hmN
      go_wp2_with fail
      refine CK.out.mono ?_
      rintro e w5 ⟨v5, rfl, o5, b5⟩
      have O25 := Lib.hid (O4.out.below (b5.mono s24))
      have B5 := Lib.hid (B4.out.trans (b5.mono (by omega)))
      obtain ⟨a5, c5, rfl, _, _, _, _⟩ := o5.slice
      obtain ⟨M, hM⟩ : ∃ M, M = c.length := ⟨_, rfl⟩
      rw [iv_length, List.length_map, ← hM] at o5 ⊢
      have O5 := Lib.hid o5
      have HMC := Lib.hid hM
      have hM64 : M ≤ 64 := by rw [hM]; exact HCL.out
      clear o5 b5 hM G4 B4 O4 CK
      go_wp2
      go_loop [7] (fun vv => ∃ q : Nat, q ≤ N ∧ vv = .int .i64 (q : Int)) (fun vv => N - (intOf vv).toNat)
      case atStart => exact ⟨0, Nat.zero_le _, rfl⟩
      case round =>
        obtain ⟨q, hq, rfl⟩ := hrel
        by_cases hlt : q < N
        · have b1 : (q : Int) < (N : Int) := by omega
          go_wp2
          go_loop [8, 9] (fun kk ii => ∃ i x : Nat, i ≤ M ∧ ii = .int .i64 (i : Int) ∧ kk = .int .i64 (x : Int) ∧ x ≤ i + 1 ∧ Hid (x = 1 + (c.take i).count q)) (fun _ ii => M - (intOf ii).toNat)
          case atStart => exact ⟨0, 1, Nat.zero_le _, rfl, rfl, by omega, (show 1 = 1 + (c.take 0).count q by simp)⟩
          case round =>
            obtain ⟨i, x, hi, rfl, rfl, hx, HX⟩ := hrel
            by_cases hlt2 : i < M
            · have b2 : (i : Int) < (M : Int) := by omega
              have hic : i < c.length := by rw [← HMC.out]; exact hlt2
              obtain ⟨g5, rfl, _, _, h5, _⟩ := O5.out.at_ i (by rw [iv_length, List.length_map]; exact hic)
              have e5 : (iv (c.map fun (k : Nat) => (k : Int)))[i]? = some (.int .i64 ((c[i] : Nat) : Int)) := by simp [iv, hic]
              have h6 := h5.trans e5
              have CT := cnt_takeK c i hic q
              obtain ⟨y, hy⟩ : ∃ y, y = c[i] := ⟨_, rfl⟩
              rw [← hy] at h6 CT
              clear h5 e5 hy
              by_cases hyq : y = q
              · have q1 : ((y : Int) == (q : Int)) = true := by rw [hyq]; simp
                rw [if_pos hyq] at CT
                have HX2 : Hid (x + 1 = 1 + (c.take (i + 1)).count q) := by show _ = _; rw [CT, HX.out]; omega
                clear hyq CT HX
                go_wp2
                go_round
                case rel => exact ⟨i + 1, x + 1, by omega, by go_num, by go_num, by omega, HX2⟩
                case measure => simp [intOf]; omega
              · have q1 : ((y : Int) == (q : Int)) = false := by rw [beq_eq_false_iff_ne]; omega
                rw [if_neg hyq] at CT
                have HX2 : Hid (x = 1 + (c.take (i + 1)).count q) := by show _ = _; rw [CT, HX.out]; omega
                clear hyq CT HX
                go_wp2
                go_round
                case rel => exact ⟨i + 1, x, by omega, by go_num, rfl, by omega, HX2⟩
                case measure => simp [intOf]; omega
            · obtain rfl : i = M := by omega
              have hx2 : x = 1 + c.count q := by
                have := HX.out
                rwa [HMC.out, List.take_length] at this
              have HX2 := Lib.hid hx2
              clear HX hx2
              by_cases hN2 : 2 ≤ N
              · have c1 : (1 : Int) < (N : Int) := by omega
                have hdq := HCNT.out hN2 q hlt
                rw [← HX2.out] at hdq
                obtain ⟨g2, rfl, _, _, h5, _⟩ := O25.out.at_ q (by rw [iv_length, HL.out]; simpa using hlt)
                have e5 : (iv l)[q]? = some (.int .i64 ((d q : Nat) : Int)) := by rw [HL.out]; simp [iv, hlt]
                have h6 := h5.trans e5
                rw [hdq] at h6
                have hqm : (q : Int) < (m : Int) := by have := HMN.out; omega
                have q2 : ((x : Int) == (x : Int)) = true := by simp
                have q3 : ((x : Int) != (x : Int)) = false := by simp
                clear h5 e5 hdq HX2 hN2
                go_wp2
                go_round
                case rel => exact ⟨q + 1, by omega, by go_num⟩
                case measure => simp [intOf]; omega
              · have c1 : ¬ ((1 : Int) < (N : Int)) := by omega
                clear HX2 hN2
                go_wp2
                go_round
                case rel => exact ⟨q + 1, by omega, by go_num⟩
                case measure => simp [intOf]; omega
        · obtain rfl : q = N := by omega
          have hbd : ∀ x ∈ l, 0 ≤ x ∧ x ≤ 1000 := by
            intro x hx
            rw [HL.out] at hx
            obtain ⟨k, hk, rfl⟩ := List.mem_map.1 hx
            obtain ⟨v, _, rfl⟩ := List.mem_map.1 hk
            have := HD.out v
            omega
          have CTT := Lib.hid (totalT_any l _ w5 O25 (by omega) (Lib.hid hbd))
          have hS : sumT l l.length = 2 * ((q : Int) - 1) := by
            have h1 := sumT_nat ((List.range q).map d) ((List.range q).map d).length (Nat.le_refl _)
            rw [List.take_length, HSUM.out] at h1
            rw [HL.out, List.length_map, h1]
            omega
          rw [hS] at CTT
          have ew1 : IntKind.i64.wrap ((q : Int) - 1) = (q : Int) - 1 := by rw [IntKind.wrap_i64]; omega
          have ew2 : IntKind.i64.wrap (2 * ((q : Int) - 1)) = 2 * ((q : Int) - 1) := by rw [IntKind.wrap_i64]; omega
          have q9 : ((2 * ((q : Int) - 1)) == (2 * ((q : Int) - 1))) = true := by simp
          clear hS hbd
          go_wp2_with fail
          refine CTT.out.mono ?_
          rintro e w6 ⟨rfl, rfl⟩
          go_wp2
          go_ret
          exact ⟨rfl, B5.out⟩

open Go.ChangeShapes Go.WideShapes Go.ChangeAt Go.RowKit
open Go.ChangeMaps (open_string shut_string)
set_option linter.unusedVariables false

theorem own : ownKnob Try.prog.godebug = none := by kernel_rfl
theorem laidOut : laidOutB Try.prog = true := by kernel_rfl

set_option maxRecDepth 100000 in
theorem lifted (os : Os) (started : os.Started) (H : Type) (enc : TypeId × Value → H) :
    ReturnsInHanded {} Try.checked os 4 .any (Rows.fnDegreesOfSpec.pre6 enc Try.prog Try.f4 Rows.fnDegreesOfRow.domain false) (Rows.fnDegreesOfSpec.post enc Try.prog Try.f4 false true false false) := by
  refine returnsInHanded_of_change_shaped (C := Try.checked) own started (by kernel_rfl) Try.func4
    (ChangeSpec.witness6 (enc := enc) (C := Try.checked) false ⟨#[], #[.slice none 0 0], []⟩ 8 (by kernel_rfl) (by kernel_rfl) (by kernel_rfl) (by kernel_rfl)) ?_
  intro W base args ds gs before hval0 hW hcnd hsz0 hsh _
  have hval : ∀ (j : Nat) t v, Try.f4.params[j]? = some t → args[j]? = some v → Value.okWide Try.prog W .any base t v := hval0
  have hW' := hW
  obtain ⟨p, q, hA0, hV, rfl, hfz, hnd⟩ := hW
  have hA : DataW.TrodAll enc Try.prog W 0 (fun _ => true) true Try.f4.params.toList args.toList ds p := hA0
  have hsz : (DataW.weightsEach Try.prog (Try.f4.params.toList ++ Rows.fnDegreesOfSpec.plain.varTypes Try.prog) (ds ++ gs)).all (· ≤ reachBytes) = true := hsz0
  rw [Try.params4] at hA hval hsz
  obtain ⟨v0, vs0, d0, ds0, p0, q0, hargs, rfl, rfl, h0, r0⟩ := trodAll_cons hA
  obtain ⟨rfl, rfl, rfl⟩ := trodAll_nil r0
  obtain rfl : args = #[v0] := by cases args; simp_all
  obtain ⟨rfl, rfl⟩ := trodVars_none hV
  obtain ⟨a0, len0, cap0, rfl⟩ := okWide_slice Try.underlying22 (hval 0 22 v0 rfl rfl)
  have k0 := h0
  have lt0 : ∀ x ∈ p0, x.block < W.heap.size := by obtain ⟨m, hm⟩ := k0; exact DataW.trod_lt m _ _ _ hm
  obtain ⟨z0, w0, hreach⟩ : ∃ zs, IsRow .u8 W a0 len0 cap0 zs ∧ cap0 * 1 ≤ 140737488351232 := by
    obtain ⟨fuel, hf⟩ := h0
    rcases open_ints Try.underlying22 Try.underlying5 (by kernel_rfl) hf with ⟨hcs, _⟩ | ⟨x, l, c, zs, hcs, _, hl, hm, hz, hx, hcell, hwz⟩
    · simp [Value.cells] at hcs
      obtain ⟨rfl, rfl, rfl⟩ := hcs
      exact ⟨[], .inl ⟨rfl, rfl, rfl, rfl⟩, by omega⟩
    · simp [Value.cells] at hcs
      obtain ⟨rfl, rfl, rfl⟩ := hcs
      refine ⟨zs, .inr ⟨_, rfl, hl, hm, by simpa using hz, hcell, hwz⟩, ?_⟩
      simp only [Prod.mk.injEq] at hx
      obtain ⟨hx1, hx2⟩ := hx
      rw [hx1] at hsz
      have hb := sized_slice hsz (j := 0) (t := 22) (e := 5) rfl rfl Try.underlying22
      have b8 : Try.prog.bytesOf 5 = 1 := by kernel_rfl
      rw [b8] at hb
      simp only [lits, List.length_map, List.length_take, List.length_drop, reachBytes] at hb
      simp only [if_true] at hz
      omega
  clear hA0 hval0
  refine (fnDegreesOf_walk a0 len0 cap0 z0 W w0 hreach).mono fun e W' ⟨he, bel⟩ => ?_
  subst he
  exact ⟨_, rfl, _, _, _, [], _, [], hW', trodAll_mk1 (shut_bool Try.underlying4 _), trodAll_mk1 (Below.trod laidOut (by kernel_rfl) (of_decide_eq_true (by kernel_rfl)) k0 bel lt0), rfl, bel.frame _, fun h => by cases h⟩

theorem over : Rows.fnDegreesOfRow.holds Try.pinned (OpenSpec.ofChange Rows.fnDegreesOfSpec) :=
  OpenClaim.holds_of_wide 4 Try.f4 rfl rfl rfl rfl rfl rfl rfl ⟨rfl, rfl, rfl, rfl, rfl⟩ rfl rfl rfl rfl rfl (by kernel_rfl) Try.func4 (by kernel_rfl)
    (of_decide_eq_true (by kernel_rfl)) (by unfold Func.isWrapper; first | (rw [if_pos (by decide +kernel)]; kernel_rfl) | (rw [if_neg (by decide +kernel)]; exact ⟨rfl, rfl⟩))
    (fun os started H enc _ => lifted os started H enc)

theorem proved : Rows.FnDegreesOfSaid := over
#print axioms proved
end Go.Proofs.Ytcldbjpcbhkmpaa.fnDegreesOf
