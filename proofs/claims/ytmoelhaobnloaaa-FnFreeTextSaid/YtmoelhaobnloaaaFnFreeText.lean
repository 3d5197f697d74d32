/-
  For every argument of FnFreeText, whatever its value, the call returns true, leaves what it was handed as it was and changes no older memory. Conditions: none beside the row's own.
-/
import Derived.Test.YtmoelhaobnloaaaRows
import Derived.Test.YtmoelhaobnloaaaKFreeL
import Derived.Test.YtmoelhaobnloaaaZU
import Derived.Test.YtmoelhaobnloaaaWCodeF
import Derived.Test.YtmoelhaobnloaaaZG
import Derived.Test.YtmoelhaobnloaaaCFreeS
import Derived.Test.YtmoelhaobnloaaaZW
import Derived.WalkKit
import Derived.ProofKit
import Derived.OpenShut
import Derived.ShutString
import Derived.ChangeOld
import Derived.Below
import Derived.SizedLaws
import Derived.HandedShaped
namespace Go.Proofs.Ytmoelhaobnloaaa.fnFreeText
open Go.RowKit

set_option maxHeartbeats 3200000 in
set_option maxRecDepth 100000 in
theorem fnFreeText_walk (a : Option Addr) (len cap : Nat) (zs : List Int) (w : World) (hr0 : IsRow .u8 w a len cap zs) (_hreach : cap * 1 ≤ 140737488351232) :
    Calls Try.prog 5 #[.slice a len cap] w fun e w' => e = .returned (.bool true) ∧ Below w.heap.size w w' := by
  have hr := Lib.hid hr0
  clear hr0
  by_cases hbig : (1048576 : Int) < (len : Int)
  · go_enter Try.func5, Try.ntmps5
    go_wp2
    go_ret
    exact ⟨rfl, Below.refl _ _⟩
  · go_enter Try.func5, Try.ntmps5
    go_wp2_with fail
    refine (drawFreeText a len cap zs w hr (by omega)).mono ?_
    rintro e w1 ⟨n, rows, v, RV, rfl, g1, hn, hl, hr2, b1⟩
    have hn := hn
    have hwf : (Lit.int .i64 n).wf = true := wf_smallC n (by omega)
    have G1 := Lib.hid g1
    have B1 := Lib.hid b1
    have hrs : ∀ r ∈ rows, r.length ≤ 1048576 := fun r h => by rw [hr2 r h]; decide
    have HRS := Lib.hid hrs
    have hrl : rows.length ≤ 1048576 := by omega
    have CF := Lib.hid (fun (v : Value) (RV : List Value) (w : World) (B0 H0 : Nat) (hG : Hid (Grid w B0 H0 v RV rows)) hH => freeText_any n rows v RV w hG hH hrl hrs hwf)
    have CS := Lib.hid (fun (v : Value) (RV : List Value) (w : World) (B0 H0 : Nat) (hG : Hid (Grid w B0 H0 v RV rows)) hH => specFreeText_any n rows v RV w hG hH hrl)
    have CC := Lib.hid (fun (v : Value) (RV : List Value) (w : World) (B0 H0 : Nat) (hG : Hid (Grid w B0 H0 v RV rows)) hH => centersOf_any n rows v RV w hG hH hrl hrs hwf)
    have CR := Lib.hid (fun (r : Int) (v : Value) (RV : List Value) (w : World) (B0 H0 : Nat) (hG : Hid (Grid w B0 H0 v RV rows)) hH => rootText_any n r rows v RV w hG hH hrl hrs hwf)
    have FF := Lib.hid (freeL_facts (n := n) (rows := rows))
    obtain ⟨F, hF⟩ : ∃ F, F = freeOut n rows := ⟨_, rfl⟩
    rw [← hF] at FF
    simp only [← hF] at CF CS
    obtain ⟨fo, hfo⟩ : ∃ fo : ByteArray, fo = ⟨F.toArray⟩ := ⟨_, rfl⟩
    have HFO : Hid (fo.data.toList = F) := by show _ = _; rw [hfo]
    simp only [← hfo] at CF CS
    obtain ⟨av, cv, rfl, _, _, _, _⟩ := g1.1.slice
    have s01 := b1.size
    have r0 : Hid (w1.heap.size ≤ w1.heap.size) := Nat.le_refl _
    clear g1 b1 hr hrs hF hfo
    go_wp2_with fail
    refine (CF.out _ RV w1 _ _ G1 r0.out).mono ?_
    rintro e w2 ⟨rfl, b2⟩
    have G2 := Lib.hid (G1.out.below b2)
    have B2 := Lib.hid (B1.out.trans (b2.mono s01))
    have s12 := b2.size
    have S12 := Lib.hid s12
    clear b2 CF s12
    go_wp2_with fail
    refine (CS.out _ RV w2 _ _ G2 S12.out).mono ?_
    rintro e w3 ⟨rfl, b3⟩
    have G3 := Lib.hid (G2.out.below (b3.mono S12.out))
    have B3 := Lib.hid (B2.out.trans (b3.mono (Nat.le_trans s01 S12.out)))
    have S13 := Lib.hid (Nat.le_trans S12.out b3.size)
    clear b3 G2 B2 S12
    have q1 : (fo.toList == fo.toList) = true := beq_self_eq_true _
    by_cases h0 : F = []
    · have q0 : (fo.toList == []) = true := by rw [ByteArray.toList_eq, HFO.out, h0]; rfl
      clear h0 FF CC CR
      go_wp2_with fail
      refine (CS.out _ RV w3 _ _ G3 S13.out).mono ?_
      rintro e w6 ⟨rfl, b6⟩
      have B6 := Lib.hid (B3.out.trans (b6.mono (Nat.le_trans s01 S13.out)))
      clear b6
      go_wp2
      go_ret
      exact ⟨rfl, B6.out⟩
    · have q0 : (fo.toList == []) = false := by rw [ByteArray.toList_eq, HFO.out, beq_eq_false_iff_ne]; exact h0
      obtain ⟨C, hC, hC2, hC0, hM⟩ := FF.out h0
      obtain ⟨M, hMe⟩ : ∃ M, M = C.map fun (c : Nat) => rootOut n rows (c : Int) := ⟨_, rfl⟩
      rw [← hMe] at hM
      have hM0 : M ≠ [] := by rw [hMe]; simpa using hC0
      have HIN : Hid (decide (F ∈ M) = true) := by show _ = _; rw [hM]; exact decide_eq_true (leastT_mem M hM0)
      have HLE : Hid (∀ x ∈ M, lessL x F = false) := fun x hx => by rw [hM]; exact leastT_le M x hx
      have hCL : Hid ((iv (centsOut n rows)).length = C.length) := by show _ = _; rw [hC, iv_length, intsN, List.length_map]
      have HCC : Hid (∀ (k : Nat) (hk : k < C.length), (iv (centsOut n rows))[k]? = some (.int .i64 ((C[k] : Nat) : Int))) := fun k hk => by rw [hC]; simp [iv, intsN, hk]
      have HMC : Hid (∀ (k : Nat) (hk : k < C.length) (hk' : k < M.length), M[k] = rootOut n rows ((C[k] : Nat) : Int)) := fun k hk hk' => by simp [hMe]
      have hML : M.length = C.length := by rw [hMe, List.length_map]
      obtain ⟨m, hm⟩ : ∃ m, m = C.length := ⟨_, rfl⟩
      have HM := Lib.hid hm
      rw [← hm] at hCL hML hC2
      have HML := Lib.hid hML
      clear h0 FF CS hC hC0 hM hMe hM0 hm hML
      go_wp2_with fail
      refine (CC.out _ RV w3 _ _ G3 S13.out).mono ?_
      rintro e w4 ⟨v4, rfl, o4, b4⟩
      have G4 := Lib.hid (G3.out.below (b4.mono S13.out))
      have B4 := Lib.hid (B3.out.trans (b4.mono (Nat.le_trans s01 S13.out)))
      have S14 := Lib.hid (Nat.le_trans S13.out b4.size)
      obtain ⟨a4, c4, rfl, _⟩ := o4.slice
      rw [hCL.out] at o4 ⊢
      have O4 := Lib.hid o4
      clear b4 o4 G3 B3 S13 CC
      have K0 : Hid (false = decide (F ∈ M.take 0)) := by show _ = _; simp
      have S04 : Hid (w.heap.size ≤ w4.heap.size) := B4.out.size
      have RB : Hid (Below w4.heap.size w4 w4) := Below.refl _ _
      have CRR := Lib.hid (fun (r : Int) (W : World) (hW : Below w4.heap.size w4 W) => CR.out r _ RV W _ _ (Lib.hid (G4.out.below (hW.mono S14.out))) (Nat.le_trans S14.out hW.size))
      clear CR G4 G1
      go_wp2_with fail
      go_loopw [7, 8] (fun e7 ii wr => ∃ (k : Nat) (t : Bool), k ≤ m ∧ ii = .int .i64 (k : Int) ∧ e7 = .bool t ∧ Hid (t = decide (F ∈ M.take k)) ∧ Hid (Below w4.heap.size w4 wr)) (fun _ ii _ => m - (intOf ii).toNat)
      case atStart => exact ⟨0, false, Nat.zero_le _, rfl, rfl, K0, RB⟩
      case round =>
        clear K0 RB
        obtain ⟨k, t, hk, rfl, rfl, HT, HB⟩ := hrel
        by_cases hlt : k < m
        · have b1 : (k : Int) < (m : Int) := by omega
          have hkC : k < C.length := by rw [← HM.out]; exact hlt
          have hkM : k < M.length := by rw [HML.out]; exact hlt
          obtain ⟨g, rfl, _, hgl, c0, _⟩ := O4.out.at_ k (by rw [hCL.out]; exact hlt)
          have c1 := (HB.out.cell (p := ⟨g, k, none⟩) hgl).trans c0
          rw [HCC.out k hkC] at c1
          have MK := HMC.out k hkC hkM
          have TN := take_mem_next hkM F
          have LE := HLE.out M[k] (List.getElem_mem hkM)
          obtain ⟨c, hc⟩ : ∃ c, c = C[k] := ⟨_, rfl⟩
          rw [← hc] at c1 MK
          have CX := CRR.out (c : Int)
          rw [← MK] at CX
          obtain ⟨X, hX⟩ : ∃ X, X = M[k] := ⟨_, rfl⟩
          rw [← hX] at CX TN LE
          obtain ⟨xo, hxo⟩ : ∃ xo : ByteArray, xo = ⟨X.toArray⟩ := ⟨_, rfl⟩
          have HXO : Hid (xo.data.toList = X) := by show _ = _; rw [hxo]
          rw [← hxo] at CX
          have CX := Lib.hid CX
          have l1 : Op.bytesLess xo.toList fo.toList = false := by rw [less_eq, ByteArray.toList_eq, ByteArray.toList_eq, HXO.out, HFO.out]; exact LE
          have e1 : (xo.toList == fo.toList) = decide (X = F) := by rw [ByteArray.toList_eq, ByteArray.toList_eq, HXO.out, HFO.out, Bool.eq_iff_iff]; simp
          obtain ⟨p, hp⟩ : ∃ p, p = decide (X = F) := ⟨_, rfl⟩
          rw [← hp] at e1 TN
          have TN2 : Hid (decide (F ∈ M.take (k + 1)) = (t || p)) := by show _ = _; rw [TN, ← HT.out]
          clear hc MK hX hxo LE hp TN HT hkC hkM c0 hgl HXO
          go_wp2_with fail
          refine (CX.out _ HB.out).mono ?_
          rintro e w5 ⟨rfl, b5⟩
          have HB5 : Hid (Below w4.heap.size w4 w5) := HB.out.trans (b5.mono HB.out.size)
          clear b5 CX HB c1
          cases t with
          | false =>
            go_wp2
            go_roundw
            case rel => exact ⟨k + 1, _, by omega, by go_num, rfl, by show _ = _; rw [TN2.out]; first | rfl | simp, HB5⟩
            case measure => simp [intOf]; omega
          | true =>
            go_wp2
            go_roundw
            case rel => exact ⟨k + 1, _, by omega, by go_num, rfl, by show _ = _; rw [TN2.out]; first | rfl | simp, HB5⟩
            case measure => simp [intOf]; omega
        · obtain rfl : k = m := by omega
          have HT2 : Hid (t = true) := by show _ = _; rw [HT.out, ← HIN.out, ← HML.out, List.take_length]
          have BF : Hid (Below w.heap.size w wr) := B4.out.trans (HB.out.mono S04.out)
          clear HT HB
          go_wp2
          go_ret
          rw [HT2.out]
          exact ⟨rfl, BF.out⟩

open Go.ChangeShapes Go.WideShapes Go.ChangeAt Go.RowKit
open Go.ChangeMaps (open_string shut_string)
set_option linter.unusedVariables false

theorem own : ownKnob Try.prog.godebug = none := by kernel_rfl
theorem laidOut : laidOutB Try.prog = true := by kernel_rfl

set_option maxRecDepth 100000 in
theorem lifted (os : Os) (started : os.Started) (H : Type) (enc : TypeId × Value → H) :
    ReturnsInHanded {} Try.checked os 5 .any (Rows.fnFreeTextSpec.pre6 enc Try.prog Try.f5 Rows.fnFreeTextRow.domain false) (Rows.fnFreeTextSpec.post enc Try.prog Try.f5 false true false false) := by
  refine returnsInHanded_of_change_shaped (C := Try.checked) own started (by kernel_rfl) Try.func5
    (ChangeSpec.witness6 (enc := enc) (C := Try.checked) false ⟨#[], #[.slice none 0 0], []⟩ 8 (by kernel_rfl) (by kernel_rfl) (by kernel_rfl) (by kernel_rfl)) ?_
  intro W base args ds gs before hval0 hW hcnd hsz0 hsh _
  have hval : ∀ (j : Nat) t v, Try.f5.params[j]? = some t → args[j]? = some v → Value.okWide Try.prog W .any base t v := hval0
  have hW' := hW
  obtain ⟨p, q, hA0, hV, rfl, hfz, hnd⟩ := hW
  have hA : DataW.TrodAll enc Try.prog W 0 (fun _ => true) true Try.f5.params.toList args.toList ds p := hA0
  have hsz : (DataW.weightsEach Try.prog (Try.f5.params.toList ++ Rows.fnFreeTextSpec.plain.varTypes Try.prog) (ds ++ gs)).all (· ≤ reachBytes) = true := hsz0
  rw [Try.params5] at hA hval hsz
  obtain ⟨v0, vs0, d0, ds0, p0, q0, hargs, rfl, rfl, h0, r0⟩ := trodAll_cons hA
  obtain ⟨rfl, rfl, rfl⟩ := trodAll_nil r0
  obtain rfl : args = #[v0] := by cases args; simp_all
  obtain ⟨rfl, rfl⟩ := trodVars_none hV
  obtain ⟨a0, len0, cap0, rfl⟩ := okWide_slice Try.underlying22 (hval 0 22 v0 rfl rfl)
  have k0 := h0
  have lt0 : ∀ x ∈ p0, x.block < W.heap.size := by obtain ⟨m, hm⟩ := k0; exact DataW.trod_lt m _ _ _ hm
  obtain ⟨z0, w0, hreach⟩ : ∃ zs, IsRow .u8 W a0 len0 cap0 zs ∧ cap0 * 1 ≤ 140737488351232 := by
    obtain ⟨fuel, hf⟩ := h0
    rcases open_ints Try.underlying22 Try.underlying5 (by kernel_rfl) hf with ⟨hcs, _⟩ | ⟨x, l, c, zs, hcs, _, hl, hm, hz, hx, hcell, hwz⟩
    · simp [Value.cells] at hcs
      obtain ⟨rfl, rfl, rfl⟩ := hcs
      exact ⟨[], .inl ⟨rfl, rfl, rfl, rfl⟩, by omega⟩
    · simp [Value.cells] at hcs
      obtain ⟨rfl, rfl, rfl⟩ := hcs
      refine ⟨zs, .inr ⟨_, rfl, hl, hm, by simpa using hz, hcell, hwz⟩, ?_⟩
      simp only [Prod.mk.injEq] at hx
      obtain ⟨hx1, hx2⟩ := hx
      rw [hx1] at hsz
      have hb := sized_slice hsz (j := 0) (t := 22) (e := 5) rfl rfl Try.underlying22
      have b8 : Try.prog.bytesOf 5 = 1 := by kernel_rfl
      rw [b8] at hb
      simp only [lits, List.length_map, List.length_take, List.length_drop, reachBytes] at hb
      simp only [if_true] at hz
      omega
  clear hA0 hval0
  refine (fnFreeText_walk a0 len0 cap0 z0 W w0 hreach).mono fun e W' ⟨he, bel⟩ => ?_
  subst he
  exact ⟨_, rfl, _, _, _, [], _, [], hW', trodAll_mk1 (shut_bool Try.underlying4 _), trodAll_mk1 (Below.trod laidOut (by kernel_rfl) (of_decide_eq_true (by kernel_rfl)) k0 bel lt0), rfl, bel.frame _, fun h => by cases h⟩

theorem over : Rows.fnFreeTextRow.holds Try.pinned (OpenSpec.ofChange Rows.fnFreeTextSpec) :=
  OpenClaim.holds_of_wide 5 Try.f5 rfl rfl rfl rfl rfl rfl rfl ⟨rfl, rfl, rfl, rfl, rfl⟩ rfl rfl rfl rfl rfl (by kernel_rfl) Try.func5 (by kernel_rfl)
    (of_decide_eq_true (by kernel_rfl)) (by unfold Func.isWrapper; first | (rw [if_pos (by decide +kernel)]; kernel_rfl) | (rw [if_neg (by decide +kernel)]; exact ⟨rfl, rfl⟩))
    (fun os started H enc _ => lifted os started H enc)

theorem proved : Rows.FnFreeTextSaid := over
#print axioms proved
end Go.Proofs.Ytmoelhaobnloaaa.fnFreeText
