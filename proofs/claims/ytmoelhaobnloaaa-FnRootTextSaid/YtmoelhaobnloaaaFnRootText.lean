/-
  For every argument of FnRootText, whatever its value, the call returns true, leaves what it was handed as it was and changes no older memory. Conditions: none beside the row's own.
-/
import Derived.Test.YtmoelhaobnloaaaRows
import Derived.Test.YtmoelhaobnloaaaZR
import Derived.Test.YtmoelhaobnloaaaCDrawR
import Derived.Test.YtmoelhaobnloaaaZG
import Derived.Test.YtmoelhaobnloaaaCFreeS
import Derived.Test.YtmoelhaobnloaaaZW
import Derived.WalkKit
import Derived.ProofKit
import Derived.OpenShut
import Derived.ShutString
import Derived.ChangeOld
import Derived.Below
import Derived.SizedLaws
import Derived.HandedShaped
namespace Go.Proofs.Ytmoelhaobnloaaa.fnRootText
open Go.RowKit

set_option maxHeartbeats 3200000 in
set_option maxRecDepth 100000 in
theorem fnRootText_walk (a : Option Addr) (len cap : Nat) (zs : List Int) (w : World) (hr0 : IsRow .u8 w a len cap zs) (_hreach : cap * 1 ≤ 140737488351232) :
    Calls Try.prog 4 #[.slice a len cap] w fun e w' => e = .returned (.bool true) ∧ Below w.heap.size w w' := by
  have hr := Lib.hid hr0
  clear hr0
  by_cases hbig : (1048576 : Int) < (len : Int)
  · go_enter Try.func4, Try.ntmps4
    go_wp2
    go_ret
    exact ⟨rfl, Below.refl _ _⟩
  · go_enter Try.func4, Try.ntmps4
    go_wp2_with fail
    refine (drawRootText a len cap zs w hr (by omega)).mono ?_
    rintro e w1 ⟨n, rows, v, RV, r, rfl, g1, hn, hr9, hl, hr2, b1⟩
    have hn := hn
    have hwf : (Lit.int .i64 n).wf = true := wf_smallC n (by omega)
    have G1 := Lib.hid g1
    have B1 := Lib.hid b1
    have hrs : ∀ r ∈ rows, r.length ≤ 1048576 := fun r h => by rw [hr2 r h]; decide
    have hrl : rows.length ≤ 1048576 := by omega
    have CF := Lib.hid (fun (v : Value) (RV : List Value) (w : World) (B0 H0 : Nat) (hG : Hid (Grid w B0 H0 v RV rows)) hH => rootText_any n r rows v RV w hG hH hrl hrs hwf)
    have CS := Lib.hid (fun (v : Value) (RV : List Value) (w : World) (B0 H0 : Nat) (hG : Hid (Grid w B0 H0 v RV rows)) hH => specRootText_any n r rows v RV w hG hH hrl)
    have CD := Lib.hid (fun (v : Value) (RV : List Value) (w : World) (B0 H0 : Nat) (hG : Hid (Grid w B0 H0 v RV rows)) hH => degreesOf_p n rows v RV w B0 H0 hG hH hrl hrs hwf)
    have FF := Lib.hid (rootL_facts (n := n) (r := r) (rows := rows))
    obtain ⟨F, hF⟩ : ∃ F, F = rootOut n rows r := ⟨_, rfl⟩
    rw [← hF] at FF
    simp only [← hF] at CF CS
    obtain ⟨fo, hfo⟩ : ∃ fo : ByteArray, fo = ⟨F.toArray⟩ := ⟨_, rfl⟩
    have HFO : Hid (fo.data.toList = F) := by show _ = _; rw [hfo]
    simp only [← hfo] at CF CS
    obtain ⟨av, cv, rfl, _, _, _, _⟩ := g1.1.slice
    have s01 := b1.size
    have r0 : Hid (w1.heap.size ≤ w1.heap.size) := Nat.le_refl _
    clear g1 b1 hr hrs hF hfo
    go_wp2_with fail
    refine (CF.out _ RV w1 _ _ G1 r0.out).mono ?_
    rintro e w2 ⟨rfl, b2⟩
    have G2 := Lib.hid (G1.out.below b2)
    have B2 := Lib.hid (B1.out.trans (b2.mono s01))
    have s12 := b2.size
    have S12 := Lib.hid s12
    clear b2 CF s12
    go_wp2_with fail
    refine (CS.out _ RV w2 _ _ G2 S12.out).mono ?_
    rintro e w3 ⟨rfl, b3⟩
    have G3 := Lib.hid (G2.out.below (b3.mono S12.out))
    have B3 := Lib.hid (B2.out.trans (b3.mono (Nat.le_trans s01 S12.out)))
    have S13 := Lib.hid (Nat.le_trans S12.out b3.size)
    clear b3 G2 B2 S12
    have q1 : (fo.toList == fo.toList) = true := beq_self_eq_true _
    by_cases h0 : F = []
    · have q0 : (fo.toList == []) = true := by rw [ByteArray.toList_eq, HFO.out, h0]; rfl
      clear h0 FF CD
      go_wp2_with fail
      refine (CS.out _ RV w3 _ _ G3 S13.out).mono ?_
      rintro e w6 ⟨rfl, b6⟩
      have B6 := Lib.hid (B3.out.trans (b6.mono (Nat.le_trans s01 S13.out)))
      clear b6
      go_wp2
      go_ret
      exact ⟨rfl, B6.out⟩
    · have q0 : (fo.toList == []) = false := by rw [ByteArray.toList_eq, HFO.out, beq_eq_false_iff_ne]; exact h0
      obtain ⟨N, u, g, D, rfl, rfl, huN, hN1, hN7, hva, hdo, hln, hcn, hdl, hdu, hd1, hg⟩ := FF.out h0
      have hsz : fo.size = 2 * N := by rw [← hln, ← HFO.out]; rfl
      have hml : fo.size ≤ maxLen := by unfold maxLen; omega
      have CP := Lib.hid (fun (W : World) => implDepths_any fo W hml)
      have CV := Lib.hid (fun (W : World) => implValid_any fo W hml)
      rw [HFO.out, hdo] at CP
      rw [HFO.out, hva] at CV
      obtain ⟨L, hL⟩ : ∃ L : List Int, L = (0 : Int) :: D.map (fun (k : Nat) => (k : Int)) := ⟨_, rfl⟩
      rw [← hL] at CP
      have HC : Hid (L.countP (fun k => decide (k = 1)) = g) := by show _ = _; rw [hL]; exact ones_all hcn
      have hL18 : L.length ≤ 18 := by
        have h := depOut_length fo
        rw [HFO.out, hdo, ← hL] at h
        exact h
      have HL1 : Hid (N ≠ 1 → 1 < L.length ∧ L[1]? = some 1) := fun hN => by
        have h := hd1 hN
        have hlen : 0 < D.length := by
          cases D with
          | nil => simp at h
          | cons x r => simp
        rw [hL]
        refine ⟨by simp; omega, ?_⟩
        rw [List.getElem?_cons_succ, List.getElem?_map, h]; rfl
      have HDL := Lib.hid hdl
      have HDU := Lib.hid hdu
      have q3 : ((fo.size : Int) == 2 * (N : Int)) = true := by rw [hsz]; simp
      have ew : IntKind.i64.wrap (2 * (N : Int)) = 2 * (N : Int) := by rw [IntKind.wrap_i64]; omega
      have b9 : (u : Int) < (N : Int) := by omega
      obtain ⟨m, hm⟩ : ∃ m, m = L.length := ⟨_, rfl⟩
      have HM := Lib.hid hm
      rw [← hm] at hL18
      clear h0 FF CS hva hdo hln hcn hdl hdu hd1 hL hm hsz
      go_wp2_with fail
      refine (CP.out w3).mono ?_
      rintro e w4 ⟨v4, rfl, o4, b4⟩
      have G4 := Lib.hid (G3.out.below (b4.mono S13.out))
      have B4 := Lib.hid (B3.out.trans (b4.mono (Nat.le_trans s01 S13.out)))
      have S14 := Lib.hid (Nat.le_trans S13.out b4.size)
      obtain ⟨a4, c4, rfl, _⟩ := o4.slice
      rw [iv_length, ← HM.out] at o4 ⊢
      have O4 := Lib.hid o4
      clear b4 o4 G3 B3 S13 CP
      go_wp2_with fail
      refine (CD.out _ RV w4 _ _ G4 S14.out).mono ?_
      rintro e w5 ⟨v5, rfl, o5, b5⟩
      have B5 := Lib.hid (B4.out.trans (b5.mono (Nat.le_trans s01 S14.out)))
      have O45 := Lib.hid (O4.out.below b5)
      obtain ⟨a5, c5, rfl, _⟩ := o5.slice
      rw [iv_length, HDL.out] at o5 ⊢
      have O5 := Lib.hid o5
      obtain ⟨g5, rfl, _, _, d5, _⟩ := O5.out.at_ u (by rw [iv_length, HDL.out]; exact huN)
      rw [HDU.out] at d5
      have BV := Lib.hid (fun (W : World) (h : Below w5.heap.size w5 W) => B5.out.trans (h.mono B5.out.size))
      clear b5 o5 CD G4 B4 G1 O4 O5 B1 S14
      have K0 : Hid (0 = (L.take 0).countP (fun k => decide (k = 1))) := by show _ = _; simp
      go_wp2
      go_loop [9, 10] (fun e9 ii => ∃ k x : Nat, k ≤ m ∧ x ≤ k ∧ ii = .int .i64 (k : Int) ∧ e9 = .int .i64 (x : Int) ∧ Hid (x = (L.take k).countP (fun k => decide (k = 1)))) (fun _ ii => m - (intOf ii).toNat)
      case atStart => exact ⟨0, 0, Nat.zero_le _, Nat.le_refl _, rfl, rfl, K0⟩
      case round =>
        clear K0
        obtain ⟨k, x, hk, hx, rfl, rfl, HX⟩ := hrel
        by_cases hlt : k < m
        · have b1 : (k : Int) < (m : Int) := by omega
          have hkL : k < L.length := by rw [← HM.out]; exact hlt
          obtain ⟨g4, rfl, _, _, c0, _⟩ := O45.out.at_ k (by rw [iv_length]; exact hkL)
          rw [iv_at L k hkL] at c0
          have ON := ones_next L k hkL
          obtain ⟨y, hy⟩ : ∃ y, y = L[k] := ⟨_, rfl⟩
          rw [← hy] at c0 ON
          clear hy hkL
          by_cases hy1 : y = 1
          · have p1 : (y == 1) = true := by rw [hy1]; rfl
            have HX2 : Hid (x + 1 = (L.take (k + 1)).countP (fun k => decide (k = 1))) := by show _ = _; rw [ON, ← HX.out, if_pos hy1]
            clear ON HX hy1
            go_wp2
            go_round
            case rel => exact ⟨k + 1, x + 1, by omega, by omega, by go_num, by go_num, HX2⟩
            case measure => simp [intOf]; omega
          · have p1 : (y == 1) = false := by rw [beq_eq_false_iff_ne]; exact hy1
            have HX2 : Hid (x = (L.take (k + 1)).countP (fun k => decide (k = 1))) := by show _ = _; rw [ON, ← HX.out, if_neg hy1]; rfl
            clear ON HX hy1
            go_wp2
            go_round
            case rel => exact ⟨k + 1, x, by omega, by omega, by go_num, rfl, HX2⟩
            case measure => simp [intOf]; omega
        · obtain rfl : k = m := by omega
          have hxg : x = g := by
            have := HX.out
            rwa [HM.out, List.take_length, HC.out] at this
          subst hxg
          have HB5 := B5
          have p9 : ((x : Int) == (x : Int)) = true := by simp
          by_cases hN : N = 1
          · have q4 : ((N : Int) == 1) = true := by rw [hN]; rfl
            clear HL1 HX hN HM HDL HDU HC
            go_wp2_with fail
            refine (CV.out w5).mono ?_
            rintro e w6 ⟨rfl, b6⟩
            have B6 := Lib.hid (BV.out w6 b6)
            have hg5 := World.block_lt_of_cell? w5 _ d5
            have d6 := (b6.cell (p := ⟨g5, u, none⟩) hg5).trans d5
            clear b6 hg5 d5
            go_wp2
            go_ret
            exact ⟨rfl, B6.out⟩
          · have q4 : ((N : Int) == 1) = false := by rw [beq_eq_false_iff_ne]; omega
            obtain ⟨hm1, hL1⟩ := HL1.out hN
            have b8 : (1 : Int) < (k : Int) := by have := HM.out; omega
            obtain ⟨g4, rfl, _, _, c0, _⟩ := O45.out.at_ 1 (by rw [iv_length]; exact hm1)
            have c1 : w5.cell? ⟨g4, 1, none⟩ = some (.int .i64 1) := by
              rw [c0]
              have := List.getElem?_eq_some_iff.1 hL1
              obtain ⟨hh, he⟩ := this
              rw [iv_at L 1 hh, he]
            clear HL1 HX hN HM HDL HDU HC c0 hL1 hm1
            go_wp2_with fail
            refine (CV.out w5).mono ?_
            rintro e w6 ⟨rfl, b6⟩
            have B6 := Lib.hid (BV.out w6 b6)
            have hg5 := World.block_lt_of_cell? w5 _ d5
            have d6 := (b6.cell (p := ⟨g5, u, none⟩) hg5).trans d5
            have hg4 := World.block_lt_of_cell? w5 _ c1
            have c6 := (b6.cell (p := ⟨g4, 1, none⟩) hg4).trans c1
            clear b6 hg5 d5 hg4 c1
            go_wp2
            go_ret
            exact ⟨rfl, B6.out⟩

open Go.ChangeShapes Go.WideShapes Go.ChangeAt Go.RowKit
open Go.ChangeMaps (open_string shut_string)
set_option linter.unusedVariables false

theorem own : ownKnob Try.prog.godebug = none := by kernel_rfl
theorem laidOut : laidOutB Try.prog = true := by kernel_rfl

set_option maxRecDepth 100000 in
theorem lifted (os : Os) (started : os.Started) (H : Type) (enc : TypeId × Value → H) :
    ReturnsInHanded {} Try.checked os 4 .any (Rows.fnRootTextSpec.pre6 enc Try.prog Try.f4 Rows.fnRootTextRow.domain false) (Rows.fnRootTextSpec.post enc Try.prog Try.f4 false true false false) := by
  refine returnsInHanded_of_change_shaped (C := Try.checked) own started (by kernel_rfl) Try.func4
    (ChangeSpec.witness6 (enc := enc) (C := Try.checked) false ⟨#[], #[.slice none 0 0], []⟩ 8 (by kernel_rfl) (by kernel_rfl) (by kernel_rfl) (by kernel_rfl)) ?_
  intro W base args ds gs before hval0 hW hcnd hsz0 hsh _
  have hval : ∀ (j : Nat) t v, Try.f4.params[j]? = some t → args[j]? = some v → Value.okWide Try.prog W .any base t v := hval0
  have hW' := hW
  obtain ⟨p, q, hA0, hV, rfl, hfz, hnd⟩ := hW
  have hA : DataW.TrodAll enc Try.prog W 0 (fun _ => true) true Try.f4.params.toList args.toList ds p := hA0
  have hsz : (DataW.weightsEach Try.prog (Try.f4.params.toList ++ Rows.fnRootTextSpec.plain.varTypes Try.prog) (ds ++ gs)).all (· ≤ reachBytes) = true := hsz0
  rw [Try.params4] at hA hval hsz
  obtain ⟨v0, vs0, d0, ds0, p0, q0, hargs, rfl, rfl, h0, r0⟩ := trodAll_cons hA
  obtain ⟨rfl, rfl, rfl⟩ := trodAll_nil r0
  obtain rfl : args = #[v0] := by cases args; simp_all
  obtain ⟨rfl, rfl⟩ := trodVars_none hV
  obtain ⟨a0, len0, cap0, rfl⟩ := okWide_slice Try.underlying22 (hval 0 22 v0 rfl rfl)
  have k0 := h0
  have lt0 : ∀ x ∈ p0, x.block < W.heap.size := by obtain ⟨m, hm⟩ := k0; exact DataW.trod_lt m _ _ _ hm
  obtain ⟨z0, w0, hreach⟩ : ∃ zs, IsRow .u8 W a0 len0 cap0 zs ∧ cap0 * 1 ≤ 140737488351232 := by
    obtain ⟨fuel, hf⟩ := h0
    rcases open_ints Try.underlying22 Try.underlying5 (by kernel_rfl) hf with ⟨hcs, _⟩ | ⟨x, l, c, zs, hcs, _, hl, hm, hz, hx, hcell, hwz⟩
    · simp [Value.cells] at hcs
      obtain ⟨rfl, rfl, rfl⟩ := hcs
      exact ⟨[], .inl ⟨rfl, rfl, rfl, rfl⟩, by omega⟩
    · simp [Value.cells] at hcs
      obtain ⟨rfl, rfl, rfl⟩ := hcs
      refine ⟨zs, .inr ⟨_, rfl, hl, hm, by simpa using hz, hcell, hwz⟩, ?_⟩
      simp only [Prod.mk.injEq] at hx
      obtain ⟨hx1, hx2⟩ := hx
      rw [hx1] at hsz
      have hb := sized_slice hsz (j := 0) (t := 22) (e := 5) rfl rfl Try.underlying22
      have b8 : Try.prog.bytesOf 5 = 1 := by kernel_rfl
      rw [b8] at hb
      simp only [lits, List.length_map, List.length_take, List.length_drop, reachBytes] at hb
      simp only [if_true] at hz
      omega
  clear hA0 hval0
  refine (fnRootText_walk a0 len0 cap0 z0 W w0 hreach).mono fun e W' ⟨he, bel⟩ => ?_
  subst he
  exact ⟨_, rfl, _, _, _, [], _, [], hW', trodAll_mk1 (shut_bool Try.underlying4 _), trodAll_mk1 (Below.trod laidOut (by kernel_rfl) (of_decide_eq_true (by kernel_rfl)) k0 bel lt0), rfl, bel.frame _, fun h => by cases h⟩

theorem over : Rows.fnRootTextRow.holds Try.pinned (OpenSpec.ofChange Rows.fnRootTextSpec) :=
  OpenClaim.holds_of_wide 4 Try.f4 rfl rfl rfl rfl rfl rfl rfl ⟨rfl, rfl, rfl, rfl, rfl⟩ rfl rfl rfl rfl rfl (by kernel_rfl) Try.func4 (by kernel_rfl)
    (of_decide_eq_true (by kernel_rfl)) (by unfold Func.isWrapper; first | (rw [if_pos (by decide +kernel)]; kernel_rfl) | (rw [if_neg (by decide +kernel)]; exact ⟨rfl, rfl⟩))
    (fun os started H enc _ => lifted os started H enc)

theorem proved : Rows.FnRootTextSaid := over
#print axioms proved
end Go.Proofs.Ytmoelhaobnloaaa.fnRootText
