/-
  For every argument of FnWordsOf, whatever its value, the call returns true, leaves what it was handed as it was and changes no older memory. Conditions: none beside the row's own.
-/
import Derived.Test.YthalkkbchghmpaaRows
import Derived.Test.YthalkkbchghmpaaCDrawH
import Derived.Test.YthalkkbchghmpaaCRank
import Derived.Test.YthalkkbchghmpaaCAt
import Derived.Test.YthalkkbchghmpaaCCountB
import Derived.Test.YthalkkbchghmpaaCTextsC
import Derived.Test.YthalkkbchghmpaaWFactsK
import Derived.Test.YthalkkbchghmpaaWRow
import Derived.WalkKit
import Derived.ProofKit
import Derived.OpenShut
import Derived.ShutString
import Derived.ChangeOld
import Derived.Below
import Derived.SizedLaws
import Derived.HandedShaped
namespace Go.Proofs.Ythalkkbchghmpaa.fnWordsOf
open Go.RowKit

set_option maxRecDepth 100000 in
theorem asc_all : (List.range 7).all (fun n => ascB (wordsL (2 * n) [] 0 n)) = true := by decide +kernel
set_option maxHeartbeats 1600000 in
theorem fnWordsOf_walk (a : Option Addr) (len cap : Nat) (zs : List Int) (w : World) (hr0 : IsRow .u8 w a len cap zs) (_hreach : cap * 1 ≤ 140737488351232) :
    Calls Try.prog 3 #[.slice a len cap] w fun e w' => e = .returned (.bool true) ∧ Below w.heap.size w w' := by
  have hr := Lib.hid hr0
  clear hr0
  by_cases hbig : (1048576 : Int) < (len : Int)
  · go_enter Try.func3, Try.ntmps3
    go_wp2
    go_ret
    exact ⟨rfl, Below.refl _ _⟩
  · go_enter Try.func3, Try.ntmps3
    go_wp2_with fail
    refine (drawWordsOf a len cap zs w hr (by omega)).mono ?_
    rintro e w1 ⟨x, hx, rfl, hb⟩
    have B1 := Lib.hid hb
    clear hb hr
    have c1 := fun w => implWords_any x w
    have c2 := fun w => specWords_any x w
    have hlen := wordsOut_length x
    by_cases hv : 0 ≤ x ∧ x ≤ 6
    · obtain ⟨n, rfl⟩ : ∃ k : Nat, x = k := ⟨x.toNat, by omega⟩
      have hn : n ≤ 6 := by omega
      have e : wordsOut n = wordsL (2 * n) [] 0 n := by rw [wordsOut, if_pos hv, Int.toNat_natCast]
      have hok := fun {j : Nat} (h : j < (wordsL (2 * n) [] 0 n).length) => list_ok hn h
      have hll := list_length hn
      have hasc : ascB (wordsL (2 * n) [] 0 n) = true := List.all_eq_true.1 asc_all n (List.mem_range.2 (by omega))
      have hpos := (ee_bd n (by omega) 0 (by omega)).1
      have c4 := fun w => implCount_in n (by omega) w
      rw [ee_catI n (by omega), ← hll] at c4
      rw [← hll] at hpos
      rw [e] at c1 c2 hlen
      obtain ⟨L, hL⟩ : ∃ L, L = wordsL (2 * n) [] 0 n := ⟨_, rfl⟩
      rw [← hL] at c1 c2 c4 hlen hasc hpos
      have hj : ∀ (j : Nat) (h : j < L.length), valid L[j] = true ∧ L[j].length = 2 * n ∧ rankL L[j] = j := by subst hL; exact fun j h => hok h
      have c5 : ∀ (j : Nat) (h : j < L.length) w, Calls Try.prog 16 #[.string ⟨L[j].toArray⟩] w fun e w' => e = .returned (.bool true) ∧ Below w.heap.size w w' := fun j h w => by
        have h0 := hj j h
        have := implValid_any ⟨L[j].toArray⟩ w (by show L[j].toArray.size ≤ maxLen; rw [List.size_toArray]; unfold maxLen; omega)
        rw [show valid (ByteArray.mk L[j].toArray).data.toList = true from h0.1] at this
        exact this
      have c6 : ∀ (j : Nat) (h : j < L.length) w, Calls Try.prog 17 #[.string ⟨L[j].toArray⟩] w fun e w' => e = .returned (.int .i64 j) ∧ Below w.heap.size w w' := fun j h w => by
        have h0 := hj j h
        have := implRank_in ⟨L[j].toArray⟩ h0.1 w
        rw [show rankL (ByteArray.mk L[j].toArray).data.toList = j from h0.2.2] at this
        exact this
      have c7 : ∀ (j : Nat) (h : j < L.length), (ByteArray.mk L[j].toArray).size = 2 * n := fun j h => by show L[j].toArray.size = _; rw [List.size_toArray]; exact (hj j h).2.1
      have C1 := Lib.hid c1
      have C2 := Lib.hid c2
      have C4 := Lib.hid c4
      have C5 := Lib.hid c5
      have C6 := Lib.hid c6
      have C7 := Lib.hid c7
      have HA := Lib.hid hasc
      have q0 : ((L.length : Int) == 0) = false := beq_false_of_ne (by omega)
      clear c1 c2 c4 c5 c6 c7 hj hok hll hasc hL e hv hx
      go_wp2_with fail
      refine (C1.out _).mono ?_
      rintro e w2 ⟨v2, rfl, o2, hb⟩
      have B2 := Lib.hid (B1.out.trans (hb.mono B1.out.size))
      clear hb
      have O2 := Lib.hid o2
      clear o2
      go_wp2_with fail
      refine (C2.out _).mono ?_
      rintro e w3 ⟨v3, rfl, o3, hb⟩
      have z23 := hb.size
      have O23 := Lib.hid (O2.out.below hb)
      have O3 := Lib.hid o3
      have B3 := Lib.hid (B2.out.trans (hb.mono B2.out.size))
      clear hb
      clear o3
      go_wp2_with fail
      refine (equalTexts_yes L _ _ _ O23 O3 (by omega)).mono ?_
      rintro e w5 ⟨rfl, hs⟩
      have B5 := Lib.hid (B3.out.trans (hs.below w.heap.size))
      have O5 := Lib.hid (O23.out.same hs.1)
      have hOs : w2.heap.size ≤ w5.heap.size := by rw [hs.1]; exact z23
      clear hs O2 O23 O3
      obtain ⟨ao, c, rfl, _, hcl, _, _⟩ := O5.out.slice
      rw [sv_length] at O5 hcl ⊢
      have K0 : Hid (Below w5.heap.size w5 w5) := Below.refl _ _
      go_wp2
      go_loopw [5] (fun y wr => ∃ j : Nat, j ≤ L.length ∧ y = .int .i64 j ∧ Hid (Below w5.heap.size w5 wr)) (fun y _ => L.length - (intOf y).toNat)
      case atStart => exact ⟨0, Nat.zero_le _, rfl, K0⟩
      case round =>
        clear K0
        obtain ⟨j, hj, rfl, K⟩ := hrel
        have OK := Lib.hid ((O5.out.more hOs).below K.out)
        by_cases hjn : j < L.length
        · obtain ⟨g1, hao, _, _, h1, _⟩ := OK.out.at_ j (by rw [sv_length]; exact hjn)
          cases hao
          rw [sv_at2 L j hjn] at h1
          have c5 := fun w => C5.out j hjn w
          have c6 := fun w => C6.out j hjn w
          have c7 := C7.out j hjn
          obtain ⟨t, ht⟩ : ∃ t, t = ByteArray.mk L[j].toArray := ⟨_, rfl⟩
          simp only [← ht] at c5 c6
          rw [← ht] at c7 h1
          have D5 := Lib.hid c5
          have D6 := Lib.hid c6
          have q1 : (j : Int) < (L.length : Int) := by omega
          have q2 : (t.size : Int) = 2 * (n : Int) := by omega
          have HT := Lib.hid ht
          clear c5 c6 c7 ht
          go_wp2_with fail
          refine (D5.out _).mono ?_
          rintro e w6 ⟨rfl, hb⟩
          have K6 := Lib.hid (K.out.trans (hb.mono K.out.size))
          obtain ⟨g2, hao2, _, _, h2, _⟩ := ((O5.out.more hOs).below K6.out).at_ j (by rw [sv_length]; exact hjn)
          cases hao2
          rw [sv_at2 L j hjn, ← HT.out] at h2
          clear hb K h1 OK
          go_wp2_with fail
          refine (D6.out _).mono ?_
          rintro e w7 ⟨rfl, hb⟩
          have K7 := Lib.hid (K6.out.trans (hb.mono K6.out.size))
          clear hb K6 h2
          go_wp2
          go_roundw
          case rel => exact ⟨j + 1, by omega, by go_num, K7⟩
          case measure => simp [intOf]; omega
        · obtain rfl : j = L.length := by omega
          have B6 := Lib.hid (B5.out.trans (K.out.mono B5.out.size))
          clear K
          go_wp2_with fail
          refine (ascend_yes L _ _ OK (by omega) HA.out).mono ?_
          rintro e w7 ⟨rfl, hs⟩
          have B7 := Lib.hid (B6.out.trans (hs.below w.heap.size))
          clear hs
          go_wp2_with fail
          refine (C4.out _).mono ?_
          rintro e w8 ⟨rfl, hb⟩
          have B8 := Lib.hid (B7.out.trans (hb.mono B7.out.size))
          clear hb
          go_wp2
          go_ret
          exact ⟨by first | rfl | simp, B8.out⟩
    · have e : wordsOut x = [] := by rw [wordsOut, if_neg hv]
      rw [e] at c1 c2
      have C1 := Lib.hid c1
      have C2 := Lib.hid c2
      clear c1 c2 e hv hx hlen
      go_wp2_with fail
      refine (C1.out _).mono ?_
      rintro e w2 ⟨v2, rfl, o2, hb⟩
      have B2 := Lib.hid (B1.out.trans (hb.mono B1.out.size))
      clear hb
      have O2 := Lib.hid o2
      clear o2
      go_wp2_with fail
      refine (C2.out _).mono ?_
      rintro e w3 ⟨v3, rfl, o3, hb⟩
      have z23 := hb.size
      have O23 := Lib.hid (O2.out.below hb)
      have O3 := Lib.hid o3
      have B3 := Lib.hid (B2.out.trans (hb.mono B2.out.size))
      clear hb
      clear o3
      go_wp2_with fail
      refine (equalTexts_yes [] _ _ _ O23 O3 (by simp)).mono ?_
      rintro e w5 ⟨rfl, hs⟩
      have B5 := Lib.hid (B3.out.trans (hs.below w.heap.size))
      have O5 := Lib.hid (O23.out.same hs.1)
      have hOs : w2.heap.size ≤ w5.heap.size := by rw [hs.1]; exact z23
      clear hs O2 O23 O3
      obtain ⟨ao, c, rfl, _, hcl, _, _⟩ := O5.out.slice
      rw [sv_length] at O5 hcl ⊢
      go_wp2_with fail
      refine (C2.out _).mono ?_
      rintro e w6 ⟨v6, rfl, o6, hb⟩
      have O6 := Lib.hid o6
      have O56 := Lib.hid ((O5.out.more hOs).below hb)
      have B6 := Lib.hid (B5.out.trans (hb.mono B5.out.size))
      clear hb o6
      go_wp2_with fail
      refine (equalTexts_yes [] _ _ _ O56 O6 (by simp)).mono ?_
      rintro e w7 ⟨rfl, hs⟩
      have B7 := Lib.hid (B6.out.trans (hs.below w.heap.size))
      clear hs
      go_wp2
      go_ret
      exact ⟨by first | rfl | simp, B7.out⟩

open Go.ChangeShapes Go.WideShapes Go.ChangeAt Go.RowKit
open Go.ChangeMaps (open_string shut_string)
set_option linter.unusedVariables false

theorem own : ownKnob Try.prog.godebug = none := by kernel_rfl
theorem laidOut : laidOutB Try.prog = true := by kernel_rfl

set_option maxRecDepth 100000 in
theorem lifted (os : Os) (started : os.Started) (H : Type) (enc : TypeId × Value → H) :
    ReturnsInHanded {} Try.checked os 3 .any (Rows.fnWordsOfSpec.pre6 enc Try.prog Try.f3 Rows.fnWordsOfRow.domain false) (Rows.fnWordsOfSpec.post enc Try.prog Try.f3 false true false false) := by
  refine returnsInHanded_of_change_shaped (C := Try.checked) own started (by kernel_rfl) Try.func3
    (ChangeSpec.witness6 (enc := enc) (C := Try.checked) false ⟨#[], #[.slice none 0 0], []⟩ 8 (by kernel_rfl) (by kernel_rfl) (by kernel_rfl) (by kernel_rfl)) ?_
  intro W base args ds gs before hval0 hW hcnd hsz0 hsh _
  have hval : ∀ (j : Nat) t v, Try.f3.params[j]? = some t → args[j]? = some v → Value.okWide Try.prog W .any base t v := hval0
  have hW' := hW
  obtain ⟨p, q, hA0, hV, rfl, hfz, hnd⟩ := hW
  have hA : DataW.TrodAll enc Try.prog W 0 (fun _ => true) true Try.f3.params.toList args.toList ds p := hA0
  have hsz : (DataW.weightsEach Try.prog (Try.f3.params.toList ++ Rows.fnWordsOfSpec.plain.varTypes Try.prog) (ds ++ gs)).all (· ≤ reachBytes) = true := hsz0
  rw [Try.params3] at hA hval hsz
  obtain ⟨v0, vs0, d0, ds0, p0, q0, hargs, rfl, rfl, h0, r0⟩ := trodAll_cons hA
  obtain ⟨rfl, rfl, rfl⟩ := trodAll_nil r0
  obtain rfl : args = #[v0] := by cases args; simp_all
  obtain ⟨rfl, rfl⟩ := trodVars_none hV
  obtain ⟨a0, len0, cap0, rfl⟩ := okWide_slice Try.underlying22 (hval 0 22 v0 rfl rfl)
  have k0 := h0
  have lt0 : ∀ x ∈ p0, x.block < W.heap.size := by obtain ⟨m, hm⟩ := k0; exact DataW.trod_lt m _ _ _ hm
  obtain ⟨z0, w0, hreach⟩ : ∃ zs, IsRow .u8 W a0 len0 cap0 zs ∧ cap0 * 1 ≤ 140737488351232 := by
    obtain ⟨fuel, hf⟩ := h0
    rcases open_ints Try.underlying22 Try.underlying5 (by kernel_rfl) hf with ⟨hcs, _⟩ | ⟨x, l, c, zs, hcs, _, hl, hm, hz, hx, hcell, hwz⟩
    · simp [Value.cells] at hcs
      obtain ⟨rfl, rfl, rfl⟩ := hcs
      exact ⟨[], .inl ⟨rfl, rfl, rfl, rfl⟩, by omega⟩
    · simp [Value.cells] at hcs
      obtain ⟨rfl, rfl, rfl⟩ := hcs
      refine ⟨zs, .inr ⟨_, rfl, hl, hm, by simpa using hz, hcell, hwz⟩, ?_⟩
      simp only [Prod.mk.injEq] at hx
      obtain ⟨hx1, hx2⟩ := hx
      rw [hx1] at hsz
      have hb := sized_slice hsz (j := 0) (t := 22) (e := 5) rfl rfl Try.underlying22
      have b8 : Try.prog.bytesOf 5 = 1 := by kernel_rfl
      rw [b8] at hb
      simp only [lits, List.length_map, List.length_take, List.length_drop, reachBytes] at hb
      simp only [if_true] at hz
      omega
  clear hA0 hval0
  refine (fnWordsOf_walk a0 len0 cap0 z0 W w0 hreach).mono fun e W' ⟨he, bel⟩ => ?_
  subst he
  exact ⟨_, rfl, _, _, _, [], _, [], hW', trodAll_mk1 (shut_bool Try.underlying4 _), trodAll_mk1 (Below.trod laidOut (by kernel_rfl) (of_decide_eq_true (by kernel_rfl)) k0 bel lt0), rfl, bel.frame _, fun h => by cases h⟩

theorem over : Rows.fnWordsOfRow.holds Try.pinned (OpenSpec.ofChange Rows.fnWordsOfSpec) :=
  OpenClaim.holds_of_wide 3 Try.f3 rfl rfl rfl rfl rfl rfl rfl ⟨rfl, rfl, rfl, rfl, rfl⟩ rfl rfl rfl rfl rfl (by kernel_rfl) Try.func3 (by kernel_rfl)
    (of_decide_eq_true (by kernel_rfl)) (by unfold Func.isWrapper; first | (rw [if_pos (by decide +kernel)]; kernel_rfl) | (rw [if_neg (by decide +kernel)]; exact ⟨rfl, rfl⟩))
    (fun os started H enc _ => lifted os started H enc)

theorem proved : Rows.FnWordsOfSaid := over
#print axioms proved
end Go.Proofs.Ythalkkbchghmpaa.fnWordsOf
