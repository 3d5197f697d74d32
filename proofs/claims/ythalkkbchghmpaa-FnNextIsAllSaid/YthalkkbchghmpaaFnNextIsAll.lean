/-
  For every argument of FnNextIsAll, whatever its value, the call returns true, leaves what it was handed as it was and changes no older memory. Conditions: none beside the row's own.
-/
import Derived.Test.YthalkkbchghmpaaRows
import Derived.Test.YthalkkbchghmpaaCDrawH
import Derived.Test.YthalkkbchghmpaaCAt
import Derived.Test.YthalkkbchghmpaaCNext
import Derived.Test.YthalkkbchghmpaaCTextsC
import Derived.Test.YthalkkbchghmpaaWFactsK
import Derived.Test.YthalkkbchghmpaaWRow
import Derived.WalkKit
import Derived.ProofKit
import Derived.OpenShut
import Derived.ShutString
import Derived.ChangeOld
import Derived.Below
import Derived.SizedLaws
import Derived.HandedShaped
namespace Go.Proofs.Ythalkkbchghmpaa.fnNextIsAll
open Go.RowKit

set_option maxHeartbeats 1600000 in
theorem fnNextIsAll_walk (a : Option Addr) (len cap : Nat) (zs : List Int) (w : World) (hr0 : IsRow .u8 w a len cap zs) (_hreach : cap * 1 ≤ 140737488351232) :
    Calls Try.prog 11 #[.slice a len cap] w fun e w' => e = .returned (.bool true) ∧ Below w.heap.size w w' := by
  have hr := Lib.hid hr0
  clear hr0
  by_cases hbig : (1048576 : Int) < (len : Int)
  · go_enter Try.func11, Try.ntmps11
    go_wp2
    go_ret
    exact ⟨rfl, Below.refl _ _⟩
  · go_enter Try.func11, Try.ntmps11
    go_wp2_with fail
    refine (drawWordsOf a len cap zs w hr (by omega)).mono ?_
    rintro e w1 ⟨x, hx, rfl, hb⟩
    have B1 := Lib.hid hb
    clear hb hr
    have c1 := fun w => implWords_any x w
    have c2 := fun w => specWords_any x w
    have hlen := wordsOut_length x
    have hnx : ∀ (j : Nat) (h : j < (wordsOut x).length), valid (wordsOut x)[j] = true ∧ nextAt (wordsOut x)[j] (wordsOut x)[j].length = (wordsOut x)[j + 1]? := by
      by_cases hv : 0 ≤ x ∧ x ≤ 6
      · have e : wordsOut x = wordsL (2 * x.toNat) [] 0 x.toNat := by rw [wordsOut, if_pos hv]
        rw [e]
        exact fun j h => ⟨(list_ok (by omega) h).1, next_list (by omega) h⟩
      · have e : wordsOut x = [] := by rw [wordsOut, if_neg hv]
        rw [e]
        exact fun j h => by cases h
    obtain ⟨L, hL⟩ : ∃ L, L = wordsOut x := ⟨_, rfl⟩
    simp only [← hL] at c1 c2 hlen hnx
    have c3 : ∀ (j : Nat) (h : j < L.length) w, Calls Try.prog 29 #[.string ⟨L[j].toArray⟩] w fun e w' => e = .returned (optV L[j + 1]?) ∧ Below w.heap.size w w' := fun j h w => by
      have h0 := hnx j h
      have hsz : L[j].length ≤ 18 := (valid_scan h0.1).2
      have := implNext_any ⟨L[j].toArray⟩ w (by show L[j].toArray.size ≤ maxLen; rw [List.size_toArray]; unfold maxLen; omega)
      have e : nextOut (ByteArray.mk L[j].toArray).data.toList = optV L[j + 1]? := by
        show nextOut L[j] = _
        rw [nextOut, if_pos h0.1, h0.2]
      rw [e] at this
      exact this
    have C1 := Lib.hid c1
    have C2 := Lib.hid c2
    have C3 := Lib.hid c3
    clear c1 c2 c3 hnx hL hx
    go_wp2_with fail
    refine (C1.out _).mono ?_
    rintro e w2 ⟨v2, rfl, o2, hb⟩
    have B2 := Lib.hid (B1.out.trans (hb.mono B1.out.size))
    clear hb
    have O2 := Lib.hid o2
    clear o2
    go_wp2_with fail
    refine (C2.out _).mono ?_
    rintro e w3 ⟨v3, rfl, o3, hb⟩
    have O23 := Lib.hid (O2.out.below hb)
    have O3 := Lib.hid o3
    have B3 := Lib.hid (B2.out.trans (hb.mono B2.out.size))
    clear hb
    clear o3
    go_wp2_with fail
    refine (equalTexts_yes L _ _ _ O23 O3 (by omega)).mono ?_
    rintro e w4 ⟨rfl, hs⟩
    have B4 := Lib.hid (B3.out.trans (hs.below w.heap.size))
    clear hs O2 O23 O3
    go_wp2_with fail
    refine (C1.out _).mono ?_
    rintro e w5 ⟨v5, rfl, o5, hb⟩
    have B5 := Lib.hid (B4.out.trans (hb.mono B4.out.size))
    clear hb
    obtain ⟨ao, c, rfl, _, hcl, _, _⟩ := o5.slice
    rw [sv_length] at o5 hcl ⊢
    have HO := Lib.hid o5
    have K0 : Hid (Below w5.heap.size w5 w5) := Below.refl _ _
    clear o5
    go_wp2
    go_loopw [5] (fun y wr => ∃ j : Nat, j ≤ L.length ∧ y = .int .i64 j ∧ Hid (Below w5.heap.size w5 wr)) (fun y _ => L.length - (intOf y).toNat)
    case atStart => exact ⟨0, Nat.zero_le _, rfl, K0⟩
    case round =>
      clear K0
      obtain ⟨j, hj, rfl, K⟩ := hrel
      by_cases hjn : j < L.length
      · obtain ⟨g1, hao, _, _, h1, _⟩ := (HO.out.below K.out).at_ j (by rw [sv_length]; exact hjn)
        cases hao
        rw [sv_at2 L j hjn] at h1
        have c5 := C3.out j hjn wr
        obtain ⟨t, ht⟩ : ∃ t, t = ByteArray.mk L[j].toArray := ⟨_, rfl⟩
        rw [← ht] at c5 h1
        have q1 : (j : Int) < (L.length : Int) := by omega
        by_cases hn : j + 1 < L.length
        · have e1 : L[j + 1]? = some L[j + 1] := List.getElem?_eq_getElem hn
          rw [e1] at c5
          obtain ⟨u, hu⟩ : ∃ u, u = ByteArray.mk (L[j + 1]'hn).toArray := ⟨_, rfl⟩
          have C5 : Hid (Calls Try.prog 29 #[.string t] wr fun e w' => e = .returned (.tuple #[.string u, .bool true]) ∧ Below wr.heap.size wr w') := by rw [hu]; exact c5
          have HU := Lib.hid hu
          have q2 : decide ((j : Int) + 1 < (L.length : Int)) = true := decide_eq_true (by omega)
          have q3 : (j : Int) + 1 < (L.length : Int) := by omega
          have q4 : (0 : Int) ≤ (j : Int) + 1 := by omega
          have q5 : ((j : Int) + 1).toNat = j + 1 := by omega
          clear c5 ht e1 hu
          go_wp2_with fail
          refine C5.out.mono ?_
          rintro e w6 ⟨rfl, hb⟩
          have K6 := Lib.hid (K.out.trans (hb.mono K.out.size))
          obtain ⟨g2, hao2, _, _, h2, _⟩ := (HO.out.below K6.out).at_ (j + 1) (by rw [sv_length]; exact hn)
          cases hao2
          rw [sv_at2 L (j + 1) hn, ← HU.out] at h2
          clear hb C5 K h1
          go_wp2
          go_roundw
          case rel => exact ⟨j + 1, by omega, by go_num, K6⟩
          case measure => simp [intOf]; omega
        · have e1 : L[j + 1]? = none := List.getElem?_eq_none (by omega)
          rw [e1] at c5
          have C5 : Hid (Calls Try.prog 29 #[.string t] wr fun e w' => e = .returned (.tuple #[.string ⟨#[]⟩, .bool false]) ∧ Below wr.heap.size wr w') := c5
          have q2 : decide ((j : Int) + 1 < (L.length : Int)) = false := decide_eq_false (by omega)
          have q3 : (L.length : Int) ≤ (j : Int) + 1 := by omega
          clear c5 ht e1
          go_wp2_with fail
          refine C5.out.mono ?_
          rintro e w6 ⟨rfl, hb⟩
          have K6 := Lib.hid (K.out.trans (hb.mono K.out.size))
          clear hb C5 K h1
          go_wp2
          go_roundw
          case rel => exact ⟨j + 1, by omega, by go_num, K6⟩
          case measure => simp [intOf]; omega
      · obtain rfl : j = L.length := by omega
        have B6 := Lib.hid (B5.out.trans (K.out.mono B5.out.size))
        clear K
        go_wp2
        go_ret
        exact ⟨by first | rfl | simp, B6.out⟩

open Go.ChangeShapes Go.WideShapes Go.ChangeAt Go.RowKit
open Go.ChangeMaps (open_string shut_string)
set_option linter.unusedVariables false

theorem own : ownKnob Try.prog.godebug = none := by kernel_rfl
theorem laidOut : laidOutB Try.prog = true := by kernel_rfl

set_option maxRecDepth 100000 in
theorem lifted (os : Os) (started : os.Started) (H : Type) (enc : TypeId × Value → H) :
    ReturnsInHanded {} Try.checked os 11 .any (Rows.fnNextIsAllSpec.pre6 enc Try.prog Try.f11 Rows.fnNextIsAllRow.domain false) (Rows.fnNextIsAllSpec.post enc Try.prog Try.f11 false true false false) := by
  refine returnsInHanded_of_change_shaped (C := Try.checked) own started (by kernel_rfl) Try.func11
    (ChangeSpec.witness6 (enc := enc) (C := Try.checked) false ⟨#[], #[.slice none 0 0], []⟩ 8 (by kernel_rfl) (by kernel_rfl) (by kernel_rfl) (by kernel_rfl)) ?_
  intro W base args ds gs before hval0 hW hcnd hsz0 hsh _
  have hval : ∀ (j : Nat) t v, Try.f11.params[j]? = some t → args[j]? = some v → Value.okWide Try.prog W .any base t v := hval0
  have hW' := hW
  obtain ⟨p, q, hA0, hV, rfl, hfz, hnd⟩ := hW
  have hA : DataW.TrodAll enc Try.prog W 0 (fun _ => true) true Try.f11.params.toList args.toList ds p := hA0
  have hsz : (DataW.weightsEach Try.prog (Try.f11.params.toList ++ Rows.fnNextIsAllSpec.plain.varTypes Try.prog) (ds ++ gs)).all (· ≤ reachBytes) = true := hsz0
  rw [Try.params11] at hA hval hsz
  obtain ⟨v0, vs0, d0, ds0, p0, q0, hargs, rfl, rfl, h0, r0⟩ := trodAll_cons hA
  obtain ⟨rfl, rfl, rfl⟩ := trodAll_nil r0
  obtain rfl : args = #[v0] := by cases args; simp_all
  obtain ⟨rfl, rfl⟩ := trodVars_none hV
  obtain ⟨a0, len0, cap0, rfl⟩ := okWide_slice Try.underlying22 (hval 0 22 v0 rfl rfl)
  have k0 := h0
  have lt0 : ∀ x ∈ p0, x.block < W.heap.size := by obtain ⟨m, hm⟩ := k0; exact DataW.trod_lt m _ _ _ hm
  obtain ⟨z0, w0, hreach⟩ : ∃ zs, IsRow .u8 W a0 len0 cap0 zs ∧ cap0 * 1 ≤ 140737488351232 := by
    obtain ⟨fuel, hf⟩ := h0
    rcases open_ints Try.underlying22 Try.underlying5 (by kernel_rfl) hf with ⟨hcs, _⟩ | ⟨x, l, c, zs, hcs, _, hl, hm, hz, hx, hcell, hwz⟩
    · simp [Value.cells] at hcs
      obtain ⟨rfl, rfl, rfl⟩ := hcs
      exact ⟨[], .inl ⟨rfl, rfl, rfl, rfl⟩, by omega⟩
    · simp [Value.cells] at hcs
      obtain ⟨rfl, rfl, rfl⟩ := hcs
      refine ⟨zs, .inr ⟨_, rfl, hl, hm, by simpa using hz, hcell, hwz⟩, ?_⟩
      simp only [Prod.mk.injEq] at hx
      obtain ⟨hx1, hx2⟩ := hx
      rw [hx1] at hsz
      have hb := sized_slice hsz (j := 0) (t := 22) (e := 5) rfl rfl Try.underlying22
      have b8 : Try.prog.bytesOf 5 = 1 := by kernel_rfl
      rw [b8] at hb
      simp only [lits, List.length_map, List.length_take, List.length_drop, reachBytes] at hb
      simp only [if_true] at hz
      omega
  clear hA0 hval0
  refine (fnNextIsAll_walk a0 len0 cap0 z0 W w0 hreach).mono fun e W' ⟨he, bel⟩ => ?_
  subst he
  exact ⟨_, rfl, _, _, _, [], _, [], hW', trodAll_mk1 (shut_bool Try.underlying4 _), trodAll_mk1 (Below.trod laidOut (by kernel_rfl) (of_decide_eq_true (by kernel_rfl)) k0 bel lt0), rfl, bel.frame _, fun h => by cases h⟩

theorem over : Rows.fnNextIsAllRow.holds Try.pinned (OpenSpec.ofChange Rows.fnNextIsAllSpec) :=
  OpenClaim.holds_of_wide 11 Try.f11 rfl rfl rfl rfl rfl rfl rfl ⟨rfl, rfl, rfl, rfl, rfl⟩ rfl rfl rfl rfl rfl (by kernel_rfl) Try.func11 (by kernel_rfl)
    (of_decide_eq_true (by kernel_rfl)) (by unfold Func.isWrapper; first | (rw [if_pos (by decide +kernel)]; kernel_rfl) | (rw [if_neg (by decide +kernel)]; exact ⟨rfl, rfl⟩))
    (fun os started H enc _ => lifted os started H enc)

theorem proved : Rows.FnNextIsAllSaid := over
#print axioms proved
end Go.Proofs.Ythalkkbchghmpaa.fnNextIsAll
