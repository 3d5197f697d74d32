/-
  For every argument of FnLeavesAreCounted, whatever its value, the call returns true, leaves what it was handed as it was and changes no older memory. Conditions: none beside the row's own.
-/
import Derived.Test.YthalkkbchghmpaaRows
import Derived.Test.YthalkkbchghmpaaCDrawH
import Derived.Test.YthalkkbchghmpaaCMany
import Derived.Test.YthalkkbchghmpaaCAt
import Derived.Test.YthalkkbchghmpaaCCountB
import Derived.Test.YthalkkbchghmpaaCTextsC
import Derived.Test.YthalkkbchghmpaaWFactsK
import Derived.Test.YthalkkbchghmpaaWRow
import Derived.WalkKit
import Derived.ProofKit
import Derived.OpenShut
import Derived.ShutString
import Derived.ChangeOld
import Derived.Below
import Derived.SizedLaws
import Derived.HandedShaped
namespace Go.Proofs.Ythalkkbchghmpaa.fnLeavesAreCounted
open Go.RowKit

theorem cnt_take (k : Nat) (L : List (List UInt8)) (j : Nat) (h : j < L.length) : cntL k (L.take (j + 1)) = cntL k (L.take j) + (if (valid L[j] && Nat.beq (leavesL L[j]) k) = true then 1 else 0) := by
  rw [List.take_succ_eq_append_getElem h, cntL_snoc]
set_option maxHeartbeats 1600000 in
theorem fnLeavesAreCounted_walk (a : Option Addr) (len cap : Nat) (zs : List Int) (w : World) (hr0 : IsRow .u8 w a len cap zs) (_hreach : cap * 1 ≤ 140737488351232) (hsh : w.ShapedOpen Try.prog) :
    Calls Try.prog 9 #[.slice a len cap] w fun e w' => e = .returned (.bool true) ∧ Below w.heap.size w w' := by
  have hr := Lib.hid hr0
  clear hr0
  by_cases hbig : (1048576 : Int) < (len : Int)
  · go_enter Try.func9, Try.ntmps9
    go_wp2
    go_ret
    exact ⟨rfl, Below.refl _ _⟩
  · go_enter Try.func9, Try.ntmps9
    go_wp2_with fail
    refine (drawCountLeaves a len cap zs w hr (by omega)).mono ?_
    rintro e w1 ⟨x, y, hx, hy, rfl, hb⟩
    have hsh1 := shaped_below hsh hb
    have B1 := Lib.hid hb
    clear hb hr hsh
    by_cases hv : (0 ≤ x ∧ x ≤ 6) ∧ 0 ≤ y ∧ y ≤ 6
    · obtain ⟨n, rfl⟩ : ∃ k : Nat, x = k := ⟨x.toNat, by omega⟩
      obtain ⟨k, rfl⟩ : ∃ k : Nat, y = k := ⟨y.toNat, by omega⟩
      have hn : n ≤ 6 := by omega
      have hk : k ≤ 6 := by omega
      have c3 : ∀ w', Below w1.heap.size w1 w' → Calls Try.prog 32 #[.int .i64 n, .int .i64 k] w' fun e w'' => e = .returned (.int .i64 (ev n k : Nat)) ∧ Below w'.heap.size w' w'' := fun w' hb => by
        rw [← evOut_in n k hn hk]; exact implMany_any n k w' (shaped_below hsh1 hb)
      have c2 := fun w => specCountL_any n k w
      rw [evOut_in n k hn hk] at c2
      have c4 := fun w => implWords_any n w
      have hwo : wordsOut n = wordsL (2 * n) [] 0 n := by rw [wordsOut, if_pos hv.1, Int.toNat_natCast]
      have hlist := fun {j : Nat} (h : j < (wordsL (2 * n) [] 0 n).length) => list_ok hn h
      have hlen := list_length hn
      have hcnt := cnt_ok hn hk
      rw [hwo] at c4
      obtain ⟨L, hL⟩ : ∃ L, L = wordsL (2 * n) [] 0 n := ⟨_, rfl⟩
      have hl132 : L.length ≤ 4862 := by rw [hL, hlen]; exact (ee_bd n (by omega) 0 (by omega)).2
      rw [← hL] at c4 hcnt
      have hval : ∀ (j : Nat) (h : j < L.length), valid L[j] = true := by subst hL; exact fun j h => (hlist h).1
      have hlv : ∀ (j : Nat) (h : j < L.length) w', Below w1.heap.size w1 w' → Calls Try.prog 34 #[.string ⟨L[j].toArray⟩] w' fun e w'' => e = .returned (.int .i64 (leavesL L[j] : Nat)) ∧ Below w'.heap.size w' w'' := fun j h w' hb =>
        implLeaves_yes ⟨L[j].toArray⟩ w' (by show valid _ = true; exact hval j h) (shaped_below hsh1 hb)
      obtain ⟨E, hE⟩ : ∃ E, E = ev n k := ⟨_, rfl⟩
      have hcnt' : cntL k L = E := by rw [hcnt, hE]; rfl
      rw [← hE] at c2 c3
      have he := ev_bd n hn k hk
      rw [← hE] at he
      have C2 := Lib.hid c2
      have C3 := Lib.hid c3
      have C4 := Lib.hid c4
      have HC := Lib.hid hcnt'
      have HV := Lib.hid hval
      have HLV := Lib.hid hlv
      have q0 : decide ((E : Int) < 0) = false := decide_eq_false (by omega)
      clear c2 c3 c4 hE hv hx hy hsh1 hwo hlist hlen hcnt hL hcnt' hval hlv
      go_wp2_with fail
      refine (C3.out _ (Below.refl _ _)).mono ?_
      rintro e w2 ⟨rfl, hb⟩
      have K2 := Lib.hid hb
      have B2 := Lib.hid (B1.out.trans (hb.mono B1.out.size))
      clear hb
      go_wp2_with fail
      refine (C2.out _).mono ?_
      rintro e w3 ⟨rfl, rfl⟩
      go_wp2_with fail
      refine (C3.out _ K2.out).mono ?_
      rintro e w3 ⟨rfl, hb⟩
      have K3 := Lib.hid (K2.out.trans (hb.mono K2.out.size))
      have B3 := Lib.hid (B2.out.trans (hb.mono B2.out.size))
      clear hb
      go_wp2_with fail
      refine (C4.out _).mono ?_
      rintro e w4 ⟨v, rfl, ho, hb⟩
      have K4 := Lib.hid (K3.out.trans (hb.mono K3.out.size))
      have B4 := Lib.hid (B3.out.trans (hb.mono B3.out.size))
      clear hb
      obtain ⟨ao, c, rfl, _, hcl, _, _⟩ := ho.slice
      rw [sv_length] at ho hcl ⊢
      have HO := Lib.hid ho
      obtain ⟨wo, hwo⟩ : ∃ wo, wo = w4 := ⟨_, rfl⟩
      have HWO := Lib.hid hwo
      have K0 : Hid (Below w4.heap.size w4 w4) := Below.refl _ _
      clear ho hwo
      go_wp2
      go_loopw [7, 8] (fun x y wr => ∃ (j X : Nat), j ≤ L.length ∧ X ≤ 5000 ∧ x = .int .i64 (X : Nat) ∧ y = .int .i64 j ∧ Hid (X = cntL k (L.take j)) ∧ Hid (Below w4.heap.size w4 wr)) (fun _ y _ => L.length - (intOf y).toNat)
      case atStart => exact ⟨0, 0, Nat.zero_le _, by omega, rfl, rfl, rfl, K0⟩
      case round =>
        clear K0
        obtain ⟨j, X, hj, hXb, rfl, rfl, HX, K⟩ := hrel
        by_cases hjn : j < L.length
        · obtain ⟨g1, hao, _, _, h1, _⟩ := (HO.out.below K.out).at_ j (by rw [sv_length]; exact hjn)
          cases hao
          rw [sv_at2 L j hjn] at h1
          have c5 := HLV.out j hjn wr (K4.out.trans (K.out.mono K4.out.size))
          have hct := cnt_take k L j hjn
          rw [HV.out j hjn, Bool.true_and] at hct
          have hcl1 := cntL_le k (L.take (j + 1))
          rw [List.length_take] at hcl1
          obtain ⟨Y, hY⟩ : ∃ Y, Y = leavesL L[j] := ⟨_, rfl⟩
          obtain ⟨t, ht⟩ : ∃ t, t = ByteArray.mk L[j].toArray := ⟨_, rfl⟩
          rw [← hY] at c5 hct
          rw [← ht] at c5 h1
          rw [← HX.out] at hct
          have C5 := Lib.hid c5
          have q1 : (j : Int) < (L.length : Int) := by omega
          by_cases hyk : Y = k
          · have q2 : ((Y : Int) == (k : Int)) = true := by rw [hyk]; simp
            rw [if_pos (by simpa using hyk)] at hct
            have hX1 : X + 1 ≤ 5000 := by omega
            have HCT := Lib.hid hct.symm
            clear c5 hY ht hct hyk HX hcl1
            go_wp2_with fail
            refine C5.out.mono ?_
            rintro e w5 ⟨rfl, hb⟩
            have K5 := Lib.hid (K.out.trans (hb.mono K.out.size))
            clear hb C5 K
            go_wp2
            go_roundw
            case rel => exact ⟨j + 1, X + 1, by omega, hX1, by go_num, by go_num, HCT, K5⟩
            case measure => simp [intOf]; omega
          · have q2 : ((Y : Int) == (k : Int)) = false := beq_false_of_ne (by omega)
            rw [if_neg (by simpa using hyk)] at hct
            have HCT := Lib.hid hct.symm
            clear c5 hY ht hct hyk HX hcl1
            go_wp2_with fail
            refine C5.out.mono ?_
            rintro e w5 ⟨rfl, hb⟩
            have K5 := Lib.hid (K.out.trans (hb.mono K.out.size))
            clear hb C5 K
            go_wp2
            go_roundw
            case rel => exact ⟨j + 1, X, by omega, hXb, rfl, by go_num, HCT, K5⟩
            case measure => simp [intOf]; omega
        · obtain rfl : j = L.length := by omega
          have hx := HX.out
          rw [List.take_of_length_le (Nat.le_refl _), HC.out] at hx
          subst hx
          have B5 := Lib.hid (B4.out.trans (K.out.mono B4.out.size))
          clear K HX
          go_wp2
          go_ret
          exact ⟨by first | rfl | simp, B5.out⟩
    · have e1 : evOut x y = -1 := by unfold evOut; rw [if_neg hv]
      have c1 : ∀ w', Below w1.heap.size w1 w' → Calls Try.prog 32 #[.int .i64 x, .int .i64 y] w' fun e w'' => e = .returned (.int .i64 (-1)) ∧ Below w'.heap.size w' w'' := fun w' hb => by
        rw [← e1]; exact implMany_any x y w' (shaped_below hsh1 hb)
      have c2 := fun w => specCountL_any x y w
      rw [e1] at c2
      have C1 := Lib.hid c1
      have C2 := Lib.hid c2
      clear c1 c2 e1 hv hx hy hsh1
      go_wp2_with fail
      refine (C1.out _ (Below.refl _ _)).mono ?_
      rintro e w2 ⟨rfl, hb⟩
      have K2 := Lib.hid hb
      have B2 := Lib.hid (B1.out.trans (hb.mono B1.out.size))
      clear hb
      go_wp2_with fail
      refine (C2.out _).mono ?_
      rintro e w3 ⟨rfl, rfl⟩
      go_wp2_with fail
      refine (C1.out _ K2.out).mono ?_
      rintro e w4 ⟨rfl, hb⟩
      have B4 := Lib.hid (B2.out.trans (hb.mono B2.out.size))
      clear hb
      go_wp2
      go_ret
      exact ⟨rfl, B4.out⟩

open Go.ChangeShapes Go.WideShapes Go.ChangeAt Go.RowKit
open Go.ChangeMaps (open_string shut_string)
set_option linter.unusedVariables false

theorem own : ownKnob Try.prog.godebug = none := by kernel_rfl
theorem laidOut : laidOutB Try.prog = true := by kernel_rfl

set_option maxRecDepth 100000 in
theorem lifted (os : Os) (started : os.Started) (H : Type) (enc : TypeId × Value → H) :
    ReturnsInHanded {} Try.checked os 9 .any (Rows.fnLeavesAreCountedSpec.pre6 enc Try.prog Try.f9 Rows.fnLeavesAreCountedRow.domain false) (Rows.fnLeavesAreCountedSpec.post enc Try.prog Try.f9 false true false false) := by
  refine returnsInHanded_of_change_shaped (C := Try.checked) own started (by kernel_rfl) Try.func9
    (ChangeSpec.witness6 (enc := enc) (C := Try.checked) false ⟨#[], #[.slice none 0 0], []⟩ 8 (by kernel_rfl) (by kernel_rfl) (by kernel_rfl) (by kernel_rfl)) ?_
  intro W base args ds gs before hval0 hW hcnd hsz0 hsh _
  have hval : ∀ (j : Nat) t v, Try.f9.params[j]? = some t → args[j]? = some v → Value.okWide Try.prog W .any base t v := hval0
  have hW' := hW
  obtain ⟨p, q, hA0, hV, rfl, hfz, hnd⟩ := hW
  have hA : DataW.TrodAll enc Try.prog W 0 (fun _ => true) true Try.f9.params.toList args.toList ds p := hA0
  have hsz : (DataW.weightsEach Try.prog (Try.f9.params.toList ++ Rows.fnLeavesAreCountedSpec.plain.varTypes Try.prog) (ds ++ gs)).all (· ≤ reachBytes) = true := hsz0
  rw [Try.params9] at hA hval hsz
  obtain ⟨v0, vs0, d0, ds0, p0, q0, hargs, rfl, rfl, h0, r0⟩ := trodAll_cons hA
  obtain ⟨rfl, rfl, rfl⟩ := trodAll_nil r0
  obtain rfl : args = #[v0] := by cases args; simp_all
  obtain ⟨rfl, rfl⟩ := trodVars_none hV
  obtain ⟨a0, len0, cap0, rfl⟩ := okWide_slice Try.underlying22 (hval 0 22 v0 rfl rfl)
  have k0 := h0
  have lt0 : ∀ x ∈ p0, x.block < W.heap.size := by obtain ⟨m, hm⟩ := k0; exact DataW.trod_lt m _ _ _ hm
  obtain ⟨z0, w0, hreach⟩ : ∃ zs, IsRow .u8 W a0 len0 cap0 zs ∧ cap0 * 1 ≤ 140737488351232 := by
    obtain ⟨fuel, hf⟩ := h0
    rcases open_ints Try.underlying22 Try.underlying5 (by kernel_rfl) hf with ⟨hcs, _⟩ | ⟨x, l, c, zs, hcs, _, hl, hm, hz, hx, hcell, hwz⟩
    · simp [Value.cells] at hcs
      obtain ⟨rfl, rfl, rfl⟩ := hcs
      exact ⟨[], .inl ⟨rfl, rfl, rfl, rfl⟩, by omega⟩
    · simp [Value.cells] at hcs
      obtain ⟨rfl, rfl, rfl⟩ := hcs
      refine ⟨zs, .inr ⟨_, rfl, hl, hm, by simpa using hz, hcell, hwz⟩, ?_⟩
      simp only [Prod.mk.injEq] at hx
      obtain ⟨hx1, hx2⟩ := hx
      rw [hx1] at hsz
      have hb := sized_slice hsz (j := 0) (t := 22) (e := 5) rfl rfl Try.underlying22
      have b8 : Try.prog.bytesOf 5 = 1 := by kernel_rfl
      rw [b8] at hb
      simp only [lits, List.length_map, List.length_take, List.length_drop, reachBytes] at hb
      simp only [if_true] at hz
      omega
  clear hA0 hval0
  refine (fnLeavesAreCounted_walk a0 len0 cap0 z0 W w0 hreach hsh).mono fun e W' ⟨he, bel⟩ => ?_
  subst he
  exact ⟨_, rfl, _, _, _, [], _, [], hW', trodAll_mk1 (shut_bool Try.underlying4 _), trodAll_mk1 (Below.trod laidOut (by kernel_rfl) (of_decide_eq_true (by kernel_rfl)) k0 bel lt0), rfl, bel.frame _, fun h => by cases h⟩

theorem over : Rows.fnLeavesAreCountedRow.holds Try.pinned (OpenSpec.ofChange Rows.fnLeavesAreCountedSpec) :=
  OpenClaim.holds_of_wide 9 Try.f9 rfl rfl rfl rfl rfl rfl rfl ⟨rfl, rfl, rfl, rfl, rfl⟩ rfl rfl rfl rfl rfl (by kernel_rfl) Try.func9 (by kernel_rfl)
    (of_decide_eq_true (by kernel_rfl)) (by unfold Func.isWrapper; first | (rw [if_pos (by decide +kernel)]; kernel_rfl) | (rw [if_neg (by decide +kernel)]; exact ⟨rfl, rfl⟩))
    (fun os started H enc _ => lifted os started H enc)

theorem proved : Rows.FnLeavesAreCountedSaid := over
#print axioms proved
end Go.Proofs.Ythalkkbchghmpaa.fnLeavesAreCounted
