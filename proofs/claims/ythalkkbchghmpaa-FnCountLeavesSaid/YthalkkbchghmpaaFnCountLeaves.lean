/-
  For every argument of FnCountLeaves, whatever its value, the call returns true, leaves what it was handed as it was and changes no older memory. Conditions: none beside the row's own.
-/
import Derived.Test.YthalkkbchghmpaaRows
import Derived.Test.YthalkkbchghmpaaCDrawH
import Derived.Test.YthalkkbchghmpaaCMany
import Derived.Test.YthalkkbchghmpaaCAt
import Derived.Test.YthalkkbchghmpaaCCountB
import Derived.Test.YthalkkbchghmpaaWRow
import Derived.WalkKit
import Derived.ProofKit
import Derived.OpenShut
import Derived.ShutString
import Derived.ChangeOld
import Derived.Below
import Derived.SizedLaws
import Derived.HandedShaped
namespace Go.Proofs.Ythalkkbchghmpaa.fnCountLeaves
open Go.RowKit

def evSum (n : Nat) : Nat → Nat
  | 0 => 0
  | j + 1 => evSum n j + ev n j
theorem evSum_full : ∀ n, n ≤ 6 → evSum n (n + 1) = ee n 0 := by decide +kernel
theorem evSum_bd : ∀ n, n ≤ 6 → ∀ j, j ≤ n + 1 → evSum n j ≤ 132 := by decide
theorem ev_even : ∀ n, n ≤ 6 → 0 < n → ∀ k, k ≤ n → 0 < k → ev n (n + 1 - k) = ev n k := by decide
set_option maxHeartbeats 1600000 in
theorem fnCountLeaves_walk (a : Option Addr) (len cap : Nat) (zs : List Int) (w : World) (hr0 : IsRow .u8 w a len cap zs) (_hreach : cap * 1 ≤ 140737488351232) (hsh : w.ShapedOpen Try.prog) :
    Calls Try.prog 8 #[.slice a len cap] w fun e w' => e = .returned (.bool true) ∧ Below w.heap.size w w' := by
  have hr := Lib.hid hr0
  clear hr0
  by_cases hbig : (1048576 : Int) < (len : Int)
  · go_enter Try.func8, Try.ntmps8
    go_wp2
    go_ret
    exact ⟨rfl, Below.refl _ _⟩
  · go_enter Try.func8, Try.ntmps8
    go_wp2_with fail
    refine (drawCountLeaves a len cap zs w hr (by omega)).mono ?_
    rintro e w1 ⟨x, y, hx, hy, rfl, hb⟩
    have hsh1 := shaped_below hsh hb
    have B1 := Lib.hid hb
    clear hb hr hsh
    by_cases hv : (0 ≤ x ∧ x ≤ 6) ∧ 0 ≤ y ∧ y ≤ 6
    · obtain ⟨n, rfl⟩ : ∃ k : Nat, x = k := ⟨x.toNat, by omega⟩
      obtain ⟨k, rfl⟩ : ∃ k : Nat, y = k := ⟨y.toNat, by omega⟩
      have hn : n ≤ 6 := by omega
      have hk : k ≤ 6 := by omega
      have c1 := implMany_any n k w1 hsh1
      have c2 := fun w => specCountL_any n k w
      rw [evOut_in n k hn hk] at c1 c2
      have c3 : ∀ (j : Nat) w', j ≤ 6 → Below w1.heap.size w1 w' → Calls Try.prog 32 #[.int .i64 n, .int .i64 j] w' fun e w'' => e = .returned (.int .i64 (ev n j : Nat)) ∧ Below w'.heap.size w' w'' := fun j w' hj hb => by
        rw [← evOut_in n j hn hj]; exact implMany_any n j w' (shaped_below hsh1 hb)
      have c4 := fun w => implCount_in n (by omega) w
      rw [ee_catI n (by omega), ← evSum_full n hn] at c4
      obtain ⟨E, hE⟩ : ∃ E, E = ev n k := ⟨_, rfl⟩
      rw [← hE] at c1 c2
      have q0 : decide ((E : Int) < 0) = false := decide_eq_false (by omega)
      have C1 := Lib.hid c1
      have C2 := Lib.hid c2
      have C3 := Lib.hid c3
      have C4 := Lib.hid c4
      have HE := Lib.hid hE
      clear c1 c2 c3 c4 hE hv hx hy hsh1
      go_wp2_with fail
      refine (C1.out).mono ?_
      rintro e w2 ⟨rfl, hb⟩
      have K2 := Lib.hid hb
      have B2 := Lib.hid (B1.out.trans (hb.mono B1.out.size))
      clear hb
      go_wp2_with fail
      refine (C2.out _).mono ?_
      rintro e w3 ⟨rfl, rfl⟩
      go_wp2_with fail
      go_loopw [6, 7] (fun x y wr => ∃ j : Nat, j ≤ n + 1 ∧ x = .int .i64 (evSum n j : Nat) ∧ y = .int .i64 j ∧ Hid (Below w1.heap.size w1 wr)) (fun _ y _ => n + 1 - (intOf y).toNat)
      case atStart => exact ⟨0, Nat.zero_le _, rfl, rfl, K2⟩
      case round =>
        clear K2
        obtain ⟨j, hj, rfl, rfl, K⟩ := hrel
        have hsb := evSum_bd n hn j hj
        by_cases hjn : j < n + 1
        · have hsn : evSum n (j + 1) = evSum n j + ev n j := rfl
          have hsb2 := evSum_bd n hn (j + 1) (by omega)
          have c5 := C3.out j wr (by omega) K.out
          obtain ⟨X, hX⟩ : ∃ X, X = evSum n j := ⟨_, rfl⟩
          obtain ⟨Y, hY⟩ : ∃ Y, Y = ev n j := ⟨_, rfl⟩
          rw [← hX] at hsb hsn ⊢
          rw [← hY] at hsn c5
          rw [hsn] at hsb2
          have HS := Lib.hid hsn
          have C5 := Lib.hid c5
          have q1 : (j : Int) ≤ (n : Int) := by omega
          clear c5 hsn hX hY
          go_wp2_with fail
          refine C5.out.mono ?_
          rintro e w4 ⟨rfl, hb⟩
          have K4 := Lib.hid (K.out.trans (hb.mono K.out.size))
          clear hb C5 K
          go_wp2
          go_roundw
          case rel => exact ⟨j + 1, by omega, by rw [HS.out]; go_num, by go_num, K4⟩
          case measure => simp [intOf]; omega
        · obtain rfl : j = n + 1 := by omega
          have B4 := Lib.hid (B1.out.trans (K.out.mono B1.out.size))
          obtain ⟨X, hX⟩ : ∃ X, X = evSum n (n + 1) := ⟨_, rfl⟩
          have C4' : Hid (∀ w, Calls Try.prog 19 #[.int .i64 n] w fun e w' => e = .returned (.int .i64 (X : Nat)) ∧ Below w.heap.size w w') := by rw [hX]; exact C4
          rw [← hX] at hsb ⊢
          have q1 : (n : Int) < ((n + 1 : Nat) : Int) := by omega
          clear C4 hX B2
          go_wp2_with fail
          refine (C4'.out _).mono ?_
          rintro e w4 ⟨rfl, hb⟩
          have B5 := Lib.hid (B4.out.trans (hb.mono B4.out.size))
          have K5 := Lib.hid (K.out.trans (hb.mono K.out.size))
          clear hb K B4 hjn hj
          by_cases h0 : n = 0
          · have q2 : ((n : Int) == 0) = true := by rw [h0]; rfl
            clear h0
            go_wp2
            go_ret
            exact ⟨by first | rfl | simp, B5.out⟩
          · have q2 : ((n : Int) == 0) = false := beq_false_of_ne (by omega)
            by_cases hk0 : k = 0
            · have q3 : ((k : Int) == 0) = true := by rw [hk0]; rfl
              clear h0 hk0
              go_wp2
              go_ret
              exact ⟨by first | rfl | simp, B5.out⟩
            · have q3 : ((k : Int) == 0) = false := beq_false_of_ne (by omega)
              by_cases hkn : n < k
              · have q4 : decide ((n : Int) < (k : Int)) = true := decide_eq_true (by omega)
                clear h0 hk0
                go_wp2
                go_ret
                exact ⟨by first | rfl | simp, B5.out⟩
              · have q4 : decide ((n : Int) < (k : Int)) = false := decide_eq_false (by omega)
                have hev := ev_even n hn (by omega) k (by omega) (by omega)
                have c6 := C3.out (n + 1 - k) w4 (by omega) K5.out
                rw [hev, ← HE.out, show ((n + 1 - k : Nat) : Int) = (n : Int) + 1 - (k : Int) by omega] at c6
                have C6 := Lib.hid c6
                have q5 : (k : Int) ≤ (n : Int) := by omega
                have q6 : decide (n < k) = false := decide_eq_false hkn
                clear c6 hev h0 hk0
                go_wp2_with fail
                refine C6.out.mono ?_
                rintro e w5 ⟨rfl, hb⟩
                have B6 := Lib.hid (B5.out.trans (hb.mono B5.out.size))
                clear hb
                go_wp2
                go_ret
                exact ⟨by first | rfl | simp, B6.out⟩
    · have e1 : evOut x y = -1 := by unfold evOut; rw [if_neg hv]
      have c1 := implMany_any x y w1 hsh1
      have c2 := fun w => specCountL_any x y w
      rw [e1] at c1 c2
      have C1 := Lib.hid c1
      have C2 := Lib.hid c2
      clear c1 c2 e1 hv hx hy hsh1
      go_wp2_with fail
      refine (C1.out).mono ?_
      rintro e w2 ⟨rfl, hb⟩
      have B2 := Lib.hid (B1.out.trans (hb.mono B1.out.size))
      clear hb
      go_wp2_with fail
      refine (C2.out _).mono ?_
      rintro e w3 ⟨rfl, rfl⟩
      go_wp2_with fail
      refine (C2.out _).mono ?_
      rintro e w4 ⟨rfl, rfl⟩
      go_wp2
      go_ret
      exact ⟨rfl, B2.out⟩

open Go.ChangeShapes Go.WideShapes Go.ChangeAt Go.RowKit
open Go.ChangeMaps (open_string shut_string)
set_option linter.unusedVariables false

theorem own : ownKnob Try.prog.godebug = none := by kernel_rfl
theorem laidOut : laidOutB Try.prog = true := by kernel_rfl

set_option maxRecDepth 100000 in
theorem lifted (os : Os) (started : os.Started) (H : Type) (enc : TypeId × Value → H) :
    ReturnsInHanded {} Try.checked os 8 .any (Rows.fnCountLeavesSpec.pre6 enc Try.prog Try.f8 Rows.fnCountLeavesRow.domain false) (Rows.fnCountLeavesSpec.post enc Try.prog Try.f8 false true false false) := by
  refine returnsInHanded_of_change_shaped (C := Try.checked) own started (by kernel_rfl) Try.func8
    (ChangeSpec.witness6 (enc := enc) (C := Try.checked) false ⟨#[], #[.slice none 0 0], []⟩ 8 (by kernel_rfl) (by kernel_rfl) (by kernel_rfl) (by kernel_rfl)) ?_
  intro W base args ds gs before hval0 hW hcnd hsz0 hsh _
  have hval : ∀ (j : Nat) t v, Try.f8.params[j]? = some t → args[j]? = some v → Value.okWide Try.prog W .any base t v := hval0
  have hW' := hW
  obtain ⟨p, q, hA0, hV, rfl, hfz, hnd⟩ := hW
  have hA : DataW.TrodAll enc Try.prog W 0 (fun _ => true) true Try.f8.params.toList args.toList ds p := hA0
  have hsz : (DataW.weightsEach Try.prog (Try.f8.params.toList ++ Rows.fnCountLeavesSpec.plain.varTypes Try.prog) (ds ++ gs)).all (· ≤ reachBytes) = true := hsz0
  rw [Try.params8] at hA hval hsz
  obtain ⟨v0, vs0, d0, ds0, p0, q0, hargs, rfl, rfl, h0, r0⟩ := trodAll_cons hA
  obtain ⟨rfl, rfl, rfl⟩ := trodAll_nil r0
  obtain rfl : args = #[v0] := by cases args; simp_all
  obtain ⟨rfl, rfl⟩ := trodVars_none hV
  obtain ⟨a0, len0, cap0, rfl⟩ := okWide_slice Try.underlying22 (hval 0 22 v0 rfl rfl)
  have k0 := h0
  have lt0 : ∀ x ∈ p0, x.block < W.heap.size := by obtain ⟨m, hm⟩ := k0; exact DataW.trod_lt m _ _ _ hm
  obtain ⟨z0, w0, hreach⟩ : ∃ zs, IsRow .u8 W a0 len0 cap0 zs ∧ cap0 * 1 ≤ 140737488351232 := by
    obtain ⟨fuel, hf⟩ := h0
    rcases open_ints Try.underlying22 Try.underlying5 (by kernel_rfl) hf with ⟨hcs, _⟩ | ⟨x, l, c, zs, hcs, _, hl, hm, hz, hx, hcell, hwz⟩
    · simp [Value.cells] at hcs
      obtain ⟨rfl, rfl, rfl⟩ := hcs
      exact ⟨[], .inl ⟨rfl, rfl, rfl, rfl⟩, by omega⟩
    · simp [Value.cells] at hcs
      obtain ⟨rfl, rfl, rfl⟩ := hcs
      refine ⟨zs, .inr ⟨_, rfl, hl, hm, by simpa using hz, hcell, hwz⟩, ?_⟩
      simp only [Prod.mk.injEq] at hx
      obtain ⟨hx1, hx2⟩ := hx
      rw [hx1] at hsz
      have hb := sized_slice hsz (j := 0) (t := 22) (e := 5) rfl rfl Try.underlying22
      have b8 : Try.prog.bytesOf 5 = 1 := by kernel_rfl
      rw [b8] at hb
      simp only [lits, List.length_map, List.length_take, List.length_drop, reachBytes] at hb
      simp only [if_true] at hz
      omega
  clear hA0 hval0
  refine (fnCountLeaves_walk a0 len0 cap0 z0 W w0 hreach hsh).mono fun e W' ⟨he, bel⟩ => ?_
  subst he
  exact ⟨_, rfl, _, _, _, [], _, [], hW', trodAll_mk1 (shut_bool Try.underlying4 _), trodAll_mk1 (Below.trod laidOut (by kernel_rfl) (of_decide_eq_true (by kernel_rfl)) k0 bel lt0), rfl, bel.frame _, fun h => by cases h⟩

theorem over : Rows.fnCountLeavesRow.holds Try.pinned (OpenSpec.ofChange Rows.fnCountLeavesSpec) :=
  OpenClaim.holds_of_wide 8 Try.f8 rfl rfl rfl rfl rfl rfl rfl ⟨rfl, rfl, rfl, rfl, rfl⟩ rfl rfl rfl rfl rfl (by kernel_rfl) Try.func8 (by kernel_rfl)
    (of_decide_eq_true (by kernel_rfl)) (by unfold Func.isWrapper; first | (rw [if_pos (by decide +kernel)]; kernel_rfl) | (rw [if_neg (by decide +kernel)]; exact ⟨rfl, rfl⟩))
    (fun os started H enc _ => lifted os started H enc)

theorem proved : Rows.FnCountLeavesSaid := over
#print axioms proved
end Go.Proofs.Ythalkkbchghmpaa.fnCountLeaves
