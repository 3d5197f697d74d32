/-
  For every argument of FnLeavesOf, whatever its value, the call returns true, leaves what it was handed as it was and changes no older memory. Conditions: none beside the row's own.
-/
import Derived.Test.YtlcjajkobhljcaaRows
import Derived.Test.YtlcjajkobhljcaaCDrawF
import Derived.Test.YtlcjajkobhljcaaCIs
import Derived.Test.YtlcjajkobhljcaaCLeaves
import Derived.Test.YtlcjajkobhljcaaCParents
import Derived.Test.YtlcjajkobhljcaaCIsIn
import Derived.Test.YtlcjajkobhljcaaWFactsD
import Derived.Test.YtlcjajkobhljcaaWRow
import Derived.WalkKit
import Derived.ProofKit
import Derived.OpenShut
import Derived.ShutString
import Derived.ChangeOld
import Derived.Below
import Derived.SizedLaws
import Derived.HandedShaped
namespace Go.Proofs.Ytlcjajkobhljcaa.fnLeavesOf
open Go.RowKit

theorem implLeaves_to (n : Int) (s : ByteArray) (w : World) (hs : s.size ≤ maxLen) (hn : Hid (leafOut s.data.toList = n)) (hsh : w.ShapedOpen Try.prog) :
    Calls Try.prog 31 #[.string s] w fun e w' => e = .returned (.int .i64 n) ∧ Below w.heap.size w w' := by
  rw [← hn.out]; exact implLeaves_any s w hs hsh
theorem specLeaves_to (n : Int) (s : ByteArray) (w : World) (hs : s.size ≤ maxLen) (hn : Hid (leafOut s.data.toList = n)) :
    Calls Try.prog 33 #[.string s] w fun e w' => e = .returned (.int .i64 n) ∧ w = w' := by
  rw [← hn.out]; exact specLeaves_any s w hs
theorem lone_le (p : List Int) : ∀ k, lone p k ≤ k
  | 0 => Nat.le_refl _
  | k + 1 => by
    have := lone_le p k
    rw [lone]; split <;> omega
theorem lone_step (p : List Int) (k : Nat) (b : Bool) (h : isInB p k = b) : lone p (k + 1) = lone p k + if b then 0 else 1 := by rw [lone, h]

set_option maxHeartbeats 3200000 in
theorem fnLeavesOf_walk (a : Option Addr) (len cap : Nat) (zs : List Int) (w : World) (hr0 : IsRow .u8 w a len cap zs) (_hreach : cap * 1 ≤ 140737488351232) (hsh0 : w.ShapedOpen Try.prog) :
    Calls Try.prog 9 #[.slice a len cap] w fun e w' => e = .returned (.bool true) ∧ Below w.heap.size w w' := by
  have hr := Lib.hid hr0
  clear hr0
  have hsh := Lib.hid hsh0
  clear hsh0
  by_cases hbig : (1048576 : Int) < (len : Int)
  · go_enter Try.func9, Try.ntmps9
    go_wp2
    go_ret
    exact ⟨rfl, Below.refl _ _⟩
  · go_enter Try.func9, Try.ntmps9
    go_wp2_with fail
    refine (drawLeavesOf a len cap zs w hr (by omega)).mono ?_
    rintro e w1 ⟨s, rfl, hs60, hb⟩
    have hsm : s.size ≤ maxLen := by unfold maxLen; omega
    have B1 := Lib.hid hb
    clear hb hr
    cases hv0 : valid s.data.toList with
    | false =>
      have HN : Hid (leafOut s.data.toList = -1) := by show _ = _; rw [leafOut, if_neg (by rw [hv0]; decide)]
      clear hv0
      go_wp2_with fail
      refine (implLeaves_to (-1) s w1 hsm HN (shaped_below hsh.out B1.out)).mono ?_
      rintro e w2 ⟨rfl, hb⟩
      have B2 := Lib.hid (B1.out.trans (hb.mono B1.out.size))
      clear hb
      go_wp2_with (go_at_call 33; refine (specLeaves_to (-1) s _ hsm HN).mono ?_; rintro e w' ⟨rfl, rfl⟩)
      go_ret
      exact ⟨rfl, B2.out⟩
    | true =>
      obtain ⟨m, hm⟩ : ∃ m, m = leavesL s.data.toList := ⟨_, rfl⟩
      have HN : Hid (leafOut s.data.toList = (m : Int)) := by show _ = _; rw [leafOut, if_pos hv0, hm]
      have hl := parOut_length s
      have hlone : lone (parOut s.data.toList) (parOut s.data.toList).length = m := by rw [parOut, if_pos hv0, hm]; exact leaf_lone hv0
      have C2 := Lib.hid (fun w => implParents_any s w hsm)
      obtain ⟨l, hle⟩ : ∃ l, l = parOut s.data.toList := ⟨_, rfl⟩
      rw [← hle] at hl hlone C2
      have HLN := Lib.hid hlone
      have d0 : ¬ (m : Int) < 0 := by omega
      clear hv0 hm hle hlone
      go_wp2_with fail
      refine (implLeaves_to m s w1 hsm HN (shaped_below hsh.out B1.out)).mono ?_
      rintro e w2 ⟨rfl, hb⟩
      have B2 := Lib.hid (B1.out.trans (hb.mono B1.out.size))
      clear hb
      go_wp2_with (go_at_call 33; refine (specLeaves_to m s _ hsm HN).mono ?_; rintro e w' ⟨rfl, rfl⟩)
      refine (C2.out _).mono ?_
      rintro e w3 ⟨v, rfl, o, hb⟩
      have O3 := Lib.hid o
      have B3 := Lib.hid (B2.out.trans (hb.mono B2.out.size))
      clear o hb
      obtain ⟨av, cv, rfl, _, hcv, _, _⟩ := O3.out.slice
      rw [iv_length] at hcv O3 ⊢
      go_wp2
      go_loop [6, 7] (fun n i => ∃ k : Nat, k ≤ l.length ∧ i = .int .i64 k ∧ n = .int .i64 (lone l k)) (fun _ i => l.length - (intOf i).toNat)
      case atStart => exact ⟨0, Nat.zero_le _, rfl, rfl⟩
      case round =>
        obtain ⟨k, hk, rfl, rfl⟩ := hrel
        have hlk := lone_le l k
        by_cases hlt : k < l.length
        · have b1 : (k : Int) < (l.length : Int) := by omega
          cases hin : isInB l (k : Int) with
          | true =>
            have LS := Lib.hid (lone_step l k true hin)
            have CI := isIn_any l (.slice av l.length cv) (k : Int) w3 O3 (by omega)
            rw [hin] at CI
            have HCI := Lib.hid CI
            clear CI hin
            go_wp2_with (go_at_call 34; refine HCI.out.mono ?_; rintro e w' ⟨rfl, rfl⟩)
            go_round
            case rel => exact ⟨k + 1, by omega, by go_num, by rw [LS.out]; rfl⟩
            case measure => simp [intOf]; omega
          | false =>
            have LS := Lib.hid (lone_step l k false hin)
            have CI := isIn_any l (.slice av l.length cv) (k : Int) w3 O3 (by omega)
            rw [hin] at CI
            have HCI := Lib.hid CI
            clear CI hin
            go_wp2_with (go_at_call 34; refine HCI.out.mono ?_; rintro e w' ⟨rfl, rfl⟩)
            go_round
            case rel => exact ⟨k + 1, by omega, by go_num, by rw [LS.out]; go_num⟩
            case measure => simp [intOf]; omega
        · obtain rfl : k = l.length := by omega
          go_wp2
          go_ret
          exact ⟨ret_b (by rw [HLN.out]; exact beq_self_eq_true _), B3.out⟩

open Go.ChangeShapes Go.WideShapes Go.ChangeAt Go.RowKit
open Go.ChangeMaps (open_string shut_string)
set_option linter.unusedVariables false

theorem own : ownKnob Try.prog.godebug = none := by kernel_rfl
theorem laidOut : laidOutB Try.prog = true := by kernel_rfl

set_option maxRecDepth 100000 in
theorem lifted (os : Os) (started : os.Started) (H : Type) (enc : TypeId × Value → H) :
    ReturnsInHanded {} Try.checked os 9 .any (Rows.fnLeavesOfSpec.pre6 enc Try.prog Try.f9 Rows.fnLeavesOfRow.domain false) (Rows.fnLeavesOfSpec.post enc Try.prog Try.f9 false true false false) := by
  refine returnsInHanded_of_change_shaped (C := Try.checked) own started (by kernel_rfl) Try.func9
    (ChangeSpec.witness6 (enc := enc) (C := Try.checked) false ⟨#[], #[.slice none 0 0], []⟩ 8 (by kernel_rfl) (by kernel_rfl) (by kernel_rfl) (by kernel_rfl)) ?_
  intro W base args ds gs before hval0 hW hcnd hsz0 hsh _
  have hval : ∀ (j : Nat) t v, Try.f9.params[j]? = some t → args[j]? = some v → Value.okWide Try.prog W .any base t v := hval0
  have hW' := hW
  obtain ⟨p, q, hA0, hV, rfl, hfz, hnd⟩ := hW
  have hA : DataW.TrodAll enc Try.prog W 0 (fun _ => true) true Try.f9.params.toList args.toList ds p := hA0
  have hsz : (DataW.weightsEach Try.prog (Try.f9.params.toList ++ Rows.fnLeavesOfSpec.plain.varTypes Try.prog) (ds ++ gs)).all (· ≤ reachBytes) = true := hsz0
  rw [Try.params9] at hA hval hsz
  obtain ⟨v0, vs0, d0, ds0, p0, q0, hargs, rfl, rfl, h0, r0⟩ := trodAll_cons hA
  obtain ⟨rfl, rfl, rfl⟩ := trodAll_nil r0
  obtain rfl : args = #[v0] := by cases args; simp_all
  obtain ⟨rfl, rfl⟩ := trodVars_none hV
  obtain ⟨a0, len0, cap0, rfl⟩ := okWide_slice Try.underlying22 (hval 0 22 v0 rfl rfl)
  have k0 := h0
  have lt0 : ∀ x ∈ p0, x.block < W.heap.size := by obtain ⟨m, hm⟩ := k0; exact DataW.trod_lt m _ _ _ hm
  obtain ⟨z0, w0, hreach⟩ : ∃ zs, IsRow .u8 W a0 len0 cap0 zs ∧ cap0 * 1 ≤ 140737488351232 := by
    obtain ⟨fuel, hf⟩ := h0
    rcases open_ints Try.underlying22 Try.underlying5 (by kernel_rfl) hf with ⟨hcs, _⟩ | ⟨x, l, c, zs, hcs, _, hl, hm, hz, hx, hcell, hwz⟩
    · simp [Value.cells] at hcs
      obtain ⟨rfl, rfl, rfl⟩ := hcs
      exact ⟨[], .inl ⟨rfl, rfl, rfl, rfl⟩, by omega⟩
    · simp [Value.cells] at hcs
      obtain ⟨rfl, rfl, rfl⟩ := hcs
      refine ⟨zs, .inr ⟨_, rfl, hl, hm, by simpa using hz, hcell, hwz⟩, ?_⟩
      simp only [Prod.mk.injEq] at hx
      obtain ⟨hx1, hx2⟩ := hx
      rw [hx1] at hsz
      have hb := sized_slice hsz (j := 0) (t := 22) (e := 5) rfl rfl Try.underlying22
      have b8 : Try.prog.bytesOf 5 = 1 := by kernel_rfl
      rw [b8] at hb
      simp only [lits, List.length_map, List.length_take, List.length_drop, reachBytes] at hb
      simp only [if_true] at hz
      omega
  clear hA0 hval0
  refine (fnLeavesOf_walk a0 len0 cap0 z0 W w0 hreach hsh).mono fun e W' ⟨he, bel⟩ => ?_
  subst he
  exact ⟨_, rfl, _, _, _, [], _, [], hW', trodAll_mk1 (shut_bool Try.underlying4 _), trodAll_mk1 (Below.trod laidOut (by kernel_rfl) (of_decide_eq_true (by kernel_rfl)) k0 bel lt0), rfl, bel.frame _, fun h => by cases h⟩

theorem over : Rows.fnLeavesOfRow.holds Try.pinned (OpenSpec.ofChange Rows.fnLeavesOfSpec) :=
  OpenClaim.holds_of_wide 9 Try.f9 rfl rfl rfl rfl rfl rfl rfl ⟨rfl, rfl, rfl, rfl, rfl⟩ rfl rfl rfl rfl rfl (by kernel_rfl) Try.func9 (by kernel_rfl)
    (of_decide_eq_true (by kernel_rfl)) (by unfold Func.isWrapper; first | (rw [if_pos (by decide +kernel)]; kernel_rfl) | (rw [if_neg (by decide +kernel)]; exact ⟨rfl, rfl⟩))
    (fun os started H enc _ => lifted os started H enc)

theorem proved : Rows.FnLeavesOfSaid := over
#print axioms proved
end Go.Proofs.Ytlcjajkobhljcaa.fnLeavesOf
