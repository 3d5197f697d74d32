/-
  For every argument of FnCountWords, whatever its value, the call returns true, leaves what it was handed as it was and changes no older memory. Conditions: none beside the row's own.
-/
import Derived.Test.YtgomhleaonajjaaRows
import Derived.Test.YtgomhleaonajjaaCDrawF
import Derived.Test.YtgomhleaonajjaaCCountB
import Derived.Test.YtgomhleaonajjaaCWordsI
import Derived.Test.YtgomhleaonajjaaWRow
import Derived.WalkKit
import Derived.ProofKit
import Derived.OpenShut
import Derived.ShutString
import Derived.ChangeOld
import Derived.Below
import Derived.SizedLaws
import Derived.HandedShaped
namespace Go.Proofs.Ytgomhleaonajjaa.fnCountWords
open Go.RowKit

theorem implCount_to (n c : Int) (w : World) (h : Hid (catOut n = c)) :
    Calls Try.prog 5 #[.int .i64 n] w fun e w' => e = .returned (.int .i64 c) ∧ Below w.heap.size w w' := by
  rw [← h.out]; exact implCount_any n w
theorem specCount_to (n c : Int) (w : World) (h : Hid (catOut n = c)) :
    Calls Try.prog 6 #[.int .i64 n] w fun e w' => e = .returned (.int .i64 c) ∧ Below w.heap.size w w' := by
  rw [← h.out]; exact specCount_any n w
theorem implWords_to (n : Int) (m : Nat) (w : World) (h : Hid ((wordsOut n).length = m)) :
    Calls Try.prog 7 #[.int .i64 n] w fun e w' => ∃ ao c, e = .returned (.slice ao m c) ∧ Below w.heap.size w w' :=
  (implWords_any n w).mono fun _ _ ⟨v, he, ho, hb⟩ => by
    obtain ⟨ao, c, hv, _⟩ := ho.slice
    rw [sv_length, h.out] at hv
    exact ⟨ao, c, by rw [he, hv], hb⟩

theorem drawCount (a : Option Addr) (len cap : Nat) (zs : List Int) (w : World) (hr : Hid (IsRow .u8 w a len cap zs)) (hl : len ≤ 1048576) :
    Calls Try.prog 4 #[.slice a len cap] w fun e w' => ∃ x, x ∈ [(4 : Int), 6, 9, 1, 0, 5, 10, -1] ∧ e = .returned (.int .i64 x) ∧ Below w.heap.size w w' := by
  go_enter Try.func4, Try.ntmps4
  go_wp2_with fail
  refine (newReader_any a len cap zs w hr.out hl).mono ?_
  rintro e w1 ⟨n, R, rfl, hrd, hb⟩
  have hlow := hrd.low
  have hRlt := hrd.lt
  have R1 := Lib.hid (show Rd (w1.alloc (.cells #[.int .i64 4, .int .i64 6, .int .i64 9, .int .i64 1, .int .i64 0, .int .i64 5, .int .i64 10, .int .i64 (-1)] 3)) w.heap.size R a n cap 0 from hrd.grow ((Below.refl _ _).alloc (Nat.le_refl _) _))
  have B1 := Lib.hid (hb.alloc (show w.heap.size ≤ w1.heap.size by omega) (.cells #[.int .i64 4, .int .i64 6, .int .i64 9, .int .i64 1, .int .i64 0, .int .i64 5, .int .i64 10, .int .i64 (-1)] 3))
  have L8 := Lib.hid (show Own (w1.alloc (.cells #[.int .i64 4, .int .i64 6, .int .i64 9, .int .i64 1, .int .i64 0, .int .i64 5, .int .i64 10, .int .i64 (-1)] 3)) w1.heap.size (w1.heap.size + 1) 3 (.slice (some ⟨w1.heap.size, 0, none⟩) 8 8) (iv [4, 6, 9, 1, 0, 5, 10, -1]) from lit_own w1 _ 3 (by decide))
  have N0 := Lib.hid (show (Value.slice (some ⟨w1.heap.size, 0, none⟩) 8 8).ownBlock ≠ some R by simp [Value.ownBlock]; omega)
  clear hrd hb
  go_wp2_with fail
  refine (one_any _ _ w.heap.size R a n cap 0 _ R1 (by omega) L8 N0.out (by decide) (by decide)).mono ?_
  rintro e w2 ⟨x, hx, rfl, hrd, honly⟩
  have B2 := Lib.hid (B1.out.trans (honly.below hlow))
  have HX := Lib.hid hx
  clear hrd honly hx
  go_wp2
  go_ret
  exact ⟨x, HX.out, rfl, B2.out⟩

set_option maxHeartbeats 3200000 in
theorem fnCountWords_walk (a : Option Addr) (len cap : Nat) (zs : List Int) (w : World) (hr0 : IsRow .u8 w a len cap zs) (_hreach : cap * 1 ≤ 140737488351232) :
    Calls Try.prog 3 #[.slice a len cap] w fun e w' => e = .returned (.bool true) ∧ Below w.heap.size w w' := by
  have hr := Lib.hid hr0
  clear hr0
  by_cases hbig : (1048576 : Int) < (len : Int)
  · go_enter Try.func3, Try.ntmps3
    go_wp2
    go_ret
    exact ⟨rfl, Below.refl _ _⟩
  · go_enter Try.func3, Try.ntmps3
    go_wp2_with fail
    refine (drawCount a len cap zs w hr (by omega)).mono ?_
    rintro e w1 ⟨x, hx, rfl, hb⟩
    have B1 := Lib.hid hb
    clear hb hr
    simp only [List.mem_cons, List.not_mem_nil, or_false] at hx
    rcases hx with rfl | rfl | rfl | rfl | rfl | rfl | rfl | rfl
    · have H1 : Hid (catOut 4 = 14) := by show _ = _; decide
      go_wp2_with fail
      refine (implCount_to _ _ _ H1).mono ?_
      rintro e w2 ⟨rfl, hb⟩
      have B2 := Lib.hid (B1.out.trans (hb.mono B1.out.size))
      clear hb
      go_wp2_with fail
      refine (specCount_to _ _ _ H1).mono ?_
      rintro e w3 ⟨rfl, hb⟩
      have B3 := Lib.hid (B2.out.trans (hb.mono B2.out.size))
      clear hb
      have H2 : Hid (catOut 5 = 42) := by show _ = _; decide
      have H3 : Hid ((wordsOut 4).length = 14) := by show _ = _; decide +kernel
      go_wp2_with fail
      refine (implWords_to _ _ _ H3).mono ?_
      rintro e w4 ⟨ao, cc, rfl, hb⟩
      have B4 := Lib.hid (B3.out.trans (hb.mono B3.out.size))
      clear hb
      go_wp2_with fail
      refine (implCount_to _ _ _ H2).mono ?_
      rintro e w5 ⟨rfl, hb⟩
      go_wp2
      go_ret
      exact ⟨rfl, B4.out.trans (hb.mono B4.out.size)⟩
    · have H1 : Hid (catOut 6 = 132) := by show _ = _; decide
      go_wp2_with fail
      refine (implCount_to _ _ _ H1).mono ?_
      rintro e w2 ⟨rfl, hb⟩
      have B2 := Lib.hid (B1.out.trans (hb.mono B1.out.size))
      clear hb
      go_wp2_with fail
      refine (specCount_to _ _ _ H1).mono ?_
      rintro e w3 ⟨rfl, hb⟩
      have B3 := Lib.hid (B2.out.trans (hb.mono B2.out.size))
      clear hb
      have H2 : Hid (catOut 7 = 429) := by show _ = _; decide
      have H3 : Hid ((wordsOut 6).length = 132) := by show _ = _; decide +kernel
      go_wp2_with fail
      refine (implWords_to _ _ _ H3).mono ?_
      rintro e w4 ⟨ao, cc, rfl, hb⟩
      have B4 := Lib.hid (B3.out.trans (hb.mono B3.out.size))
      clear hb
      go_wp2_with fail
      refine (implCount_to _ _ _ H2).mono ?_
      rintro e w5 ⟨rfl, hb⟩
      go_wp2
      go_ret
      exact ⟨rfl, B4.out.trans (hb.mono B4.out.size)⟩
    · have H1 : Hid (catOut 9 = 4862) := by show _ = _; decide
      go_wp2_with fail
      refine (implCount_to _ _ _ H1).mono ?_
      rintro e w2 ⟨rfl, hb⟩
      have B2 := Lib.hid (B1.out.trans (hb.mono B1.out.size))
      clear hb
      go_wp2_with fail
      refine (specCount_to _ _ _ H1).mono ?_
      rintro e w3 ⟨rfl, hb⟩
      have B3 := Lib.hid (B2.out.trans (hb.mono B2.out.size))
      clear hb
      have H2 : Hid (catOut 10 = (-1)) := by show _ = _; decide
      have H3 : Hid ((wordsOut 9).length = 0) := by show _ = _; decide +kernel
      go_wp2_with fail
      refine (implWords_to _ _ _ H3).mono ?_
      rintro e w4 ⟨ao, cc, rfl, hb⟩
      have B4 := Lib.hid (B3.out.trans (hb.mono B3.out.size))
      clear hb
      go_wp2_with fail
      refine (implCount_to _ _ _ H2).mono ?_
      rintro e w5 ⟨rfl, hb⟩
      go_wp2
      go_ret
      exact ⟨rfl, B4.out.trans (hb.mono B4.out.size)⟩
    · have H1 : Hid (catOut 1 = 1) := by show _ = _; decide
      go_wp2_with fail
      refine (implCount_to _ _ _ H1).mono ?_
      rintro e w2 ⟨rfl, hb⟩
      have B2 := Lib.hid (B1.out.trans (hb.mono B1.out.size))
      clear hb
      go_wp2_with fail
      refine (specCount_to _ _ _ H1).mono ?_
      rintro e w3 ⟨rfl, hb⟩
      have B3 := Lib.hid (B2.out.trans (hb.mono B2.out.size))
      clear hb
      have H2 : Hid (catOut 2 = 2) := by show _ = _; decide
      have H3 : Hid ((wordsOut 1).length = 1) := by show _ = _; decide +kernel
      go_wp2_with fail
      refine (implWords_to _ _ _ H3).mono ?_
      rintro e w4 ⟨ao, cc, rfl, hb⟩
      have B4 := Lib.hid (B3.out.trans (hb.mono B3.out.size))
      clear hb
      go_wp2_with fail
      refine (implCount_to _ _ _ H2).mono ?_
      rintro e w5 ⟨rfl, hb⟩
      go_wp2
      go_ret
      exact ⟨rfl, B4.out.trans (hb.mono B4.out.size)⟩
    · have H1 : Hid (catOut 0 = 1) := by show _ = _; decide
      go_wp2_with fail
      refine (implCount_to _ _ _ H1).mono ?_
      rintro e w2 ⟨rfl, hb⟩
      have B2 := Lib.hid (B1.out.trans (hb.mono B1.out.size))
      clear hb
      go_wp2_with fail
      refine (specCount_to _ _ _ H1).mono ?_
      rintro e w3 ⟨rfl, hb⟩
      have B3 := Lib.hid (B2.out.trans (hb.mono B2.out.size))
      clear hb
      have H2 : Hid (catOut 1 = 1) := by show _ = _; decide
      have H3 : Hid ((wordsOut 0).length = 1) := by show _ = _; decide +kernel
      go_wp2_with fail
      refine (implWords_to _ _ _ H3).mono ?_
      rintro e w4 ⟨ao, cc, rfl, hb⟩
      have B4 := Lib.hid (B3.out.trans (hb.mono B3.out.size))
      clear hb
      go_wp2_with fail
      refine (implCount_to _ _ _ H2).mono ?_
      rintro e w5 ⟨rfl, hb⟩
      go_wp2
      go_ret
      exact ⟨rfl, B4.out.trans (hb.mono B4.out.size)⟩
    · have H1 : Hid (catOut 5 = 42) := by show _ = _; decide
      go_wp2_with fail
      refine (implCount_to _ _ _ H1).mono ?_
      rintro e w2 ⟨rfl, hb⟩
      have B2 := Lib.hid (B1.out.trans (hb.mono B1.out.size))
      clear hb
      go_wp2_with fail
      refine (specCount_to _ _ _ H1).mono ?_
      rintro e w3 ⟨rfl, hb⟩
      have B3 := Lib.hid (B2.out.trans (hb.mono B2.out.size))
      clear hb
      have H2 : Hid (catOut 6 = 132) := by show _ = _; decide
      have H3 : Hid ((wordsOut 5).length = 42) := by show _ = _; decide +kernel
      go_wp2_with fail
      refine (implWords_to _ _ _ H3).mono ?_
      rintro e w4 ⟨ao, cc, rfl, hb⟩
      have B4 := Lib.hid (B3.out.trans (hb.mono B3.out.size))
      clear hb
      go_wp2_with fail
      refine (implCount_to _ _ _ H2).mono ?_
      rintro e w5 ⟨rfl, hb⟩
      go_wp2
      go_ret
      exact ⟨rfl, B4.out.trans (hb.mono B4.out.size)⟩
    · have H1 : Hid (catOut 10 = (-1)) := by show _ = _; decide
      go_wp2_with fail
      refine (implCount_to _ _ _ H1).mono ?_
      rintro e w2 ⟨rfl, hb⟩
      have B2 := Lib.hid (B1.out.trans (hb.mono B1.out.size))
      clear hb
      go_wp2_with fail
      refine (specCount_to _ _ _ H1).mono ?_
      rintro e w3 ⟨rfl, hb⟩
      have B3 := Lib.hid (B2.out.trans (hb.mono B2.out.size))
      clear hb
      go_wp2_with fail
      refine (specCount_to _ _ _ H1).mono ?_
      rintro e w4 ⟨rfl, hb⟩
      go_wp2
      go_ret
      exact ⟨rfl, B3.out.trans (hb.mono B3.out.size)⟩
    · have H1 : Hid (catOut (-1) = (-1)) := by show _ = _; decide
      go_wp2_with fail
      refine (implCount_to _ _ _ H1).mono ?_
      rintro e w2 ⟨rfl, hb⟩
      have B2 := Lib.hid (B1.out.trans (hb.mono B1.out.size))
      clear hb
      go_wp2_with fail
      refine (specCount_to _ _ _ H1).mono ?_
      rintro e w3 ⟨rfl, hb⟩
      have B3 := Lib.hid (B2.out.trans (hb.mono B2.out.size))
      clear hb
      go_wp2_with fail
      refine (specCount_to _ _ _ H1).mono ?_
      rintro e w4 ⟨rfl, hb⟩
      go_wp2
      go_ret
      exact ⟨rfl, B3.out.trans (hb.mono B3.out.size)⟩

open Go.ChangeShapes Go.WideShapes Go.ChangeAt Go.RowKit
open Go.ChangeMaps (open_string shut_string)
set_option linter.unusedVariables false

theorem own : ownKnob Try.prog.godebug = none := by kernel_rfl
theorem laidOut : laidOutB Try.prog = true := by kernel_rfl

set_option maxRecDepth 100000 in
theorem lifted (os : Os) (started : os.Started) (H : Type) (enc : TypeId × Value → H) :
    ReturnsInHanded {} Try.checked os 3 .any (Rows.fnCountWordsSpec.pre6 enc Try.prog Try.f3 Rows.fnCountWordsRow.domain false) (Rows.fnCountWordsSpec.post enc Try.prog Try.f3 false true false false) := by
  refine returnsInHanded_of_change_shaped (C := Try.checked) own started (by kernel_rfl) Try.func3
    (ChangeSpec.witness6 (enc := enc) (C := Try.checked) false ⟨#[], #[.slice none 0 0], []⟩ 8 (by kernel_rfl) (by kernel_rfl) (by kernel_rfl) (by kernel_rfl)) ?_
  intro W base args ds gs before hval0 hW hcnd hsz0 hsh _
  have hval : ∀ (j : Nat) t v, Try.f3.params[j]? = some t → args[j]? = some v → Value.okWide Try.prog W .any base t v := hval0
  have hW' := hW
  obtain ⟨p, q, hA0, hV, rfl, hfz, hnd⟩ := hW
  have hA : DataW.TrodAll enc Try.prog W 0 (fun _ => true) true Try.f3.params.toList args.toList ds p := hA0
  have hsz : (DataW.weightsEach Try.prog (Try.f3.params.toList ++ Rows.fnCountWordsSpec.plain.varTypes Try.prog) (ds ++ gs)).all (· ≤ reachBytes) = true := hsz0
  rw [Try.params3] at hA hval hsz
  obtain ⟨v0, vs0, d0, ds0, p0, q0, hargs, rfl, rfl, h0, r0⟩ := trodAll_cons hA
  obtain ⟨rfl, rfl, rfl⟩ := trodAll_nil r0
  obtain rfl : args = #[v0] := by cases args; simp_all
  obtain ⟨rfl, rfl⟩ := trodVars_none hV
  obtain ⟨a0, len0, cap0, rfl⟩ := okWide_slice Try.underlying22 (hval 0 22 v0 rfl rfl)
  have k0 := h0
  have lt0 : ∀ x ∈ p0, x.block < W.heap.size := by obtain ⟨m, hm⟩ := k0; exact DataW.trod_lt m _ _ _ hm
  obtain ⟨z0, w0, hreach⟩ : ∃ zs, IsRow .u8 W a0 len0 cap0 zs ∧ cap0 * 1 ≤ 140737488351232 := by
    obtain ⟨fuel, hf⟩ := h0
    rcases open_ints Try.underlying22 Try.underlying5 (by kernel_rfl) hf with ⟨hcs, _⟩ | ⟨x, l, c, zs, hcs, _, hl, hm, hz, hx, hcell, hwz⟩
    · simp [Value.cells] at hcs
      obtain ⟨rfl, rfl, rfl⟩ := hcs
      exact ⟨[], .inl ⟨rfl, rfl, rfl, rfl⟩, by omega⟩
    · simp [Value.cells] at hcs
      obtain ⟨rfl, rfl, rfl⟩ := hcs
      refine ⟨zs, .inr ⟨_, rfl, hl, hm, by simpa using hz, hcell, hwz⟩, ?_⟩
      simp only [Prod.mk.injEq] at hx
      obtain ⟨hx1, hx2⟩ := hx
      rw [hx1] at hsz
      have hb := sized_slice hsz (j := 0) (t := 22) (e := 5) rfl rfl Try.underlying22
      have b8 : Try.prog.bytesOf 5 = 1 := by kernel_rfl
      rw [b8] at hb
      simp only [lits, List.length_map, List.length_take, List.length_drop, reachBytes] at hb
      simp only [if_true] at hz
      omega
  clear hA0 hval0
  refine (fnCountWords_walk a0 len0 cap0 z0 W w0 hreach).mono fun e W' ⟨he, bel⟩ => ?_
  subst he
  exact ⟨_, rfl, _, _, _, [], _, [], hW', trodAll_mk1 (shut_bool Try.underlying4 _), trodAll_mk1 (Below.trod laidOut (by kernel_rfl) (of_decide_eq_true (by kernel_rfl)) k0 bel lt0), rfl, bel.frame _, fun h => by cases h⟩

theorem over : Rows.fnCountWordsRow.holds Try.pinned (OpenSpec.ofChange Rows.fnCountWordsSpec) :=
  OpenClaim.holds_of_wide 3 Try.f3 rfl rfl rfl rfl rfl rfl rfl ⟨rfl, rfl, rfl, rfl, rfl⟩ rfl rfl rfl rfl rfl (by kernel_rfl) Try.func3 (by kernel_rfl)
    (of_decide_eq_true (by kernel_rfl)) (by unfold Func.isWrapper; first | (rw [if_pos (by decide +kernel)]; kernel_rfl) | (rw [if_neg (by decide +kernel)]; exact ⟨rfl, rfl⟩))
    (fun os started H enc _ => lifted os started H enc)

theorem proved : Rows.FnCountWordsSaid := over
#print axioms proved
end Go.Proofs.Ytgomhleaonajjaa.fnCountWords
