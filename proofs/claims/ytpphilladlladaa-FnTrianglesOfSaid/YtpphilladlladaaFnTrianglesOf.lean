/-
  For every argument of FnTrianglesOf, whatever its value, the call returns true, leaves what it was handed as it was and changes no older memory. Conditions: none beside the row's own.
-/
import Derived.Test.YtpphilladlladaaRows
import Derived.Test.YtpphilladlladaaCDrawJ
import Derived.Test.YtpphilladlladaaCBinG
import Derived.Test.YtpphilladlladaaCRowsI
import Derived.Test.YtpphilladlladaaCEqual
import Derived.Test.YtpphilladlladaaWRow
import Derived.WalkKit
import Derived.ProofKit
import Derived.OpenShut
import Derived.ShutString
import Derived.ChangeOld
import Derived.Below
import Derived.SizedLaws
import Derived.HandedShaped
namespace Go.Proofs.Ytpphilladlladaa.fnTrianglesOf
open Go.RowKit

set_option maxRecDepth 100000 in
set_option maxHeartbeats 6400000 in
theorem fnTrianglesOf_walk (a : Option Addr) (len cap : Nat) (zs : List Int) (w : World) (hr0 : IsRow .u8 w a len cap zs) (_hreach : cap * 1 ≤ 140737488351232) :
    Calls Try.prog 7 #[.slice a len cap] w fun e w' => e = .returned (.bool true) ∧ Below w.heap.size w w' := by
  have hr := Lib.hid hr0
  clear hr0
  by_cases hbig : (1048576 : Int) < (len : Int)
  · go_enter Try.func7, Try.ntmps7
    go_wp2
    go_ret
    exact ⟨rfl, Below.refl _ _⟩
  · go_enter Try.func7, Try.ntmps7
    go_wp2_with fail
    refine (drawTrianglesOf a len cap zs w hr (by omega)).mono ?_
    rintro e w1 ⟨s, rfl, hs60, hb⟩
    have hsm : s.size ≤ maxLen := by unfold maxLen; omega
    have B1 := Lib.hid hb
    clear hb hr
    obtain ⟨hl, hr2⟩ := fanOut_small s
    have hfacts := @fan_facts s
    have C1 := Lib.hid (fun w => implTrianglesOf_any s w hsm)
    have C2 := Lib.hid (fun w => specTrianglesOf_any s w hsm)
    obtain ⟨l, hle⟩ : ∃ l, l = fanOut s.data.toList := ⟨_, rfl⟩
    rw [← hle] at hl hr2 hfacts C1 C2
    have HF := Lib.hid hfacts
    have HR2 := Lib.hid hr2
    have HRS := Lib.hid (show ∀ r ∈ l, r.length ≤ 1048576 from fun r h => by rw [hr2 r h]; omega)
    clear hle hfacts hr2
    go_wp2_with fail
    refine (C1.out _).mono ?_
    rintro e w2 ⟨v, RV, rfl, g, hb⟩
    have G2 := Lib.hid g.grid
    have B2 := Lib.hid (B1.out.trans (hb.mono B1.out.size))
    have z2 := hb.size
    clear g hb
    go_wp2_with fail
    refine (C2.out _).mono ?_
    rintro e w3 ⟨u, RU, rfl, g, hb⟩
    have G3 := Lib.hid g
    have G23 := Lib.hid (G2.out.below hb)
    have B3 := Lib.hid (B2.out.trans (hb.mono B2.out.size))
    have z3 := hb.size
    clear g hb
    obtain ⟨av, cv, rfl⟩ := grid_val G2.out
    go_wp2_with fail
    refine (equalRows_yes l _ u w3 G23 G3 (by omega) HRS.out).mono ?_
    rintro e w4 ⟨rfl, s4⟩
    have G24 := Lib.hid (G23.out.same s4.1)
    have B4 := Lib.hid (B3.out.trans (s4.below w.heap.size))
    have z4 : w4.heap.size = w3.heap.size := by rw [s4.1]
    have Z4 := Lib.hid z4
    clear s4 z4
    by_cases h0 : l.length = 0
    · have q0 : ((l.length : Int) == 0) = true := by rw [h0]; rfl
      have H0 := Lib.hid h0
      clear h0
      go_wp2_with fail
      refine (C2.out _).mono ?_
      rintro e w5 ⟨u, RU5, rfl, g, hb⟩
      have G5 := Lib.hid g
      have G25 := Lib.hid ((G24.out.more (show w2.heap.size ≤ w4.heap.size by rw [Z4.out]; exact z3)).below hb)
      have B5 := Lib.hid (B4.out.trans (hb.mono B4.out.size))
      clear g hb
      go_wp2_with fail
      refine (equalRows_yes l _ u w5 G25 G5 (by omega) HRS.out).mono ?_
      rintro e w6 ⟨rfl, s6⟩
      go_wp2
      go_ret
      exact ⟨rfl, B5.out.trans (s6.below w.heap.size)⟩
    · have q0 : ((l.length : Int) == 0) = false := beq_false_of_ne (by omega)
      obtain ⟨f1, f2⟩ := HF.out (by omega)
      obtain ⟨n, hn⟩ : ∃ n, n = s.size / 2 + 2 := ⟨_, rfl⟩
      have e1 : (s.size : Int) / 2 + 2 = (n : Int) := by omega
      have e2 : Int.tdiv (s.size : Int) 2 + 2 = (n : Int) := by rw [Int.tdiv_eq_ediv_of_nonneg (by omega)]; exact e1
      have e3 : (l.length : Int) = (n : Int) - 2 := by omega
      have hn11 : n ≤ 11 := by omega
      have f2' : ∀ a b : Nat, a < b → b < n → ((b = a + 1 ∨ (a = 0 ∧ b = n - 1)) → cntTo l a b l.length = 1) ∧ (¬ (b = a + 1 ∨ (a = 0 ∧ b = n - 1)) → cntTo l a b l.length = 0 ∨ cntTo l a b l.length = 2) := fun a b h1 h2 => by
        have := f2 a b h1 (by omega)
        have e9 : s.size / 2 + 1 = n - 1 := by omega
        rw [e9] at this
        exact this
      have F2 := Lib.hid f2'
      have E3 := Lib.hid e3
      clear h0 f1 f2 f2' hn e3
      go_wp2
      clear e1 e2
      go_loopw [6] (fun i wr => ∃ b : Nat, b ≤ n ∧ i = .int .i64 b ∧ Hid (Same w4 wr)) (fun i _ => n - (intOf i).toNat)
      case atStart => exact ⟨0, Nat.zero_le _, rfl, Same.refl _⟩
      case round =>
        obtain ⟨b, hb, rfl, HS⟩ := hrel
        by_cases hbn : b < n
        · have b1 : (b : Int) < (n : Int) := by omega
          go_wp2
          go_loopw [7] (fun i wr => ∃ x : Nat, x ≤ b ∧ i = .int .i64 x ∧ Hid (Same w4 wr)) (fun i _ => b - (intOf i).toNat)
          case atStart => exact ⟨0, Nat.zero_le _, rfl, HS⟩
          case round =>
            clear HS
            obtain ⟨x, hx, rfl, HS⟩ := hrel
            by_cases hxb : x < b
            · have b2 : (x : Int) < (b : Int) := by omega
              go_wp2
              go_loopw [8, 9] (fun q i wr => ∃ k m : Nat, k ≤ l.length ∧ m ≤ k ∧ q = .int .i64 m ∧ i = .int .i64 k ∧ Hid (cntTo l x b k = m) ∧ Hid (Same w4 wr)) (fun _ i _ => l.length - (intOf i).toNat)
              case atStart => exact ⟨0, 0, Nat.zero_le _, Nat.le_refl _, rfl, rfl, rfl, HS⟩
              case round =>
                clear HS
                obtain ⟨k, m, hk, hm, rfl, rfl, HC, HS⟩ := hrel
                by_cases hlt : k < l.length
                · have b3 : (k : Int) < (l.length : Int) := by omega
                  have g5 := G24.out.same HS.out.1
                  obtain ⟨g1, hg1, _, _, h1, _⟩ := g5.1.at_ k (by rw [g5.2.1]; exact hlt)
                  obtain ⟨rv, hrv, orow⟩ := g5.2.at_ k hlt
                  rw [hrv] at h1
                  have hr3 := HR2.out _ (List.getElem_mem hlt)
                  have CA := isIn_any l[k] rv (x : Int) wr (Lib.hid orow) (by omega)
                  have CB := isIn_any l[k] rv (b : Int) wr (Lib.hid orow) (by omega)
                  have ST := cntTo_step (a := (x : Int)) (b := (b : Int)) hlt
                  rw [HC.out] at ST
                  obtain ⟨ar, cr, rfl, _⟩ := orow.slice
                  rw [iv_length, hr3] at h1 CA CB
                  subst hg1
                  cases hA : isInB l[k] (x : Int) with
                  | false =>
                    rw [hA, Bool.false_and] at ST
                    rw [hA] at CA
                    have CA := Lib.hid CA
                    have ST := Lib.hid ST
                    clear hA hr3 orow hrv g5 CB
                    go_wp2_with (go_at_call 15; refine CA.out.mono ?_; rintro e w5 ⟨rfl, rfl⟩)
                    go_roundw
                    case rel => exact ⟨k + 1, m, by omega, by omega, rfl, by go_num, ST.out, by simpa using HS⟩
                    case measure => simp [intOf]; omega
                  | true =>
                    rw [hA, Bool.true_and] at ST
                    rw [hA] at CA
                    have CA := Lib.hid CA
                    cases hB : isInB l[k] (b : Int) with
                    | false =>
                      rw [hB] at ST CB
                      have CB := Lib.hid CB
                      have ST := Lib.hid ST
                      clear hA hB hr3 orow hrv g5
                      go_wp2_with fail
                      refine CA.out.mono ?_
                      rintro e w5 ⟨rfl, rfl⟩
                      go_wp2_with fail
                      refine CB.out.mono ?_
                      rintro e w5 ⟨rfl, rfl⟩
                      clear CA CB
                      go_wp2
                      go_roundw
                      case rel => exact ⟨k + 1, m, by omega, by omega, rfl, by go_num, ST.out, by simpa using HS⟩
                      case measure => simp [intOf]; omega
                    | true =>
                      rw [hB] at ST CB
                      have CB := Lib.hid CB
                      have ST := Lib.hid ST
                      clear hA hB hr3 orow hrv g5
                      go_wp2_with fail
                      refine CA.out.mono ?_
                      rintro e w5 ⟨rfl, rfl⟩
                      go_wp2_with fail
                      refine CB.out.mono ?_
                      rintro e w5 ⟨rfl, rfl⟩
                      clear CA CB
                      go_wp2
                      go_roundw
                      case rel => exact ⟨k + 1, m + 1, by omega, by omega, by go_num, by go_num, ST.out, by simpa using HS⟩
                      case measure => simp [intOf]; omega
                · obtain rfl : k = l.length := by omega
                  have b3 : ((l.length : Nat) : Int) ≤ (l.length : Int) := Int.le_refl _
                  obtain ⟨p1, p2⟩ := F2.out x b hxb hbn
                  rw [HC.out] at p1 p2
                  by_cases hs1 : b = x + 1
                  · have hm1 := p1 (.inl hs1)
                    subst hm1
                    have c1 : ((b : Int) == (x : Int) + 1) = true := by rw [hs1]; simp
                    clear p1 p2 hs1 HC
                    go_wp2
                    go_roundw
                    case rel => exact ⟨x + 1, by omega, by go_num, HS⟩
                    case measure => simp [intOf]; omega
                  · have c1 : ((b : Int) == (x : Int) + 1) = false := beq_eq_false_iff_ne.mpr (by omega)
                    by_cases hs2 : x = 0 ∧ b = n - 1
                    · have hm1 := p1 (.inr hs2)
                      subst hm1
                      have c2 : ((x : Int) == 0) = true := by rw [hs2.1]; rfl
                      have c3 : ((b : Int) == (n : Int) - 1) = true := beq_iff_eq.mpr (by omega)
                      clear p1 p2 hs1 hs2 HC
                      go_wp2
                      go_roundw
                      case rel => exact ⟨x + 1, by omega, by go_num, HS⟩
                      case measure => simp [intOf]; omega
                    · have hm2 := p2 (by rintro (e | e); exact hs1 e; exact hs2 e)
                      clear p1 p2 HC
                      by_cases hx0 : x = 0
                      · have c2 : ((x : Int) == 0) = true := by rw [hx0]; rfl
                        have c3 : ((b : Int) == (n : Int) - 1) = false := beq_eq_false_iff_ne.mpr (by omega)
                        clear hs1 hs2 hx0
                        rcases hm2 with hm2 | hm2 <;> subst hm2
                        · go_wp2
                          go_roundw
                          case rel => exact ⟨x + 1, by omega, by go_num, HS⟩
                          case measure => simp [intOf]; omega
                        · go_wp2
                          go_roundw
                          case rel => exact ⟨x + 1, by omega, by go_num, HS⟩
                          case measure => simp [intOf]; omega
                      · have c2 : ((x : Int) == 0) = false := beq_eq_false_iff_ne.mpr (by omega)
                        clear hs1 hs2 hx0
                        rcases hm2 with hm2 | hm2 <;> subst hm2
                        · go_wp2
                          go_roundw
                          case rel => exact ⟨x + 1, by omega, by go_num, HS⟩
                          case measure => simp [intOf]; omega
                        · go_wp2
                          go_roundw
                          case rel => exact ⟨x + 1, by omega, by go_num, HS⟩
                          case measure => simp [intOf]; omega
            · have b2 : (b : Int) ≤ (x : Int) := by omega
              go_wp2
              go_roundw
              case rel => exact ⟨b + 1, by omega, by go_num, HS⟩
              case measure => simp [intOf]; omega
        · have b1 : (n : Int) ≤ (b : Int) := by omega
          have BF := Lib.hid (B4.out.trans (HS.out.below w.heap.size))
          have c9 : ((l.length : Int) == (n : Int) - 2) = true := by rw [E3.out]; simp
          clear HS
          go_wp2
          go_ret
          exact ⟨rfl, BF.out⟩

open Go.ChangeShapes Go.WideShapes Go.ChangeAt Go.RowKit
open Go.ChangeMaps (open_string shut_string)
set_option linter.unusedVariables false

theorem own : ownKnob Try.prog.godebug = none := by kernel_rfl
theorem laidOut : laidOutB Try.prog = true := by kernel_rfl

set_option maxRecDepth 100000 in
theorem lifted (os : Os) (started : os.Started) (H : Type) (enc : TypeId × Value → H) :
    ReturnsInHanded {} Try.checked os 7 .any (Rows.fnTrianglesOfSpec.pre6 enc Try.prog Try.f7 Rows.fnTrianglesOfRow.domain false) (Rows.fnTrianglesOfSpec.post enc Try.prog Try.f7 false true false false) := by
  refine returnsInHanded_of_change_shaped (C := Try.checked) own started (by kernel_rfl) Try.func7
    (ChangeSpec.witness6 (enc := enc) (C := Try.checked) false ⟨#[], #[.slice none 0 0], []⟩ 8 (by kernel_rfl) (by kernel_rfl) (by kernel_rfl) (by kernel_rfl)) ?_
  intro W base args ds gs before hval0 hW hcnd hsz0 hsh _
  have hval : ∀ (j : Nat) t v, Try.f7.params[j]? = some t → args[j]? = some v → Value.okWide Try.prog W .any base t v := hval0
  have hW' := hW
  obtain ⟨p, q, hA0, hV, rfl, hfz, hnd⟩ := hW
  have hA : DataW.TrodAll enc Try.prog W 0 (fun _ => true) true Try.f7.params.toList args.toList ds p := hA0
  have hsz : (DataW.weightsEach Try.prog (Try.f7.params.toList ++ Rows.fnTrianglesOfSpec.plain.varTypes Try.prog) (ds ++ gs)).all (· ≤ reachBytes) = true := hsz0
  rw [Try.params7] at hA hval hsz
  obtain ⟨v0, vs0, d0, ds0, p0, q0, hargs, rfl, rfl, h0, r0⟩ := trodAll_cons hA
  obtain ⟨rfl, rfl, rfl⟩ := trodAll_nil r0
  obtain rfl : args = #[v0] := by cases args; simp_all
  obtain ⟨rfl, rfl⟩ := trodVars_none hV
  obtain ⟨a0, len0, cap0, rfl⟩ := okWide_slice Try.underlying22 (hval 0 22 v0 rfl rfl)
  have k0 := h0
  have lt0 : ∀ x ∈ p0, x.block < W.heap.size := by obtain ⟨m, hm⟩ := k0; exact DataW.trod_lt m _ _ _ hm
  obtain ⟨z0, w0, hreach⟩ : ∃ zs, IsRow .u8 W a0 len0 cap0 zs ∧ cap0 * 1 ≤ 140737488351232 := by
    obtain ⟨fuel, hf⟩ := h0
    rcases open_ints Try.underlying22 Try.underlying5 (by kernel_rfl) hf with ⟨hcs, _⟩ | ⟨x, l, c, zs, hcs, _, hl, hm, hz, hx, hcell, hwz⟩
    · simp [Value.cells] at hcs
      obtain ⟨rfl, rfl, rfl⟩ := hcs
      exact ⟨[], .inl ⟨rfl, rfl, rfl, rfl⟩, by omega⟩
    · simp [Value.cells] at hcs
      obtain ⟨rfl, rfl, rfl⟩ := hcs
      refine ⟨zs, .inr ⟨_, rfl, hl, hm, by simpa using hz, hcell, hwz⟩, ?_⟩
      simp only [Prod.mk.injEq] at hx
      obtain ⟨hx1, hx2⟩ := hx
      rw [hx1] at hsz
      have hb := sized_slice hsz (j := 0) (t := 22) (e := 5) rfl rfl Try.underlying22
      have b8 : Try.prog.bytesOf 5 = 1 := by kernel_rfl
      rw [b8] at hb
      simp only [lits, List.length_map, List.length_take, List.length_drop, reachBytes] at hb
      simp only [if_true] at hz
      omega
  clear hA0 hval0
  refine (fnTrianglesOf_walk a0 len0 cap0 z0 W w0 hreach).mono fun e W' ⟨he, bel⟩ => ?_
  subst he
  exact ⟨_, rfl, _, _, _, [], _, [], hW', trodAll_mk1 (shut_bool Try.underlying4 _), trodAll_mk1 (Below.trod laidOut (by kernel_rfl) (of_decide_eq_true (by kernel_rfl)) k0 bel lt0), rfl, bel.frame _, fun h => by cases h⟩

theorem over : Rows.fnTrianglesOfRow.holds Try.pinned (OpenSpec.ofChange Rows.fnTrianglesOfSpec) :=
  OpenClaim.holds_of_wide 7 Try.f7 rfl rfl rfl rfl rfl rfl rfl ⟨rfl, rfl, rfl, rfl, rfl⟩ rfl rfl rfl rfl rfl (by kernel_rfl) Try.func7 (by kernel_rfl)
    (of_decide_eq_true (by kernel_rfl)) (by unfold Func.isWrapper; first | (rw [if_pos (by decide +kernel)]; kernel_rfl) | (rw [if_neg (by decide +kernel)]; exact ⟨rfl, rfl⟩))
    (fun os started H enc _ => lifted os started H enc)

theorem proved : Rows.FnTrianglesOfSaid := over
#print axioms proved
end Go.Proofs.Ytpphilladlladaa.fnTrianglesOf
