/-
  The walk of the exact statement on SameShape, given the contracts of both sides.
-/
import Derived.Test.YtnepfbellbmgeaaKFree
namespace Go.Proofs.Ytnepfbellbmgeaa
open Go.RowKit

set_option maxHeartbeats 800000 in
theorem szRowsM_any (a : Option Addr) (len cap : Nat) (A : Nat → Option Addr) (L C : Nat → Nat) (Z : Nat → List Int) (w : World) (hr : Hid (IsRows w a len cap A L C Z)) (m0 : Nat) (hm0 : m0 ≤ 1048576) :
    Calls Try.prog 10 #[.slice a len cap, .int .i64 (m0 : Int)] w fun e w' => ∃ z : Int, e = .returned (.int .i64 z) ∧ (0 ≤ z → ∃ m2 : Nat, z = m2 ∧ m2 ≤ 1048576 ∧ len ≤ 1048576 ∧ ∀ r, r < len → L r ≤ 1048576) ∧ w' = w := by
  have hcap := hr.out.caps
  have hmax : len ≤ 9223372036854775807 := by unfold maxLen at hcap; omega
  by_cases h : m0 < len
  · have h1 : (m0 : Int) - (len : Int) < 0 := by omega
    go_enter Try.func10, Try.ntmps10
    go_wp2
    go_ret
    exact ⟨-1, rfl, fun h => by omega, rfl⟩
  · have h1 : ¬ ((m0 : Int) - (len : Int) < 0) := by omega
    go_enter Try.func10, Try.ntmps10
    go_wp2
    go_loopw [1, 5] (fun m i wr => ∃ k m' : Nat, k ≤ len ∧ m' ≤ 1048576 ∧ m = .int .i64 m' ∧ i = .int .i64 k ∧ Hid (∀ r, r < k → L r ≤ 1048576) ∧ wr = w) (fun _ i _ => len - (intOf i).toNat)
    case atStart => exact ⟨0, m0 - len, Nat.zero_le _, by omega, by congr 1; omega, rfl, fun r hr => by omega, rfl⟩
    case round =>
      obtain ⟨k, m', hk, hm', rfl, rfl, HL, rfl⟩ := hrel
      by_cases hlt : k < len
      · obtain ⟨b, off, rfl, hc, hLk, _⟩ := hr.out.at_ k hlt
        have b1 : (k : Int) < (len : Int) := by omega
        obtain ⟨Ak, hAk⟩ : ∃ Ak, Ak = A k := ⟨_, rfl⟩
        obtain ⟨Lk, hL⟩ : ∃ Lk, Lk = L k := ⟨_, rfl⟩
        obtain ⟨Ck, hCk⟩ : ∃ Ck, Ck = C k := ⟨_, rfl⟩
        rw [← hAk, ← hL, ← hCk] at hc
        rw [← hL] at hLk
        have CS := Lib.hid (szInt_any Ak Lk Ck m' wr hLk hm')
        have HLE := Lib.hid hL
        clear hAk hCk hL
        by_cases hml : m' < Lk
        · rw [if_pos hml] at CS
          go_wp2_with fail
          refine CS.out.mono ?_
          rintro e w1 ⟨rfl, rfl⟩
          clear CS
          go_wp2
          go_ret
          exact ⟨-1, rfl, fun h => by omega, rfl⟩
        · rw [if_neg hml] at CS
          obtain ⟨m2, hm2⟩ : ∃ m2 : Nat, (m' : Int) - (Lk : Int) = m2 := ⟨m' - Lk, by omega⟩
          rw [hm2] at CS
          have hm3 : m2 ≤ 1048576 := by omega
          have HL2 : Hid (∀ r, r < k + 1 → L r ≤ 1048576) := fun r hr => by
            by_cases e : r = k
            · rw [e, ← HLE.out]; omega
            · exact HL.out r (by omega)
          clear hml hm2
          go_wp2_with fail
          refine CS.out.mono ?_
          rintro e w1 ⟨rfl, rfl⟩
          clear CS
          go_wp2
          go_roundw
          case rel => exact ⟨k + 1, m2, by omega, hm3, rfl, by go_num, HL2.out, by simp⟩
          case measure => simp [intOf]; omega
      · have b1 : (len : Int) ≤ (k : Int) := by omega
        have HL2 : Hid (∀ r, r < len → L r ≤ 1048576) := fun r hr => HL.out r (by omega)
        go_wp2
        go_ret
        exact ⟨m', rfl, fun _ => ⟨m', rfl, hm', by omega, HL2.out⟩, rfl⟩

set_option maxHeartbeats 3200000 in
theorem exactSame_walk (HV : Hid (∀ (n : Int) (ra rb : List (List Int)) (va vb : Value) (RA RB : List Value) (w : World) (B0 H0 B1 H1 : Nat), Hid (Grid w B0 H0 va RA ra) → H0 ≤ w.heap.size → Hid (Grid w B1 H1 vb RB rb) → H1 ≤ w.heap.size → ra.length ≤ 1048576 → (∀ r ∈ ra, r.length ≤ 1048576) → rb.length ≤ 1048576 → (∀ r ∈ rb, r.length ≤ 1048576) → (Lit.int .i64 n).wf = true →
      Calls Try.prog 24 #[.int .i64 n, va, vb] w fun e w' => e = .returned (.bool (sameOut n ra rb)) ∧ Below w.heap.size w w'))
    (HSP : Hid (∀ (n : Int) (ra rb : List (List Int)) (va vb : Value) (RA RB : List Value) (w : World) (B0 H0 B1 H1 : Nat), Hid (Grid w B0 H0 va RA ra) → H0 ≤ w.heap.size → Hid (Grid w B1 H1 vb RB rb) → H1 ≤ w.heap.size → ra.length ≤ 1048576 → rb.length ≤ 1048576 →
      Calls Try.prog 23 #[.int .i64 n, va, vb] w fun e w' => e = .returned (.bool (sameOut n ra rb)) ∧ Below w.heap.size w w'))
    (n : Int) (a : Option Addr) (len cap : Nat) (A : Nat → Option Addr) (L C : Nat → Nat) (Z : Nat → List Int) (a' : Option Addr) (len' cap' : Nat) (A' : Nat → Option Addr) (L' C' : Nat → Nat) (Z' : Nat → List Int) (w : World) (hn : (Lit.int .i64 n).wf = true) (hr0 : IsRows w a len cap A L C Z) (hs0 : IsRows w a' len' cap' A' L' C' Z') :
    Calls Try.prog 6 #[.int .i64 n, .slice a len cap, .slice a' len' cap'] w fun e w' => e = .returned (.bool true) ∧ Below w.heap.size w w' := by
  have hr := Lib.hid hr0
  have hs := Lib.hid hs0
  have HN := Lib.hid hn
  clear hr0 hs0 hn
  go_enter Try.func6, Try.ntmps6
  go_wp2_with fail
  refine (szRowsM_any a len cap A L C Z w hr 1048576 (Nat.le_refl _)).mono ?_
  rintro e w1 ⟨z, rfl, hz, rfl⟩
  by_cases hneg : z < 0
  · clear hz
    go_wp2
    go_ret
    exact ⟨rfl, Below.refl _ _⟩
  · obtain ⟨m2, rfl, hm2, hl, hL⟩ := hz (by omega)
    have HL := Lib.hid hL
    have hm0 : ¬ ((m2 : Int) < 0) := by omega
    clear hz hL hneg
    go_wp2_with fail
    refine (szRowsM_any a' len' cap' A' L' C' Z' w1 hs m2 hm2).mono ?_
    rintro e w2 ⟨z, rfl, hz, rfl⟩
    by_cases hneg : z < 0
    · clear hz
      go_wp2
      go_ret
      exact ⟨rfl, Below.refl _ _⟩
    · obtain ⟨m3, rfl, hm3, hl2, hL2⟩ := hz (by omega)
      have HL2 := Lib.hid hL2
      have hm1 : ¬ ((m3 : Int) < 0) := by omega
      have hrl := rowsIn_length len L Z
      have hrs := rowsIn_le7 (Z := Z) HL.out
      have CR := Lib.hid (fun (w' : World) (hr' : Hid (IsRows w' a len cap A L C Z)) => toRows_any a len cap A L C Z w' hr' hl HL)
      obtain ⟨ra, hra⟩ : ∃ rows, rows = rowsIn len L Z := ⟨_, rfl⟩
      rw [← hra] at hrl hrs
      simp only [← hra] at CR
      have hrl2 : ra.length ≤ 1048576 := by omega
      have HRS := Lib.hid hrs
      have hsl := rowsIn_length len' L' Z'
      have hss := rowsIn_le7 (Z := Z') HL2.out
      have CS := Lib.hid (fun (w' : World) (hr' : Hid (IsRows w' a' len' cap' A' L' C' Z')) => toRows_any a' len' cap' A' L' C' Z' w' hr' hl2 HL2)
      obtain ⟨rb, hrb⟩ : ∃ rows, rows = rowsIn len' L' Z' := ⟨_, rfl⟩
      rw [← hrb] at hsl hss
      simp only [← hrb] at CS
      have hsl2 : rb.length ≤ 1048576 := by omega
      have HSS := Lib.hid hss
      clear hz hL2 hra hrb hrl hrs hsl hss hneg
      go_wp2_with fail
      refine (CR.out _ hr).mono ?_
      rintro e w3 ⟨v3, RV3, rfl, g3, b3⟩
      have B3 := Lib.hid b3
      have G3 := Lib.hid g3
      have S3 := Lib.hid (hs.out.below b3)
      clear g3 b3
      go_wp2_with fail
      refine (CS.out _ S3).mono ?_
      rintro e w4 ⟨v4, RV4, rfl, g4, b4⟩
      have z4 := b4.size
      have B4 := Lib.hid (B3.out.trans (b4.mono B3.out.size))
      have G4 := Lib.hid g4
      have G34 := Lib.hid (G3.out.below b4)
      have Z4 := Lib.hid z4
      clear g4 b4 G3 S3 z4
      go_wp2_with fail
      refine (HSP.out n ra rb v3 v4 RV3 RV4 w4 _ _ _ _ G34 Z4.out G4 (Nat.le_refl _) hrl2 hsl2).mono ?_
      rintro e w5 ⟨rfl, b5⟩
      have B5 := Lib.hid (B4.out.trans (b5.mono B4.out.size))
      obtain ⟨t, ht⟩ : ∃ t, t = sameOut n ra rb := ⟨_, rfl⟩
      have HT := Lib.hid ht
      rw [← ht]
      have R5 := Lib.hid (hr.out.below B5.out)
      clear b5 ht G34 G4 Z4
      go_wp2_with fail
      refine (CR.out _ R5).mono ?_
      rintro e w6 ⟨v6, RV6, rfl, g6, b6⟩
      have B6 := Lib.hid (B5.out.trans (b6.mono B5.out.size))
      have G6 := Lib.hid g6
      have S6 := Lib.hid (hs.out.below B6.out)
      clear g6 b6
      obtain ⟨a6, c6, rfl⟩ := grid_slice7 G6.out
      go_wp2_with fail
      refine (CS.out _ S6).mono ?_
      rintro e w7 ⟨v7, RV7, rfl, g7, b7⟩
      have z7 := b7.size
      have B7 := Lib.hid (B6.out.trans (b7.mono B6.out.size))
      have G7 := Lib.hid g7
      have G67 := Lib.hid (G6.out.below b7)
      have Z7 := Lib.hid z7
      clear g7 b7 G6 S6 z7
      obtain ⟨a7, c7, rfl⟩ := grid_slice7 G7.out
      go_wp2_with fail
      refine (HV.out n ra rb _ _ RV6 RV7 w7 _ _ _ _ G67 Z7.out G7 (Nat.le_refl _) hrl2 HRS.out hsl2 HSS.out HN.out).mono ?_
      rintro e w8 ⟨rfl, b8⟩
      rw [← HT.out]
      have B8 := Lib.hid (B7.out.trans (b8.mono B7.out.size))
      have z8 := b8.size
      have G68 := Lib.hid (G67.out.below (b8.mono Z7.out))
      have G78 := Lib.hid (G7.out.below b8)
      have R8 := Lib.hid (hr.out.below B8.out)
      have z68 : w6.heap.size ≤ w8.heap.size := Nat.le_trans Z7.out z8
      have Z68 := Lib.hid z68
      have Z78 := Lib.hid z8
      have q1 : (t == t) = true := beq_self_eq_true t
      have q2 : (t != t) = false := by simp
      clear b8 G67 G7 z8 z68
      go_wp2_with fail
      refine (CR.out _ R8).mono ?_
      rintro e w9 ⟨v9, RV9, rfl, g9, b9⟩
      have B9 := Lib.hid (B8.out.trans (b9.mono B8.out.size))
      have G9 := Lib.hid g9
      have G69 := Lib.hid (G68.out.below (b9.mono Z68.out))
      have G79 := Lib.hid (G78.out.below (b9.mono Z78.out))
      have z89 := b9.size
      have Z79 := Lib.hid (Nat.le_trans Z78.out z89)
      clear g9 b9 z89 G68 G78
      go_wp2_with fail
      refine (eqRows_yes ra _ v9 w9 G69 G9 hrl2 HRS.out).mono ?_
      rintro e w10 ⟨rfl, s10⟩
      have B10 := Lib.hid (B9.out.trans (s10.below _))
      have G710 := Lib.hid (G79.out.same s10.1)
      have e10 : w10.heap.size = w9.heap.size := by rw [s10.1]
      have Z710 : Hid (w7.heap.size ≤ w10.heap.size) := by show _ ≤ _; rw [e10]; exact Z79.out
      have S10 := Lib.hid (hs.out.below B10.out)
      clear s10 e10
      go_wp2_with fail
      refine (CS.out _ S10).mono ?_
      rintro e w11 ⟨v11, RV11, rfl, g11, b11⟩
      have B11 := Lib.hid (B10.out.trans (b11.mono B10.out.size))
      have G11 := Lib.hid g11
      have G711 := Lib.hid (G710.out.below (b11.mono Z710.out))
      clear g11 b11
      go_wp2_with fail
      refine (eqRows_yes rb _ v11 w11 G711 G11 hsl2 HSS.out).mono ?_
      rintro e w12 ⟨rfl, s12⟩
      have B12 := Lib.hid (B11.out.trans (s12.below _))
      clear s12
      go_wp2
      go_ret
      exact ⟨rfl, B12.out⟩
end Go.Proofs.Ytnepfbellbmgeaa
