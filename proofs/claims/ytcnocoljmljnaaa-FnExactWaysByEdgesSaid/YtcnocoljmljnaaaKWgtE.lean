/-
  The walks of the exact statements of chapter 10, given the contracts of both sides.
-/
import Derived.Test.YtcnocoljmljnaaaCGridIn
import Derived.Test.YtcnocoljmljnaaaZH
import Derived.Test.YtcnocoljmljnaaaZFS
namespace Go.Proofs.Ytcnocoljmljnaaa
open Go.RowKit

theorem grid_slice8 {w : World} {B H : Nat} {v : Value} {RV : List Value} {rows : List (List Int)} (hG : Grid w B H v RV rows) : ∃ a cap, v = .slice a rows.length cap := by
  obtain ⟨au, cu, rfl, _⟩ := hG.1.slice
  exact ⟨au, cu, by rw [hG.2.1]⟩
theorem rowsIn_le8 {len : Nat} {L : Nat → Nat} {Z : Nat → List Int} (h : ∀ r, r < len → L r ≤ 1048576) : ∀ r ∈ rowsIn len L Z, r.length ≤ 1048576 := by
  intro r hr
  obtain ⟨k, hk, rfl⟩ := List.mem_map.1 hr
  rw [List.length_take]
  have := h k (List.mem_range.1 hk)
  omega
set_option maxHeartbeats 1600000 in
theorem exactMostAlone_walk {val : Int → List (List Int) → Int} (HV : Hid (TreeFn 12 val)) (HSP : Hid (TreeFn 10 val))
    (n : Int) (a : Option Addr) (len cap : Nat) (A : Nat → Option Addr) (L C : Nat → Nat) (Z : Nat → List Int) (w : World) (hn : (Lit.int .i64 n).wf = true) (hr0 : IsRows w a len cap A L C Z) :
    Calls Try.prog 3 #[.int .i64 n, .slice a len cap] w fun e w' => e = .returned (.bool true) ∧ Below w.heap.size w w' := by
  have hr := Lib.hid hr0
  have HN := Lib.hid hn
  clear hr0 hn
  go_enter Try.func3, Try.ntmps3
  go_wp2_with fail
  refine (szRows_any a len cap A L C Z w hr).mono ?_
  rintro e w1 ⟨z, rfl, hz, rfl⟩
  by_cases hneg : z < 0
  · clear hz
    go_wp2
    go_ret
    exact ⟨rfl, Below.refl _ _⟩
  · obtain ⟨hl, hL⟩ := hz (by omega)
    have HL := Lib.hid hL
    have hrl := rowsIn_length len L Z
    have hrs := rowsIn_le8 (Z := Z) hL
    have CR := Lib.hid (fun (w' : World) (hr' : Hid (IsRows w' a len cap A L C Z)) => toRows_any a len cap A L C Z w' hr' hl HL)
    obtain ⟨rows, hrows⟩ : ∃ rows, rows = rowsIn len L Z := ⟨_, rfl⟩
    rw [← hrows] at hrl hrs
    simp only [← hrows] at CR
    have hrl2 : rows.length ≤ 1048576 := by omega
    have HRS := Lib.hid hrs
    clear hz hL hrows hrl hrs
    go_wp2_with fail
    refine (CR.out _ hr).mono ?_
    rintro e w2 ⟨v2, RV2, rfl, g2, b2⟩
    have R2 := Lib.hid (hr.out.below b2)
    have B2 := Lib.hid b2
    have G2 := Lib.hid g2
    clear g2 b2
    go_wp2_with fail
    refine (HSP.out n rows v2 RV2 w2 _ _ G2 (Nat.le_refl _) hrl2 HRS.out HN.out).mono ?_
    rintro e w3 ⟨rfl, b3⟩
    have R3 := Lib.hid (R2.out.below b3)
    have B3 := Lib.hid (B2.out.trans (b3.mono B2.out.size))
    obtain ⟨t, ht⟩ : ∃ t, t = val n rows := ⟨_, rfl⟩
    have HT := Lib.hid ht
    rw [← ht]
    clear b3 ht G2
    go_wp2_with fail
    refine (CR.out _ R3).mono ?_
    rintro e w4 ⟨v4, RV4, rfl, g4, b4⟩
    have R4 := Lib.hid (R3.out.below b4)
    have B4 := Lib.hid (B3.out.trans (b4.mono B3.out.size))
    have G4 := Lib.hid g4
    clear g4 b4
    obtain ⟨a4, c4, rfl⟩ := grid_slice8 G4.out
    go_wp2_with fail
    refine (HV.out n rows _ RV4 w4 _ _ G4 (Nat.le_refl _) hrl2 HRS.out HN.out).mono ?_
    rintro e w5 ⟨rfl, b5⟩
    rw [← HT.out]
    have R5 := Lib.hid (R4.out.below b5)
    have B5 := Lib.hid (B4.out.trans (b5.mono B4.out.size))
    have G5 := Lib.hid (G4.out.below b5)
    have z5 := b5.size
    have Z5 := Lib.hid z5
    clear b5 z5
    have q1 : ((t : Int) == t) = true := by simp
    have q2 : ((t : Int) != t) = false := by simp
    go_wp2_with fail
    refine (CR.out _ R5).mono ?_
    rintro e w6 ⟨v6, RV6, rfl, g6, b6⟩
    have B6 := Lib.hid (B5.out.trans (b6.mono B5.out.size))
    have G6 := Lib.hid g6
    have G56 := Lib.hid (G5.out.below (b6.mono Z5.out))
    clear g6 b6
    go_wp2_with fail
    refine (eqRows_yes rows _ v6 w6 G56 G6 hrl2 HRS.out).mono ?_
    rintro e w7 ⟨rfl, s7⟩
    have B7 := Lib.hid (B6.out.trans (s7.below _))
    clear s7
    go_wp2
    go_ret
    exact ⟨rfl, B7.out⟩
set_option maxHeartbeats 1600000 in
theorem exactCountAlone_walk {val : Int → List (List Int) → Int} (HV : Hid (TreeFn 15 val)) (HSP : Hid (TreeFn 14 val))
    (n : Int) (a : Option Addr) (len cap : Nat) (A : Nat → Option Addr) (L C : Nat → Nat) (Z : Nat → List Int) (w : World) (hn : (Lit.int .i64 n).wf = true) (hr0 : IsRows w a len cap A L C Z) :
    Calls Try.prog 4 #[.int .i64 n, .slice a len cap] w fun e w' => e = .returned (.bool true) ∧ Below w.heap.size w w' := by
  have hr := Lib.hid hr0
  have HN := Lib.hid hn
  clear hr0 hn
  go_enter Try.func4, Try.ntmps4
  go_wp2_with fail
  refine (szRows_any a len cap A L C Z w hr).mono ?_
  rintro e w1 ⟨z, rfl, hz, rfl⟩
  by_cases hneg : z < 0
  · clear hz
    go_wp2
    go_ret
    exact ⟨rfl, Below.refl _ _⟩
  · obtain ⟨hl, hL⟩ := hz (by omega)
    have HL := Lib.hid hL
    have hrl := rowsIn_length len L Z
    have hrs := rowsIn_le8 (Z := Z) hL
    have CR := Lib.hid (fun (w' : World) (hr' : Hid (IsRows w' a len cap A L C Z)) => toRows_any a len cap A L C Z w' hr' hl HL)
    obtain ⟨rows, hrows⟩ : ∃ rows, rows = rowsIn len L Z := ⟨_, rfl⟩
    rw [← hrows] at hrl hrs
    simp only [← hrows] at CR
    have hrl2 : rows.length ≤ 1048576 := by omega
    have HRS := Lib.hid hrs
    clear hz hL hrows hrl hrs
    go_wp2_with fail
    refine (CR.out _ hr).mono ?_
    rintro e w2 ⟨v2, RV2, rfl, g2, b2⟩
    have R2 := Lib.hid (hr.out.below b2)
    have B2 := Lib.hid b2
    have G2 := Lib.hid g2
    clear g2 b2
    go_wp2_with fail
    refine (HSP.out n rows v2 RV2 w2 _ _ G2 (Nat.le_refl _) hrl2 HRS.out HN.out).mono ?_
    rintro e w3 ⟨rfl, b3⟩
    have R3 := Lib.hid (R2.out.below b3)
    have B3 := Lib.hid (B2.out.trans (b3.mono B2.out.size))
    obtain ⟨t, ht⟩ : ∃ t, t = val n rows := ⟨_, rfl⟩
    have HT := Lib.hid ht
    rw [← ht]
    clear b3 ht G2
    go_wp2_with fail
    refine (CR.out _ R3).mono ?_
    rintro e w4 ⟨v4, RV4, rfl, g4, b4⟩
    have R4 := Lib.hid (R3.out.below b4)
    have B4 := Lib.hid (B3.out.trans (b4.mono B3.out.size))
    have G4 := Lib.hid g4
    clear g4 b4
    obtain ⟨a4, c4, rfl⟩ := grid_slice8 G4.out
    go_wp2_with fail
    refine (HV.out n rows _ RV4 w4 _ _ G4 (Nat.le_refl _) hrl2 HRS.out HN.out).mono ?_
    rintro e w5 ⟨rfl, b5⟩
    rw [← HT.out]
    have R5 := Lib.hid (R4.out.below b5)
    have B5 := Lib.hid (B4.out.trans (b5.mono B4.out.size))
    have G5 := Lib.hid (G4.out.below b5)
    have z5 := b5.size
    have Z5 := Lib.hid z5
    clear b5 z5
    have q1 : ((t : Int) == t) = true := by simp
    have q2 : ((t : Int) != t) = false := by simp
    go_wp2_with fail
    refine (CR.out _ R5).mono ?_
    rintro e w6 ⟨v6, RV6, rfl, g6, b6⟩
    have B6 := Lib.hid (B5.out.trans (b6.mono B5.out.size))
    have G6 := Lib.hid g6
    have G56 := Lib.hid (G5.out.below (b6.mono Z5.out))
    clear g6 b6
    go_wp2_with fail
    refine (eqRows_yes rows _ v6 w6 G56 G6 hrl2 HRS.out).mono ?_
    rintro e w7 ⟨rfl, s7⟩
    have B7 := Lib.hid (B6.out.trans (s7.below _))
    clear s7
    go_wp2
    go_ret
    exact ⟨rfl, B7.out⟩
set_option maxHeartbeats 1600000 in
theorem exactMostPairs_walk {val : Int → List (List Int) → Int} (HV : Hid (TreeFn 17 val)) (HSP : Hid (TreeFn 16 val))
    (n : Int) (a : Option Addr) (len cap : Nat) (A : Nat → Option Addr) (L C : Nat → Nat) (Z : Nat → List Int) (w : World) (hn : (Lit.int .i64 n).wf = true) (hr0 : IsRows w a len cap A L C Z) :
    Calls Try.prog 5 #[.int .i64 n, .slice a len cap] w fun e w' => e = .returned (.bool true) ∧ Below w.heap.size w w' := by
  have hr := Lib.hid hr0
  have HN := Lib.hid hn
  clear hr0 hn
  go_enter Try.func5, Try.ntmps5
  go_wp2_with fail
  refine (szRows_any a len cap A L C Z w hr).mono ?_
  rintro e w1 ⟨z, rfl, hz, rfl⟩
  by_cases hneg : z < 0
  · clear hz
    go_wp2
    go_ret
    exact ⟨rfl, Below.refl _ _⟩
  · obtain ⟨hl, hL⟩ := hz (by omega)
    have HL := Lib.hid hL
    have hrl := rowsIn_length len L Z
    have hrs := rowsIn_le8 (Z := Z) hL
    have CR := Lib.hid (fun (w' : World) (hr' : Hid (IsRows w' a len cap A L C Z)) => toRows_any a len cap A L C Z w' hr' hl HL)
    obtain ⟨rows, hrows⟩ : ∃ rows, rows = rowsIn len L Z := ⟨_, rfl⟩
    rw [← hrows] at hrl hrs
    simp only [← hrows] at CR
    have hrl2 : rows.length ≤ 1048576 := by omega
    have HRS := Lib.hid hrs
    clear hz hL hrows hrl hrs
    go_wp2_with fail
    refine (CR.out _ hr).mono ?_
    rintro e w2 ⟨v2, RV2, rfl, g2, b2⟩
    have R2 := Lib.hid (hr.out.below b2)
    have B2 := Lib.hid b2
    have G2 := Lib.hid g2
    clear g2 b2
    go_wp2_with fail
    refine (HSP.out n rows v2 RV2 w2 _ _ G2 (Nat.le_refl _) hrl2 HRS.out HN.out).mono ?_
    rintro e w3 ⟨rfl, b3⟩
    have R3 := Lib.hid (R2.out.below b3)
    have B3 := Lib.hid (B2.out.trans (b3.mono B2.out.size))
    obtain ⟨t, ht⟩ : ∃ t, t = val n rows := ⟨_, rfl⟩
    have HT := Lib.hid ht
    rw [← ht]
    clear b3 ht G2
    go_wp2_with fail
    refine (CR.out _ R3).mono ?_
    rintro e w4 ⟨v4, RV4, rfl, g4, b4⟩
    have R4 := Lib.hid (R3.out.below b4)
    have B4 := Lib.hid (B3.out.trans (b4.mono B3.out.size))
    have G4 := Lib.hid g4
    clear g4 b4
    obtain ⟨a4, c4, rfl⟩ := grid_slice8 G4.out
    go_wp2_with fail
    refine (HV.out n rows _ RV4 w4 _ _ G4 (Nat.le_refl _) hrl2 HRS.out HN.out).mono ?_
    rintro e w5 ⟨rfl, b5⟩
    rw [← HT.out]
    have R5 := Lib.hid (R4.out.below b5)
    have B5 := Lib.hid (B4.out.trans (b5.mono B4.out.size))
    have G5 := Lib.hid (G4.out.below b5)
    have z5 := b5.size
    have Z5 := Lib.hid z5
    clear b5 z5
    have q1 : ((t : Int) == t) = true := by simp
    have q2 : ((t : Int) != t) = false := by simp
    go_wp2_with fail
    refine (CR.out _ R5).mono ?_
    rintro e w6 ⟨v6, RV6, rfl, g6, b6⟩
    have B6 := Lib.hid (B5.out.trans (b6.mono B5.out.size))
    have G6 := Lib.hid g6
    have G56 := Lib.hid (G5.out.below (b6.mono Z5.out))
    clear g6 b6
    go_wp2_with fail
    refine (eqRows_yes rows _ v6 w6 G56 G6 hrl2 HRS.out).mono ?_
    rintro e w7 ⟨rfl, s7⟩
    have B7 := Lib.hid (B6.out.trans (s7.below _))
    clear s7
    go_wp2
    go_ret
    exact ⟨rfl, B7.out⟩
set_option maxHeartbeats 1600000 in
theorem exactLeastWatch_walk {val : Int → List (List Int) → Int} (HV : Hid (TreeFn 19 val)) (HSP : Hid (TreeFn 18 val))
    (n : Int) (a : Option Addr) (len cap : Nat) (A : Nat → Option Addr) (L C : Nat → Nat) (Z : Nat → List Int) (w : World) (hn : (Lit.int .i64 n).wf = true) (hr0 : IsRows w a len cap A L C Z) :
    Calls Try.prog 6 #[.int .i64 n, .slice a len cap] w fun e w' => e = .returned (.bool true) ∧ Below w.heap.size w w' := by
  have hr := Lib.hid hr0
  have HN := Lib.hid hn
  clear hr0 hn
  go_enter Try.func6, Try.ntmps6
  go_wp2_with fail
  refine (szRows_any a len cap A L C Z w hr).mono ?_
  rintro e w1 ⟨z, rfl, hz, rfl⟩
  by_cases hneg : z < 0
  · clear hz
    go_wp2
    go_ret
    exact ⟨rfl, Below.refl _ _⟩
  · obtain ⟨hl, hL⟩ := hz (by omega)
    have HL := Lib.hid hL
    have hrl := rowsIn_length len L Z
    have hrs := rowsIn_le8 (Z := Z) hL
    have CR := Lib.hid (fun (w' : World) (hr' : Hid (IsRows w' a len cap A L C Z)) => toRows_any a len cap A L C Z w' hr' hl HL)
    obtain ⟨rows, hrows⟩ : ∃ rows, rows = rowsIn len L Z := ⟨_, rfl⟩
    rw [← hrows] at hrl hrs
    simp only [← hrows] at CR
    have hrl2 : rows.length ≤ 1048576 := by omega
    have HRS := Lib.hid hrs
    clear hz hL hrows hrl hrs
    go_wp2_with fail
    refine (CR.out _ hr).mono ?_
    rintro e w2 ⟨v2, RV2, rfl, g2, b2⟩
    have R2 := Lib.hid (hr.out.below b2)
    have B2 := Lib.hid b2
    have G2 := Lib.hid g2
    clear g2 b2
    go_wp2_with fail
    refine (HSP.out n rows v2 RV2 w2 _ _ G2 (Nat.le_refl _) hrl2 HRS.out HN.out).mono ?_
    rintro e w3 ⟨rfl, b3⟩
    have R3 := Lib.hid (R2.out.below b3)
    have B3 := Lib.hid (B2.out.trans (b3.mono B2.out.size))
    obtain ⟨t, ht⟩ : ∃ t, t = val n rows := ⟨_, rfl⟩
    have HT := Lib.hid ht
    rw [← ht]
    clear b3 ht G2
    go_wp2_with fail
    refine (CR.out _ R3).mono ?_
    rintro e w4 ⟨v4, RV4, rfl, g4, b4⟩
    have R4 := Lib.hid (R3.out.below b4)
    have B4 := Lib.hid (B3.out.trans (b4.mono B3.out.size))
    have G4 := Lib.hid g4
    clear g4 b4
    obtain ⟨a4, c4, rfl⟩ := grid_slice8 G4.out
    go_wp2_with fail
    refine (HV.out n rows _ RV4 w4 _ _ G4 (Nat.le_refl _) hrl2 HRS.out HN.out).mono ?_
    rintro e w5 ⟨rfl, b5⟩
    rw [← HT.out]
    have R5 := Lib.hid (R4.out.below b5)
    have B5 := Lib.hid (B4.out.trans (b5.mono B4.out.size))
    have G5 := Lib.hid (G4.out.below b5)
    have z5 := b5.size
    have Z5 := Lib.hid z5
    clear b5 z5
    have q1 : ((t : Int) == t) = true := by simp
    have q2 : ((t : Int) != t) = false := by simp
    go_wp2_with fail
    refine (CR.out _ R5).mono ?_
    rintro e w6 ⟨v6, RV6, rfl, g6, b6⟩
    have B6 := Lib.hid (B5.out.trans (b6.mono B5.out.size))
    have G6 := Lib.hid g6
    have G56 := Lib.hid (G5.out.below (b6.mono Z5.out))
    clear g6 b6
    go_wp2_with fail
    refine (eqRows_yes rows _ v6 w6 G56 G6 hrl2 HRS.out).mono ?_
    rintro e w7 ⟨rfl, s7⟩
    have B7 := Lib.hid (B6.out.trans (s7.below _))
    clear s7
    go_wp2
    go_ret
    exact ⟨rfl, B7.out⟩
set_option maxHeartbeats 1600000 in
theorem exactWaysOf_walk {val : Int → List (List Int) → Int} (HV : Hid (TreeFn 21 val)) (HSP : Hid (TreeFn 20 val))
    (n : Int) (a : Option Addr) (len cap : Nat) (A : Nat → Option Addr) (L C : Nat → Nat) (Z : Nat → List Int) (w : World) (hn : (Lit.int .i64 n).wf = true) (hr0 : IsRows w a len cap A L C Z) :
    Calls Try.prog 7 #[.int .i64 n, .slice a len cap] w fun e w' => e = .returned (.bool true) ∧ Below w.heap.size w w' := by
  have hr := Lib.hid hr0
  have HN := Lib.hid hn
  clear hr0 hn
  go_enter Try.func7, Try.ntmps7
  go_wp2_with fail
  refine (szRows_any a len cap A L C Z w hr).mono ?_
  rintro e w1 ⟨z, rfl, hz, rfl⟩
  by_cases hneg : z < 0
  · clear hz
    go_wp2
    go_ret
    exact ⟨rfl, Below.refl _ _⟩
  · obtain ⟨hl, hL⟩ := hz (by omega)
    have HL := Lib.hid hL
    have hrl := rowsIn_length len L Z
    have hrs := rowsIn_le8 (Z := Z) hL
    have CR := Lib.hid (fun (w' : World) (hr' : Hid (IsRows w' a len cap A L C Z)) => toRows_any a len cap A L C Z w' hr' hl HL)
    obtain ⟨rows, hrows⟩ : ∃ rows, rows = rowsIn len L Z := ⟨_, rfl⟩
    rw [← hrows] at hrl hrs
    simp only [← hrows] at CR
    have hrl2 : rows.length ≤ 1048576 := by omega
    have HRS := Lib.hid hrs
    clear hz hL hrows hrl hrs
    go_wp2_with fail
    refine (CR.out _ hr).mono ?_
    rintro e w2 ⟨v2, RV2, rfl, g2, b2⟩
    have R2 := Lib.hid (hr.out.below b2)
    have B2 := Lib.hid b2
    have G2 := Lib.hid g2
    clear g2 b2
    go_wp2_with fail
    refine (HSP.out n rows v2 RV2 w2 _ _ G2 (Nat.le_refl _) hrl2 HRS.out HN.out).mono ?_
    rintro e w3 ⟨rfl, b3⟩
    have R3 := Lib.hid (R2.out.below b3)
    have B3 := Lib.hid (B2.out.trans (b3.mono B2.out.size))
    obtain ⟨t, ht⟩ : ∃ t, t = val n rows := ⟨_, rfl⟩
    have HT := Lib.hid ht
    rw [← ht]
    clear b3 ht G2
    go_wp2_with fail
    refine (CR.out _ R3).mono ?_
    rintro e w4 ⟨v4, RV4, rfl, g4, b4⟩
    have R4 := Lib.hid (R3.out.below b4)
    have B4 := Lib.hid (B3.out.trans (b4.mono B3.out.size))
    have G4 := Lib.hid g4
    clear g4 b4
    obtain ⟨a4, c4, rfl⟩ := grid_slice8 G4.out
    go_wp2_with fail
    refine (HV.out n rows _ RV4 w4 _ _ G4 (Nat.le_refl _) hrl2 HRS.out HN.out).mono ?_
    rintro e w5 ⟨rfl, b5⟩
    rw [← HT.out]
    have R5 := Lib.hid (R4.out.below b5)
    have B5 := Lib.hid (B4.out.trans (b5.mono B4.out.size))
    have G5 := Lib.hid (G4.out.below b5)
    have z5 := b5.size
    have Z5 := Lib.hid z5
    clear b5 z5
    have q1 : ((t : Int) == t) = true := by simp
    have q2 : ((t : Int) != t) = false := by simp
    go_wp2_with fail
    refine (CR.out _ R5).mono ?_
    rintro e w6 ⟨v6, RV6, rfl, g6, b6⟩
    have B6 := Lib.hid (B5.out.trans (b6.mono B5.out.size))
    have G6 := Lib.hid g6
    have G56 := Lib.hid (G5.out.below (b6.mono Z5.out))
    clear g6 b6
    go_wp2_with fail
    refine (eqRows_yes rows _ v6 w6 G56 G6 hrl2 HRS.out).mono ?_
    rintro e w7 ⟨rfl, s7⟩
    have B7 := Lib.hid (B6.out.trans (s7.below _))
    clear s7
    go_wp2
    go_ret
    exact ⟨rfl, B7.out⟩
set_option maxHeartbeats 1600000 in
theorem exactWaysByEdges_walk {val : Int → List (List Int) → Int} (HV : Hid (TreeFn 23 val)) (HSP : Hid (TreeFn 22 val))
    (n : Int) (a : Option Addr) (len cap : Nat) (A : Nat → Option Addr) (L C : Nat → Nat) (Z : Nat → List Int) (w : World) (hn : (Lit.int .i64 n).wf = true) (hr0 : IsRows w a len cap A L C Z) :
    Calls Try.prog 8 #[.int .i64 n, .slice a len cap] w fun e w' => e = .returned (.bool true) ∧ Below w.heap.size w w' := by
  have hr := Lib.hid hr0
  have HN := Lib.hid hn
  clear hr0 hn
  go_enter Try.func8, Try.ntmps8
  go_wp2_with fail
  refine (szRows_any a len cap A L C Z w hr).mono ?_
  rintro e w1 ⟨z, rfl, hz, rfl⟩
  by_cases hneg : z < 0
  · clear hz
    go_wp2
    go_ret
    exact ⟨rfl, Below.refl _ _⟩
  · obtain ⟨hl, hL⟩ := hz (by omega)
    have HL := Lib.hid hL
    have hrl := rowsIn_length len L Z
    have hrs := rowsIn_le8 (Z := Z) hL
    have CR := Lib.hid (fun (w' : World) (hr' : Hid (IsRows w' a len cap A L C Z)) => toRows_any a len cap A L C Z w' hr' hl HL)
    obtain ⟨rows, hrows⟩ : ∃ rows, rows = rowsIn len L Z := ⟨_, rfl⟩
    rw [← hrows] at hrl hrs
    simp only [← hrows] at CR
    have hrl2 : rows.length ≤ 1048576 := by omega
    have HRS := Lib.hid hrs
    clear hz hL hrows hrl hrs
    go_wp2_with fail
    refine (CR.out _ hr).mono ?_
    rintro e w2 ⟨v2, RV2, rfl, g2, b2⟩
    have R2 := Lib.hid (hr.out.below b2)
    have B2 := Lib.hid b2
    have G2 := Lib.hid g2
    clear g2 b2
    go_wp2_with fail
    refine (HSP.out n rows v2 RV2 w2 _ _ G2 (Nat.le_refl _) hrl2 HRS.out HN.out).mono ?_
    rintro e w3 ⟨rfl, b3⟩
    have R3 := Lib.hid (R2.out.below b3)
    have B3 := Lib.hid (B2.out.trans (b3.mono B2.out.size))
    obtain ⟨t, ht⟩ : ∃ t, t = val n rows := ⟨_, rfl⟩
    have HT := Lib.hid ht
    rw [← ht]
    clear b3 ht G2
    go_wp2_with fail
    refine (CR.out _ R3).mono ?_
    rintro e w4 ⟨v4, RV4, rfl, g4, b4⟩
    have R4 := Lib.hid (R3.out.below b4)
    have B4 := Lib.hid (B3.out.trans (b4.mono B3.out.size))
    have G4 := Lib.hid g4
    clear g4 b4
    obtain ⟨a4, c4, rfl⟩ := grid_slice8 G4.out
    go_wp2_with fail
    refine (HV.out n rows _ RV4 w4 _ _ G4 (Nat.le_refl _) hrl2 HRS.out HN.out).mono ?_
    rintro e w5 ⟨rfl, b5⟩
    rw [← HT.out]
    have R5 := Lib.hid (R4.out.below b5)
    have B5 := Lib.hid (B4.out.trans (b5.mono B4.out.size))
    have G5 := Lib.hid (G4.out.below b5)
    have z5 := b5.size
    have Z5 := Lib.hid z5
    clear b5 z5
    have q1 : ((t : Int) == t) = true := by simp
    have q2 : ((t : Int) != t) = false := by simp
    go_wp2_with fail
    refine (CR.out _ R5).mono ?_
    rintro e w6 ⟨v6, RV6, rfl, g6, b6⟩
    have B6 := Lib.hid (B5.out.trans (b6.mono B5.out.size))
    have G6 := Lib.hid g6
    have G56 := Lib.hid (G5.out.below (b6.mono Z5.out))
    clear g6 b6
    go_wp2_with fail
    refine (eqRows_yes rows _ v6 w6 G56 G6 hrl2 HRS.out).mono ?_
    rintro e w7 ⟨rfl, s7⟩
    have B7 := Lib.hid (B6.out.trans (s7.below _))
    clear s7
    go_wp2
    go_ret
    exact ⟨rfl, B7.out⟩
end Go.Proofs.Ytcnocoljmljnaaa
