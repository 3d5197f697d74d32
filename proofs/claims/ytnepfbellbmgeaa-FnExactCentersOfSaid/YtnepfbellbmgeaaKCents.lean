/-
  The walk of the exact statement on CentersOf, given the contract of the program's CentersOf.
-/
import Derived.Test.YtnepfbellbmgeaaCFreeO
import Derived.Test.YtnepfbellbmgeaaCGridIn
import Derived.Test.YtnepfbellbmgeaaCMarks
import Derived.Test.YtnepfbellbmgeaaCFreeS
namespace Go.Proofs.Ytnepfbellbmgeaa
open Go.RowKit

theorem grid_sliceC7 {w : World} {B H : Nat} {v : Value} {RV : List Value} {rows : List (List Int)} (hG : Grid w B H v RV rows) : ∃ a cap, v = .slice a rows.length cap := by
  obtain ⟨au, cu, rfl, _⟩ := hG.1.slice
  exact ⟨au, cu, by rw [hG.2.1]⟩
theorem rowsIn_leC7 {len : Nat} {L : Nat → Nat} {Z : Nat → List Int} (h : ∀ r, r < len → L r ≤ 1048576) : ∀ r ∈ rowsIn len L Z, r.length ≤ 1048576 := by
  intro r hr
  obtain ⟨k, hk, rfl⟩ := List.mem_map.1 hr
  rw [List.length_take]
  have := h k (List.mem_range.1 hk)
  omega
theorem offs_big7 (rows : List (List Int)) (h : ∀ r ∈ rows, r.length ≤ 1048576) : ∀ j, offs rows j ≤ 1048576 * j := by
  intro j
  induction j with
  | zero => simp [offs]
  | succ j ih =>
    rw [offs]
    by_cases hj : j < rows.length
    · have h1 := h _ (List.getElem_mem hj)
      have h2 : rows.getD j [] = rows[j] := by rw [List.getD_eq_getElem?_getD, List.getElem?_eq_getElem hj]; rfl
      rw [h2]; omega
    · have h2 : rows.getD j [] = [] := by rw [List.getD_eq_getElem?_getD, List.getElem?_eq_none (by omega)]; rfl
      rw [h2]; simp only [List.length_nil]; omega
theorem centsOut_length (n : Int) (rows : List (List Int)) : (centsOut n rows).length ≤ 64 := by
  unfold centsOut
  split
  · next h =>
    obtain ⟨h1, _, h3⟩ := treeB_iff.1 h
    rw [intsN, List.length_map]
    rcases cents_two h3 (by omega) with ⟨a, h, _⟩ | ⟨a, b, h, _⟩ <;> rw [h] <;> simp
  · simp
theorem rowblock7 {w : World} {B H : Nat} {RV : List Value} {rows : List (List Int)} (h : RowsI w B H RV rows) : ∀ u ∈ RV, ∀ q, u.ownBlock = some q → B ≤ q ∧ q < H := by
  intro u hu q hq
  obtain ⟨i, hi, rfl⟩ := List.getElem_of_mem hu
  have ho := h.2 i _ _ (List.getElem?_eq_getElem hi) (List.getElem?_eq_getElem (by rw [← h.1]; exact hi))
  exact ⟨(ho.1.lt q hq).1, ho.2 q hq⟩
theorem apart_rows7 {w0 : World} {B H B' H' : Nat} {t : TypeId} {v : Value} {xs : List Value} {RV : List Value} {w1 : World} {rows : List (List Int)} (ho : Own w0 B' H' t v xs) (hr : RowsI w1 B H RV rows) (hd : H' ≤ B ∨ H ≤ B') : ∀ u ∈ RV, v.ownBlock = none ∨ v.ownBlock ≠ u.ownBlock := by
  intro u hu
  cases hb : v.ownBlock with
  | none => exact .inl rfl
  | some g =>
    right
    intro e
    have h1 := rowblock7 hr u hu g e.symm
    have h2 := ho.2 g hb
    have h3 := (ho.1.lt g hb).1
    omega

set_option maxHeartbeats 3200000 in
theorem exactCents_walk (HV : Hid (∀ (n : Int) (rows : List (List Int)) (v : Value) (RV : List Value) (w : World) (B0 H0 : Nat), Hid (Grid w B0 H0 v RV rows) → H0 ≤ w.heap.size → rows.length ≤ 1048576 → (∀ r ∈ rows, r.length ≤ 1048576) → (Lit.int .i64 n).wf = true →
      Calls Try.prog 13 #[.int .i64 n, v] w fun e w' => ∃ y, e = .returned y ∧ Own w' w.heap.size w'.heap.size 3 y (iv (centsOut n rows)) ∧ Below w.heap.size w w'))
    (n : Int) (a : Option Addr) (len cap : Nat) (A : Nat → Option Addr) (L C : Nat → Nat) (Z : Nat → List Int) (w : World) (hn : (Lit.int .i64 n).wf = true) (hr0 : IsRows w a len cap A L C Z) :
    Calls Try.prog 3 #[.int .i64 n, .slice a len cap] w fun e w' => e = .returned (.bool true) ∧ Below w.heap.size w w' := by
  have hr := Lib.hid hr0
  have HN := Lib.hid hn
  clear hr0 hn
  go_enter Try.func3, Try.ntmps3
  go_wp2_with fail
  refine (szRows_any a len cap A L C Z w hr).mono ?_
  rintro e w1 ⟨z, rfl, hz, rfl⟩
  by_cases hneg : z < 0
  · clear hz
    go_wp2
    go_ret
    exact ⟨rfl, Below.refl _ _⟩
  · obtain ⟨hl, hL⟩ := hz (by omega)
    have HL := Lib.hid hL
    have hrl := rowsIn_length len L Z
    have hrs := rowsIn_leC7 (Z := Z) hL
    have CR := Lib.hid (fun (w' : World) (hr' : Hid (IsRows w' a len cap A L C Z)) => toRowsD_any a len cap A L C Z w' hr' hl HL)
    obtain ⟨rows, hrows⟩ : ∃ rows, rows = rowsIn len L Z := ⟨_, rfl⟩
    rw [← hrows] at hrl hrs
    simp only [← hrows] at CR
    have hrl2 : rows.length ≤ 1048576 := by omega
    have HRS := Lib.hid hrs
    have hl64 := centsOut_length n rows
    have CS := Lib.hid (fun (v : Value) (RV : List Value) (w : World) (B0 H0 : Nat) (hG : Hid (Grid w B0 H0 v RV rows)) hH => specCentersOf_any n rows v RV w hG hH hrl2)
    have CI := Lib.hid (fun (v : Value) (RV : List Value) (w : World) (B0 H0 : Nat) (hG : Hid (Grid w B0 H0 v RV rows)) hH => HV.out n rows v RV w B0 H0 hG hH hrl2 HRS.out HN.out)
    obtain ⟨l, hl0⟩ : ∃ l, l = centsOut n rows := ⟨_, rfl⟩
    rw [← hl0] at hl64
    simp only [← hl0] at CS CI
    have hof := offs_big7 rows hrs rows.length
    clear hz hL hrows hrl hrs hl0 HV
    go_wp2_with fail
    refine (CR.out _ hr).mono ?_
    rintro e w2 ⟨v2, RV2, rfl, g2, _, b2⟩
    have R2 := Lib.hid (hr.out.below b2)
    have B2 := Lib.hid b2
    have G2 := Lib.hid g2
    clear g2 b2
    go_wp2_with fail
    refine (CS.out v2 RV2 w2 _ _ G2 (Nat.le_refl _)).mono ?_
    rintro e w3 ⟨v3, rfl, o3, b3⟩
    have R3 := Lib.hid (R2.out.below b3)
    have B3 := Lib.hid (B2.out.trans (b3.mono B2.out.size))
    have O3 := Lib.hid o3
    clear b3 G2 o3 R2
    go_wp2_with fail
    refine (CR.out _ R3).mono ?_
    rintro e w4 ⟨v4, RV4, rfl, g4, d4, b4⟩
    have R4 := Lib.hid (R3.out.below b4)
    have B4 := Lib.hid (B3.out.trans (b4.mono B3.out.size))
    have G4 := Lib.hid g4
    have D4 := Lib.hid d4
    have O34 := Lib.hid (O3.out.below b4)
    have s34 := b4.size
    have AP3 := Lib.hid (apart_rows7 O34.out G4.out.2 (.inl (Nat.le_refl _)))
    clear g4 b4 d4 R3 O3
    obtain ⟨a4, c4, rfl⟩ := grid_sliceC7 G4.out
    go_wp2_with fail
    refine (CI.out _ RV4 w4 _ _ G4 (Nat.le_refl _)).mono ?_
    rintro e w5 ⟨v5, rfl, o5, b5⟩
    have R5 := Lib.hid (R4.out.below b5)
    have B5 := Lib.hid (B4.out.trans (b5.mono B4.out.size))
    have G5 := Lib.hid (G4.out.below b5)
    have O35 := Lib.hid ((O34.out.more s34).below b5)
    have O5 := Lib.hid o5
    have s45 := b5.size
    clear b5 o5 R4 G4 O34
    have AP5 := Lib.hid (apart_rows7 O5.out G5.out.2 (.inr (Nat.le_refl _)))
    have HNE : Hid (v3.ownBlock = none ∨ v3.ownBlock ≠ v5.ownBlock) := by
      show _ ∨ _
      cases h0 : v3.ownBlock with
      | none => exact .inl rfl
      | some g =>
        right
        intro e
        have h2 := O35.out.2 g h0
        have h3 := (O5.out.1.lt g e.symm).1
        omega
    have s03 := B3.out.size
    go_wp2_with fail
    refine (eqInts_yes l v5 v3 w5 O5 O35 (by omega)).mono ?_
    rintro e w6 ⟨rfl, t6⟩
    have R6 := Lib.hid (R5.out.below (t6.below _))
    have B6 := Lib.hid (B5.out.trans (t6.below _))
    have G6 := Lib.hid (G5.out.same t6.1)
    have O36 := Lib.hid (O35.out.same t6.1)
    have O6 := Lib.hid (O5.out.same t6.1)
    have e56 : w6.heap.size = w5.heap.size := by rw [t6.1]
    have E56 := Lib.hid e56
    clear t6 R5 B5 G5 O35 O5 e56
    go_wp2_with fail
    refine (CR.out _ R6).mono ?_
    rintro e w7 ⟨v7, RV7, rfl, g7, _, b7⟩
    have s67 := b7.size
    have R7 := Lib.hid (R6.out.below b7)
    have B7 := Lib.hid (B6.out.trans (b7.mono B6.out.size))
    have hh : w5.heap.size ≤ w6.heap.size := by rw [E56.out]; exact Nat.le_refl _
    have G7 := Lib.hid (G6.out.below (b7.mono (Nat.le_trans s45 hh)))
    have O37 := Lib.hid ((O36.out).below (b7.mono (Nat.le_trans s45 hh)))
    have O7 := Lib.hid (O6.out.below (b7.mono hh))
    have HG7 := Lib.hid g7
    have s57 : w5.heap.size ≤ w7.heap.size := Nat.le_trans hh s67
    clear g7 b7 hh R6 B6 G6 O36 O6 E56
    go_wp2_with fail
    refine (eqRows_yes rows _ v7 w7 G7 HG7 hrl2 HRS.out).mono ?_
    rintro e w8 ⟨rfl, t8⟩
    have R8 := Lib.hid (R7.out.below (t8.below _))
    have B8 := Lib.hid (B7.out.trans (t8.below _))
    have G8 := Lib.hid (G7.out.same t8.1)
    have O38 := Lib.hid (O37.out.same t8.1)
    have O8 := Lib.hid (O7.out.same t8.1)
    have s58 : w5.heap.size ≤ w8.heap.size := by rw [t8.1]; exact s57
    clear t8 R7 B7 G7 O37 O7 HG7 s57 s67
    have CM := Lib.hid (markRows_any 1 rows _ RV4 w8 G8 D4.out (by omega) hrl2 HRS.out)
    obtain ⟨K, hK⟩ : ∃ K : Int, K = ((1 : Nat) : Int) + offs rows rows.length := ⟨_, rfl⟩
    rw [← hK] at CM
    have k0 : 0 ≤ K := by omega
    clear hK
    go_wp2_with fail
    refine CM.out.mono ?_
    rintro e w9 ⟨rfl, g9, t9⟩
    have b9 : Below w3.heap.size w8 w9 := t9.below (by omega) (fun u hu q hq => (rowblock7 G8.out.2 u hu q hq).1)
    have b9w := b9.mono s03
    have B9 := Lib.hid (B8.out.trans b9w)
    have R9 := Lib.hid (hr.out.below B9.out)
    have O39 := Lib.hid (O38.out.spots t9 AP3.out)
    have O9 := Lib.hid (O8.out.spots t9 AP5.out)
    have s59 : w5.heap.size ≤ w9.heap.size := by rw [t9.size]; exact s58
    clear g9 t9 b9 b9w CM R8 B8 G8 O38 O8 s58
    go_wp2_with fail
    refine (eqInts_yes l v5 v3 w9 O9 O39 (by omega)).mono ?_
    rintro e w10 ⟨rfl, t10⟩
    have R10 := Lib.hid (R9.out.below (t10.below _))
    have B10 := Lib.hid (B9.out.trans (t10.below _))
    have O310 := Lib.hid (O39.out.same t10.1)
    have O10 := Lib.hid (O9.out.same t10.1)
    have s5a : w5.heap.size ≤ w10.heap.size := by rw [t10.1]; exact s59
    clear t10 R9 B9 O39 O9 s59
    go_wp2_with fail
    refine (markInts_any l v5 w10 O10 (by omega)).mono ?_
    rintro e w11 ⟨rfl, o11, g11, z11⟩
    have O11 := Lib.hid o11
    have O311 := Lib.hid (O310.out.grown g11 HNE.out)
    have b11 : Below w1.heap.size w10 w11 := (Below.refl _ _).grown g11 (by omega) (fun q hq => by have := (O10.out.1.lt q hq).1; omega)
    have B11 := Lib.hid (B10.out.trans b11)
    have R11 := Lib.hid (hr.out.below B11.out)
    have s5b : w5.heap.size ≤ w11.heap.size := by rw [z11]; exact s5a
    clear o11 g11 z11 b11 R10 B10 O310 O10 s5a
    go_wp2_with fail
    refine (heldInts_any l.length v5 w11 O11 (by omega)).mono ?_
    rintro e w12 ⟨rfl, rfl⟩
    go_wp2_with fail
    refine (CR.out _ R11).mono ?_
    rintro e w13 ⟨v13, RV13, rfl, g13, _, b13⟩
    have s13 := b13.size
    have B13 := Lib.hid (B11.out.trans (b13.mono B11.out.size))
    have G13 := Lib.hid g13
    have O313 := Lib.hid (O311.out.below (b13.mono (Nat.le_trans s45 s5b)))
    have O13 := Lib.hid (O11.out.below (b13.mono s5b))
    clear g13 b13 B11 O311 O11
    obtain ⟨a13, c13, rfl⟩ := grid_sliceC7 G13.out
    go_wp2_with fail
    refine (CI.out _ RV13 w13 _ _ G13 (Nat.le_refl _)).mono ?_
    rintro e w14 ⟨v14, rfl, o14, b14⟩
    have B14 := Lib.hid (B13.out.trans (b14.mono B13.out.size))
    have hh : w5.heap.size ≤ w13.heap.size := Nat.le_trans s5b s13
    have O314 := Lib.hid (O313.out.below (b14.mono (Nat.le_trans s45 hh)))
    have O14 := Lib.hid (O13.out.below (b14.mono hh))
    have O144 := Lib.hid o14
    clear o14 b14 hh B13 O313 O13
    go_wp2_with fail
    refine (eqInts_yes l v14 v3 w14 O144 O314 (by omega)).mono ?_
    rintro e w15 ⟨rfl, t15⟩
    have O15 := Lib.hid (O14.out.same t15.1)
    have B15 := Lib.hid (B14.out.trans (t15.below _))
    clear t15
    go_wp2_with fail
    refine (heldInts_any l.length v5 w15 O15 (by omega)).mono ?_
    rintro e w16 ⟨rfl, rfl⟩
    go_wp2
    go_ret
    exact ⟨rfl, B15.out⟩
end Go.Proofs.Ytnepfbellbmgeaa
