/-
  The walk of the exact statement on TreeOf, given the contract of the program's TreeOf.
-/
import Derived.Test.YtpegajdjeliffaaCTreeT
import Derived.Test.YtpegajdjeliffaaCToInts
import Derived.Test.YtpegajdjeliffaaCMarks
import Derived.Test.YtpegajdjeliffaaCRowsI
namespace Go.Proofs.Ytpegajdjeliffaa
open Go.RowKit

theorem treeE_le (n : Nat) : ∀ (c : List Nat) (d : Nat → Nat), (treeE n c d).length ≤ c.length + 1 := by
  intro c
  induction c with
  | nil => intro d; rw [treeE]; split <;> simp
  | cons x r ih =>
    intro d
    rw [treeE]
    split
    · simp
    · simp only [List.length_cons]; have := ih (down d ‹_› x); omega
theorem treeOut_size (n : Int) (code : List Int) : (treeOut n code).length ≤ 64 ∧ ∀ r ∈ treeOut n code, r.length ≤ 3 := by
  unfold treeOut
  split
  · next h =>
    obtain ⟨_, h2, h3⟩ := codeB_iff.1 h
    constructor
    · rw [rowsE_length, treeN, sortP_len, List.length_map]
      have := treeE_le n.toNat (codeU code) (degC n.toNat (codeU code))
      rw [codeU_length] at this
      omega
    · intro r hr
      obtain ⟨e, _, rfl⟩ := List.mem_map.1 hr
      simp
  · simp
theorem offs_boundT (rows : List (List Int)) (h : ∀ r ∈ rows, r.length ≤ 3) : ∀ j, offs rows j ≤ 3 * j := by
  intro j
  induction j with
  | zero => simp [offs]
  | succ j ih =>
    have : (rows.getD j []).length ≤ 3 := by
      rw [List.getD_eq_getElem?_getD]
      cases hj : rows[j]? with
      | none => simp
      | some r => exact h r (List.mem_of_getElem? hj)
    rw [offs]; omega
theorem Grid.spotsT {w w' : World} {B H : Nat} {v : Value} {RV RV1 : List Value} {rows : List (List Int)} (h : Grid w B H v RV rows) (hs : Spots w w' RV1) (hH : ∀ u ∈ RV1, ∀ q, u.ownBlock = some q → H ≤ q) : Grid w' B H v RV rows := by
  have key : ∀ {t : TypeId} {x : Value} {xs : List Value}, Own w B H t x xs → Own w' B H t x xs := fun {t x xs} ho => ho.spots hs (fun u hu => by
    cases hx : x.ownBlock with
    | none => exact .inl rfl
    | some g =>
      right
      intro e
      have h1 := ho.2 g hx
      have h2 := hH u hu g e.symm
      omega)
  exact ⟨key h.1, h.2.1, fun i u r h1 h2 => key (h.2.2 i u r h1 h2)⟩
theorem GridA.basesT {w : World} {H : Nat} {v : Value} {RV : List Value} {rows : List (List Int)} (h : GridA w H v RV rows) : ∀ u ∈ RV, ∀ q, u.ownBlock = some q → H ≤ q := by
  intro u hu q hq
  obtain ⟨i, hi, rfl⟩ := List.getElem_of_mem hu
  have hi' : i < rows.length := by rw [← h.grid.2.1]; exact hi
  exact ((h.grid.2.2 i _ _ (List.getElem?_eq_getElem hi) (List.getElem?_eq_getElem hi')).1.lt q hq).1
/-- rows stay where a list in older memory is written -/
theorem Grid.grownT {w w' : World} {B H B' H' : Nat} {t : TypeId} {v u : Value} {RV xs : List Value} {rows : List (List Int)} (h : Grid w B H v RV rows) (hu : Own w B' H' t u xs) (hd : H' ≤ B ∨ H ≤ B') (hg : w.grownBy w' u.ownBlock) : Grid w' B H v RV rows := by
  have key : ∀ {t : TypeId} {x : Value} {xs : List Value}, Own w B H t x xs → Own w' B H t x xs := fun {t x xs} ho => ho.grown hg (by
    cases hx : x.ownBlock with
    | none => exact .inl rfl
    | some g =>
      right
      intro e
      have h1 := ho.2 g hx
      have h2 := (ho.1.lt g hx).1
      have h3 := hu.2 g e.symm
      have h4 := (hu.1.lt g e.symm).1
      omega)
  exact ⟨key h.1, h.2.1, fun i u r h1 h2 => key (h.2.2 i u r h1 h2)⟩

set_option maxHeartbeats 3200000 in
theorem exactTree_walk (HV : Hid (∀ (n : Int) (code : List Int) (v : Value) (w : World) (B0 H0 : Nat), Hid (Own w B0 H0 3 v (iv code)) → H0 ≤ w.heap.size → code.length ≤ 1048576 → (Lit.int .i64 n).wf = true →
      Calls Try.prog 23 #[.int .i64 n, v] w (GridRet w.heap.size (treeOut n code) w)))
    (n : Int) (a : Option Addr) (len cap : Nat) (zs : List Int) (w : World) (hn : (Lit.int .i64 n).wf = true) (hr0 : IsRow .i64 w a len cap zs) :
    Calls Try.prog 6 #[.int .i64 n, .slice a len cap] w fun e w' => e = .returned (.bool true) ∧ Below w.heap.size w w' := by
  by_cases hbig : (1048576 : Int) < (len : Int)
  · clear hr0
    go_enter Try.func6, Try.ntmps6
    go_wp2
    go_ret
    exact ⟨rfl, Below.refl _ _⟩
  · have hr := Lib.hid hr0
    have hlen := hr0.len
    obtain ⟨c, hc⟩ : ∃ c, c = zs.take len := ⟨_, rfl⟩
    have hcl : c.length = len := by rw [hc, List.length_take]; omega
    have HC := Lib.hid hc
    have HCL := Lib.hid hcl
    obtain ⟨hl, hrr⟩ := treeOut_size n c
    have CS := Lib.hid (fun (v : Value) (w : World) (B0 H0 : Nat) (hv : Hid (Own w B0 H0 3 v (iv c))) hH => specTreeOf_any n c v w hv hH (by rw [hcl]; omega))
    have CI := Lib.hid (fun (v : Value) (w : World) (B0 H0 : Nat) (hv : Hid (Own w B0 H0 3 v (iv c))) hH => HV.out n c v w B0 H0 hv hH (by rw [hcl]; omega) hn)
    obtain ⟨l, hle⟩ : ∃ l, l = treeOut n c := ⟨_, rfl⟩
    rw [← hle] at hl hrr
    simp only [← hle] at CS CI
    have ho := offs_boundT l hrr l.length
    have HR := Lib.hid (show ∀ r ∈ l, r.length ≤ 1048576 from fun r h => Nat.le_trans (hrr r h) (by decide))
    obtain ⟨N, hN⟩ : ∃ N, N = offs l l.length := ⟨_, rfl⟩
    have HN := Lib.hid hN
    rw [← hN] at ho
    have CT := Lib.hid (fun (w' : World) (hr' : Hid (IsRow .i64 w' a len cap zs)) => toInts_any a len cap zs w' hr' (by omega))
    simp only [← hc] at CT
    clear hr0 hc hcl hrr hle hN HV hn
    go_enter Try.func6, Try.ntmps6
    go_wp2_with fail
    refine (CT.out w hr).mono ?_
    rintro e w1 ⟨v1, rfl, o1, b1⟩
    have O1 := Lib.hid o1
    have R1 := Lib.hid (hr.out.below b1)
    have B1 := Lib.hid b1
    clear o1 b1
    go_wp2_with fail
    refine (CS.out v1 w1 _ _ O1 (Nat.le_refl _)).mono ?_
    rintro e w2 ⟨v2, RV2, rfl, g2, b2⟩
    have R2 := Lib.hid (R1.out.below b2)
    have B2 := Lib.hid (B1.out.trans (b2.mono B1.out.size))
    have E2 := Lib.hid g2
    clear g2 b2 R1 O1
    go_wp2_with fail
    refine (CT.out w2 R2).mono ?_
    rintro e w3 ⟨v3, rfl, o3, b3⟩
    have O3 := Lib.hid o3
    have R3 := Lib.hid (R2.out.below b3)
    have B3 := Lib.hid (B2.out.trans (b3.mono B2.out.size))
    have E3 := Lib.hid (E2.out.below b3)
    have z23 := b3.size
    clear o3 b3 R2 E2
    go_wp2_with fail
    refine (CI.out v3 w3 _ _ O3 (Nat.le_refl _)).mono ?_
    rintro e w4 ⟨v4, RV4, rfl, g4, b4⟩
    have z34 := b4.size
    have O4 := Lib.hid (O3.out.below b4)
    have R4 := Lib.hid (R3.out.below b4)
    have E4 := Lib.hid (E3.out.below (b4.mono z23))
    have HB := Lib.hid g4.basesT
    have HD := Lib.hid g4.dist
    have G4 := Lib.hid g4.grid
    have B4 := Lib.hid (B3.out.trans (b4.mono B3.out.size))
    have z03 := B3.out.size
    clear g4 b4 O3 R3 E3
    go_wp2_with fail
    refine (eqRows_yes l v4 v2 w4 G4 E4 (by omega) HR.out).mono ?_
    rintro e w5 ⟨rfl, s5⟩
    have O5 := Lib.hid (O4.out.same s5.1)
    have R5 := Lib.hid (R4.out.below (s5.below _))
    have E5 := Lib.hid (E4.out.same s5.1)
    have G5 := Lib.hid (G4.out.same s5.1)
    have B5 := Lib.hid (B4.out.trans (s5.below _))
    have z45 : w5.heap.size = w4.heap.size := by rw [s5.1]
    have Z5 := Lib.hid z45
    clear s5 z45 O4 R4 E4 G4
    go_wp2_with fail
    refine (CT.out w5 R5).mono ?_
    rintro e w6 ⟨v6, rfl, o6, b6⟩
    have z56 := b6.size
    rw [Z5.out] at z56
    have O6 := Lib.hid (O5.out.below (b6.mono (by rw [Z5.out]; exact z34)))
    have O66 := Lib.hid o6
    have R6 := Lib.hid (R5.out.below b6)
    have E6 := Lib.hid (E5.out.below (b6.mono (by rw [Z5.out]; omega)))
    have G6 := Lib.hid (G5.out.below (b6.mono (by rw [Z5.out]; exact Nat.le_refl _)))
    have B6 := Lib.hid (B5.out.trans (b6.mono B5.out.size))
    clear o6 b6 O5 R5 E5 G5 Z5
    go_wp2_with fail
    refine (eqInts_yes c v3 v6 w6 O6 O66 (by rw [HCL.out]; omega)).mono ?_
    rintro e w7 ⟨rfl, s7⟩
    have O7 := Lib.hid (O6.out.same s7.1)
    have R7 := Lib.hid (R6.out.below (s7.below _))
    have E7 := Lib.hid (E6.out.same s7.1)
    have G7 := Lib.hid (G6.out.same s7.1)
    have B7 := Lib.hid (B6.out.trans (s7.below _))
    have z47 : w4.heap.size ≤ w7.heap.size := by rw [s7.1]; exact z56
    clear s7 O6 R6 E6 G6 O66 z56
    have hcl2 : (c.length : Int) = (len : Int) := by rw [HCL.out]
    have CM := Lib.hid (markInts_any c v3 w7 O7 (by rw [HCL.out]; omega))
    rw [hcl2] at CM
    clear hcl2
    have k0 : ¬ ((len : Int) + 1 < 0) := by omega
    go_wp2_with fail
    refine CM.out.mono ?_
    rintro e w8 ⟨rfl, o8, g8, z8⟩
    have z48 : w4.heap.size ≤ w8.heap.size := by omega
    have b8 : Below w2.heap.size w7 w8 := (Below.refl _ _).grown g8 (by omega) (fun q hq => (O7.out.1.lt q hq).1)
    have E8 := Lib.hid (E7.out.below b8)
    have G8 := Lib.hid (G7.out.grownT O7.out (.inl (Nat.le_refl _)) g8)
    have B8 := Lib.hid (B7.out.trans (b8.mono B2.out.size))
    have R8 := Lib.hid (hr.out.below B8.out)
    have z08 := B8.out.size
    clear o8 g8 z8 b8 O7 R7 E7 G7 CM
    go_wp2_with fail
    refine (eqRows_yes l v4 v2 w8 G8 E8 (by omega) HR.out).mono ?_
    rintro e w9 ⟨rfl, s9⟩
    have E9 := Lib.hid (E8.out.same s9.1)
    have G9 := Lib.hid (G8.out.same s9.1)
    have B9 := Lib.hid (B8.out.trans (s9.below _))
    have z49 : w4.heap.size ≤ w9.heap.size := by rw [s9.1]; exact z48
    have z09 : w.heap.size ≤ w9.heap.size := by rw [s9.1]; exact z08
    clear s9 E8 G8 R8
    have hm := markRows_any 1 l v4 RV4 w9 G9 HD.out (by rw [← HN.out]; omega) (by omega) HR.out
    rw [← HN.out] at hm
    have HM := Lib.hid hm
    clear hm
    go_wp2_with fail
    refine HM.out.mono ?_
    rintro e w10 ⟨rfl, g10, s10⟩
    have G10 := Lib.hid g10
    have E10 := Lib.hid (E9.out.spotsT s10 (fun u hu q hq => Nat.le_trans z23 (HB.out u hu q hq)))
    have B10 : Hid (Below w.heap.size w w10) := B9.out.trans (s10.below z09 (fun u hu q hq => Nat.le_trans z03 (HB.out u hu q hq)))
    have z410 : w4.heap.size ≤ w10.heap.size := by rw [s10.4]; exact z49
    have R10 := Lib.hid (hr.out.below B10.out)
    clear g10 s10 E9 G9 HM
    have hh := heldRows_any 1 l v4 RV4 w10 G10 (by rw [← HN.out]; omega) (by omega) HR.out
    rw [← HN.out] at hh
    have HH := Lib.hid hh
    clear hh
    go_wp2_with fail
    refine HH.out.mono ?_
    rintro e w11 ⟨rfl, rfl⟩
    clear HH
    go_wp2_with fail
    refine (CT.out w10 R10).mono ?_
    rintro e w12 ⟨v12, rfl, o12, b12⟩
    have z12 := b12.size
    have O12 := Lib.hid o12
    have E12 := Lib.hid (E10.out.below (b12.mono (by omega)))
    have G12 := Lib.hid (G10.out.below (b12.mono z410))
    have B12 := Lib.hid (B10.out.trans (b12.mono B10.out.size))
    clear o12 b12 R10 E10 G10 B10
    go_wp2_with fail
    refine (CI.out v12 w12 _ _ O12 (Nat.le_refl _)).mono ?_
    rintro e w13 ⟨v13, RV13, rfl, g13, b13⟩
    have E13 := Lib.hid (E12.out.below (b13.mono (by omega)))
    have G13 := Lib.hid (G12.out.below (b13.mono (by omega)))
    have GG13 := Lib.hid g13.grid
    have B13 := Lib.hid (B12.out.trans (b13.mono B12.out.size))
    clear g13 b13 E12 G12 B12 O12
    go_wp2_with fail
    refine (eqRows_yes l v13 v2 w13 GG13 E13 (by omega) HR.out).mono ?_
    rintro e w14 ⟨rfl, s14⟩
    have G14 := Lib.hid (G13.out.same s14.1)
    have B14 := Lib.hid (B13.out.trans (s14.below _))
    clear s14
    have hh := heldRows_any 1 l v4 RV4 w14 G14 (by rw [← HN.out]; omega) (by omega) HR.out
    rw [← HN.out] at hh
    have HH := Lib.hid hh
    clear hh
    go_wp2_with fail
    refine HH.out.mono ?_
    rintro e w15 ⟨rfl, rfl⟩
    go_wp2
    go_ret
    exact ⟨rfl, B14.out⟩
end Go.Proofs.Ytpegajdjeliffaa
