/-
  The walks of chapter 4's exact statements, given the contracts of the program's functions.
-/
import Derived.Test.YtcfenbienebbjaaCTurnG
import Derived.Test.YtcfenbienebbjaaCTextsB
namespace Go.Proofs.Ytcfenbienebbjaa
open Go.RowKit

theorem exactToFlat_walk (HF : Hid (∀ (s : ByteArray) (w : World), s.size ≤ maxLen → Calls Try.prog 17 #[.string s] w fun e w' => e = .returned (.int .i64 (flatTx s.data.toList)) ∧ Below w.heap.size w w'))
    (s : ByteArray) (w : World) (hs : s.size ≤ maxLen) :
    Calls Try.prog 6 #[.string s] w fun e w' => e = .returned (.bool true) ∧ Below w.heap.size w w' := by
  by_cases hbigs : (1048576 : Int) < (s.size : Int)
  · go_enter Try.func6, Try.ntmps6
    go_wp2
    go_ret
    exact ⟨rfl, Below.refl _ _⟩
  have c1 := fun w => specToFlat_any s w hs
  have c2 := fun w => HF.out s w hs
  obtain ⟨E, hE⟩ : ∃ E, E = flatTx s.data.toList := ⟨_, rfl⟩
  simp only [← hE] at c1 c2
  have C1 := Lib.hid c1
  have C2 := Lib.hid c2
  clear c1 c2 hE
  go_enter Try.func6, Try.ntmps6
  go_wp2_with fail
  refine (C1.out _).mono ?_
  rintro e w1 ⟨rfl, rfl⟩
  go_wp2_with fail
  refine (C2.out _).mono ?_
  rintro e w1 ⟨rfl, hbl⟩
  go_wp2
  go_ret
  exact ⟨rfl, hbl⟩

theorem exactMost_walk (HM : Hid (∀ (n : Int) (w : World), (Lit.int .i64 n).wf = true → Calls Try.prog 15 #[.int .i64 n] w fun e w' => e = .returned (.int .i64 (mostOut n)) ∧ Below w.heap.size w w'))
    (n : Int) (w : World) (hn : (Lit.int .i64 n).wf = true) :
    Calls Try.prog 5 #[.int .i64 n] w fun e w' => e = .returned (.bool true) ∧ Below w.heap.size w w' := by
  have c1 := fun w => specMost_any n w
  have c2 := fun w => HM.out n w hn
  obtain ⟨E, hE⟩ : ∃ E, E = mostOut n := ⟨_, rfl⟩
  simp only [← hE] at c1 c2
  have C1 := Lib.hid c1
  have C2 := Lib.hid c2
  clear c1 c2 hE
  go_enter Try.func5, Try.ntmps5
  go_wp2_with fail
  refine (C1.out _).mono ?_
  rintro e w1 ⟨rfl, hb1⟩
  go_wp2_with fail
  refine (C2.out _).mono ?_
  rintro e w2 ⟨rfl, hb2⟩
  go_wp2
  go_ret
  exact ⟨rfl, hb1.trans (hb2.mono hb1.size)⟩

theorem exactBetween_walk (HB : Hid (∀ (s t : ByteArray) (w : World), s.size ≤ maxLen → t.size ≤ maxLen → Calls Try.prog 13 #[.string s, .string t] w fun e w' => e = .returned (.int .i64 (btwOut s.data.toList t.data.toList)) ∧ Below w.heap.size w w'))
    (s t : ByteArray) (w : World) (hs : s.size ≤ maxLen) (ht : t.size ≤ maxLen) :
    Calls Try.prog 4 #[.string s, .string t] w fun e w' => e = .returned (.bool true) ∧ Below w.heap.size w w' := by
  by_cases hbigs : (1048576 : Int) < (s.size : Int)
  · go_enter Try.func4, Try.ntmps4
    go_wp2
    go_ret
    exact ⟨rfl, Below.refl _ _⟩
  by_cases hbigt : (1048576 : Int) < (t.size : Int)
  · go_enter Try.func4, Try.ntmps4
    go_wp2
    go_ret
    exact ⟨rfl, Below.refl _ _⟩
  have c1 := fun w => specBetween_any s t w hs ht
  have c2 := fun w => HB.out s t w hs ht
  obtain ⟨E, hE⟩ : ∃ E, E = btwOut s.data.toList t.data.toList := ⟨_, rfl⟩
  simp only [← hE] at c1 c2
  have C1 := Lib.hid c1
  have C2 := Lib.hid c2
  clear c1 c2 hE
  go_enter Try.func4, Try.ntmps4
  go_wp2_with fail
  refine (C1.out _).mono ?_
  rintro e w1 ⟨rfl, hb1⟩
  go_wp2_with fail
  refine (C2.out _).mono ?_
  rintro e w2 ⟨rfl, hb2⟩
  go_wp2
  go_ret
  exact ⟨rfl, hb1.trans (hb2.mono hb1.size)⟩

set_option maxHeartbeats 800000 in
theorem exactTurnsOf_walk (HT : Hid (∀ (s : ByteArray) (w : World), s.size ≤ maxLen → Calls Try.prog 8 #[.string s] w (TextsOut (turnsTx s.data.toList) w)))
    (s : ByteArray) (w : World) (hs : s.size ≤ maxLen) :
    Calls Try.prog 3 #[.string s] w fun e w' => e = .returned (.bool true) ∧ Below w.heap.size w w' := by
  by_cases hbig : (1048576 : Int) < (s.size : Int)
  · go_enter Try.func3, Try.ntmps3
    go_wp2
    go_ret
    exact ⟨rfl, Below.refl _ _⟩
  have hl := turnsTx_length s.data.toList
  have c1 := fun w => specTurnsOf_any s w hs
  have c2 := fun w => HT.out s w hs
  obtain ⟨l, hle⟩ : ∃ l, l = turnsTx s.data.toList := ⟨_, rfl⟩
  rw [← hle] at hl
  simp only [← hle] at c1 c2
  have C1 := Lib.hid c1
  have C2 := Lib.hid c2
  clear c1 c2 hle
  go_enter Try.func3, Try.ntmps3
  go_wp2_with fail
  refine (C1.out _).mono ?_
  rintro e w1 ⟨v0, rfl, o0, b0⟩
  go_wp2_with fail
  refine (C2.out _).mono ?_
  rintro e w2 ⟨v1, rfl, o1, b1⟩
  have O0 := Lib.hid (o0.below b1)
  have O1 := Lib.hid o1
  have hne : v0.ownBlock = none ∨ v0.ownBlock ≠ v1.ownBlock := by
    cases h0 : v0.ownBlock with
    | none => exact .inl rfl
    | some g =>
      right
      intro e
      have h2 := o0.2 g h0
      have h3 := (o1.1.lt g e.symm).1
      omega
  have B2 := Lib.hid (b0.trans (b1.mono b0.size))
  have z0 := b0.size
  have z1 := b1.size
  clear o0 o1 b0 b1
  go_wp2_with fail
  refine (eqTexts_yes l v1 v0 w2 O1 O0 (by omega)).mono ?_
  rintro e w3 ⟨rfl, s3⟩
  have O0' := Lib.hid (O0.out.same s3.1)
  have O1' := Lib.hid (O1.out.same s3.1)
  have B3 := Lib.hid (B2.out.trans (s3.below w.heap.size))
  have z3 : w3.heap.size = w2.heap.size := by rw [s3.1]
  have z3' : w2.heap.size ≤ w3.heap.size := by omega
  have Z3 := Lib.hid z3
  clear s3 z3
  go_wp2_with fail
  refine (markTexts_any (sv l) v1 w3 O1' z3' (by rw [sv_length]; omega)).mono ?_
  rintro e w4 ⟨rfl, o4, g4⟩
  rw [sv_length] at o4 ⊢
  have O4 := Lib.hid o4
  have O04 := Lib.hid (O0'.out.grown g4 hne)
  have B4 : Hid (Below w.heap.size w w4) := B3.out.grown g4 (by omega) (fun q hq => by
    have := (O1'.out.1.lt q hq).1; omega)
  have z4 := g4.size
  have z24 : w2.heap.size ≤ w4.heap.size := by omega
  clear o4 g4
  go_wp2_with fail
  refine (heldTexts_any l.length v1 w4 O4 z24 (by omega)).mono ?_
  rintro e w5 ⟨rfl, b5⟩
  have O5 := Lib.hid (O4.out.below (b5.mono z24))
  have O05 := Lib.hid (O04.out.below (b5.mono (by omega)))
  have B5 := Lib.hid (B4.out.trans (b5.mono (by omega)))
  have z5 := b5.size
  clear b5
  go_wp2_with fail
  refine (C2.out _).mono ?_
  rintro e w6 ⟨v6, rfl, o6, b6⟩
  have O6 := Lib.hid o6
  have O06 := Lib.hid ((O05.out.more (by omega : w1.heap.size ≤ w5.heap.size)).below b6)
  have O16 := Lib.hid ((O5.out.more (by omega : w2.heap.size ≤ w5.heap.size)).below b6)
  have B6 := Lib.hid (B5.out.trans (b6.mono (by omega)))
  have z6 := b6.size
  clear o6 b6
  go_wp2_with fail
  refine (eqTexts_yes l v6 v0 w6 O6 O06 (by omega)).mono ?_
  rintro e w7 ⟨rfl, s7⟩
  have O17 := Lib.hid (O16.out.same s7.1)
  have B7 := Lib.hid (B6.out.trans (s7.below w.heap.size))
  have z7 : w6.heap.size ≤ w7.heap.size := by rw [s7.1]; exact Nat.le_refl _
  clear s7
  go_wp2_with fail
  refine (heldTexts_any l.length v1 w7 O17 (by omega) (by omega)).mono ?_
  rintro e w8 ⟨rfl, b8⟩
  have B8 := Lib.hid (B7.out.trans (b8.mono (by omega)))
  clear b8
  go_wp2
  go_ret
  exact ⟨rfl, B8.out⟩
end Go.Proofs.Ytcfenbienebbjaa
