/-
  The contracts of the program's functions that answer a word's arms, its nodes between their arms, its triangles, its row behind a stack.
-/
import Derived.Test.YtooplolalbcmjaaCArms
import Derived.Test.YtooplolalbcmjaaZP
namespace Go.Proofs.Ytooplolalbcmjaa
open Go.RowKit

theorem stackL18 (s : List UInt8) (h : scan s = some 0) (h18 : s.length ≤ 18) : stackL s = (btwP 18 s 0).map fun (k : Nat) => (k : Int) := by
  rw [stackL, stackF, fold_btw 18 s [] [] 0 h h18]; rfl
/-- what is answered: rows in the call's own memory, no two in one block -/
def RowsNew (rows : List (List Int)) (w : World) (e : Ending) (w' : World) : Prop := ∃ v RV, e = .returned v ∧ GridA w' w.heap.size v RV rows ∧ Below w.heap.size w w'
theorem GridA.lo {w : World} {H B : Nat} {v : Value} {RV : List Value} {rows : List (List Int)} (h : GridA w H v RV rows) (hB : B ≤ H) : GridA w B v RV rows := ⟨h.grid.lo hB, h.dist⟩
theorem RowsNew.rows {rows : List (List Int)} {w : World} {e : Ending} {w' : World} (h : RowsNew rows w e w') : RowsOut rows w e w' := by
  obtain ⟨v, RV, rfl, hG, hb⟩ := h
  exact ⟨v, RV, rfl, hG.grid, hb⟩
theorem nilNew (w w' : World) (hb : Below w.heap.size w w') : RowsNew [] w (.returned (.slice none 0 0)) w' := ⟨_, [], rfl, GridA.nil _ _, hb⟩
theorem iv_ints (l : List Nat) : iv (l.map fun (k : Nat) => (k : Int)) = ints l := (ints_iv l).symm

set_option maxHeartbeats 800000 in
theorem implBinOf_yes (s : ByteArray) (w : World) (hv : Hid (valid s.data.toList = true)) :
    Calls Try.prog 24 #[.string s] w (RowsNew (binL 18 s.data.toList 0) w) := by
  have h18 := valid_size hv.out
  have hsm : s.size ≤ maxLen := by unfold maxLen; omega
  have HSC := Lib.hid (valid_scan hv.out).1
  have HL := Lib.hid (show s.data.toList.length ≤ 18 by rw [size_list]; exact h18)
  go_enter Try.func24, Try.ntmps24
  go_wp2_with (first
    | (go_at_call 27; refine (implValid_is true _ _ hsm hv).mono ?_; rintro e w1 ⟨rfl, hb1⟩)
    | (go_at_call 60; refine (firstNode_any s _ hv).mono ?_; rintro e w2 ⟨p, rfl, hT, hb2⟩))
  have HT := Lib.hid hT
  have HB1 := Lib.hid hb1
  have HB2 := Lib.hid hb2
  have HC := Lib.hid (appendArms_any 18 s.data.toList 0 p (.slice none 0 0) [] [] w2 HT ⟨HSC.out, HL.out⟩ (Nat.le_refl _) (Lib.hid (GridA.nil w2 w2.heap.size)) (Lib.hid (Nat.le_refl _)) (by have := HL.out; simp only [List.length_nil]; omega))
  clear hT hb1 hb2
  refine HC.out.mono ?_
  rintro e w3 ⟨v, RV, rfl, hG, hb3⟩
  obtain ⟨a, n, c, rfl⟩ := hG.form
  have h1 := HB1.out.size
  have h2 := HB2.out.size
  have HG := Lib.hid (hG.lo (B := w.heap.size) (by omega))
  have HB := Lib.hid (HB1.out.trans ((HB2.out.mono h1).trans (hb3.mono (by omega))))
  clear hG hb3 HC h1 h2
  go_wp2
  go_ret
  exact ⟨_, RV, rfl, HG.out, HB.out⟩
theorem implBinOf_no (s : ByteArray) (w : World) (hs : s.size ≤ maxLen) (hv : Hid (valid s.data.toList = false)) :
    Calls Try.prog 24 #[.string s] w (RowsNew [] w) := by
  go_enter Try.func24, Try.ntmps24
  go_wp2_with (go_at_call 27; refine (implValid_is false _ _ hs hv).mono ?_; rintro e w1 ⟨rfl, hb⟩)
  go_ret
  exact nilNew _ _ (by assumption)
theorem implBinOf_any (s : ByteArray) (w : World) (hs : s.size ≤ maxLen) :
    Calls Try.prog 24 #[.string s] w (RowsNew (binOut s.data.toList) w) := by
  cases hv : valid s.data.toList with
  | true => rw [binOut, if_pos hv]; exact implBinOf_yes s w hv
  | false => rw [binOut, if_neg (by rw [hv]; decide)]; exact implBinOf_no s w hs hv

set_option maxHeartbeats 800000 in
theorem implBetweenOf_yes (s : ByteArray) (w : World) (hv : Hid (valid s.data.toList = true)) :
    Calls Try.prog 25 #[.string s] w (IntsOut (stackL s.data.toList) w) := by
  have h18 := valid_size hv.out
  have hsm : s.size ≤ maxLen := by unfold maxLen; omega
  have HSC := Lib.hid (valid_scan hv.out).1
  have HL := Lib.hid (show s.data.toList.length ≤ 18 by rw [size_list]; exact h18)
  go_enter Try.func25, Try.ntmps25
  go_wp2_with (first
    | (go_at_call 27; refine (implValid_is true _ _ hsm hv).mono ?_; rintro e w1 ⟨rfl, hb1⟩)
    | (go_at_call 60; refine (firstNode_any s _ hv).mono ?_; rintro e w2 ⟨p, rfl, hT, hb2⟩))
  have HT := Lib.hid hT
  have HB1 := Lib.hid hb1
  have HB2 := Lib.hid hb2
  have HC := Lib.hid (appendBetween_any 18 s.data.toList 0 p (.slice none 0 0) [] w2 HT ⟨HSC.out, HL.out⟩ (Lib.hid (World.ownsRow_nil _ _ _ _)) (Lib.hid (Nat.le_refl _)) (by have := HL.out; simp only [List.length_nil]; omega))
  clear hT hb1 hb2
  refine HC.out.mono ?_
  rintro e w3 ⟨v, rfl, hO, hb3⟩
  obtain ⟨n, hn⟩ : ∃ n, n = ([] ++ btwP 18 s.data.toList 0).length := ⟨_, rfl⟩
  rw [← hn] at hO
  obtain ⟨a, c, rfl, _, _⟩ := own_shape hO
  have h1 := HB1.out.size
  have h2 := HB2.out.size
  have HO := Lib.hid hO
  have HN := Lib.hid hn
  have HB := Lib.hid (HB1.out.trans ((HB2.out.mono h1).trans (hb3.mono (by omega))))
  have HH := Lib.hid (show w.heap.size ≤ w2.heap.size by omega)
  clear hO hb3 HC h1 h2 hn
  go_wp2
  go_ret
  refine ⟨_, rfl, ?_, HB.out⟩
  rw [stackL18 _ HSC.out HL.out, iv_ints]
  refine own_lo (B := w2.heap.size) (Own.of_own ?_) HH.out
  have h := HO.out
  rw [HN.out] at h ⊢
  rw [ints_length]
  exact h
theorem implBetweenOf_no (s : ByteArray) (w : World) (hs : s.size ≤ maxLen) (hv : Hid (valid s.data.toList = false)) :
    Calls Try.prog 25 #[.string s] w (IntsOut [] w) := by
  go_enter Try.func25, Try.ntmps25
  go_wp2_with (go_at_call 27; refine (implValid_is false _ _ hs hv).mono ?_; rintro e w1 ⟨rfl, hb⟩)
  go_ret
  exact nilOut _ _ (by assumption)
theorem implBetweenOf_any (s : ByteArray) (w : World) (hs : s.size ≤ maxLen) :
    Calls Try.prog 25 #[.string s] w (IntsOut (stackOut s.data.toList) w) := by
  cases hv : valid s.data.toList with
  | true => rw [stackOut, if_pos hv]; exact implBetweenOf_yes s w hv
  | false => rw [stackOut, if_neg (by rw [hv]; decide)]; exact implBetweenOf_no s w hs hv
end Go.Proofs.Ytooplolalbcmjaa
