/-
  The contracts of the program's functions that answer a word's arms, its nodes between their arms, its triangles, its row behind a stack.
-/
import Derived.Test.YtddhiokpdhahbaaCArms
import Derived.Test.YtddhiokpdhahbaaZP
namespace Go.Proofs.Ytddhiokpdhahbaa
open Go.RowKit

theorem stackL18 (s : List UInt8) (h : scan s = some 0) (h18 : s.length ≤ 18) : stackL s = (btwP 18 s 0).map fun (k : Nat) => (k : Int) := by
  rw [stackL, stackF, fold_btw 18 s [] [] 0 h h18]; rfl
/-- what is answered: rows in the call's own memory, no two in one block -/
def RowsNew (rows : List (List Int)) (w : World) (e : Ending) (w' : World) : Prop := ∃ v RV, e = .returned v ∧ GridA w' w.heap.size v RV rows ∧ Below w.heap.size w w'
theorem GridA.lo {w : World} {H B : Nat} {v : Value} {RV : List Value} {rows : List (List Int)} (h : GridA w H v RV rows) (hB : B ≤ H) : GridA w B v RV rows := ⟨h.grid.lo hB, h.dist⟩
theorem RowsNew.rows {rows : List (List Int)} {w : World} {e : Ending} {w' : World} (h : RowsNew rows w e w') : RowsOut rows w e w' := by
  obtain ⟨v, RV, rfl, hG, hb⟩ := h
  exact ⟨v, RV, rfl, hG.grid, hb⟩
theorem nilNew (w w' : World) (hb : Below w.heap.size w w') : RowsNew [] w (.returned (.slice none 0 0)) w' := ⟨_, [], rfl, GridA.nil _ _, hb⟩
theorem iv_ints (l : List Nat) : iv (l.map fun (k : Nat) => (k : Int)) = ints l := (ints_iv l).symm

set_option maxHeartbeats 800000 in
theorem implTrianglesOf_yes (s : ByteArray) (w : World) (hv : Hid (valid s.data.toList = true)) :
    Calls Try.prog 27 #[.string s] w (RowsNew (fansL 18 s.data.toList 0 (s.data.toList.length / 2 + 1)) w) := by
  have h18 := valid_size hv.out
  have hsm : s.size ≤ maxLen := by unfold maxLen; omega
  have HSC := Lib.hid (valid_scan hv.out).1
  have HL := Lib.hid (show s.data.toList.length ≤ 18 by rw [size_list]; exact h18)
  go_enter Try.func27, Try.ntmps27
  go_wp2_with (first
    | (go_at_call 13; refine (implValid_is true _ _ hsm hv).mono ?_; rintro e w1 ⟨rfl, hb1⟩)
    | (go_at_call 50; refine (firstNode_any s _ hv).mono ?_; rintro e w2 ⟨p, rfl, hT, hb2⟩))
  have HT := Lib.hid hT
  have HB1 := Lib.hid hb1
  have HB2 := Lib.hid hb2
  have HC := Lib.hid (appendTriangles_any 18 s.data.toList 0 0 (s.data.toList.length / 2 + 1) p (.slice none 0 0) [] [] w2 HT ⟨HSC.out, HL.out⟩ (Nat.le_refl _) (Lib.hid (GridA.nil w2 w2.heap.size)) (Lib.hid (Nat.le_refl _)) (by have := HL.out; simp only [List.length_nil]; omega) (by have := HL.out; omega) (show _ = _ by omega))
  clear hT hb1 hb2
  refine HC.out.mono ?_
  rintro e w3 ⟨v, RV, rfl, hG, hb3⟩
  obtain ⟨a, n, c, rfl⟩ := hG.form
  have h1 := HB1.out.size
  have h2 := HB2.out.size
  have HG := Lib.hid (hG.lo (B := w.heap.size) (by omega))
  have HB := Lib.hid (HB1.out.trans ((HB2.out.mono h1).trans (hb3.mono (by omega))))
  clear hG hb3 HC h1 h2
  go_wp2
  go_ret
  exact ⟨_, RV, rfl, HG.out, HB.out⟩
theorem implTrianglesOf_no (s : ByteArray) (w : World) (hs : s.size ≤ maxLen) (hv : Hid (valid s.data.toList = false)) :
    Calls Try.prog 27 #[.string s] w (RowsNew [] w) := by
  go_enter Try.func27, Try.ntmps27
  go_wp2_with (go_at_call 13; refine (implValid_is false _ _ hs hv).mono ?_; rintro e w1 ⟨rfl, hb⟩)
  go_ret
  exact nilNew _ _ (by assumption)
theorem implTrianglesOf_any (s : ByteArray) (w : World) (hs : s.size ≤ maxLen) :
    Calls Try.prog 27 #[.string s] w (RowsNew (fanOut s.data.toList) w) := by
  cases hv : valid s.data.toList with
  | true => rw [fanOut, if_pos hv]; exact implTrianglesOf_yes s w hv
  | false => rw [fanOut, if_neg (by rw [hv]; decide)]; exact implTrianglesOf_no s w hs hv

end Go.Proofs.Ytddhiokpdhahbaa
