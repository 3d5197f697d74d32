/-
  The contracts of the model's functions that answer a word's arms, its triangles and its row behind a stack.
-/
import Derived.Test.YtpphilladlladaaCFans
import Derived.Test.YtpphilladlladaaCStack
import Derived.Test.YtpphilladlladaaCDepths
namespace Go.Proofs.Ytpphilladlladaa
open Go.RowKit

/-- a list of rows in the call's own memory -/
def RowsOut (rows : List (List Int)) (w : World) (e : Ending) (w' : World) : Prop :=
  ∃ v RV, e = .returned v ∧ Grid w' w.heap.size w'.heap.size v RV rows ∧ Below w.heap.size w w'
theorem GridOut.rows {rows : List (List Int)} {w : World} {e : Ending} {w' : World} (h : GridOut w.heap.size rows w e w') : RowsOut rows w e w' := by
  obtain ⟨g, c, RV, rfl, hG, hb⟩ := h
  exact ⟨_, RV, rfl, hG, hb⟩
theorem nilRows (w w' : World) (hb : Below w.heap.size w w') : RowsOut [] w (.returned (.slice none 0 0)) w' :=
  ⟨_, [], rfl, ⟨⟨World.ownsRow_nil _ _ _ _, fun q hq => by simp [Value.ownBlock] at hq⟩, RowsI.nil⟩, hb⟩

def binOut (l : List UInt8) : List (List Int) := if valid l then binL 18 l 0 else []
def fanOut (l : List UInt8) : List (List Int) := if valid l then fansL 18 l 0 (l.length / 2 + 1) else []
def stackOut (l : List UInt8) : List Int := if valid l then stackL l else []

theorem specBinOf_yes (s : ByteArray) (w : World) (hv : Hid (valid s.data.toList = true)) :
    Calls Try.prog 12 #[.string s] w (RowsOut (binL 18 s.data.toList 0) w) := by
  have h18 := valid_size hv.out
  have hsm : s.size ≤ maxLen := by unfold maxLen; omega
  have HB := Lib.hid (fun g c RV (rows : List (List Int)) (w' : World) => binFrom_any w.heap.size 18 s 0 g c RV rows w' h18 hv.out)
  go_enter Try.func12, Try.ntmps12
  go_wp2_with (go_at_call 39; refine (specValid_is true _ _ hsm hv).mono ?_; rintro e w1 ⟨rfl, rfl⟩)
  have hl := lit_own2 w #[] 29 (by decide)
  refine (HB.out _ _ [] [] _ (by simp; omega) (by omega) (by simp) (Lib.hid ⟨hl.more (by simp), RowsI.nil⟩)).mono ?_
  rintro e w1 ⟨g, c, RV, rfl, hG, hb⟩
  go_wp2
  go_ret
  exact ⟨_, _, rfl, hG, ((Below.refl _ _).alloc (Nat.le_refl _) _).trans (hb.mono (by simp))⟩
theorem specBinOf_no (s : ByteArray) (w : World) (hs : s.size ≤ maxLen) (hv : Hid (valid s.data.toList = false)) :
    Calls Try.prog 12 #[.string s] w (RowsOut [] w) := by
  go_enter Try.func12, Try.ntmps12
  go_wp2_with (go_at_call 39; refine (specValid_is false _ _ hs hv).mono ?_; rintro e w1 ⟨rfl, rfl⟩)
  go_ret
  exact nilRows _ _ (Below.refl _ _)
theorem specBinOf_any (s : ByteArray) (w : World) (hs : s.size ≤ maxLen) :
    Calls Try.prog 12 #[.string s] w (RowsOut (binOut s.data.toList) w) := by
  cases hv : valid s.data.toList with
  | true => rw [binOut, if_pos hv]; exact specBinOf_yes s w hv
  | false => rw [binOut, if_neg (by rw [hv]; decide)]; exact specBinOf_no s w hs hv

theorem specTrianglesOf_yes (s : ByteArray) (w : World) (hv : Hid (valid s.data.toList = true)) :
    Calls Try.prog 28 #[.string s] w (RowsOut (fansL 18 s.data.toList 0 (s.data.toList.length / 2 + 1)) w) := by
  have h18 := valid_size hv.out
  have hsm : s.size ≤ maxLen := by unfold maxLen; omega
  rw [size_list]
  obtain ⟨hi, hhi⟩ : ∃ hi, hi = s.size / 2 + 1 := ⟨_, rfl⟩
  have e1 : (s.size : Int) / 2 + 1 = (hi : Int) := by omega
  have e2 : Int.tdiv (s.size : Int) 2 + 1 = (hi : Int) := by rw [Int.tdiv_eq_ediv_of_nonneg (by omega)]; exact e1
  have hh : hi ≤ 10 := by omega
  rw [← hhi]
  have HB := Lib.hid (fun (w' : World) => fans_any 18 s 0 hi w' h18 hv.out (by omega) (by omega) (by omega))
  clear hhi
  go_enter Try.func28, Try.ntmps28
  go_wp2_with (go_at_call 39; refine (specValid_is true _ _ hsm hv).mono ?_; rintro e w1 ⟨rfl, rfl⟩)
  refine (HB.out _).mono ?_
  rintro e w1 h
  obtain ⟨v, RV, rfl, hG, hb⟩ := h.rows
  go_wp2
  go_ret
  exact ⟨_, _, rfl, hG, hb⟩
theorem specTrianglesOf_no (s : ByteArray) (w : World) (hs : s.size ≤ maxLen) (hv : Hid (valid s.data.toList = false)) :
    Calls Try.prog 28 #[.string s] w (RowsOut [] w) := by
  go_enter Try.func28, Try.ntmps28
  go_wp2_with (go_at_call 39; refine (specValid_is false _ _ hs hv).mono ?_; rintro e w1 ⟨rfl, rfl⟩)
  go_ret
  exact nilRows _ _ (Below.refl _ _)
theorem specTrianglesOf_any (s : ByteArray) (w : World) (hs : s.size ≤ maxLen) :
    Calls Try.prog 28 #[.string s] w (RowsOut (fanOut s.data.toList) w) := by
  cases hv : valid s.data.toList with
  | true => rw [fanOut, if_pos hv]; exact specTrianglesOf_yes s w hv
  | false => rw [fanOut, if_neg (by rw [hv]; decide)]; exact specTrianglesOf_no s w hs hv

theorem specStackRow_yes (s : ByteArray) (w : World) (hv : Hid (valid s.data.toList = true)) :
    Calls Try.prog 24 #[.string s] w (IntsOut (stackL s.data.toList) w) := by
  have h18 := valid_size hv.out
  have hsm : s.size ≤ maxLen := by unfold maxLen; omega
  go_enter Try.func24, Try.ntmps24
  go_wp2_with (go_at_call 39; refine (specValid_is true _ _ hsm hv).mono ?_; rintro e w1 ⟨rfl, rfl⟩)
  refine (stackRow_any s hv.out _).mono ?_
  rintro e w1 ⟨v, rfl, ho, hb⟩
  go_wp2
  go_ret
  exact ⟨_, rfl, ho, hb⟩
theorem specStackRow_no (s : ByteArray) (w : World) (hs : s.size ≤ maxLen) (hv : Hid (valid s.data.toList = false)) :
    Calls Try.prog 24 #[.string s] w (IntsOut [] w) := by
  go_enter Try.func24, Try.ntmps24
  go_wp2_with (go_at_call 39; refine (specValid_is false _ _ hs hv).mono ?_; rintro e w1 ⟨rfl, rfl⟩)
  go_ret
  exact nilOut _ _ (Below.refl _ _)
theorem specStackRow_any (s : ByteArray) (w : World) (hs : s.size ≤ maxLen) :
    Calls Try.prog 24 #[.string s] w (IntsOut (stackOut s.data.toList) w) := by
  cases hv : valid s.data.toList with
  | true => rw [stackOut, if_pos hv]; exact specStackRow_yes s w hv
  | false => rw [stackOut, if_neg (by rw [hv]; decide)]; exact specStackRow_no s w hs hv
end Go.Proofs.Ytpphilladlladaa
