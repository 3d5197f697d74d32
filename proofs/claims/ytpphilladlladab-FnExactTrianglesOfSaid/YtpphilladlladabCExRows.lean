/-
  What the two statements on answered rows want: how long the rows are; what the marks leave alone.
-/
import Derived.Test.YtpphilladlladabCStackI
import Derived.Test.YtpphilladlladabCMarks
namespace Go.Proofs.Ytpphilladlladab
open Go.RowKit

theorem stackOut_length (s : ByteArray) : (stackOut s.data.toList).length ≤ 18 := by
  unfold stackOut
  split
  · rename_i h
    have h1 := valid_scan h
    rw [stackL18 _ h1.1 (by rw [size_list]; exact h1.2), List.length_map, btwP_length 18 _ 0 h1.1 (by rw [size_list]; exact h1.2)]
    have := h1.2
    omega
  · simp
theorem binL_rows : ∀ (f : Nat) (s : List UInt8) (n : Nat), ∀ r ∈ binL f s n, r.length ≤ 3 := by
  intro f
  induction f with
  | zero => intro s n r hr; simp [binL] at hr
  | succ f ih =>
    intro s n r hr
    by_cases hs : s = []
    · subst hs; rw [binL_nil] at hr; simp at hr
    · rw [binL_cons _ _ _ hs] at hr
      simp only [List.mem_cons, List.mem_append] at hr
      rcases hr with rfl | hr | hr
      · simp
      · exact ih _ _ r hr
      · exact ih _ _ r hr
theorem fansL_rows : ∀ (f : Nat) (s : List UInt8) (lo hi : Nat), ∀ r ∈ fansL f s lo hi, r.length ≤ 3 := by
  intro f
  induction f with
  | zero => intro s lo hi r hr; simp [fansL] at hr
  | succ f ih =>
    intro s lo hi r hr
    by_cases hs : s = []
    · subst hs; rw [fansL_nil] at hr; simp at hr
    · rw [fansL_cons _ _ _ _ hs] at hr
      simp only [List.mem_cons, List.mem_append] at hr
      rcases hr with rfl | hr | hr
      · simp
      · exact ih _ _ _ r hr
      · exact ih _ _ _ r hr
theorem binOut_size (s : ByteArray) : (binOut s.data.toList).length ≤ 9 ∧ ∀ r ∈ binOut s.data.toList, r.length ≤ 3 := by
  unfold binOut
  split
  · rename_i h
    have h1 := valid_scan h
    refine ⟨?_, binL_rows _ _ _⟩
    rw [binL_length 18 _ 0 h1.1 (by rw [size_list]; exact h1.2)]
    have := h1.2
    omega
  · simp
theorem fanOut_size (s : ByteArray) : (fanOut s.data.toList).length ≤ 9 ∧ ∀ r ∈ fanOut s.data.toList, r.length ≤ 3 := by
  unfold fanOut
  split
  · rename_i h
    have h1 := valid_scan h
    refine ⟨?_, fansL_rows _ _ _ _⟩
    rw [fansL_length 18 _ 0 _ h1.1 (by rw [size_list]; exact h1.2)]
    have := h1.2
    omega
  · simp
theorem offs_bound (rows : List (List Int)) (h : ∀ r ∈ rows, r.length ≤ 3) : ∀ j, offs rows j ≤ 3 * j := by
  intro j
  induction j with
  | zero => simp [offs]
  | succ j ih =>
    have : (rows.getD j []).length ≤ 3 := by
      rw [List.getD_eq_getElem?_getD]
      cases hj : rows[j]? with
      | none => simp
      | some r => exact h r (List.mem_of_getElem? hj)
    rw [offs]; omega
theorem Grid.spots {w w' : World} {B H : Nat} {v : Value} {RV RV1 : List Value} {rows : List (List Int)} (h : Grid w B H v RV rows) (hs : Spots w w' RV1) (hH : ∀ u ∈ RV1, ∀ q, u.ownBlock = some q → H ≤ q) : Grid w' B H v RV rows := by
  have key : ∀ {t : TypeId} {x : Value} {xs : List Value}, Own w B H t x xs → Own w' B H t x xs := fun {t x xs} ho => ho.spots hs (fun u hu => by
    cases hx : x.ownBlock with
    | none => exact .inl rfl
    | some g =>
      right
      intro e
      have h1 := ho.2 g hx
      have h2 := hH u hu g e.symm
      omega)
  exact ⟨key h.1, h.2.1, fun i u r h1 h2 => key (h.2.2 i u r h1 h2)⟩
theorem GridA.bases {w : World} {H : Nat} {v : Value} {RV : List Value} {rows : List (List Int)} (h : GridA w H v RV rows) : ∀ u ∈ RV, ∀ q, u.ownBlock = some q → H ≤ q := by
  intro u hu q hq
  obtain ⟨i, hi, rfl⟩ := List.getElem_of_mem hu
  have hi' : i < rows.length := by rw [← h.grid.2.1]; exact hi
  exact ((h.grid.2.2 i _ _ (List.getElem?_eq_getElem hi) (List.getElem?_eq_getElem hi')).1.lt q hq).1
end Go.Proofs.Ytpphilladlladab
