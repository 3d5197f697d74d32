/-
  What holds of a word's rows and triangles, in the form in which the statements want it.
-/
import Derived.Test.YtpphilladlladaaCReader
import Derived.Test.YtpphilladlladaaCFamI
import Derived.Test.YtpphilladlladaaWSz
import Derived.Test.YtpphilladlladaaWArms
import Derived.Test.YtpphilladlladaaCBtwB
import Derived.Test.YtpphilladlladaaCIsIn
namespace Go.Proofs.Ytpphilladlladaa
open Go.RowKit

theorem binL_pairs : ∀ (f : Nat) (s : List UInt8) (n : Nat), ∀ r ∈ binL f s n, r.length = 2 := by
  intro f
  induction f with
  | zero => intro s n r hr; simp [binL] at hr
  | succ f ih =>
    intro s n r hr
    by_cases hs : s = []
    · subst hs; rw [binL_nil] at hr; simp at hr
    · rw [binL_cons _ _ _ hs] at hr
      simp only [List.mem_cons, List.mem_append] at hr
      rcases hr with rfl | hr | hr
      · simp
      · exact ih _ _ r hr
      · exact ih _ _ r hr
theorem fansL_threes : ∀ (f : Nat) (s : List UInt8) (lo hi : Nat), ∀ r ∈ fansL f s lo hi, r.length = 3 := by
  intro f
  induction f with
  | zero => intro s lo hi r hr; simp [fansL] at hr
  | succ f ih =>
    intro s lo hi r hr
    by_cases hs : s = []
    · subst hs; rw [fansL_nil] at hr; simp at hr
    · rw [fansL_cons _ _ _ _ hs] at hr
      simp only [List.mem_cons, List.mem_append] at hr
      rcases hr with rfl | hr | hr
      · simp
      · exact ih _ _ _ r hr
      · exact ih _ _ _ r hr
theorem binOut_small (s : ByteArray) : (binOut s.data.toList).length ≤ 9 ∧ ∀ r ∈ binOut s.data.toList, r.length = 2 := by
  unfold binOut
  split
  · rename_i h
    have h1 := valid_scan h
    refine ⟨?_, binL_pairs _ _ _⟩
    rw [binL_length 18 _ 0 h1.1 h1.2]
    have := h1.2
    omega
  · simp
theorem fanOut_small (s : ByteArray) : (fanOut s.data.toList).length ≤ 9 ∧ ∀ r ∈ fanOut s.data.toList, r.length = 3 := by
  unfold fanOut
  split
  · rename_i h
    have h1 := valid_scan h
    refine ⟨?_, fansL_threes _ _ _ _⟩
    rw [fansL_length 18 _ 0 _ h1.1 h1.2]
    have := h1.2
    omega
  · simp
theorem isInB_no {l : List Int} {x : Int} (h : x ∉ l) : isInB l x = false := by
  unfold isInB
  rw [List.any_eq_false]
  intro y hy e
  exact h (eq_of_beq e ▸ hy)
theorem binOut_facts {s : ByteArray} (h0 : 0 < (binOut s.data.toList).length) :
    bwV (binOut s.data.toList) = .tuple #[.string s, .bool true] ∧ (armsOf (binOut s.data.toList)).length + 1 = (binOut s.data.toList).length ∧ (armsOf (binOut s.data.toList)).Nodup ∧ isInB (armsOf (binOut s.data.toList)) 0 = false := by
  by_cases hv : valid s.data.toList = true
  · have e : binOut s.data.toList = binL 18 s.data.toList 0 := by rw [binOut, if_pos hv]
    have h1 := valid_scan hv
    have hne : s.data.toList ≠ [] := by
      intro e2
      rw [e, e2, binL_nil] at h0
      simp at h0
    have ht := binL_is_tree _ h1.1 h1.2 hne
    obtain ⟨a1, a2, a3⟩ := arms_facts h1.1 hne 18 h1.2
    have hb := (btw_word s.data.toList h1.1 h1.2 hne).2.1
    have hl := binL_length 18 s.data.toList 0 h1.1 h1.2
    rw [e] at h0 ⊢
    refine ⟨?_, by omega, a2, isInB_no a3⟩
    rw [bwV_yes ht (by omega)]
    have : wobS (binL 18 s.data.toList 0) 10 0 = s := bytes_ext (by show wobL (binL 18 s.data.toList 0) 10 0 = _; exact hb)
    rw [this]
  · rw [binOut, if_neg hv] at h0; simp at h0
/-- the nodes on arms of the rows ahead of k, and of row k so many -/
def armsTo (rows : List (List Int)) (k j : Nat) : List Int := armsOf (rows.take k) ++ ((rows.getD k []).take j).filter fun x => decide (0 ≤ x)
theorem armsTo_zero (rows : List (List Int)) (k : Nat) : armsTo rows k 0 = armsOf (rows.take k) := by simp [armsTo]
theorem armsTo_two {rows : List (List Int)} {k : Nat} (hk : k < rows.length) (h2 : (rows.getD k []).length = 2) : armsTo rows k 2 = armsOf (rows.take (k + 1)) := by
  have e : rows.getD k [] = rows[k] := by rw [List.getD_eq_getElem?_getD, List.getElem?_eq_getElem hk]; rfl
  rw [e] at h2
  have e3 : (rows[k]).take 2 = rows[k] := List.take_of_length_le (by omega)
  rw [armsTo, e, e3, List.take_succ_eq_append_getElem hk, armsOf_append, armsOf_cons]
  simp [armsOf]
theorem armsTo_step {rows : List (List Int)} {k j : Nat} {x : Int} (hj : (rows.getD k [])[j]? = some x) : armsTo rows k (j + 1) = if 0 ≤ x then armsTo rows k j ++ [x] else armsTo rows k j := by
  have hlt : j < (rows.getD k []).length := (List.getElem?_eq_some_iff.1 hj).1
  have hx : (rows.getD k [])[j] = x := (List.getElem?_eq_some_iff.1 hj).2
  rw [armsTo, armsTo, List.take_succ_eq_append_getElem hlt, hx, List.filter_append]
  by_cases h : 0 ≤ x
  · rw [if_pos h]; simp [h]
  · rw [if_neg h]; simp [h]
/-- how often two corners lie in one of the triangles ahead of one -/
def cntTo (rows : List (List Int)) (a b : Int) (i : Nat) : Nat := (rows.take i).countP fun r => isInB r a && isInB r b
theorem cntTo_step {rows : List (List Int)} {a b : Int} {i : Nat} (h : i < rows.length) : cntTo rows a b (i + 1) = cntTo rows a b i + if isInB rows[i] a && isInB rows[i] b then 1 else 0 := by
  unfold cntTo
  rw [List.take_succ_eq_append_getElem h, List.countP_append, List.countP_cons, List.countP_nil]
  simp
theorem isInB_mem (l : List Int) (x : Int) : isInB l x = decide (x ∈ l) := by
  by_cases h : x ∈ l
  · rw [decide_eq_true h]
    unfold isInB
    exact List.any_eq_true.2 ⟨x, h, beq_self_eq_true x⟩
  · rw [decide_eq_false h]; exact isInB_no h
theorem fan_facts {s : ByteArray} (h0 : 0 < (fanOut s.data.toList).length) : (fanOut s.data.toList).length = s.size / 2 ∧ ∀ a b : Nat, a < b → b < s.size / 2 + 2 →
    ((b = a + 1 ∨ (a = 0 ∧ b = s.size / 2 + 1)) → cntTo (fanOut s.data.toList) a b (fanOut s.data.toList).length = 1) ∧
    (¬ (b = a + 1 ∨ (a = 0 ∧ b = s.size / 2 + 1)) → cntTo (fanOut s.data.toList) a b (fanOut s.data.toList).length = 0 ∨ cntTo (fanOut s.data.toList) a b (fanOut s.data.toList).length = 2) := by
  by_cases hv : valid s.data.toList = true
  · have e : fanOut s.data.toList = fansL 18 s.data.toList 0 (s.data.toList.length / 2 + 1) := by rw [fanOut, if_pos hv]
    have h1 := valid_scan hv
    have hsz := size_list s
    have hne : s.data.toList ≠ [] := by
      intro e2
      rw [e, e2, fansL_nil] at h0
      simp at h0
    have hl := fansL_length 18 s.data.toList 0 (s.data.toList.length / 2 + 1) h1.1 h1.2
    refine ⟨by rw [e, hl, hsz], fun a b hab hb => ?_⟩
    have hc : cntTo (fanOut s.data.toList) a b (fanOut s.data.toList).length = cntT 18 s.data.toList 0 (s.data.toList.length / 2 + 1) a b := by
      rw [cntTo, List.take_of_length_le (Nat.le_refl _), e, ← cntT_fans a b 18 s.data.toList 0 (s.data.toList.length / 2 + 1)]
      congr 1
      funext r
      rw [isInB_mem, isInB_mem]
    rw [hc]
    have hin := cntT_in 18 s.data.toList 0 (s.data.toList.length / 2 + 1) a b h1.1 h1.2 (by omega) hne hab (Nat.zero_le _) (by omega)
    unfold side at hin
    rw [hsz] at hin ⊢
    exact hin
  · rw [fanOut, if_neg hv] at h0; simp at h0
end Go.Proofs.Ytpphilladlladaa
