/-
  Plain facts: the shapes in order, each once: sorted and made compact, or collected once and sorted, for up to five nodes (by reckoning). Nothing of the program is named here.
-/
import Derived.Test.YthlboikljibohaaGreatZQ
import Derived.Lib.SlicesCompact
namespace Go.Proofs.YthlboikljibohaaGreat

def addW (out : List (List UInt8)) (x : List UInt8) : List (List UInt8) := if x ∈ out then out else out ++ [x]
/-- each once, in the order in which they come -/
def onceW (L : List (List UInt8)) : List (List UInt8) := L.foldl addW []
theorem onceW_snoc (L : List (List UInt8)) (k : Nat) (h : k < L.length) : onceW (L.take (k + 1)) = addW (onceW (L.take k)) L[k] := by
  rw [onceW, List.take_succ_eq_append_getElem h, List.foldl_append]; rfl
theorem onceW_len (L : List (List UInt8)) (k : Nat) : (onceW (L.take k)).length ≤ k := by
  have key : ∀ (L out : List (List UInt8)), (L.foldl addW out).length ≤ out.length + L.length := by
    intro L
    induction L with
    | nil => intro out; simp
    | cons x r ih =>
      intro out
      have h1 := ih (addW out x)
      have h2 : (addW out x).length ≤ out.length + 1 := by
        unfold addW; split <;> simp
      rw [List.foldl_cons, List.length_cons]; omega
  have := key (L.take k) []
  rw [List.length_take] at this
  show (onceW (L.take k)).length ≤ k
  unfold onceW
  simp only [List.length_nil, Nat.zero_add] at this
  omega
theorem shp_compact : ∀ n, 1 ≤ n → n ≤ 5 → Lib.compact (srtT ((shpX n).2.2.map (fun i => (shpX n).1.getD i []))) = sortW ((shpX n).2.2.map (fun i => (shpX n).1.getD i [])) := by
  intro n h1 h5
  obtain rfl | rfl | rfl | rfl | rfl : n = 1 ∨ n = 2 ∨ n = 3 ∨ n = 4 ∨ n = 5 := by omega
  all_goals decide +kernel
theorem shp_once : ∀ n, 1 ≤ n → n ≤ 5 → sortW (onceW ((shpX n).2.2.map (fun i => (shpX n).1.getD i []))) = sortW ((shpX n).2.2.map (fun i => (shpX n).1.getD i [])) := by
  intro n h1 h5
  obtain rfl | rfl | rfl | rfl | rfl : n = 1 ∨ n = 2 ∨ n = 3 ∨ n = 4 ∨ n = 5 := by omega
  all_goals decide +kernel
theorem shapes_compact {n : Nat} (h1 : 1 ≤ n) (h5 : n ≤ 5) : Lib.compact ((shapesT n).mergeSort fun x y => decide (x ≤ y)) = sortW (shapesT n) := by
  rw [merge_srtT, (shp_lists h1 h5).1]
  exact shp_compact n h1 h5
theorem shapes_once {n : Nat} (h1 : 1 ≤ n) (h5 : n ≤ 5) : sortW (onceW (shapesT n)) = sortW (shapesT n) := by
  rw [(shp_lists h1 h5).1]
  exact shp_once n h1 h5
def shapesW (n : Int) : List (List UInt8) := if 1 ≤ n ∧ n ≤ 5 then sortW (shapesT n.toNat) else []
theorem shapes_len {n : Nat} (h1 : 1 ≤ n) (h5 : n ≤ 5) : 1 ≤ (shapesT n).length ∧ (shapesT n).length ≤ 125 := by
  have h : (shapesT n).length = n ^ (n - 2) := by simp [shapesT]
  rw [h]
  obtain rfl | rfl | rfl | rfl | rfl : n = 1 ∨ n = 2 ∨ n = 3 ∨ n = 4 ∨ n = 5 := by omega
  all_goals decide
theorem shp_short : ∀ n, 1 ≤ n → n ≤ 5 → (sortW ((shpX n).2.2.map (fun i => (shpX n).1.getD i []))).length ≤ 3 ∧ 0 < (sortW ((shpX n).2.2.map (fun i => (shpX n).1.getD i []))).length := by
  intro n h1 h5
  obtain rfl | rfl | rfl | rfl | rfl : n = 1 ∨ n = 2 ∨ n = 3 ∨ n = 4 ∨ n = 5 := by omega
  all_goals decide +kernel
theorem shapesW_length (n : Int) : (shapesW n).length ≤ 3 := by
  unfold shapesW
  by_cases h : 1 ≤ n ∧ n ≤ 5
  · rw [if_pos h, (shp_lists (n := n.toNat) (by omega) (by omega)).1]
    exact (shp_short n.toNat (by omega) (by omega)).1
  · rw [if_neg h]; exact Nat.zero_le _
end Go.Proofs.YthlboikljibohaaGreat
