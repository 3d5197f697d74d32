/-
  Words on rows of numbers in the call's own memory, no two of them in one block.
-/
import Derived.Test.YtafdlilojlmchaaZW
namespace Go.Proofs.Ytafdlilojlmchaa
open Go.RowKit

theorem lit_own2T (w : World) (cs : Array Value) (t : TypeId) (h : cs.size ≤ maxLen) : Own (w.alloc (.cells cs t)) w.heap.size (w.heap.size + 1) t (.slice (some ⟨w.heap.size, 0, none⟩) cs.size cs.size) cs.toList :=
  ⟨by have := World.ownsRow_lit (base := w.heap.size) (e := t) (size := 1) w cs cs.size (Nat.le_refl _) h (by simp); rwa [Array.length_toList], fun g hg => by simp only [Value.ownBlock, Option.some.injEq] at hg; omega⟩
/-- a list of rows in the call's own memory, from the block H on, no two rows in one block -/
structure GridA (w : World) (H : Nat) (v : Value) (RV : List Value) (rows : List (List Int)) : Prop where
  grid : Grid w H w.heap.size v RV rows
  dist : Dist RV
def GridRet (H : Nat) (rows : List (List Int)) (w : World) (e : Ending) (w' : World) : Prop := ∃ v RV, e = .returned v ∧ GridA w' H v RV rows ∧ Below H w w'
theorem GridA.below {w w' : World} {H : Nat} {v : Value} {RV : List Value} {rows : List (List Int)} (h : GridA w H v RV rows) (hb : Below w.heap.size w w') : GridA w' H v RV rows :=
  ⟨(h.grid.below hb).more hb.size, h.dist⟩
theorem GridA.nil (w : World) (H : Nat) : GridA w H (.slice none 0 0) [] [] :=
  ⟨⟨⟨World.ownsRow_nil _ _ _ _, fun q hq => by simp [Value.ownBlock] at hq⟩, RowsI.nil⟩, fun i j u v _ h => by simp at h⟩
theorem GridA.drewN {w : World} {H : Nat} {v : Value} {RV : List Value} {rows : List (List Int)} (h : GridA w H v RV rows) (n : Nat) : GridA (w.drewN n) H v RV rows := ⟨h.grid.same rfl, h.dist⟩
theorem GridA.shape {w : World} {H : Nat} {v : Value} {RV : List Value} {rows : List (List Int)} (h : GridA w H v RV rows) : ∃ a c, v = .slice a rows.length c ∧ w.ownsRow H 30 1 v rows.length RV := by
  obtain ⟨a, c, rfl, _⟩ := h.grid.1.slice
  have := h.grid.1.1
  rw [h.grid.2.1] at this ⊢
  exact ⟨a, c, rfl, this⟩
theorem GridA.form {w : World} {H : Nat} {v : Value} {RV : List Value} {rows : List (List Int)} (h : GridA w H v RV rows) : ∃ a n c, v = .slice a n c := by
  obtain ⟨a, c, e, _⟩ := h.shape
  exact ⟨a, _, c, e⟩
/-- a row is made and appended -/
theorem GridA.push {w w2 : World} {H m n g c : Nat} {v : Value} {RV : List Value} {rows : List (List Int)} {cs : Array Value} {row : List Int} (h : GridA w H v RV rows) (hm : rows.length = m) (hc : cs.toList = iv row) (hn : cs.size = n) (hn9 : n ≤ 9) (hH : H ≤ w.heap.size)
    (hv : w2.ownsRow H 30 1 (.slice (some ⟨g, 0, none⟩) (m + 1) c) (m + 1) (RV ++ [.slice (some ⟨w.heap.size, 0, none⟩) n n])) (hg : ((w.alloc (.cells cs 3)).alloc (.cells #[.slice (some ⟨w.heap.size, 0, none⟩) n n] 30)).grownBy w2 v.ownBlock) :
    GridA w2 H (.slice (some ⟨g, 0, none⟩) (m + 1) c) (RV ++ [.slice (some ⟨w.heap.size, 0, none⟩) n n]) (rows ++ [row]) ∧ Below H w w2 := by
  have hz : ((w.alloc (.cells cs 3)).alloc (.cells #[.slice (some ⟨w.heap.size, 0, none⟩) n n] 30)).heap.size = w.heap.size + 2 := by simp
  have hsz := hg.size
  rw [hz] at hsz
  have hlen := h.grid.2.1
  have o1 : Own ((w.alloc (.cells cs 3)).alloc (.cells #[.slice (some ⟨w.heap.size, 0, none⟩) n n] 30)) w.heap.size (w.heap.size + 1) 3 (.slice (some ⟨w.heap.size, 0, none⟩) n n) (iv row) := by
    have h1 := lit_own2T w cs 3 (by unfold maxLen; omega)
    rw [hn, hc] at h1
    exact h1.alloc _
  have hb1 : Below w.heap.size w ((w.alloc (.cells cs 3)).alloc (.cells #[.slice (some ⟨w.heap.size, 0, none⟩) n n] 30)) := ((Below.refl _ w).alloc (Nat.le_refl _) _).alloc (by simp) _
  have G1 := h.grid.below hb1
  have r1 := G1.2.grown G1.1 (by decide) hg
  have r2 := o1.grown hg (o1.ne G1.1 (by decide))
  refine ⟨⟨⟨Own.of_own ?_, (r1.more (by omega)).append (RowsI.one (own_lo (r2.more (by omega)) hH))⟩, ?_⟩, (hb1.mono hH).grown hg (by omega) (fun k hk => (h.grid.1.1.lt k hk).1)⟩
  · have e : (RV ++ [Value.slice (some ⟨w.heap.size, 0, none⟩) n n]).length = m + 1 := by rw [List.length_append, hlen, hm]; rfl
    rw [e]; exact hv
  · intro i j u x hij hu hx
    by_cases hj : j < RV.length
    · rw [List.getElem?_append_left (by omega)] at hu
      rw [List.getElem?_append_left hj] at hx
      exact h.dist i j u x hij hu hx
    · rw [List.getElem?_append_right (by omega)] at hx
      have hj0 : j - RV.length = 0 := by
        have := (List.getElem?_eq_some_iff.1 hx).1
        simp at this; omega
      rw [hj0] at hx
      simp only [List.getElem?_cons_zero, Option.some.injEq] at hx
      subst hx
      rw [List.getElem?_append_left (by omega)] at hu
      right
      intro e
      have hi : i < rows.length := by omega
      have ho := h.grid.2.2 i u rows[i] hu (List.getElem?_eq_getElem hi)
      have := ho.2 w.heap.size (by rw [e]; rfl)
      omega
end Go.Proofs.Ytafdlilojlmchaa
