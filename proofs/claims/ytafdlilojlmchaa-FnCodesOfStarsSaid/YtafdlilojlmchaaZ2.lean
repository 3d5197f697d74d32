/-
  The contract of the model's away: how far each node is from one.
  The contract of the model's WaysOf.
-/
import Derived.Test.YtafdlilojlmchaaZ4
import Derived.Test.YtafdlilojlmchaaZW
import Derived.Test.YtafdlilojlmchaaZN
namespace Go.Proofs.Ytafdlilojlmchaa
open Go.RowKit

def rowF (n : Nat) (o : Nat → Int) : List Value := iv ((List.range n).map o)
theorem rowF_length (n : Nat) (o : Nat → Int) : (rowF n o).length = n := by simp [rowF, iv]
theorem rowF_at {n i : Nat} (o : Nat → Int) (h : i < n) : (rowF n o)[i]? = some (.int .i64 (o i)) := by simp [rowF, iv, h]
theorem rowF_set {n i : Nat} (o : Nat → Int) (x : Int) : (rowF n o).set i (.int .i64 x) = rowF n (fun v => if v = i then x else o v) := by
  apply List.ext_getElem?
  intro j
  rw [List.getElem?_set]
  by_cases hj : j < n
  · by_cases e : i = j
    · subst e
      rw [if_pos rfl, rowF_at _ hj, if_pos rfl, rowF_length, if_pos hj]
    · rw [if_neg e, rowF_at _ hj, rowF_at _ hj, if_neg (Ne.symm e)]
  · rw [List.getElem?_eq_none (show (rowF n fun v => if v = i then x else o v).length ≤ j by rw [rowF_length]; omega), List.getElem?_eq_none (show (rowF n o).length ≤ j by rw [rowF_length]; omega), rowF_length]
    split
    · rw [if_neg (by omega)]
    · rfl
theorem rowF_zero (n : Nat) : List.replicate n (Value.int .i64 0) = rowF n fun _ => 0 := by
  apply List.ext_getElem?
  intro j
  by_cases hj : j < n
  · rw [rowF_at _ hj, List.getElem?_replicate, if_pos hj]
  · rw [List.getElem?_eq_none (by rw [List.length_replicate]; omega), List.getElem?_eq_none (by rw [rowF_length]; omega)]
/-- a row of the call's own that holds a number for each node -/
structure Rf (w0 w : World) (B G n : Nat) (o : Nat → Int) : Prop where
  own : w.ownsRow G 3 1 (.slice (some ⟨G, 0, none⟩) n n) n (rowF n o)
  below : Below B w0 w
  ge : B ≤ G
theorem Rf.store {w0 w : World} {B G n i : Nat} {o : Nat → Int} (h : Rf w0 w B G n o) (x : Int) : Rf w0 (w.setCell ⟨G, i, none⟩ (.int .i64 x)) B G n (fun v => if v = i then x else o v) := by
  refine ⟨?_, h.below.setCell (p := ⟨G, i, none⟩) h.ge _, h.ge⟩
  have := (h.own.stored i (.int .i64 x)).1
  rw [rowF_set] at this
  exact this
theorem Rf.drew {w0 w : World} {B G n : Nat} {o : Nat → Int} (h : Rf w0 w B G n o) : Rf w0 w.drew B G n o := ⟨own_of_blocks h.own fun _ _ => rfl, Below.drew h.below, h.ge⟩
theorem Rf.congr {w0 w : World} {B G n : Nat} {o p : Nat → Int} (h : Rf w0 w B G n o) (he : ∀ u, u < n → o u = p u) : Rf w0 w B G n p := by
  have e : rowF n o = rowF n p := by unfold rowF; rw [List.map_congr_left fun u hu => he u (List.mem_range.1 hu)]
  exact ⟨e ▸ h.own, h.below, h.ge⟩
/-- both rows of the search -/
structure Aw (w0 w : World) (B G n : Nat) (o : Nat → Int) (g m c : Nat) (L : List Nat) : Prop where
  out : Rf w0 w B G n o
  lst : w.ownsRow (G + 1) 3 1 (.slice (some ⟨g, 0, none⟩) m c) m (ints L)
  len : L.length = m
section
variable {w0 w w' : World} {B G n g m c : Nat} {o : Nat → Int} {L : List Nat}
theorem Aw.gne (h : Aw w0 w B G n o g m c L) : G + 1 ≤ g ∧ g < w.heap.size ∧ G < w.heap.size := by
  obtain ⟨h1, h2⟩ := h.lst.lt g rfl
  exact ⟨h1, h2, by omega⟩
theorem Aw.store (h : Aw w0 w B G n o g m c L) (i : Nat) (x : Int) : Aw w0 (w.setCell ⟨G, i, none⟩ (.int .i64 x)) B G n (fun v => if v = i then x else o v) g m c L :=
  ⟨h.out.store x, own_of_blocks h.lst fun q hq => Below.heap_setCell w _ _ _ (by have := (h.lst.lt q hq).1; show q ≠ G; omega), h.len⟩
theorem Aw.drew (h : Aw w0 w B G n o g m c L) : Aw w0 w.drew B G n o g m c L := ⟨h.out.drew, own_of_blocks h.lst fun _ _ => rfl, h.len⟩
theorem Aw.below (h : Aw w0 w B G n o g m c L) (hB : B ≤ w.heap.size) (hb : Below w.heap.size w w') : Aw w0 w' B G n o g m c L :=
  ⟨⟨own_of_blocks h.out.own fun q hq => hb.block q (h.out.own.lt q hq).2, h.out.below.trans (hb.mono hB), h.out.ge⟩, own_of_blocks h.lst fun q hq => hb.block q (h.lst.lt q hq).2, h.len⟩
theorem Aw.base (h : Aw w0 w B G n o g m c L) : B ≤ w.heap.size := by have := h.gne; have := h.out.ge; omega
theorem Aw.app {g5 c5 x : Nat} {o : Nat → Int} (h : Aw w0 w B G n o g m c L) (hv : w'.ownsRow (G + 1) 3 1 (.slice (some ⟨g5, 0, none⟩) (m + 1) c5) (m + 1) (ints L ++ [.int .i64 (x : Int)])) (hg : (w.alloc (.cells #[.int .i64 (x : Int)] 3)).grownBy w' (Value.slice (some ⟨g, 0, none⟩) m c).ownBlock) :
    Aw w0 w' B G n o g5 (m + 1) c5 (L ++ [x]) := by
  have hgn := h.gne
  refine ⟨⟨?_, (h.out.below.alloc h.base _).grown hg (by rw [World.size_alloc]; have := h.base; omega) (fun q hq => by have := (h.lst.lt q hq.symm.symm).1; have := h.out.ge; omega), h.out.ge⟩, by rw [ints_snoc] at hv; exact hv, by rw [List.length_append, h.len]; rfl⟩
  refine World.ownsRow.kept (h.out.own.alloc _) hg (.inr ?_)
  intro e
  have e1 : G = g := by simpa [Value.ownBlock] using e
  omega
end

end Go.Proofs.Ytafdlilojlmchaa

namespace Go.Proofs.Ytafdlilojlmchaa
open Go.RowKit

def waysP (E : Edges) (k : Nat) : Nat := ((List.range k).map fun v => ((List.range v).map (dst E v)).sum).sum
def waysQ (E : Edges) (v i : Nat) : Nat := ((List.range i).map (dst E v)).sum
theorem waysP_next (E : Edges) (k : Nat) : waysP E (k + 1) = waysP E k + waysQ E k k := by unfold waysP waysQ; rw [List.range_succ, List.map_append, List.sum_append]; simp
theorem waysQ_next (E : Edges) (v i : Nat) : waysQ E v (i + 1) = waysQ E v i + dst E v i := by unfold waysQ; rw [List.range_succ, List.map_append, List.sum_append]; simp
theorem waysQ_le {n : Nat} {E : Edges} (h : ValidT n E) (h7 : n ≤ 7) {v : Nat} (hv : v < n) : ∀ i, i ≤ n → waysQ E v i ≤ 6 * i := by
  intro i
  induction i with
  | zero => intro _; exact Nat.le_refl _
  | succ i ih =>
    intro hi
    rw [waysQ_next]
    have := ih (by omega)
    have := dst_le h h7 hv (i := i) (by omega)
    omega
theorem waysP_le {n : Nat} {E : Edges} (h : ValidT n E) (h7 : n ≤ 7) : ∀ k, k ≤ n → waysP E k ≤ 42 * k := by
  intro k
  induction k with
  | zero => intro _; exact Nat.le_refl _
  | succ k ih =>
    intro hk
    rw [waysP_next]
    have := ih (by omega)
    have := waysQ_le h h7 (v := k) (by omega) k (by omega)
    omega
end Go.Proofs.Ytafdlilojlmchaa
