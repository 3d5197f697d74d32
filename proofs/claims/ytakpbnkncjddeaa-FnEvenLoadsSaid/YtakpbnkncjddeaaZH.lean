/-
  The contract of the model's function that asks whether a number is in a list.
  The contracts of the law's own helpers on lists of rows of numbers: two lists are the same; a list is marked; it still bears its marks.
  The contract of the model's function that finds the nodes that are reached over edges.
-/
import Derived.Test.YtakpbnkncjddeaaCInts
import Derived.Test.YtakpbnkncjddeaaZW
import Derived.Test.YtakpbnkncjddeaaWPairs
import Derived.Maps.AppendAt
import Derived.Deep.AppendLies
import Derived.StillTailTactics
import Derived.Deep.DeepCutAuto
namespace Go.Proofs.Ytakpbnkncjddeaa
open Go.RowKit

theorem inI_hit {l : List Int} {k : Nat} {x : Int} (hk : k < l.length) (h : l[k] = x) : decide (x ∈ l) = true := by
  rw [decide_eq_true_iff, ← h]; exact List.getElem_mem hk
theorem inI_miss {l : List Int} {x : Int} (h : ∀ (k : Nat) (hk : k < l.length), l[k] ≠ x) : decide (x ∈ l) = false := by
  rw [decide_eq_false_iff_not]
  intro hm
  obtain ⟨k, hk, e⟩ := List.getElem_of_mem hm
  exact h k hk e
end Go.Proofs.Ytakpbnkncjddeaa

namespace Go.Proofs.Ytakpbnkncjddeaa
open Go.RowKit

theorem Same.trans {a b c : World} (h : Same a b) (k : Same b c) : Same a c := ⟨k.1.trans h.1, h.2.trans (k.below _)⟩

end Go.Proofs.Ytakpbnkncjddeaa

namespace Go.Proofs.Ytakpbnkncjddeaa
open Go.RowKit

theorem Try.infoIntR : (Try.prog.info? 3).map (fun i => (i.zero, i.size, i.bytes)) = some (some (.int .i64 0), 1, 8) := by kernel_rfl
theorem one_intR (n : Int) : ∀ u ∈ [Value.int .i64 n], u.oneCell' = true := by intro u hu; simp at hu; subst hu; rfl
theorem ints_iv2 (L : List Nat) : ints L = iv (L.map fun (k : Nat) => (k : Int)) := by simp [ints, iv]
theorem ints_get (L : List Nat) (i : Nat) {x : Nat} (h : L[i]? = some x) : (ints L)[i]? = some (.int .i64 (x : Int)) := by simp [ints, h]
theorem mem_ints (L : List Nat) (x : Nat) : ((x : Int) ∈ L.map fun (k : Nat) => (k : Int)) ↔ x ∈ L := by
  rw [List.mem_map]
  exact ⟨fun ⟨a, h1, h2⟩ => by rw [← Int.natCast_inj.1 h2]; exact h1, fun h => ⟨x, h, rfl⟩⟩
/-- a list of nodes of the call's own -/
structure Ils (w0 w : World) (B g m c : Nat) (L : List Nat) : Prop where
  len : L.length = m
  own : w.ownsRow B 3 1 (.slice (some ⟨g, 0, none⟩) m c) m (ints L)
  below : Below B w0 w
theorem Ils.drewN {w0 w : World} {B g m c : Nat} {L : List Nat} (h : Ils w0 w B g m c L) (q : Nat) : Ils w0 (w.drewN q) B g m c L :=
  ⟨h.len, own_of_blocks h.own (fun _ _ => rfl), h.below.trans ⟨rfl, rfl, rfl, Nat.le_refl _, fun _ _ => rfl⟩⟩
theorem Ils.drew {w0 w : World} {B g m c : Nat} {L : List Nat} (h : Ils w0 w B g m c L) : Ils w0 w.drew B g m c L :=
  ⟨h.len, own_of_blocks h.own (fun _ _ => rfl), h.below.trans ⟨rfl, rfl, rfl, Nat.le_refl _, fun _ _ => rfl⟩⟩
theorem Ils.app {w0 w w1 : World} {B g m c g5 c5 x : Nat} {L : List Nat} (h : Ils w0 w B g m c L) (hB : B ≤ w.heap.size)
    (hv : w1.ownsRow B 3 1 (.slice (some ⟨g5, 0, none⟩) (m + 1) c5) (m + 1) (ints L ++ [.int .i64 (x : Int)])) (hg : (w.alloc (.cells #[.int .i64 (x : Int)] 3)).grownBy w1 (Value.slice (some ⟨g, 0, none⟩) m c).ownBlock) :
    Ils w0 w1 B g5 (m + 1) c5 (L ++ [x]) := by
  refine ⟨by rw [List.length_append, h.len]; rfl, ?_, (h.below.alloc hB _).grown hg (by simp; omega) (fun q hq => (h.own.lt q hq.symm.symm).1)⟩
  rw [ints_snoc] at hv
  exact hv
/-- what a step in a round keeps -/
def Pk (n : Nat) (E : Edges) (i x : Nat) (cur : List Nat) : Prop := BInv n E cur ∧ cur[i]? = some x
theorem pk_pre {i x : Nat} {a b : List Nat} (h : a[i]? = some x) (hp : a <+: b) : b[i]? = some x := by
  obtain ⟨t, rfl⟩ := hp
  have hi : i < a.length := by
    by_cases hi : i < a.length
    · exact hi
    · rw [List.getElem?_eq_none (by omega)] at h; cases h
  rw [List.getElem?_append_left hi]; exact h
theorem pk_mem {n i x : Nat} {E : Edges} {a : List Nat} (h : Pk n E i x a) : x ∈ a := List.mem_of_getElem? h.2
theorem pk_side1 {n i x : Nat} {E : Edges} (hE : ∀ e ∈ E, e.1 < n ∧ e.2 < n) {a : List Nat} (h : Pk n E i x a) {e : Nat × Nat} (he : e ∈ E) : Pk n E i x (side1 x a e) := by
  refine ⟨?_, pk_pre h.2 (side1_pre x a e)⟩
  unfold side1
  split
  · rename_i hc
    exact binv_add h.1 (pk_mem h) hc.2 (hE e he).2 (.inl (by rw [← hc.1]; exact he))
  · exact h.1
theorem pk_side2 {n i x : Nat} {E : Edges} (hE : ∀ e ∈ E, e.1 < n ∧ e.2 < n) {a : List Nat} (h : Pk n E i x a) {e : Nat × Nat} (he : e ∈ E) : Pk n E i x (side2 x a e) := by
  refine ⟨?_, pk_pre h.2 (side2_pre x a e)⟩
  unfold side2
  split
  · rename_i hc
    exact binv_add h.1 (pk_mem h) hc.2 (hE e he).1 (.inr (by rw [← hc.1]; exact he))
  · exact h.1
theorem round_step (E : Edges) (x : Nat) (O : List Nat) (k : Nat) (h : k < E.length) : roundB (E.take (k + 1)) x O = bstepE x (roundB (E.take k) x O) E[k] := by
  unfold roundB
  rw [List.take_succ_eq_append_getElem h, List.foldl_append]; rfl
/-- the row of an edge, where it lies -/
theorem edge_at {w : World} {B H k : Nat} {v : Value} {RV : List Value} {E : Edges} (hG : Grid w B H v RV (rowsE E)) (hk : k < E.length) :
    ∃ ga c gr cr, v = .slice (some ⟨ga, 0, none⟩) E.length c ∧ ga < H ∧ gr < H ∧ E.length ≤ c ∧ c ≤ maxLen ∧ 2 ≤ cr ∧ w.cell? ⟨ga, k, none⟩ = some (.slice (some ⟨gr, 0, none⟩) 2 cr) ∧ w.cell? ⟨gr, 0, none⟩ = some (.int .i64 (E[k].1 : Int)) ∧ w.cell? ⟨gr, 1, none⟩ = some (.int .i64 (E[k].2 : Int)) := by
  have hl : (rowsE E).length = E.length := by simp [rowsE]
  obtain ⟨av, cv, rfl, _, hcv, hcm, _⟩ := hG.1.slice
  have h2 := hG.2
  have h1 := hG.1
  rw [h2.1, hl] at hcv
  rw [h2.1, hl] at h1 ⊢
  obtain ⟨ga, rfl, _, hg2, hc, _⟩ := h1.at_ k (by rw [h2.1, hl]; exact hk)
  obtain ⟨u, hu, ho⟩ := h2.at_ k (by rw [hl]; exact hk)
  have er : (rowsE E)[k]'(by rw [hl]; exact hk) = [(E[k].1 : Int), (E[k].2 : Int)] := by simp [rowsE]
  rw [er] at ho
  obtain ⟨au, cu, rfl, _, hcu, _, _⟩ := ho.slice
  rw [iv_length] at ho hcu hu
  obtain ⟨gr, rfl, _, hg4, c0, _⟩ := ho.at_ 0 (by rw [iv_length]; simp)
  obtain ⟨gr', e5, _, _, c1, _⟩ := ho.at_ 1 (by rw [iv_length]; simp)
  cases e5
  rw [hu] at hc
  exact ⟨ga, cv, gr, cu, rfl, hg2, hg4, hcv, hcm, hcu, hc, c0, c1⟩

end Go.Proofs.Ytakpbnkncjddeaa
