/-
  The contract of the model's function that counts the edges of each node.
  The contract of the model's function that tells a tree's code.
-/
import Derived.Test.YtafdlilojlmchaaZH
namespace Go.Proofs.Ytafdlilojlmchaa
open Go.RowKit

def degV (n : Nat) (d : Nat → Nat) : List Value := ints ((List.range n).map d)
theorem degV_length (n : Nat) (d : Nat → Nat) : (degV n d).length = n := by simp [degV, ints]
theorem degV_at {n i : Nat} (d : Nat → Nat) (h : i < n) : (degV n d)[i]? = some (.int .i64 (d i : Int)) := by simp [degV, ints, h]
theorem degV_set {n i : Nat} (d : Nat → Nat) (x : Nat) : (degV n d).set i (.int .i64 (x : Int)) = degV n (fun v => if v = i then x else d v) := by
  apply List.ext_getElem?
  intro j
  rw [List.getElem?_set]
  by_cases hj : j < n
  · by_cases e : i = j
    · subst e
      rw [if_pos rfl, degV_at _ hj, if_pos rfl, degV_length, if_pos hj]
    · rw [if_neg e, degV_at _ hj, degV_at _ hj, if_neg (Ne.symm e)]
  · rw [List.getElem?_eq_none (show (degV n fun v => if v = i then x else d v).length ≤ j by rw [degV_length]; omega), List.getElem?_eq_none (show (degV n d).length ≤ j by rw [degV_length]; omega), degV_length]
    split
    · rw [if_neg (by omega)]
    · rfl
theorem degV_zero (n : Nat) : List.replicate n (Value.int .i64 0) = degV n (deg []) := by
  apply List.ext_getElem?
  intro j
  by_cases hj : j < n
  · rw [degV_at _ hj, List.getElem?_replicate, if_pos hj]; rfl
  · rw [List.getElem?_eq_none (by rw [List.length_replicate]; omega), List.getElem?_eq_none (by rw [degV_length]; omega)]
theorem deg_take (E : Edges) (k : Nat) (h : k < E.length) (v : Nat) : deg (E.take (k + 1)) v = deg (E.take k) v + ((if E[k].1 = v then 1 else 0) + (if E[k].2 = v then 1 else 0)) := by
  rw [List.take_succ_eq_append_getElem h, deg_append, deg_cons, deg_nil]; rfl
theorem deg_small (E : Edges) (k v : Nat) : deg (E.take k) v ≤ 2 * k := by
  induction k with
  | zero => simp [deg]
  | succ k ih =>
    by_cases h : k < E.length
    · rw [deg_take E k h]
      have a1 : (if E[k].1 = v then 1 else 0) ≤ 1 := by split <;> omega
      have a2 : (if E[k].2 = v then 1 else 0) ≤ 1 := by split <;> omega
      omega
    · rw [List.take_of_length_le (by omega)]
      rw [List.take_of_length_le (by omega)] at ih
      omega
theorem two_store (d : Nat → Nat) (a b v : Nat) : d v + ((if a = v then 1 else 0) + (if b = v then 1 else 0)) = if v = b then (fun v => if v = a then d a + 1 else d v) b + 1 else (fun v => if v = a then d a + 1 else d v) v := by
  dsimp only
  by_cases h1 : v = b
  · rw [if_pos h1, if_pos h1.symm, h1]
    by_cases h2 : b = a
    · rw [if_pos h2, if_pos h2.symm, h2]
    · rw [if_neg h2, if_neg (Ne.symm h2)]
  · rw [if_neg h1, if_neg (Ne.symm h1)]
    by_cases h2 : v = a
    · rw [if_pos h2, if_pos h2.symm, h2]
    · rw [if_neg h2, if_neg (Ne.symm h2)]; rfl
/-- a row of the call's own that holds degrees -/
structure Dg (w0 w : World) (B G n : Nat) (d : Nat → Nat) : Prop where
  own : w.ownsRow G 3 1 (.slice (some ⟨G, 0, none⟩) n n) n (degV n d)
  below : Below B w0 w
  ge : B ≤ G
theorem Dg.store {w0 w : World} {B G n i x : Nat} {d : Nat → Nat} (h : Dg w0 w B G n d) : Dg w0 (w.setCell ⟨G, i, none⟩ (.int .i64 (x : Int))) B G n (fun v => if v = i then x else d v) := by
  refine ⟨?_, h.below.setCell (p := ⟨G, i, none⟩) h.ge _, h.ge⟩
  have := (h.own.stored i (.int .i64 (x : Int))).1
  rw [degV_set] at this
  exact this
theorem Dg.drew {w0 w : World} {B G n : Nat} {d : Nat → Nat} (h : Dg w0 w B G n d) : Dg w0 w.drew B G n d := ⟨own_of_blocks h.own fun _ _ => rfl, Below.drew h.below, h.ge⟩

end Go.Proofs.Ytafdlilojlmchaa

namespace Go.Proofs.Ytafdlilojlmchaa
open Go.RowKit

theorem Try.infoRowR : (Try.prog.info? 30).map (fun i => (i.zero, i.size, i.bytes)) = some (some (.slice none 0 0), 1, 24) := by kernel_rfl
theorem one_rowR (v : Value) (a : Option Addr) (n c : Nat) (h : v = .slice a n c) : ∀ u ∈ [v], u.oneCell' = true := by intro u hu; simp at hu; subst hu; subst h; rfl
theorem rows_one {w : World} {B H : Nat} {RV : List Value} {rows : List (List Int)} (h : RowsI w B H RV rows) : ∀ u ∈ RV, u.oneCell' = true := by
  intro u hu
  obtain ⟨i, hi, rfl⟩ := List.getElem_of_mem hu
  obtain ⟨u', h1, ho⟩ := h.at_ i (by rw [← h.1]; exact hi)
  rw [List.getElem?_eq_getElem hi] at h1
  cases h1
  obtain ⟨a, c, e, _⟩ := ho.slice
  rw [e]; rfl
/-- what is taken away, and what is left, up to an edge -/
def outT (l : Nat) (F : Edges) : List Nat := (F.filter (touches l)).map (other l)
def keepT (l : Nat) (F : Edges) : Edges := F.filter fun e => !touches l e
theorem outT_step {l : Nat} {F : Edges} {i : Nat} (h : i < F.length) : outT l (F.take (i + 1)) = if touches l F[i] then outT l (F.take i) ++ [other l F[i]] else outT l (F.take i) := by
  unfold outT
  rw [List.take_succ_eq_append_getElem h, List.filter_append, List.map_append]
  by_cases ht : touches l F[i] = true
  · rw [if_pos ht, List.filter_cons_of_pos ht]; simp
  · rw [if_neg ht, List.filter_cons_of_neg ht]; simp
theorem keepT_step {l : Nat} {F : Edges} {i : Nat} (h : i < F.length) : keepT l (F.take (i + 1)) = if touches l F[i] then keepT l (F.take i) else keepT l (F.take i) ++ [F[i]] := by
  unfold keepT
  rw [List.take_succ_eq_append_getElem h, List.filter_append]
  by_cases ht : touches l F[i] = true
  · rw [if_pos ht, List.filter_cons_of_neg (by simp [ht])]; simp
  · rw [if_neg ht, List.filter_cons_of_pos (by simp [ht])]; simp
theorem outT_le (l : Nat) (F : Edges) : (outT l F).length ≤ F.length := by unfold outT; rw [List.length_map]; exact List.length_filter_le _ _
theorem keepT_le (l : Nat) (F : Edges) : (keepT l F).length ≤ F.length := List.length_filter_le _ _
/-- the edges that are left: a row of rows of the call's own -/
structure Lft (w : World) (B H B0 H0 g m c : Nat) (LV : List Value) (F : Edges) : Prop where
  own : Own w B H 30 (.slice (some ⟨g, 0, none⟩) m c) LV
  rows : RowsI w B0 H0 LV (rowsE F)
  len : F.length = m
theorem Lft.vlen {w : World} {B H B0 H0 g m c : Nat} {LV : List Value} {F : Edges} (h : Lft w B H B0 H0 g m c LV F) : LV.length = m := by rw [h.rows.1, ← h.len]; simp [rowsE]
theorem Lft.grid {w : World} {B H B0 H0 g m c : Nat} {LV : List Value} {F : Edges} (h : Lft w B H B0 H0 g m c LV F) (hH : H0 ≤ H) : Grid w 0 H (.slice (some ⟨g, 0, none⟩) m c) LV (rowsE F) :=
  ⟨own_lo h.own (Nat.zero_le _), (h.rows.lo (Nat.zero_le _)).more hH⟩
theorem Lft.more {w : World} {B H H' B0 H0 g m c : Nat} {LV : List Value} {F : Edges} (h : Lft w B H B0 H0 g m c LV F) (hH : H ≤ H') : Lft w B H' B0 H0 g m c LV F := ⟨h.own.more hH, h.rows, h.len⟩
theorem Lft.below {w w' : World} {B H B0 H0 g m c : Nat} {LV : List Value} {F : Edges} (h : Lft w B H B0 H0 g m c LV F) (hH : H0 ≤ H) (hb : Below H w w') : Lft w' B H B0 H0 g m c LV F :=
  ⟨h.own.below hb, h.rows.below (hb.mono hH), h.len⟩
theorem own_somR {w : World} {B n : Nat} {t : TypeId} {v : Value} {xs : List Value} (h : w.ownsRow B t 1 v n xs) (hv : v ≠ .slice none 0 0) : ∃ g cap, v = .slice (some ⟨g, 0, none⟩) n cap := by
  rcases h.2 with ⟨h0, _⟩ | ⟨g, cap, cur, h1, _⟩
  · exact absurd h0 hv
  · exact ⟨g, cap, h1⟩
theorem rowsE_length (E : Edges) : (rowsE E).length = E.length := by simp [rowsE]
theorem rowsE_append (A B : Edges) : rowsE (A ++ B) = rowsE A ++ rowsE B := by simp [rowsE]

theorem Ils.ownN {w0 w : World} {B g m c : Nat} {L : List Nat} (h : Ils w0 w B g m c L) : Own w B w.heap.size 3 (.slice (some ⟨g, 0, none⟩) m c) (ints L) :=
  ⟨by rw [ints_length, h.len]; exact h.own, fun q hq => (h.own.lt q hq).2⟩
/-- a row of numbers grows: rows of rows stay -/
theorem Lft.int {w w7 : World} {B' H' B0 H0 gl q cl B1 H1 : Nat} {LV xs : List Value} {F : Edges} {v : Value} {o : Obj} (h : Lft w B' H' B0 H0 gl q cl LV F) (hu : Own w B1 H1 3 v xs) (hB : H0 ≤ B1) (hHs : H0 ≤ w.heap.size)
    (hg : (w.alloc o).grownBy w7 v.ownBlock) : Lft w7 B' H' B0 H0 gl q cl LV F := by
  have hb : Below H0 w w7 := ((Below.refl _ _).alloc hHs o).grown hg (by simp; omega) (fun k hk => by have := (hu.1.lt k hk.symm.symm).1; omega)
  exact ⟨(h.own.alloc o).grown hg (h.own.ne hu (by decide)), h.rows.below hb, h.len⟩
/-- a row of rows grows: a row of numbers stays -/
theorem Ils.row {w0 w w7 : World} {B g m c B1 H1 : Nat} {L : List Nat} {xs : List Value} {v : Value} {o : Obj} (h : Ils w0 w B g m c L) (hu : Own w B1 H1 30 v xs) (hB : B ≤ B1) (hBs : B ≤ w.heap.size)
    (hg : (w.alloc o).grownBy w7 v.ownBlock) : Ils w0 w7 B g m c L := by
  have hk := (h.ownN.alloc o).grown hg (h.ownN.ne hu (by decide))
  refine ⟨h.len, ?_, (h.below.alloc hBs o).grown hg (by simp; omega) (fun k hk => by have := (hu.1.lt k hk.symm.symm).1; omega)⟩
  have := hk.1
  rwa [ints_length, h.len] at this
/-- .. and what lies lower stays -/
theorem Lft.low {w w7 : World} {B' R B0 H0 gl q cl B1 H1 : Nat} {LV xs : List Value} {F : Edges} {v : Value} {o : Obj} (h : Lft w B' R B0 H0 gl q cl LV F) (hu : Own w B1 H1 30 v xs) (hB : R ≤ B1) (hRs : R ≤ w.heap.size) (hH0 : H0 ≤ R)
    (hg : (w.alloc o).grownBy w7 v.ownBlock) : Lft w7 B' R B0 H0 gl q cl LV F := by
  have hb : Below R w w7 := ((Below.refl _ _).alloc hRs o).grown hg (by simp; omega) (fun k hk => by have := (hu.1.lt k hk.symm.symm).1; omega)
  exact h.below hH0 hb
/-- an edge's row is laid to those that are left -/
theorem Lft.add {w w7 : World} {R H' B0 H0 gr mr cr g7 c7 : Nat} {LR : List Value} {F : Edges} {u : Value} {e : Nat × Nat} (h : Lft w R H' B0 H0 gr mr cr LR F) (hR : H0 ≤ R) (hRs : R ≤ w.heap.size) (hu : Own w B0 H0 3 u (iv [(e.1 : Int), (e.2 : Int)]))
    (hv : w7.ownsRow R 30 1 (.slice (some ⟨g7, 0, none⟩) (mr + 1) c7) (mr + 1) (LR ++ [u])) (hg : (w.alloc (.cells #[u] 30)).grownBy w7 (Value.slice (some ⟨gr, 0, none⟩) mr cr).ownBlock) :
    Lft w7 R w7.heap.size B0 H0 g7 (mr + 1) c7 (LR ++ [u]) (F ++ [e]) := by
  have hb : Below H0 w w7 := ((Below.refl _ _).alloc (by omega) _).grown hg (by simp; omega) (fun k hk => by have := (h.own.1.lt k hk.symm.symm).1; omega)
  refine ⟨⟨by rw [List.length_append, h.vlen]; exact hv, fun q hq => (hv.lt q hq).2⟩, ?_, by rw [List.length_append, h.len]; rfl⟩
  rw [rowsE_append]
  exact (h.rows.below hb).append ((RowsI.one hu).below hb)

end Go.Proofs.Ytafdlilojlmchaa
