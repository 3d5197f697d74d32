/-
  The contract of the model's function that counts the edges of each node.
  The contract of the model's function that tells a tree's code.
-/
import Derived.Test.YtohbkpccfhciaaaZH
namespace Go.Proofs.Ytohbkpccfhciaaa
open Go.RowKit

def degV (n : Nat) (d : Nat → Nat) : List Value := ints ((List.range n).map d)
theorem degV_length (n : Nat) (d : Nat → Nat) : (degV n d).length = n := by simp [degV, ints]
theorem degV_at {n i : Nat} (d : Nat → Nat) (h : i < n) : (degV n d)[i]? = some (.int .i64 (d i : Int)) := by simp [degV, ints, h]
theorem degV_set {n i : Nat} (d : Nat → Nat) (x : Nat) : (degV n d).set i (.int .i64 (x : Int)) = degV n (fun v => if v = i then x else d v) := by
  apply List.ext_getElem?
  intro j
  rw [List.getElem?_set]
  by_cases hj : j < n
  · by_cases e : i = j
    · subst e
      rw [if_pos rfl, degV_at _ hj, if_pos rfl, degV_length, if_pos hj]
    · rw [if_neg e, degV_at _ hj, degV_at _ hj, if_neg (Ne.symm e)]
  · rw [List.getElem?_eq_none (show (degV n fun v => if v = i then x else d v).length ≤ j by rw [degV_length]; omega), List.getElem?_eq_none (show (degV n d).length ≤ j by rw [degV_length]; omega), degV_length]
    split
    · rw [if_neg (by omega)]
    · rfl
theorem degV_zero (n : Nat) : List.replicate n (Value.int .i64 0) = degV n (deg []) := by
  apply List.ext_getElem?
  intro j
  by_cases hj : j < n
  · rw [degV_at _ hj, List.getElem?_replicate, if_pos hj]; rfl
  · rw [List.getElem?_eq_none (by rw [List.length_replicate]; omega), List.getElem?_eq_none (by rw [degV_length]; omega)]
theorem deg_take (E : Edges) (k : Nat) (h : k < E.length) (v : Nat) : deg (E.take (k + 1)) v = deg (E.take k) v + ((if E[k].1 = v then 1 else 0) + (if E[k].2 = v then 1 else 0)) := by
  rw [List.take_succ_eq_append_getElem h, deg_append, deg_cons, deg_nil]; rfl
theorem deg_small (E : Edges) (k v : Nat) : deg (E.take k) v ≤ 2 * k := by
  induction k with
  | zero => simp [deg]
  | succ k ih =>
    by_cases h : k < E.length
    · rw [deg_take E k h]
      have a1 : (if E[k].1 = v then 1 else 0) ≤ 1 := by split <;> omega
      have a2 : (if E[k].2 = v then 1 else 0) ≤ 1 := by split <;> omega
      omega
    · rw [List.take_of_length_le (by omega)]
      rw [List.take_of_length_le (by omega)] at ih
      omega
theorem two_store (d : Nat → Nat) (a b v : Nat) : d v + ((if a = v then 1 else 0) + (if b = v then 1 else 0)) = if v = b then (fun v => if v = a then d a + 1 else d v) b + 1 else (fun v => if v = a then d a + 1 else d v) v := by
  dsimp only
  by_cases h1 : v = b
  · rw [if_pos h1, if_pos h1.symm, h1]
    by_cases h2 : b = a
    · rw [if_pos h2, if_pos h2.symm, h2]
    · rw [if_neg h2, if_neg (Ne.symm h2)]
  · rw [if_neg h1, if_neg (Ne.symm h1)]
    by_cases h2 : v = a
    · rw [if_pos h2, if_pos h2.symm, h2]
    · rw [if_neg h2, if_neg (Ne.symm h2)]; rfl
/-- a row of the call's own that holds degrees -/
structure Dg (w0 w : World) (B G n : Nat) (d : Nat → Nat) : Prop where
  own : w.ownsRow G 3 1 (.slice (some ⟨G, 0, none⟩) n n) n (degV n d)
  below : Below B w0 w
  ge : B ≤ G
theorem Dg.store {w0 w : World} {B G n i x : Nat} {d : Nat → Nat} (h : Dg w0 w B G n d) : Dg w0 (w.setCell ⟨G, i, none⟩ (.int .i64 (x : Int))) B G n (fun v => if v = i then x else d v) := by
  refine ⟨?_, h.below.setCell (p := ⟨G, i, none⟩) h.ge _, h.ge⟩
  have := (h.own.stored i (.int .i64 (x : Int))).1
  rw [degV_set] at this
  exact this
theorem Dg.drew {w0 w : World} {B G n : Nat} {d : Nat → Nat} (h : Dg w0 w B G n d) : Dg w0 w.drew B G n d := ⟨own_of_blocks h.own fun _ _ => rfl, Below.drew h.below, h.ge⟩

set_option maxHeartbeats 3200000 in
set_option maxRecDepth 100000 in
theorem degrees_any (n : Nat) (E : Edges) (v : Value) (RV : List Value) (w : World) {B0 H0 : Nat} (hG : Hid (Grid w B0 H0 v RV (rowsE E))) (hH : H0 ≤ w.heap.size) (hE : Hid (∀ e ∈ E, e.1 < n ∧ e.2 < n)) (hn : n ≤ 64) (hel : E.length ≤ 64) :
    Calls Try.prog 49 #[.int .i64 n, v] w fun e w' => ∃ g, e = .returned (.slice (some ⟨g, 0, none⟩) n n) ∧ Dg w w' w.heap.size g n (deg E) := by
  obtain ⟨i0, hi, hz0, hz1, hz2⟩ := info_parts Try.infoIntR
  obtain ⟨av, cv, rfl, _, hcv, _, _⟩ := hG.out.1.slice
  have hgl : RV.length = E.length := by rw [hG.out.2.1]; simp [rowsE]
  rw [hgl] at hG hcv ⊢
  go_enter Try.func49, Try.ntmps49
  go_wp2_with (at_make; refine wpList_make_full _ rfl _ _ 32 rfl w.heap.size 3 i0 (.int .i64 0) 1 Try.underlying32 hi hz0 hz1 _ _ _ _ n rfl rfl rfl rfl ?b2 ?b3 (Nat.le_refl _) ?_)
  case b2 => rw [hz2]; omega
  case b3 => unfold maxLen; omega
  intro w1 hown hgrow
  have hb1 : Below w.heap.size w w1 := (Below.refl _ _).grown hgrow (Nat.le_refl _) (fun k hk => by cases hk)
  rw [show (madeCells #[Value.int .i64 0] n).toList = List.replicate n (Value.int .i64 0) from toList_madeCells_one _ _, degV_zero] at hown
  obtain ⟨G, hGe⟩ : ∃ G, G = w.heap.size := ⟨_, rfl⟩
  rw [← hGe] at hown ⊢
  have D0 : Hid (Dg w w1 w.heap.size G n (deg [])) := ⟨hown, hb1, by omega⟩
  rw [← hGe] at D0
  have HGe := Lib.hid hGe
  clear hown hgrow hb1 hGe
  go_wp2
  go_loopw [6] (fun ii wr => ∃ k : Nat, k ≤ E.length ∧ ii = .int .i64 k ∧ Hid (Dg w wr G G n (deg (E.take k)))) (fun ii _ => E.length - (intOf ii).toNat)
  case atStart => exact ⟨0, Nat.zero_le _, rfl, D0⟩
  case round =>
    clear D0
    obtain ⟨k, hk, rfl, D⟩ := hrel
    by_cases hlt : k < E.length
    · have b1 : (k : Int) < (E.length : Int) := by omega
      obtain ⟨ga, c', gr, cr, e1, hga, hgr, _, _, hcr, hc1, hc2, hc3⟩ := edge_at (hG.out.below (D.out.below.mono (by rw [HGe.out]; exact hH))) hlt
      simp only [Value.slice.injEq] at e1
      obtain ⟨rfl, _, rfl⟩ := e1
      obtain ⟨he1, he2⟩ := hE.out _ (List.getElem_mem hlt)
      have DT := Lib.hid (fun v => deg_take E k hlt v)
      have hds := fun v => deg_small E k v
      obtain ⟨e, he⟩ : ∃ e, e = E[k] := ⟨_, rfl⟩
      have HEK := Lib.hid he
      rw [← he] at hc2 hc3 he1 he2 DT
      obtain ⟨d, hd⟩ : ∃ d, d = deg (E.take k) := ⟨_, rfl⟩
      rw [← hd] at D hds DT
      have x1 := hds e.1
      have hcell := (D.out.own.cellAt e.1 (by omega)).trans (degV_at d he1)
      have hfr := D.out.own.frozenAt e.1
      have g1 : (e.1 : Int) < (n : Int) := by omega
      have ew : IntKind.i64.wrap ((d e.1 : Int) + 1) = (d e.1 : Int) + 1 := by rw [IntKind.wrap_i64]; omega
      have D1 := Lib.hid (D.out.drew.store (i := e.1) (x := d e.1 + 1))
      have ec : ((d e.1 + 1 : Nat) : Int) = (d e.1 : Int) + 1 := by omega
      clear he hd
      rw [ec] at D1
      go_wp2
      go_still_tail 18, (by kernel_rfl)
      change wpList _ _ _ _ _ wr.drew
      go_wp2
      obtain ⟨w6, hw6⟩ : ∃ w6, w6 = (wr.drew).setCell ⟨G, e.1, none⟩ (.int .i64 ((d e.1 : Int) + 1)) := ⟨_, rfl⟩
      rw [← hw6] at D1
      have hw6' : (wr.setCell ⟨G, e.1, none⟩ (.int .i64 ((d e.1 : Int) + 1))).drew = w6 := hw6.symm
      rw [hw6']
      obtain ⟨d6, hd6⟩ : ∃ d6 : Nat → Nat, d6 = fun v => if v = e.1 then d e.1 + 1 else d v := ⟨_, rfl⟩
      rw [← hd6] at D1
      have DT6 : Hid (∀ v, deg (E.take (k + 1)) v = if v = e.2 then d6 e.2 + 1 else d6 v) := fun v => by
        rw [DT.out v, hd6]
        exact two_store d e.1 e.2 v
      have x2 : d6 e.2 ≤ 200 := by
        have h1 := hds e.1
        have h2 := hds e.2
        rw [hd6]
        show (if e.2 = e.1 then d e.1 + 1 else d e.2) ≤ 200
        split <;> omega
      clear hw6 hw6' hd6 hc1 hc2 hc3 hcell hfr ew ec x1 hds DT D g1
      obtain ⟨ga', c', gr', cr', e1', _, _, _, _, _, hc1, hc2, hc3⟩ := edge_at (hG.out.below (D1.out.below.mono (by rw [HGe.out]; exact hH))) hlt
      simp only [Value.slice.injEq, Option.some.injEq, Addr.mk.injEq] at e1'
      obtain ⟨⟨rfl, _, _⟩, _, rfl⟩ := e1'
      rw [← HEK.out] at hc2 hc3
      have hcell := (D1.out.own.cellAt e.2 (by omega)).trans (degV_at d6 he2)
      have hfr := D1.out.own.frozenAt e.2
      have g2 : (e.2 : Int) < (n : Int) := by omega
      have ew : IntKind.i64.wrap ((d6 e.2 : Int) + 1) = (d6 e.2 : Int) + 1 := by rw [IntKind.wrap_i64]; omega
      have D2 := Lib.hid (D1.out.drew.store (i := e.2) (x := d6 e.2 + 1))
      have ec : ((d6 e.2 + 1 : Nat) : Int) = (d6 e.2 : Int) + 1 := by omega
      rw [ec] at D2
      clear D1
      go_still_tail 18, (by kernel_rfl)
      change wpList _ _ _ _ _ w6.drew
      go_wp2
      have hw7' : (w6.setCell ⟨G, e.2, none⟩ (.int .i64 ((d6 e.2 : Int) + 1))).drew = (w6.drew).setCell ⟨G, e.2, none⟩ (.int .i64 ((d6 e.2 : Int) + 1)) := rfl
      rw [← funext DT6.out] at D2
      go_roundw
      case rel => exact ⟨k + 1, by omega, by go_num, D2.out⟩
      case measure => simp [intOf]; omega
    · obtain rfl : k = E.length := by omega
      rw [List.take_length] at D
      go_wp2
      go_ret
      exact ⟨G, rfl, by rw [← HGe.out]; exact D.out⟩
end Go.Proofs.Ytohbkpccfhciaaa

namespace Go.Proofs.Ytohbkpccfhciaaa
open Go.RowKit

theorem Try.infoRowR : (Try.prog.info? 32).map (fun i => (i.zero, i.size, i.bytes)) = some (some (.slice none 0 0), 1, 24) := by kernel_rfl
theorem one_rowR (v : Value) (a : Option Addr) (n c : Nat) (h : v = .slice a n c) : ∀ u ∈ [v], u.oneCell' = true := by intro u hu; simp at hu; subst hu; subst h; rfl
theorem rows_one {w : World} {B H : Nat} {RV : List Value} {rows : List (List Int)} (h : RowsI w B H RV rows) : ∀ u ∈ RV, u.oneCell' = true := by
  intro u hu
  obtain ⟨i, hi, rfl⟩ := List.getElem_of_mem hu
  obtain ⟨u', h1, ho⟩ := h.at_ i (by rw [← h.1]; exact hi)
  rw [List.getElem?_eq_getElem hi] at h1
  cases h1
  obtain ⟨a, c, e, _⟩ := ho.slice
  rw [e]; rfl
/-- what is taken away, and what is left, up to an edge -/
def outT (l : Nat) (F : Edges) : List Nat := (F.filter (touches l)).map (other l)
def keepT (l : Nat) (F : Edges) : Edges := F.filter fun e => !touches l e
theorem outT_step {l : Nat} {F : Edges} {i : Nat} (h : i < F.length) : outT l (F.take (i + 1)) = if touches l F[i] then outT l (F.take i) ++ [other l F[i]] else outT l (F.take i) := by
  unfold outT
  rw [List.take_succ_eq_append_getElem h, List.filter_append, List.map_append]
  by_cases ht : touches l F[i] = true
  · rw [if_pos ht, List.filter_cons_of_pos ht]; simp
  · rw [if_neg ht, List.filter_cons_of_neg ht]; simp
theorem keepT_step {l : Nat} {F : Edges} {i : Nat} (h : i < F.length) : keepT l (F.take (i + 1)) = if touches l F[i] then keepT l (F.take i) else keepT l (F.take i) ++ [F[i]] := by
  unfold keepT
  rw [List.take_succ_eq_append_getElem h, List.filter_append]
  by_cases ht : touches l F[i] = true
  · rw [if_pos ht, List.filter_cons_of_neg (by simp [ht])]; simp
  · rw [if_neg ht, List.filter_cons_of_pos (by simp [ht])]; simp
theorem outT_le (l : Nat) (F : Edges) : (outT l F).length ≤ F.length := by unfold outT; rw [List.length_map]; exact List.length_filter_le _ _
theorem keepT_le (l : Nat) (F : Edges) : (keepT l F).length ≤ F.length := List.length_filter_le _ _
/-- the edges that are left: a row of rows of the call's own -/
structure Lft (w : World) (B H B0 H0 g m c : Nat) (LV : List Value) (F : Edges) : Prop where
  own : Own w B H 32 (.slice (some ⟨g, 0, none⟩) m c) LV
  rows : RowsI w B0 H0 LV (rowsE F)
  len : F.length = m
theorem Lft.vlen {w : World} {B H B0 H0 g m c : Nat} {LV : List Value} {F : Edges} (h : Lft w B H B0 H0 g m c LV F) : LV.length = m := by rw [h.rows.1, ← h.len]; simp [rowsE]
theorem Lft.grid {w : World} {B H B0 H0 g m c : Nat} {LV : List Value} {F : Edges} (h : Lft w B H B0 H0 g m c LV F) (hH : H0 ≤ H) : Grid w 0 H (.slice (some ⟨g, 0, none⟩) m c) LV (rowsE F) :=
  ⟨own_lo h.own (Nat.zero_le _), (h.rows.lo (Nat.zero_le _)).more hH⟩
theorem Lft.more {w : World} {B H H' B0 H0 g m c : Nat} {LV : List Value} {F : Edges} (h : Lft w B H B0 H0 g m c LV F) (hH : H ≤ H') : Lft w B H' B0 H0 g m c LV F := ⟨h.own.more hH, h.rows, h.len⟩
theorem Lft.below {w w' : World} {B H B0 H0 g m c : Nat} {LV : List Value} {F : Edges} (h : Lft w B H B0 H0 g m c LV F) (hH : H0 ≤ H) (hb : Below H w w') : Lft w' B H B0 H0 g m c LV F :=
  ⟨h.own.below hb, h.rows.below (hb.mono hH), h.len⟩
theorem own_somR {w : World} {B n : Nat} {t : TypeId} {v : Value} {xs : List Value} (h : w.ownsRow B t 1 v n xs) (hv : v ≠ .slice none 0 0) : ∃ g cap, v = .slice (some ⟨g, 0, none⟩) n cap := by
  rcases h.2 with ⟨h0, _⟩ | ⟨g, cap, cur, h1, _⟩
  · exact absurd h0 hv
  · exact ⟨g, cap, h1⟩
theorem rowsE_length (E : Edges) : (rowsE E).length = E.length := by simp [rowsE]
theorem rowsE_append (A B : Edges) : rowsE (A ++ B) = rowsE A ++ rowsE B := by simp [rowsE]

theorem Ils.ownN {w0 w : World} {B g m c : Nat} {L : List Nat} (h : Ils w0 w B g m c L) : Own w B w.heap.size 3 (.slice (some ⟨g, 0, none⟩) m c) (ints L) :=
  ⟨by rw [ints_length, h.len]; exact h.own, fun q hq => (h.own.lt q hq).2⟩
/-- a row of numbers grows: rows of rows stay -/
theorem Lft.int {w w7 : World} {B' H' B0 H0 gl q cl B1 H1 : Nat} {LV xs : List Value} {F : Edges} {v : Value} {o : Obj} (h : Lft w B' H' B0 H0 gl q cl LV F) (hu : Own w B1 H1 3 v xs) (hB : H0 ≤ B1) (hHs : H0 ≤ w.heap.size)
    (hg : (w.alloc o).grownBy w7 v.ownBlock) : Lft w7 B' H' B0 H0 gl q cl LV F := by
  have hb : Below H0 w w7 := ((Below.refl _ _).alloc hHs o).grown hg (by simp; omega) (fun k hk => by have := (hu.1.lt k hk.symm.symm).1; omega)
  exact ⟨(h.own.alloc o).grown hg (h.own.ne hu (by decide)), h.rows.below hb, h.len⟩
/-- a row of rows grows: a row of numbers stays -/
theorem Ils.row {w0 w w7 : World} {B g m c B1 H1 : Nat} {L : List Nat} {xs : List Value} {v : Value} {o : Obj} (h : Ils w0 w B g m c L) (hu : Own w B1 H1 32 v xs) (hB : B ≤ B1) (hBs : B ≤ w.heap.size)
    (hg : (w.alloc o).grownBy w7 v.ownBlock) : Ils w0 w7 B g m c L := by
  have hk := (h.ownN.alloc o).grown hg (h.ownN.ne hu (by decide))
  refine ⟨h.len, ?_, (h.below.alloc hBs o).grown hg (by simp; omega) (fun k hk => by have := (hu.1.lt k hk.symm.symm).1; omega)⟩
  have := hk.1
  rwa [ints_length, h.len] at this
/-- .. and what lies lower stays -/
theorem Lft.low {w w7 : World} {B' R B0 H0 gl q cl B1 H1 : Nat} {LV xs : List Value} {F : Edges} {v : Value} {o : Obj} (h : Lft w B' R B0 H0 gl q cl LV F) (hu : Own w B1 H1 32 v xs) (hB : R ≤ B1) (hRs : R ≤ w.heap.size) (hH0 : H0 ≤ R)
    (hg : (w.alloc o).grownBy w7 v.ownBlock) : Lft w7 B' R B0 H0 gl q cl LV F := by
  have hb : Below R w w7 := ((Below.refl _ _).alloc hRs o).grown hg (by simp; omega) (fun k hk => by have := (hu.1.lt k hk.symm.symm).1; omega)
  exact h.below hH0 hb
/-- an edge's row is laid to those that are left -/
theorem Lft.add {w w7 : World} {R H' B0 H0 gr mr cr g7 c7 : Nat} {LR : List Value} {F : Edges} {u : Value} {e : Nat × Nat} (h : Lft w R H' B0 H0 gr mr cr LR F) (hR : H0 ≤ R) (hRs : R ≤ w.heap.size) (hu : Own w B0 H0 3 u (iv [(e.1 : Int), (e.2 : Int)]))
    (hv : w7.ownsRow R 32 1 (.slice (some ⟨g7, 0, none⟩) (mr + 1) c7) (mr + 1) (LR ++ [u])) (hg : (w.alloc (.cells #[u] 32)).grownBy w7 (Value.slice (some ⟨gr, 0, none⟩) mr cr).ownBlock) :
    Lft w7 R w7.heap.size B0 H0 g7 (mr + 1) c7 (LR ++ [u]) (F ++ [e]) := by
  have hb : Below H0 w w7 := ((Below.refl _ _).alloc (by omega) _).grown hg (by simp; omega) (fun k hk => by have := (h.own.1.lt k hk.symm.symm).1; omega)
  refine ⟨⟨by rw [List.length_append, h.vlen]; exact hv, fun q hq => (hv.lt q hq).2⟩, ?_, by rw [List.length_append, h.len]; rfl⟩
  rw [rowsE_append]
  exact (h.rows.below hb).append ((RowsI.one hu).below hb)

set_option maxHeartbeats 3200000 in
set_option maxRecDepth 100000 in
theorem codeOf_any (n : Nat) (E : Edges) (v : Value) (RV : List Value) (w : World) {B0 H0 : Nat} (hG : Hid (Grid w B0 H0 v RV (rowsE E))) (hH : H0 ≤ w.heap.size) (hV : Hid (ValidT n E)) (hn : 2 ≤ n ∧ n ≤ 64) :
    Calls Try.prog 33 #[.int .i64 n, v] w fun e w' => ∃ g m c, e = .returned (.slice (some ⟨g, 0, none⟩) m c) ∧ Ils w w' w.heap.size g m c (codeN n E) := by
  obtain ⟨i0, hi, hz0, hz1, hz2⟩ := info_parts Try.infoIntR
  obtain ⟨j0, hj, hy0, hy1, hy2⟩ := info_parts Try.infoRowR
  obtain ⟨hn2, hn64⟩ := hn
  have hEl := hV.out.len
  obtain ⟨av, cv, rfl, _, hcv, hcm, _⟩ := hG.out.1.slice
  have hgl : RV.length = E.length := by rw [hG.out.2.1]; simp [rowsE]
  obtain ⟨ga, rfl, hgaB, hgaH, _⟩ := hG.out.1.at_ 0 (by rw [hgl]; omega)
  rw [hgl] at hG hcv ⊢
  obtain ⟨es, cd, hp, hs, hc, hce⟩ := valid_peel hV.out hn2
  have HP : Hid (∃ es, Pl n es cd ∧ SameE E es) := ⟨es, hp, hs⟩
  rw [hce]
  have HC := Lib.hid hc
  have hst := World.ownsRow_lit (base := w.heap.size) (e := 32) (size := 1) w #[] 0 (Nat.le_refl _) (by decide) rfl
  clear hp hs hce hc
  go_enter Try.func33, Try.ntmps33
  have z1 : 0 + E.length ≤ maxLen := by unfold maxLen; omega
  have z2 : (0 + E.length) * 24 ≤ 140737488355328 := by omega
  have Z3 := Lib.hid (show w.heap.size ≤ (w.alloc (.cells #[] 32)).heap.size by simp)
  have HO1 : Hid (rows_one hG.out.2 = rows_one hG.out.2) := rfl
  have ONE := Lib.hid (rows_one hG.out.2)
  have CELLS : Hid (∀ j u, RV[j]? = some u → (w.alloc (.cells #[] 32)).cell? ((⟨ga, 0, none⟩ : Addr).add j) = some u) := fun j u hu => by
    have hjl : j < RV.length := by
      by_cases h : j < RV.length
      · exact h
      · rw [List.getElem?_eq_none (by omega)] at hu; cases hu
    have h0 : w.ownsRow B0 32 1 (.slice (some ⟨ga, 0, none⟩) E.length cv) E.length RV := by have := hG.out.1.1; rwa [hgl] at this
    have h1 := h0.cellAt j (by omega)
    rw [show (⟨ga, 0, none⟩ : Addr).add j = ⟨ga, j, none⟩ by simp [Addr.add_lit], ((Below.refl w.heap.size w).alloc (Nat.le_refl _) _).cell (p := ⟨ga, j, none⟩) (by show ga < _; omega), h1, hu]
  clear HO1
  go_wp2_with (at_builtin; refine wpList_append_own _ rfl (.tmp 11) (.tmp 12) 26 rfl w.heap.size 32 j0 (.slice none 0 0) 1 24 Try.underlying26 hj hy0 hy1 hy2 rfl (by decide) _ 0 [] rfl hst ⟨ga, 0, none⟩ E.length cv RV rfl (by rw [hgl]; omega) CELLS.out ONE.out z1 z2 Z3.out ?_)
  intro vL w3 hvL hgL hnL
  obtain ⟨gL, cL, rfl⟩ := own_somR hvL hnL
  have hb3 : Below w.heap.size w w3 := ((Below.refl _ _).alloc (Nat.le_refl _) _).grown hgL (by simp) (fun q hq => by simp only [Value.ownBlock, Option.some.injEq] at hq; omega)
  have LF3 : Lft w3 w.heap.size w3.heap.size B0 H0 gL E.length cL RV E :=
    ⟨⟨by rw [hgl]; exact hvL, fun q hq => (hvL.lt q hq).2⟩, (hG.out.2.below (hb3.mono hH)), rfl⟩
  have hst4 := World.ownsRow_lit (base := w.heap.size) (e := 3) (size := 1) w3 #[] 0 hb3.size (by decide) rfl
  have I4 : Hid (Ils w (w3.alloc (.cells #[] 3)) w.heap.size w3.heap.size 0 0 []) := ⟨rfl, hst4, hb3.alloc hb3.size _⟩
  have hs3 := hb3.size
  have LF4 : Hid (Lft (w3.alloc (.cells #[] 3)) w.heap.size (w3.alloc (.cells #[] 3)).heap.size B0 H0 gL E.length cL RV E) :=
    (LF3.below (by omega) ((Below.refl w3.heap.size w3).alloc (Nat.le_refl _) _)).more (by simp)
  have HH3 : Hid (H0 ≤ (w3.alloc (.cells #[] 3)).heap.size) := by show _ ≤ _; simp; omega
  clear hvL hgL hnL hb3 LF3 hst4 hst Z3 CELLS ONE z1 z2
  go_wp2
  obtain ⟨w4, hw4⟩ : ∃ w4, w4 = w3.alloc (.cells #[] 3) := ⟨_, rfl⟩
  obtain ⟨g0, hg0⟩ : ∃ g0, g0 = w3.heap.size := ⟨_, rfl⟩
  rw [← hw4] at I4 LF4 HH3 ⊢
  rw [← hg0] at I4 ⊢
  obtain ⟨B, hB⟩ : ∃ B, B = w.heap.size := ⟨_, rfl⟩
  have HB := Lib.hid hB
  rw [← hB] at I4 LF4 hH
  have hs4 := Lib.hid (show B ≤ w4.heap.size by rw [HB.out]; exact I4.out.below.size)
  clear hw4 hg0 hs3 hB hgaB hgaH
  go_loopw [5, 6] (fun left out wr => ∃ (gl cl m c g q : Nat) (LV : List Value) (F : Edges) (L r : List Nat), left = .slice (some ⟨gl, 0, none⟩) q cl ∧ out = .slice (some ⟨g, 0, none⟩) m c ∧ q ≤ n ∧ m + r.length + 2 = n ∧
      Hid (Ils w wr B g m c L) ∧ Hid (Lft wr B wr.heap.size B0 H0 gl q cl LV F) ∧ Hid (L ++ r = cd) ∧ Hid (∃ es, Pl n es r ∧ SameE F es)) (fun _ out _ => match out with | .slice _ m _ => n - m | _ => 0)
  case atStart => exact ⟨gL, cL, 0, 0, g0, E.length, RV, E, [], cd, rfl, rfl, by omega, by have := HC.out; omega, I4, LF4, rfl, HP⟩
  case round =>
    clear I4 LF4 HP HH3 hs4
    obtain ⟨gl, cl, m, c, g, q, LV, F, L, r, rfl, rfl, hqn, hmr, I, LF, HL, HP⟩ := hrel
    have hsz := Lib.hid (show B ≤ wr.heap.size by rw [HB.out]; exact I.out.below.size)
    have ew : IntKind.i64.wrap ((n : Int) - 2) = (n : Int) - 2 := by rw [IntKind.wrap_i64]; omega
    cases r with
    | nil =>
      have b1 : (n : Int) - 2 ≤ (m : Int) := by simp only [List.length_nil] at hmr; omega
      go_wp2
      go_ret
      refine ⟨g, m, c, rfl, ?_⟩
      have hl := HL.out
      rw [List.append_nil] at hl
      rw [← hl, ← HB.out]
      exact I.out
    | cons x r =>
      simp only [List.length_cons] at hmr
      have b1 : (m : Int) < (n : Int) - 2 := by omega
      obtain ⟨es, hp, hs⟩ := HP.out
      obtain ⟨l, es', hl1, hl2, hp', hs'⟩ := hp.round hs
      obtain ⟨ln, ld, lno⟩ := least_some.1 hl1
      have hFe : Hid (∀ e ∈ F, e.1 < n ∧ e.2 < n) := fun e he => by
        have h1 : (e.1, e.2) ∈ F ∨ (e.2, e.1) ∈ F := .inl he
        rcases (hs.ends e.1 e.2).1 h1 with h | h
        · have := hp.lt _ h; exact ⟨this.1, this.2.1⟩
        · have := hp.lt _ h; exact ⟨this.2.1, this.1⟩
      have HP' : Hid (∃ es, Pl n es r ∧ SameE (keepT l F) es) := ⟨es', hp', hs'⟩
      have HOUT : Hid (outT l F = [x]) := hl2
      have LN := Lib.hid lno
      have LD := Lib.hid ld
      have hqF := LF.out.len
      have CD := degrees_any n F (.slice (some ⟨gl, 0, none⟩) q cl) LV wr (Lib.hid (LF.out.grid (by have := hsz.out; omega))) (Nat.le_refl _) hFe (by omega) (by omega)
      have CD := Lib.hid CD
      clear hp hs hl1 hl2 hp' hs' lno ld HP
      go_wp2_with (go_at_call 49; refine CD.out.mono ?_; rintro e w5 ⟨G, rfl, hD⟩)
      have D5 := Lib.hid hD
      have hs5 := hD.below.size
      have I5 := Lib.hid (show Ils w w5 B g m c L from ⟨I.out.len, own_of_blocks I.out.own fun q hq => hD.below.block q (I.out.own.lt q hq).2, I.out.below.trans (hD.below.mono hsz.out)⟩)
      have LF5 := Lib.hid (((LF.out.below (by have := hsz.out; omega) hD.below).more hs5))
      have hB5 := Lib.hid (show B ≤ w5.heap.size by have := hsz.out; omega)
      have I5L : Hid (L.length = m) := I5.out.len
      have hds := fun v => deg_small F F.length v
      rw [List.take_length] at hds
      clear hD hs5 I LF CD hsz
      go_loopw [8] (fun leaf w' => ∃ k : Nat, k ≤ l ∧ leaf = .int .i64 k ∧ w' = w5) (fun leaf _ => l - (intOf leaf).toNat)
      case atStart => exact ⟨0, Nat.zero_le _, rfl, rfl⟩
      case round =>
        obtain ⟨k, hk, rfl, rfl⟩ := hrel
        have hcell := (D5.out.own.cellAt k (by omega)).trans (degV_at (deg F) (show k < n by omega))
        have b2 : (k : Int) < (n : Int) := by omega
        by_cases hkl : k < l
        · have q1 : ((deg F k : Int) == 1) = false := by rw [beq_eq_false_iff_ne]; have := LN.out k hkl; omega
          have q2 : ((deg F k : Int) != 1) = true := by rw [bne, q1]; rfl
          go_wp2
          go_roundw
          case rel => exact ⟨k + 1, by omega, by go_num, by simp⟩
          case measure => simp [intOf]; omega
        · obtain rfl : k = l := by omega
          have q1 : ((deg F k : Int) == 1) = true := by rw [LD.out]; rfl
          have q2 : ((deg F k : Int) != 1) = false := by rw [bne, q1]; rfl
          go_wp2
          have hst6 := World.ownsRow_lit (base := wr.heap.size) (e := 32) (size := 1) wr #[] 0 (Nat.le_refl _) (by decide) rfl
          have hH6 : H0 ≤ wr.heap.size := by have := hB5.out; omega
          have ha6 : Below wr.heap.size wr (wr.alloc (.cells #[] 32)) := (Below.refl _ _).alloc (Nat.le_refl _) _
          have R6 : Hid (Lft (wr.alloc (.cells #[] 32)) wr.heap.size (wr.alloc (.cells #[] 32)).heap.size B0 H0 wr.heap.size 0 0 [] []) := by
            have h6 : Own (wr.alloc (.cells #[] 32)) wr.heap.size (wr.alloc (.cells #[] 32)).heap.size 32 (.slice (some ⟨wr.heap.size, 0, none⟩) 0 0) [] := ⟨hst6, fun q hq => (hst6.lt q hq).2⟩
            exact ⟨h6, RowsI.nil, rfl⟩
          have I6 : Hid (Ils w (wr.alloc (.cells #[] 32)) B g m c L) := ⟨I5.out.len, own_of_blocks I5.out.own fun q hq => ha6.block q (I5.out.own.lt q hq).2, I5.out.below.alloc hB5.out _⟩
          have L6 : Hid (Lft (wr.alloc (.cells #[] 32)) B wr.heap.size B0 H0 gl q cl LV F) := LF5.out.below hH6 ha6
          have S6 : Hid (wr.heap.size ≤ (wr.alloc (.cells #[] 32)).heap.size) := ha6.size
          obtain ⟨w6, hw6⟩ : ∃ w6, w6 = wr.alloc (.cells #[] 32) := ⟨_, rfl⟩
          obtain ⟨R0, hR0⟩ : ∃ R0, R0 = wr.heap.size := ⟨_, rfl⟩
          rw [← hw6] at R6 I6 L6 S6 ⊢
          rw [← hR0] at R6 L6 S6 hH6 ⊢
          have hBR : B ≤ R0 := by rw [hR0]; exact hB5.out
          have hlF := LF5.out.len
          clear hw6 hR0 hst6 ha6 I5 LF5 D5 hcell hds b2 q1 q2 LN hB5 hk
          go_loopw [6, 9, 10] (fun out rest ii wi => ∃ (i m' c' g' mr cr gr : Nat) (LR : List Value), i ≤ q ∧ out = .slice (some ⟨g', 0, none⟩) m' c' ∧ rest = .slice (some ⟨gr, 0, none⟩) mr cr ∧ ii = .int .i64 i ∧ m' ≤ m + i ∧ mr ≤ i ∧
              Hid (Ils w wi B g' m' c' (L ++ outT k (F.take i))) ∧ Hid (Lft wi R0 wi.heap.size B0 H0 gr mr cr LR (keepT k (F.take i))) ∧ Hid (Lft wi B R0 B0 H0 gl q cl LV F) ∧ Hid (R0 ≤ wi.heap.size)) (fun _ _ ii _ => q - (intOf ii).toNat)
          case atStart => exact ⟨0, m, c, g, 0, 0, _, [], Nat.zero_le _, rfl, rfl, rfl, by omega, Nat.le_refl _, by simpa [outT] using I6, by simpa [keepT] using R6, L6, S6⟩
          case round =>
            clear I6 R6 L6 S6
            obtain ⟨i, m', c', g', mr, cr, gr, LR, hiq, rfl, rfl, rfl, hm', hmr', IO, RL, LL, SS⟩ := hrel
            have hBi := Lib.hid (show B ≤ wr.heap.size by have := SS.out; omega)
            have hsi := SS.out
            by_cases hlt : i < q
            · have b3 : (i : Int) < (q : Int) := by omega
              have hiF : i < F.length := by omega
              have OS := outT_step (l := k) hiF
              have KS := keepT_step (l := k) hiF
              have hLo : Own wr B R0 32 (.slice (some ⟨gl, 0, none⟩) LV.length cl) LV := by have := LL.out.own; rwa [LL.out.vlen]
              obtain ⟨gl', e1, _, _, hc0, _⟩ := hLo.at_ i (by rw [LL.out.vlen]; exact hlt)
              cases e1
              obtain ⟨u, hu, ho⟩ := LL.out.rows.at_ i (by rw [rowsE_length]; exact hiF)
              have er : (rowsE F)[i]'(by rw [rowsE_length]; exact hiF) = [(F[i].1 : Int), (F[i].2 : Int)] := by simp [rowsE]
              rw [er] at ho
              obtain ⟨e, he⟩ : ∃ e, e = F[i] := ⟨_, rfl⟩
              rw [← he] at OS KS ho
              have HO := Lib.hid ho
              obtain ⟨au, cu, rfl, _, hcu0, _, _⟩ := ho.slice
              rw [iv_length] at ho hcu0 hu HO
              obtain ⟨ge, rfl, _, _, hd1, _⟩ := ho.at_ 0 (by rw [iv_length]; simp)
              obtain ⟨ge', e5, _, _, hd2, _⟩ := ho.at_ 1 (by rw [iv_length]; simp)
              cases e5
              rw [hu] at hc0
              have hc1 : wr.cell? ⟨ge, 0, none⟩ = some (.int .i64 (e.1 : Int)) := hd1
              have hc2 : wr.cell? ⟨ge, 1, none⟩ = some (.int .i64 (e.2 : Int)) := hd2
              have hcu : 2 ≤ cu := hcu0
              clear he ho hLo er hd1 hd2 hcu0 hu
              by_cases h1 : e.1 = k
              · have q1 : ((k : Int) == (e.1 : Int)) = true := by rw [h1]; simp
                have ht : touches k e = true := by unfold touches; simp [h1]
                have y1 : m' + 1 ≤ maxLen := by unfold maxLen; omega
                have y2 : (m' + 1) * 8 ≤ 140737488355328 := by omega
                have Y3 := Lib.hid (show ∀ o : Obj, B ≤ (wr.alloc o).heap.size by intro o; have := hBi.out; simp; omega)
                have Y4 := Lib.hid (show ∀ o : Obj, (wr.alloc o).heap.size = wr.heap.size + 1 by intro o; simp)
                have ho : other k e = e.2 := by unfold other; rw [if_pos h1]
                rw [if_pos ht, ho] at OS
                rw [if_pos ht] at KS
                have OS := Lib.hid OS
                have KS := Lib.hid KS
                clear ht ho h1
                go_wp2_with (at_builtin; refine wpList_append_lies _ rfl (.tmp 53) (.tmp 60) 32 rfl B 3 i0 (.int .i64 0) 1 8 Try.underlying32 hi hz0 hz1 hz2 rfl (by decide) _ m' (ints (L ++ outT k (F.take i))) rfl (IO.out.own.alloc _) ⟨wr.heap.size, 0, none⟩ 1 1 [_] rfl rfl (cell_one_new _ _ _) (one_intR _) (by decide) y1 y2 (Y3.out _) (wr.heap.size + 1) (Y4.out _) ?_)
                intro g7 c7 w7 hv7 hg7 hw7 hl7
                have s7 := hg7.size
                have I7 := Lib.hid (IO.out.app hBi.out hv7 hg7)
                have R7 := Lib.hid ((RL.out.int (o := .cells #[.int .i64 (e.2 : Int)] 3) IO.out.ownN hH (by omega) hg7).more (show wr.heap.size ≤ w7.heap.size by simp at s7; omega))
                have L7 := Lib.hid (LL.out.int (o := .cells #[.int .i64 (e.2 : Int)] 3) IO.out.ownN hH (by omega) hg7)
                have S7 := Lib.hid (show R0 ≤ w7.heap.size by simp at s7; omega)
                clear hv7 hg7 hw7 hl7 s7 IO RL LL Y3 Y4
                go_wp2
                go_roundw
                case rel => exact ⟨i + 1, m' + 1, c7, g7, mr, cr, gr, LR, by omega, rfl, rfl, by go_num, by omega, by omega, by rw [OS.out, ← List.append_assoc]; exact I7.out, by rw [KS.out]; exact R7.out, L7.out, S7.out⟩
                case measure => simp [intOf]; omega
              · have q1 : ((k : Int) == (e.1 : Int)) = false := by rw [beq_eq_false_iff_ne]; omega
                by_cases h2 : e.2 = k
                · have q2 : ((k : Int) == (e.2 : Int)) = true := by rw [h2]; simp
                  have ht : touches k e = true := by unfold touches; simp [h2]
                  clear h2
                  have y1 : m' + 1 ≤ maxLen := by unfold maxLen; omega
                  have y2 : (m' + 1) * 8 ≤ 140737488355328 := by omega
                  have Y3 := Lib.hid (show ∀ o : Obj, B ≤ (wr.alloc o).heap.size by intro o; have := hBi.out; simp; omega)
                  have Y4 := Lib.hid (show ∀ o : Obj, (wr.alloc o).heap.size = wr.heap.size + 1 by intro o; simp)
                  have ho : other k e = e.1 := by unfold other; rw [if_neg h1]
                  rw [if_pos ht, ho] at OS
                  rw [if_pos ht] at KS
                  have OS := Lib.hid OS
                  have KS := Lib.hid KS
                  clear ht ho h1
                  go_wp2_with (at_builtin; refine wpList_append_lies _ rfl (.tmp 70) (.tmp 77) 32 rfl B 3 i0 (.int .i64 0) 1 8 Try.underlying32 hi hz0 hz1 hz2 rfl (by decide) _ m' (ints (L ++ outT k (F.take i))) rfl (IO.out.own.alloc _) ⟨wr.heap.size, 0, none⟩ 1 1 [_] rfl rfl (cell_one_new _ _ _) (one_intR _) (by decide) y1 y2 (Y3.out _) (wr.heap.size + 1) (Y4.out _) ?_)
                  intro g7 c7 w7 hv7 hg7 hw7 hl7
                  have s7 := hg7.size
                  have I7 := Lib.hid (IO.out.app hBi.out hv7 hg7)
                  have R7 := Lib.hid ((RL.out.int (o := .cells #[.int .i64 (e.1 : Int)] 3) IO.out.ownN hH (by omega) hg7).more (show wr.heap.size ≤ w7.heap.size by simp at s7; omega))
                  have L7 := Lib.hid (LL.out.int (o := .cells #[.int .i64 (e.1 : Int)] 3) IO.out.ownN hH (by omega) hg7)
                  have S7 := Lib.hid (show R0 ≤ w7.heap.size by simp at s7; omega)
                  clear hv7 hg7 hw7 hl7 s7 IO RL LL Y3 Y4
                  go_wp2
                  go_roundw
                  case rel => exact ⟨i + 1, m' + 1, c7, g7, mr, cr, gr, LR, by omega, rfl, rfl, by go_num, by omega, by omega, by rw [OS.out, ← List.append_assoc]; exact I7.out, by rw [KS.out]; exact R7.out, L7.out, S7.out⟩
                  case measure => simp [intOf]; omega
                · have q2 : ((k : Int) == (e.2 : Int)) = false := by rw [beq_eq_false_iff_ne]; omega
                  have ht : touches k e = false := by unfold touches; simp [h1, h2]
                  rw [ht, if_neg (by decide)] at OS KS
                  have OS := Lib.hid OS
                  have KS := Lib.hid KS
                  have y1 : mr + 1 ≤ maxLen := by unfold maxLen; omega
                  have y2 : (mr + 1) * 24 ≤ 140737488355328 := by omega
                  have Y3 := Lib.hid (show ∀ o : Obj, R0 ≤ (wr.alloc o).heap.size by intro o; simp; omega)
                  have Y4 := Lib.hid (show ∀ o : Obj, (wr.alloc o).heap.size = wr.heap.size + 1 by intro o; simp)
                  have RO := Lib.hid (show (wr.ownsRow R0 32 1 (.slice (some ⟨gr, 0, none⟩) mr cr) mr LR) by have := RL.out.own.1; rwa [RL.out.vlen] at this)
                  clear ht h1 h2
                  go_wp2_with (at_builtin; refine wpList_append_lies _ rfl (.tmp 38) (.tmp 43) 26 rfl R0 32 j0 (.slice none 0 0) 1 24 Try.underlying26 hj hy0 hy1 hy2 rfl (by decide) _ mr LR rfl (RO.out.alloc _) ⟨wr.heap.size, 0, none⟩ 1 1 [_] rfl rfl (cell_one_new _ _ _) (one_rowR _ _ _ _ rfl) (by decide) y1 y2 (Y3.out _) (wr.heap.size + 1) (Y4.out _) ?_)
                  intro g7 c7 w7 hv7 hg7 hw7 hl7
                  have s7 := hg7.size
                  have hRo : Own wr R0 wr.heap.size 32 (.slice (some ⟨gr, 0, none⟩) mr cr) LR := RL.out.own
                  have I7 := Lib.hid (IO.out.row hRo hBR hBi.out hg7)
                  have R7 := Lib.hid (RL.out.add hH6 hsi HO.out hv7 hg7)
                  have L7 := Lib.hid (LL.out.low hRo (Nat.le_refl _) hsi hH6 hg7)
                  have S7 := Lib.hid (show R0 ≤ w7.heap.size by simp at s7; omega)
                  clear hv7 hg7 hw7 hl7 s7 IO RL LL Y3 Y4 RO hRo
                  go_wp2
                  go_roundw
                  case rel => exact ⟨i + 1, m', c', g', mr + 1, c7, g7, _, by omega, rfl, rfl, by go_num, by omega, by omega, by rw [OS.out]; exact I7.out, by rw [KS.out]; exact R7.out, L7.out, S7.out⟩
                  case measure => simp [intOf]; omega
            · obtain rfl : i = q := by omega
              have hFl : F.take i = F := List.take_of_length_le (by omega)
              rw [hFl] at IO RL
              rw [HOUT.out] at IO
              have hm1 : m' = m + 1 := by have h1 := IO.out.len; have h2 := I5L.out; rw [List.length_append] at h1; simp at h1; omega
              subst hm1
              have HL2 : Hid ((L ++ [x]) ++ r = cd) := by show _ = _; rw [List.append_assoc]; exact HL.out
              have RL2 := Lib.hid (show Lft wr B wr.heap.size B0 H0 gr mr cr LR (keepT k F) from ⟨own_lo RL.out.own hBR, RL.out.rows, RL.out.len⟩)
              have hmq : mr ≤ n := by omega
              clear hFl HL HOUT RL LL
              go_wp2
              go_roundw
              case rel => exact ⟨gr, cr, m + 1, c', g', mr, LR, _, _, r, rfl, rfl, hmq, by omega, IO, RL2, HL2, HP'⟩
              case measure => simp; omega
end Go.Proofs.Ytohbkpccfhciaaa
