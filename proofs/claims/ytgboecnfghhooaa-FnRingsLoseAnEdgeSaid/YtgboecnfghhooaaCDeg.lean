/-
  The contract of the model's function that counts the edges of each node.
-/
import Derived.Test.YtgboecnfghhooaaCReach
namespace Go.Proofs.Ytgboecnfghhooaa
open Go.RowKit

def degV (n : Nat) (d : Nat → Nat) : List Value := ints ((List.range n).map d)
theorem degV_length (n : Nat) (d : Nat → Nat) : (degV n d).length = n := by simp [degV, ints]
theorem degV_at {n i : Nat} (d : Nat → Nat) (h : i < n) : (degV n d)[i]? = some (.int .i64 (d i : Int)) := by simp [degV, ints, h]
theorem degV_set {n i : Nat} (d : Nat → Nat) (x : Nat) : (degV n d).set i (.int .i64 (x : Int)) = degV n (fun v => if v = i then x else d v) := by
  apply List.ext_getElem?
  intro j
  rw [List.getElem?_set]
  by_cases hj : j < n
  · by_cases e : i = j
    · subst e
      rw [if_pos rfl, degV_at _ hj, if_pos rfl, degV_length, if_pos hj]
    · rw [if_neg e, degV_at _ hj, degV_at _ hj, if_neg (Ne.symm e)]
  · rw [List.getElem?_eq_none (show (degV n fun v => if v = i then x else d v).length ≤ j by rw [degV_length]; omega), List.getElem?_eq_none (show (degV n d).length ≤ j by rw [degV_length]; omega), degV_length]
    split
    · rw [if_neg (by omega)]
    · rfl
theorem degV_zero (n : Nat) : List.replicate n (Value.int .i64 0) = degV n (deg []) := by
  apply List.ext_getElem?
  intro j
  by_cases hj : j < n
  · rw [degV_at _ hj, List.getElem?_replicate, if_pos hj]; rfl
  · rw [List.getElem?_eq_none (by rw [List.length_replicate]; omega), List.getElem?_eq_none (by rw [degV_length]; omega)]
theorem deg_take (E : Edges) (k : Nat) (h : k < E.length) (v : Nat) : deg (E.take (k + 1)) v = deg (E.take k) v + ((if E[k].1 = v then 1 else 0) + (if E[k].2 = v then 1 else 0)) := by
  rw [List.take_succ_eq_append_getElem h, deg_append, deg_cons, deg_nil]; rfl
theorem deg_small (E : Edges) (k v : Nat) : deg (E.take k) v ≤ 2 * k := by
  induction k with
  | zero => simp [deg]
  | succ k ih =>
    by_cases h : k < E.length
    · rw [deg_take E k h]
      have a1 : (if E[k].1 = v then 1 else 0) ≤ 1 := by split <;> omega
      have a2 : (if E[k].2 = v then 1 else 0) ≤ 1 := by split <;> omega
      omega
    · rw [List.take_of_length_le (by omega)]
      rw [List.take_of_length_le (by omega)] at ih
      omega
theorem two_store (d : Nat → Nat) (a b v : Nat) : d v + ((if a = v then 1 else 0) + (if b = v then 1 else 0)) = if v = b then (fun v => if v = a then d a + 1 else d v) b + 1 else (fun v => if v = a then d a + 1 else d v) v := by
  dsimp only
  by_cases h1 : v = b
  · rw [if_pos h1, if_pos h1.symm, h1]
    by_cases h2 : b = a
    · rw [if_pos h2, if_pos h2.symm, h2]
    · rw [if_neg h2, if_neg (Ne.symm h2)]
  · rw [if_neg h1, if_neg (Ne.symm h1)]
    by_cases h2 : v = a
    · rw [if_pos h2, if_pos h2.symm, h2]
    · rw [if_neg h2, if_neg (Ne.symm h2)]; rfl
/-- a row of the call's own that holds degrees -/
structure Dg (w0 w : World) (B G n : Nat) (d : Nat → Nat) : Prop where
  own : w.ownsRow G 3 1 (.slice (some ⟨G, 0, none⟩) n n) n (degV n d)
  below : Below B w0 w
  ge : B ≤ G
theorem Dg.store {w0 w : World} {B G n i x : Nat} {d : Nat → Nat} (h : Dg w0 w B G n d) : Dg w0 (w.setCell ⟨G, i, none⟩ (.int .i64 (x : Int))) B G n (fun v => if v = i then x else d v) := by
  refine ⟨?_, h.below.setCell (p := ⟨G, i, none⟩) h.ge _, h.ge⟩
  have := (h.own.stored i (.int .i64 (x : Int))).1
  rw [degV_set] at this
  exact this
theorem Dg.drew {w0 w : World} {B G n : Nat} {d : Nat → Nat} (h : Dg w0 w B G n d) : Dg w0 w.drew B G n d := ⟨own_of_blocks h.own fun _ _ => rfl, Below.drew h.below, h.ge⟩

set_option maxHeartbeats 3200000 in
set_option maxRecDepth 100000 in
theorem degrees_any (n : Nat) (E : Edges) (v : Value) (RV : List Value) (w : World) {B0 H0 : Nat} (hG : Hid (Grid w B0 H0 v RV (rowsE E))) (hH : H0 ≤ w.heap.size) (hE : Hid (∀ e ∈ E, e.1 < n ∧ e.2 < n)) (hn : n ≤ 64) (hel : E.length ≤ 64) :
    Calls Try.prog 78 #[.int .i64 n, v] w fun e w' => ∃ g, e = .returned (.slice (some ⟨g, 0, none⟩) n n) ∧ Dg w w' w.heap.size g n (deg E) := by
  obtain ⟨i0, hi, hz0, hz1, hz2⟩ := info_parts Try.infoIntR
  obtain ⟨av, cv, rfl, _, hcv, _, _⟩ := hG.out.1.slice
  have hgl : RV.length = E.length := by rw [hG.out.2.1]; simp [rowsE]
  rw [hgl] at hG hcv ⊢
  go_enter Try.func78, Try.ntmps78
  go_wp2_with (at_make; refine wpList_make_full _ rfl _ _ 32 rfl w.heap.size 3 i0 (.int .i64 0) 1 Try.underlying32 hi hz0 hz1 _ _ _ _ n rfl rfl rfl rfl ?b2 ?b3 (Nat.le_refl _) ?_)
  case b2 => rw [hz2]; omega
  case b3 => unfold maxLen; omega
  intro w1 hown hgrow
  have hb1 : Below w.heap.size w w1 := (Below.refl _ _).grown hgrow (Nat.le_refl _) (fun k hk => by cases hk)
  rw [show (madeCells #[Value.int .i64 0] n).toList = List.replicate n (Value.int .i64 0) from toList_madeCells_one _ _, degV_zero] at hown
  obtain ⟨G, hGe⟩ : ∃ G, G = w.heap.size := ⟨_, rfl⟩
  rw [← hGe] at hown ⊢
  have D0 : Hid (Dg w w1 w.heap.size G n (deg [])) := ⟨hown, hb1, by omega⟩
  rw [← hGe] at D0
  have HGe := Lib.hid hGe
  clear hown hgrow hb1 hGe
  go_wp2
  go_loopw [6] (fun ii wr => ∃ k : Nat, k ≤ E.length ∧ ii = .int .i64 k ∧ Hid (Dg w wr G G n (deg (E.take k)))) (fun ii _ => E.length - (intOf ii).toNat)
  case atStart => exact ⟨0, Nat.zero_le _, rfl, D0⟩
  case round =>
    clear D0
    obtain ⟨k, hk, rfl, D⟩ := hrel
    by_cases hlt : k < E.length
    · have b1 : (k : Int) < (E.length : Int) := by omega
      obtain ⟨ga, c', gr, cr, e1, hga, hgr, _, _, hcr, hc1, hc2, hc3⟩ := edge_at (hG.out.below (D.out.below.mono (by rw [HGe.out]; exact hH))) hlt
      simp only [Value.slice.injEq] at e1
      obtain ⟨rfl, _, rfl⟩ := e1
      obtain ⟨he1, he2⟩ := hE.out _ (List.getElem_mem hlt)
      have DT := Lib.hid (fun v => deg_take E k hlt v)
      have hds := fun v => deg_small E k v
      obtain ⟨e, he⟩ : ∃ e, e = E[k] := ⟨_, rfl⟩
      have HEK := Lib.hid he
      rw [← he] at hc2 hc3 he1 he2 DT
      obtain ⟨d, hd⟩ : ∃ d, d = deg (E.take k) := ⟨_, rfl⟩
      rw [← hd] at D hds DT
      have x1 := hds e.1
      have hcell := (D.out.own.cellAt e.1 (by omega)).trans (degV_at d he1)
      have hfr := D.out.own.frozenAt e.1
      have g1 : (e.1 : Int) < (n : Int) := by omega
      have ew : IntKind.i64.wrap ((d e.1 : Int) + 1) = (d e.1 : Int) + 1 := by rw [IntKind.wrap_i64]; omega
      have D1 := Lib.hid (D.out.drew.store (i := e.1) (x := d e.1 + 1))
      have ec : ((d e.1 + 1 : Nat) : Int) = (d e.1 : Int) + 1 := by omega
      clear he hd
      rw [ec] at D1
      go_wp2
      go_still_tail 18, (by kernel_rfl)
      change wpList _ _ _ _ _ wr.drew
      go_wp2
      obtain ⟨w6, hw6⟩ : ∃ w6, w6 = (wr.drew).setCell ⟨G, e.1, none⟩ (.int .i64 ((d e.1 : Int) + 1)) := ⟨_, rfl⟩
      rw [← hw6] at D1
      have hw6' : (wr.setCell ⟨G, e.1, none⟩ (.int .i64 ((d e.1 : Int) + 1))).drew = w6 := hw6.symm
      rw [hw6']
      obtain ⟨d6, hd6⟩ : ∃ d6 : Nat → Nat, d6 = fun v => if v = e.1 then d e.1 + 1 else d v := ⟨_, rfl⟩
      rw [← hd6] at D1
      have DT6 : Hid (∀ v, deg (E.take (k + 1)) v = if v = e.2 then d6 e.2 + 1 else d6 v) := fun v => by
        rw [DT.out v, hd6]
        exact two_store d e.1 e.2 v
      have x2 : d6 e.2 ≤ 200 := by
        have h1 := hds e.1
        have h2 := hds e.2
        rw [hd6]
        show (if e.2 = e.1 then d e.1 + 1 else d e.2) ≤ 200
        split <;> omega
      clear hw6 hw6' hd6 hc1 hc2 hc3 hcell hfr ew ec x1 hds DT D g1
      obtain ⟨ga', c', gr', cr', e1', _, _, _, _, _, hc1, hc2, hc3⟩ := edge_at (hG.out.below (D1.out.below.mono (by rw [HGe.out]; exact hH))) hlt
      simp only [Value.slice.injEq, Option.some.injEq, Addr.mk.injEq] at e1'
      obtain ⟨⟨rfl, _, _⟩, _, rfl⟩ := e1'
      rw [← HEK.out] at hc2 hc3
      have hcell := (D1.out.own.cellAt e.2 (by omega)).trans (degV_at d6 he2)
      have hfr := D1.out.own.frozenAt e.2
      have g2 : (e.2 : Int) < (n : Int) := by omega
      have ew : IntKind.i64.wrap ((d6 e.2 : Int) + 1) = (d6 e.2 : Int) + 1 := by rw [IntKind.wrap_i64]; omega
      have D2 := Lib.hid (D1.out.drew.store (i := e.2) (x := d6 e.2 + 1))
      have ec : ((d6 e.2 + 1 : Nat) : Int) = (d6 e.2 : Int) + 1 := by omega
      rw [ec] at D2
      clear D1
      go_still_tail 18, (by kernel_rfl)
      change wpList _ _ _ _ _ w6.drew
      go_wp2
      have hw7' : (w6.setCell ⟨G, e.2, none⟩ (.int .i64 ((d6 e.2 : Int) + 1))).drew = (w6.drew).setCell ⟨G, e.2, none⟩ (.int .i64 ((d6 e.2 : Int) + 1)) := rfl
      rw [← funext DT6.out] at D2
      go_roundw
      case rel => exact ⟨k + 1, by omega, by go_num, D2.out⟩
      case measure => simp [intOf]; omega
    · obtain rfl : k = E.length := by omega
      rw [List.take_length] at D
      go_wp2
      go_ret
      exact ⟨G, rfl, by rw [← HGe.out]; exact D.out⟩
end Go.Proofs.Ytgboecnfghhooaa
