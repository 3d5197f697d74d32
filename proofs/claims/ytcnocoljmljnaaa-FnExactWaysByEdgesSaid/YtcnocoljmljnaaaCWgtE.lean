/-
  The contract of the program's WaysByEdges, of any rows.
-/
import Derived.Test.YtcnocoljmljnaaaCWghI
import Derived.Test.YtcnocoljmljnaaaCNbrs
import Derived.Test.YtcnocoljmljnaaaZFS
import Derived.Test.YtcnocoljmljnaaaZW
import Derived.Deep.RegionHeld3
namespace Go.Proofs.Ytcnocoljmljnaaa
open Go.RowKit

def sidK (E : Edges) (k : Nat) : Nat := ((E.take k).map (sideG E)).sum
theorem sidK_next {E : Edges} {k : Nat} (hk : k < E.length) : sidK E (k + 1) = sidK E k + sz E 14 E[k].1 E[k].2 * sz E 14 E[k].2 E[k].1 := by
  unfold sidK
  rw [List.take_succ_eq_append_getElem hk, List.map_append, List.sum_append]
  simp [sideG, Nat.mul_comm]
theorem sidK_all {n : Nat} {E : Edges} (h : ValidT n E) (h7 : n ≤ 7) : edgN n E = sidK E E.length := by
  unfold sidK
  rw [List.take_length]
  exact sum_range_get (sideG E) E (fun k => (reachedN n (restE E k)).length * (n - (reachedN n (restE E k)).length)) fun k hk => edge_side h h7 hk
theorem edge_sz {n : Nat} {E : Edges} (h : ValidT n E) (h7 : n ≤ 7) {k : Nat} (hk : k < E.length) : E[k].1 < n ∧ E[k].2 < n ∧ sz E 14 E[k].1 E[k].2 ≤ 7 ∧ sz E 14 E[k].2 E[k].1 ≤ 7 := by
  have hm := List.getElem_mem hk
  have h1 := h.ord _ hm
  have h2 := sz_two h h7 (v := E[k].1) (x := E[k].2) (.inl hm)
  omega
theorem sidK_le {n : Nat} {E : Edges} (h : ValidT n E) (h7 : n ≤ 7) : ∀ k, k ≤ E.length → sidK E k ≤ 49 * k := by
  intro k
  induction k with
  | zero => intro _; simp [sidK]
  | succ k ih =>
    intro hk
    have h1 := ih (by omega)
    obtain ⟨_, _, h2, h3⟩ := edge_sz h h7 (k := k) (by omega)
    have h4 := Nat.mul_le_mul h2 h3
    rw [sidK_next (by omega)]
    omega
set_option maxRecDepth 100000 in
set_option maxHeartbeats 3200000 in
theorem implWaysByEdges_any : TreeFn 23 (treeV edgN) := by
  intro n rows v RV w B0 H0 hG hH hrl hrs hwf
  obtain ⟨av, cv, hv⟩ : ∃ a c, v = .slice a RV.length c := by
    obtain ⟨a, c, h, _⟩ := hG.out.1.slice; exact ⟨a, c, h⟩
  cases ht : treeB n rows with
  | true =>
    rw [treeV, if_pos ht]
    obtain ⟨h1, h2⟩ := rowsE_tree ht
    obtain ⟨N, hN⟩ : ∃ N : Nat, n = N := ⟨n.toNat, by have := (treeB_iff.1 ht).1; omega⟩
    have CN := Lib.hid (treeNb_yes N rows v RV w hG hH hrl hrs (Lib.hid (by rw [← hN]; exact ht)))
    rw [← hN] at CN
    have hnat : n.toNat = N := by omega
    rw [hnat] at h2 ⊢
    obtain ⟨E, hE⟩ : ∃ E, E = edgesR rows := ⟨_, rfl⟩
    rw [← hE] at h1 h2 CN ⊢
    subst h1
    have h0 : 0 < N := by have := h2.v.len; omega
    have HO : Hid (∀ e ∈ E, e.1 < N ∧ e.2 < N) := fun e he => by have := h2.v.ord e he; omega
    have hl64 : E.length ≤ 64 := by have := h2.len; omega
    have HV : Hid (edgN N E = sidK E E.length) := sidK_all h2.v h2.h7
    have HL := Lib.hid (sidK_le h2.v h2.h7)
    have HE := Lib.hid (fun k (hk : k < E.length) => edge_sz h2.v h2.h7 hk)
    have HN := Lib.hid (fun k (hk : k < E.length) => sidK_next hk)
    have CW := Lib.hid (fun (u x : Nat) (hu : u < N) (hs : Hid (sz E 14 u x ≤ 7)) (tv : Value) (RV : List Value) (W : World) (B0 H0 : Nat) => weighI_p N E HO hl64 (Lib.hid (joinI_p N E)) 14 u x hu (by omega) (Lib.hid (valid_brn h2.v h2.h7 u x)) hs tv RV W B0 H0)
    have h6 := h2.len
    have hrl2 : RV.length = (rowsE E).length := hG.out.2.1
    have hre : (rowsE E).length = E.length := rowsE_len E
    obtain ⟨m, hm⟩ : ∃ m, m = E.length := ⟨_, rfl⟩
    have HM := Lib.hid hm
    have RA : Hid (∀ (k : Nat) (hk : k < E.length), ∃ ga gr cu, av = some ⟨ga, 0, none⟩ ∧ ga < w.heap.size ∧ gr < w.heap.size ∧ w.cell? ⟨ga, k, none⟩ = some (.slice (some ⟨gr, 0, none⟩) 2 cu) ∧ 2 ≤ cu ∧ w.cell? ⟨gr, 0, none⟩ = some (.int .i64 (E[k].1 : Int)) ∧ w.cell? ⟨gr, 1, none⟩ = some (.int .i64 (E[k].2 : Int))) := fun k hk => by
      have hk2 : k < (rowsE E).length := by rw [hre]; exact hk
      have hG2 := hG.out
      rw [hv, hrl2] at hG2
      obtain ⟨ga, au, cu, e1, b1, b2, b3, b4, b5⟩ := row_at hG2 hk2
      have hrow : (rowsE E)[k] = [(E[k].1 : Int), (E[k].2 : Int)] := by simp [rowsE]
      rw [hrow] at b2 b4 b5
      obtain ⟨gr, e2, _, c2, c3, _⟩ := b5.at_ 0 (by simp [iv_length])
      obtain ⟨gr', e2', _, _, c4, _⟩ := b5.at_ 1 (by simp [iv_length])
      rw [e2] at e2'
      injection e2' with e2'
      injection e2' with e2'
      subst e2'
      subst e2
      exact ⟨ga, gr, cu, e1, by omega, by omega, b4, b2, c3, c4⟩
    rw [hrl2, hre] at hv
    rw [← hm] at hv
    subst hv
    clear hG hH hrl hrs ht h2 hnat hE h0 hl64 HO hrl2 hre hwf
    rw [hN] at CN ⊢
    clear hN
    have h6' : m ≤ 6 := by rw [hm]; exact h6
    rw [HV.out, ← hm]
    clear hm h6 HV
    go_enter Try.func23, Try.ntmps23
    go_wp2_with fail
    refine CN.out.mono ?_
    rintro e w1 ⟨x, RW, rfl, hg, hb1⟩
    have HG1 := Lib.hid hg
    have HB1 := Lib.hid hb1
    obtain ⟨ax, cx, hx, _⟩ := hg.1.slice
    subst hx
    obtain ⟨L, hL⟩ : ∃ L, L = RW.length := ⟨_, rfl⟩
    rw [← hL] at HG1 ⊢
    clear hg hb1 CN hL
    go_wp2_with fail
    go_loopw [7, 9, 10, 11, 22] (fun e7 e9 e10 e11 ii wr => ∃ (k a : Nat), k ≤ m ∧ ii = .int .i64 k ∧ e7 = .int .i64 (a : Int) ∧ Hid (a = sidK E k) ∧ Hid (Below w1.heap.size w1 wr)) (fun _ _ _ _ ii _ => m - (intOf ii).toNat)
    case atStart => exact ⟨0, 0, Nat.zero_le _, rfl, rfl, by show _ = _; simp [sidK], Below.refl _ _⟩
    case round =>
      obtain ⟨k, a, hk, rfl, rfl, HA, HB⟩ := hrel
      by_cases hlt : k < m
      · have b1 : (k : Int) < (m : Int) := by omega
        have hkE : k < E.length := by rw [← HM.out]; exact hlt
        obtain ⟨ga, gr, cu, hav, q1, q2, q3, q4, q5, q6⟩ := RA.out k hkE
        subst hav
        have hbw : Below w.heap.size w wr := HB1.out.trans (HB.out.mono HB1.out.size)
        have c1 := (hbw.cell (p := ⟨ga, k, none⟩) q1).trans q3
        have c2 := (hbw.cell (p := ⟨gr, 0, none⟩) q2).trans q5
        have c3 := (hbw.cell (p := ⟨gr, 1, none⟩) q2).trans q6
        have hn := HN.out k hkE
        have hl := HL.out k (by omega)
        have he := HE.out k hkE
        rw [← HA.out] at hn hl
        obtain ⟨⟨x, y⟩, hxy⟩ : ∃ z, z = E[k] := ⟨_, rfl⟩
        rw [← hxy] at c2 c3 hn he
        replace c2 : wr.cell? ⟨gr, 0, none⟩ = some (.int .i64 (x : Int)) := c2
        replace c3 : wr.cell? ⟨gr, 1, none⟩ = some (.int .i64 (y : Int)) := c3
        replace hn : sidK E (k + 1) = a + sz E 14 x y * sz E 14 y x := hn
        obtain ⟨g1, g2, g3, g4⟩ : x < N ∧ y < N ∧ sz E 14 x y ≤ 7 ∧ sz E 14 y x ≤ 7 := he
        have CX := CW.out x y g1 (Lib.hid g3)
        have CY := CW.out y x g2 (Lib.hid g4)
        obtain ⟨p, hp⟩ : ∃ p, p = sz E 14 x y := ⟨_, rfl⟩
        obtain ⟨q, hq⟩ : ∃ q, q = sz E 14 y x := ⟨_, rfl⟩
        rw [← hp] at hn CX g3
        rw [← hq] at hn CY g4
        have CX := Lib.hid CX
        have CY := Lib.hid CY
        have hpq : p * q ≤ 7 * 7 := Nat.mul_le_mul g3 g4
        have e1 : IntKind.i64.wrap ((p : Int) * (q : Int)) = ((p * q : Nat) : Int) := by rw [← Int.natCast_mul, IntKind.wrap_i64]; omega
        obtain ⟨z, hz⟩ : ∃ z, z = p * q := ⟨_, rfl⟩
        rw [← hz] at e1 hn hpq
        have e2 : IntKind.i64.wrap ((a : Int) + (z : Int)) = ((a + z : Nat) : Int) := by rw [IntKind.wrap_i64]; omega
        obtain ⟨a2, ha2⟩ : ∃ a2, a2 = a + z := ⟨_, rfl⟩
        rw [← ha2] at e2 hn
        have HNN := Lib.hid hn.symm
        have hgrw : gr < wr.heap.size := World.block_lt_of_cell? wr _ c2
        have hgaw : ga < wr.heap.size := World.block_lt_of_cell? wr _ c1
        have KS : Hid (∀ W, Below wr.heap.size wr W → (Below wr.heap.size wr W ∧ W.cell? ⟨gr, 0, none⟩ = some (.int .i64 (x : Int)) ∧ W.cell? ⟨gr, 1, none⟩ = some (.int .i64 (y : Int)))) :=
          fun W h => ⟨h, (h.cell (p := ⟨gr, 0, none⟩) hgrw).trans c2, (h.cell (p := ⟨gr, 1, none⟩) hgrw).trans c3⟩
        have hB0 : Below wr.heap.size wr wr := Below.refl _ _
        have HBR := HB
        clear hp hq hz ha2 hn hl hpq g1 g2 g3 g4 hxy hkE q1 q2 q3 q5 q6 hbw HA HN HL HE CW RA HB hgaw
        go_wp2_with fail
        go_region_held3 (fun w' => Below wr.heap.size wr w' ∧ w'.cell? ⟨gr, 0, none⟩ = some (.int .i64 (x : Int)) ∧ w'.cell? ⟨gr, 1, none⟩ = some (.int .i64 (y : Int)))
          (first
            | exact KS.out _ (by assumption)
            | exact KS.out _ (Below.drew (by assumption)))
          (first
            | (go_at_call 49; go_split_ands
               refine (CX.out _ _ _ _ _ (Lib.hid (HG1.out.below (HBR.out.trans (Below.mono (B := wr.heap.size) ?_ HBR.out.size)))) ?_).mono ?_
               · assumption
               · exact Nat.le_trans HBR.out.size (Below.size (by assumption))
               rintro e w4 ⟨rfl, hb4⟩
               have hB4 : Below wr.heap.size wr w4 := by
                 refine Below.trans (B := wr.heap.size) ?_ (hb4.mono (Below.size (B := wr.heap.size) ?_)) <;> assumption))
        have d2 : w4.cell? ⟨gr, 0, none⟩ = some (.int .i64 (x : Int)) := (hB4.cell (p := ⟨gr, 0, none⟩) hgrw).trans c2
        have d3 : w4.cell? ⟨gr, 1, none⟩ = some (.int .i64 (y : Int)) := (hB4.cell (p := ⟨gr, 1, none⟩) hgrw).trans c3
        have HB5 : Hid (Below w1.heap.size w1 w4) := HBR.out.trans (hB4.mono HBR.out.size)
        have hgr4 : gr < w4.heap.size := World.block_lt_of_cell? w4 _ d2
        have KS2 : Hid (∀ W, Below w4.heap.size w4 W → (Below w4.heap.size w4 W ∧ W.cell? ⟨gr, 0, none⟩ = some (.int .i64 (x : Int)) ∧ W.cell? ⟨gr, 1, none⟩ = some (.int .i64 (y : Int)))) :=
          fun W h => ⟨h, (h.cell (p := ⟨gr, 0, none⟩) hgr4).trans d2, (h.cell (p := ⟨gr, 1, none⟩) hgr4).trans d3⟩
        clear hb4 hB4 KS c2 c3 hgrw hB0 HBR c1
        have hB0 : Below w4.heap.size w4 w4 := Below.refl _ _
        go_wp2_with fail
        go_region_held3 (fun w' => Below w4.heap.size w4 w' ∧ w'.cell? ⟨gr, 0, none⟩ = some (.int .i64 (x : Int)) ∧ w'.cell? ⟨gr, 1, none⟩ = some (.int .i64 (y : Int)))
          (first
            | exact KS2.out _ (by assumption)
            | exact KS2.out _ (Below.drew (by assumption)))
          (first
            | (go_at_call 49; go_split_ands
               refine (CY.out _ _ _ _ _ (Lib.hid (HG1.out.below (HB5.out.trans (Below.mono (B := w4.heap.size) ?_ HB5.out.size)))) ?_).mono ?_
               · assumption
               · exact Nat.le_trans HB5.out.size (Below.size (by assumption))
               rintro e w6 ⟨rfl, hb6⟩
               have hB6 : Below w4.heap.size w4 w6 := by
                 refine Below.trans (B := w4.heap.size) ?_ (hb6.mono (Below.size (B := w4.heap.size) ?_)) <;> assumption))
        have HB7 : Hid (Below w1.heap.size w1 w6) := HB5.out.trans (hB6.mono HB5.out.size)
        clear hb6 hB6 KS2 HB5 d2 d3 hgr4 CX CY
        go_wp2
        go_roundw
        case rel => exact ⟨k + 1, a2, by omega, by go_num, by first | rfl | rw [e2], HNN.out, HB7⟩
        case measure => simp [intOf]; omega
      · obtain rfl : k = m := by omega
        have BF : Hid (Below w.heap.size w wr) := HB1.out.trans (HB.out.mono HB1.out.size)
        clear HB CW RA HN HL HE
        go_wp2
        go_ret
        exact ⟨by rw [HA.out]; rfl, BF.out⟩
  | false =>
    rw [treeV, if_neg (by rw [ht]; decide)]
    have CN := Lib.hid (treeNb_no n rows v RV w hG hH hrl hrs hwf ht)
    clear hG hH hrl hrs ht
    subst hv
    go_enter Try.func23, Try.ntmps23
    go_wp2_with fail
    refine CN.out.mono ?_
    rintro e w1 ⟨rfl, hb1⟩
    have HB1 := Lib.hid hb1
    clear hb1 CN
    go_wp2
    go_ret
    exact ⟨rfl, HB1.out⟩
end Go.Proofs.Ytcnocoljmljnaaa
