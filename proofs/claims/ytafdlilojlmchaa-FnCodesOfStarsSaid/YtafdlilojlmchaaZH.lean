/-
  The contract of the model's function that asks whether a number is in a list.
  The contract of the model's function that finds the nodes that are reached over edges.
-/
import Derived.Test.YtafdlilojlmchaaCInts
import Derived.Test.YtafdlilojlmchaaCRowsI
import Derived.Test.YtafdlilojlmchaaZW
import Derived.Test.YtafdlilojlmchaaZPD
import Derived.Maps.AppendAt
import Derived.Deep.AppendLies
import Derived.StillTailTactics
import Derived.Deep.DeepCutAuto
namespace Go.Proofs.Ytafdlilojlmchaa
open Go.RowKit

theorem inI_hit {l : List Int} {k : Nat} {x : Int} (hk : k < l.length) (h : l[k] = x) : decide (x ∈ l) = true := by
  rw [decide_eq_true_iff, ← h]; exact List.getElem_mem hk
theorem inI_miss {l : List Int} {x : Int} (h : ∀ (k : Nat) (hk : k < l.length), l[k] ≠ x) : decide (x ∈ l) = false := by
  rw [decide_eq_false_iff_not]
  intro hm
  obtain ⟨k, hk, e⟩ := List.getElem_of_mem hm
  exact h k hk e
set_option maxHeartbeats 400000 in
theorem hasInt_any (l : List Int) (v : Value) (x : Int) (w : World) {B H : Nat} (hv : Hid (Own w B H 3 v (iv l))) (hl : l.length ≤ 1048576) :
    Calls Try.prog 55 #[v, .int .i64 x] w fun e w' => e = .returned (.bool (decide (x ∈ l))) ∧ w = w' := by
  obtain ⟨av, cv, rfl, _, hcv, _, _⟩ := hv.out.slice
  rw [iv_length] at hv hcv ⊢
  go_enter Try.func55, Try.ntmps55
  go_wp2
  go_loop [5] (fun i => ∃ k : Nat, k ≤ l.length ∧ i = .int .i64 k ∧ Hid (∀ (j : Nat) (hj : j < l.length), j < k → l[j] ≠ x)) (fun i => l.length - (intOf i).toNat)
  case atStart => exact ⟨0, Nat.zero_le _, rfl, fun j _ h => by omega⟩
  case round =>
    obtain ⟨k, hk, rfl, HN⟩ := hrel
    by_cases hlt : k < l.length
    · obtain ⟨g1, rfl, _, _, h1, _⟩ := hv.out.at_ k (by rw [iv_length]; exact hlt)
      rw [iv_at l k hlt] at h1
      have b1 : (k : Int) < (l.length : Int) := by omega
      obtain ⟨y, hy⟩ : ∃ y, y = l[k] := ⟨_, rfl⟩
      rw [← hy] at h1
      have HY := Lib.hid hy
      clear hy
      by_cases hyx : y = x
      · subst hyx
        have hy := Lib.hid (inI_hit hlt HY.out.symm)
        go_wp2
        go_ret
        exact ⟨by rw [hy.out]; rfl, rfl⟩
      · have q1 : (y == x) = false := beq_false_of_ne hyx
        have HN' : Hid (∀ (j : Nat) (hj : j < l.length), j < k + 1 → l[j] ≠ x) := fun j hj hjk => by
          by_cases e : j = k
          · subst e; rw [← HY.out]; exact hyx
          · exact HN.out j hj (by omega)
        clear hyx
        go_wp2
        go_round
        case rel => exact ⟨k + 1, by omega, by go_num, HN'⟩
        case measure => simp [intOf]; omega
    · obtain rfl : k = l.length := by omega
      have hy := Lib.hid (inI_miss (x := x) fun j hj => HN.out j hj hj)
      go_wp2
      go_ret
      exact ⟨by rw [hy.out]; rfl, rfl⟩
end Go.Proofs.Ytafdlilojlmchaa

namespace Go.Proofs.Ytafdlilojlmchaa
open Go.RowKit

theorem Try.infoIntR : (Try.prog.info? 3).map (fun i => (i.zero, i.size, i.bytes)) = some (some (.int .i64 0), 1, 8) := by kernel_rfl
theorem one_intR (n : Int) : ∀ u ∈ [Value.int .i64 n], u.oneCell' = true := by intro u hu; simp at hu; subst hu; rfl
theorem ints_iv2 (L : List Nat) : ints L = iv (L.map fun (k : Nat) => (k : Int)) := by simp [ints, iv]
theorem ints_get (L : List Nat) (i : Nat) {x : Nat} (h : L[i]? = some x) : (ints L)[i]? = some (.int .i64 (x : Int)) := by simp [ints, h]
theorem mem_ints (L : List Nat) (x : Nat) : ((x : Int) ∈ L.map fun (k : Nat) => (k : Int)) ↔ x ∈ L := by
  rw [List.mem_map]
  exact ⟨fun ⟨a, h1, h2⟩ => by rw [← Int.natCast_inj.1 h2]; exact h1, fun h => ⟨x, h, rfl⟩⟩
/-- a list of nodes of the call's own -/
structure Ils (w0 w : World) (B g m c : Nat) (L : List Nat) : Prop where
  len : L.length = m
  own : w.ownsRow B 3 1 (.slice (some ⟨g, 0, none⟩) m c) m (ints L)
  below : Below B w0 w
theorem Ils.drewN {w0 w : World} {B g m c : Nat} {L : List Nat} (h : Ils w0 w B g m c L) (q : Nat) : Ils w0 (w.drewN q) B g m c L :=
  ⟨h.len, own_of_blocks h.own (fun _ _ => rfl), h.below.trans ⟨rfl, rfl, rfl, Nat.le_refl _, fun _ _ => rfl⟩⟩
theorem Ils.drew {w0 w : World} {B g m c : Nat} {L : List Nat} (h : Ils w0 w B g m c L) : Ils w0 w.drew B g m c L :=
  ⟨h.len, own_of_blocks h.own (fun _ _ => rfl), h.below.trans ⟨rfl, rfl, rfl, Nat.le_refl _, fun _ _ => rfl⟩⟩
theorem Ils.app {w0 w w1 : World} {B g m c g5 c5 x : Nat} {L : List Nat} (h : Ils w0 w B g m c L) (hB : B ≤ w.heap.size)
    (hv : w1.ownsRow B 3 1 (.slice (some ⟨g5, 0, none⟩) (m + 1) c5) (m + 1) (ints L ++ [.int .i64 (x : Int)])) (hg : (w.alloc (.cells #[.int .i64 (x : Int)] 3)).grownBy w1 (Value.slice (some ⟨g, 0, none⟩) m c).ownBlock) :
    Ils w0 w1 B g5 (m + 1) c5 (L ++ [x]) := by
  refine ⟨by rw [List.length_append, h.len]; rfl, ?_, (h.below.alloc hB _).grown hg (by simp; omega) (fun q hq => (h.own.lt q hq.symm.symm).1)⟩
  rw [ints_snoc] at hv
  exact hv
/-- what a step in a round keeps -/
def Pk (n : Nat) (E : Edges) (i x : Nat) (cur : List Nat) : Prop := BInv n E cur ∧ cur[i]? = some x
theorem pk_pre {i x : Nat} {a b : List Nat} (h : a[i]? = some x) (hp : a <+: b) : b[i]? = some x := by
  obtain ⟨t, rfl⟩ := hp
  have hi : i < a.length := by
    by_cases hi : i < a.length
    · exact hi
    · rw [List.getElem?_eq_none (by omega)] at h; cases h
  rw [List.getElem?_append_left hi]; exact h
theorem pk_mem {n i x : Nat} {E : Edges} {a : List Nat} (h : Pk n E i x a) : x ∈ a := List.mem_of_getElem? h.2
theorem pk_side1 {n i x : Nat} {E : Edges} (hE : ∀ e ∈ E, e.1 < n ∧ e.2 < n) {a : List Nat} (h : Pk n E i x a) {e : Nat × Nat} (he : e ∈ E) : Pk n E i x (side1 x a e) := by
  refine ⟨?_, pk_pre h.2 (side1_pre x a e)⟩
  unfold side1
  split
  · rename_i hc
    exact binv_add h.1 (pk_mem h) hc.2 (hE e he).2 (.inl (by rw [← hc.1]; exact he))
  · exact h.1
theorem pk_side2 {n i x : Nat} {E : Edges} (hE : ∀ e ∈ E, e.1 < n ∧ e.2 < n) {a : List Nat} (h : Pk n E i x a) {e : Nat × Nat} (he : e ∈ E) : Pk n E i x (side2 x a e) := by
  refine ⟨?_, pk_pre h.2 (side2_pre x a e)⟩
  unfold side2
  split
  · rename_i hc
    exact binv_add h.1 (pk_mem h) hc.2 (hE e he).1 (.inr (by rw [← hc.1]; exact he))
  · exact h.1
theorem round_step (E : Edges) (x : Nat) (O : List Nat) (k : Nat) (h : k < E.length) : roundB (E.take (k + 1)) x O = bstepE x (roundB (E.take k) x O) E[k] := by
  unfold roundB
  rw [List.take_succ_eq_append_getElem h, List.foldl_append]; rfl
/-- the row of an edge, where it lies -/
theorem edge_at {w : World} {B H k : Nat} {v : Value} {RV : List Value} {E : Edges} (hG : Grid w B H v RV (rowsE E)) (hk : k < E.length) :
    ∃ ga c gr cr, v = .slice (some ⟨ga, 0, none⟩) E.length c ∧ ga < H ∧ gr < H ∧ E.length ≤ c ∧ c ≤ maxLen ∧ 2 ≤ cr ∧ w.cell? ⟨ga, k, none⟩ = some (.slice (some ⟨gr, 0, none⟩) 2 cr) ∧ w.cell? ⟨gr, 0, none⟩ = some (.int .i64 (E[k].1 : Int)) ∧ w.cell? ⟨gr, 1, none⟩ = some (.int .i64 (E[k].2 : Int)) := by
  have hl : (rowsE E).length = E.length := by simp [rowsE]
  obtain ⟨av, cv, rfl, _, hcv, hcm, _⟩ := hG.1.slice
  have h2 := hG.2
  have h1 := hG.1
  rw [h2.1, hl] at hcv
  rw [h2.1, hl] at h1 ⊢
  obtain ⟨ga, rfl, _, hg2, hc, _⟩ := h1.at_ k (by rw [h2.1, hl]; exact hk)
  obtain ⟨u, hu, ho⟩ := h2.at_ k (by rw [hl]; exact hk)
  have er : (rowsE E)[k]'(by rw [hl]; exact hk) = [(E[k].1 : Int), (E[k].2 : Int)] := by simp [rowsE]
  rw [er] at ho
  obtain ⟨au, cu, rfl, _, hcu, _, _⟩ := ho.slice
  rw [iv_length] at ho hcu hu
  obtain ⟨gr, rfl, _, hg4, c0, _⟩ := ho.at_ 0 (by rw [iv_length]; simp)
  obtain ⟨gr', e5, _, _, c1, _⟩ := ho.at_ 1 (by rw [iv_length]; simp)
  cases e5
  rw [hu] at hc
  exact ⟨ga, cv, gr, cu, rfl, hg2, hg4, hcv, hcm, hcu, hc, c0, c1⟩

set_option maxHeartbeats 3200000 in
set_option maxRecDepth 100000 in
theorem reached_any (n : Nat) (E : Edges) (v : Value) (RV : List Value) (w : World) {B0 H0 : Nat} (hG : Hid (Grid w B0 H0 v RV (rowsE E))) (hH : H0 ≤ w.heap.size) (hE : Hid (∀ e ∈ E, e.1 < n ∧ e.2 < n)) (hn : 1 ≤ n ∧ n ≤ 64) (hel : E.length ≤ 1048576) :
    Calls Try.prog 59 #[.int .i64 n, v] w fun e w' => ∃ g c, e = .returned (.slice (some ⟨g, 0, none⟩) (reachedN n E).length c) ∧ Ils w w' w.heap.size g (reachedN n E).length c (reachedN n E) := by
  obtain ⟨i0, hi, hz0, hz1, hz2⟩ := info_parts Try.infoIntR
  obtain ⟨av, cv, rfl, _, hcv, _, _⟩ := hG.out.1.slice
  have hgl : RV.length = E.length := by rw [hG.out.2.1]; simp [rowsE]
  rw [hgl] at hG hcv ⊢
  obtain ⟨hn1, hn2⟩ := hn
  have d0 : (0 : Int) < (n : Int) := by omega
  have hst := World.ownsRow_lit (base := w.heap.size) (e := 3) (size := 1) w #[] 0 (Nat.le_refl _) (by decide) rfl
  have I0 : Hid (Ils w (w.alloc (.cells #[] 3)) w.heap.size w.heap.size 0 0 []) := ⟨rfl, hst, (Below.refl _ _).alloc (Nat.le_refl _) _⟩
  go_enter Try.func59, Try.ntmps59
  go_upto_if 11 with fail
  obtain ⟨w1, hw1⟩ : ∃ w1, w1 = w.alloc (.cells #[] 3) := ⟨_, rfl⟩
  rw [← hw1] at I0 ⊢
  obtain ⟨B, hB⟩ : ∃ B, B = w.heap.size := ⟨_, rfl⟩
  have HB := Lib.hid hB
  rw [← hB] at I0 hH ⊢
  have z1 : (0 : Nat) + 1 ≤ maxLen := by unfold maxLen; omega
  have z2 : ((0 : Nat) + 1) * 8 ≤ 140737488355328 := by omega
  have Z3 := Lib.hid (show ∀ o : Obj, B ≤ (w1.alloc o).heap.size by intro o; have := I0.out.below.size; rw [HB.out]; simp; omega)
  have Z4 := Lib.hid (show ∀ o : Obj, (w1.alloc o).heap.size = w1.heap.size + 1 by intro o; simp)
  have hB1 := Lib.hid (show B ≤ w1.heap.size by rw [HB.out]; exact I0.out.below.size)
  clear hst hw1 hB
  go_wp2_with (at_builtin; refine wpList_append_lies _ rfl (.tmp 12) (.tmp 13) 30 rfl B 3 i0 (.int .i64 0) 1 8 Try.underlying30 hi hz0 hz1 hz2 rfl (by decide) _ 0 (ints []) rfl (I0.out.own.alloc _) ⟨w1.heap.size, 0, none⟩ 1 1 [_] rfl rfl (cell_one_new _ _ _) (one_intR _) (by decide) z1 z2 (Z3.out _) (w1.heap.size + 1) (Z4.out _) ?_)
  intro g5 c5 w5 hv5 hg5 hw5 hl5
  have I1 : Hid (Ils w w5 B g5 (0 + 1) c5 ([] ++ [0])) := I0.out.app hB1.out hv5 hg5
  clear hv5 hg5 hw5 hl5 I0 Z3 Z4 z1 z2 hB1
  have S0 : Hid (BInv n E [0]) := ⟨by simp, fun v hv => by simp at hv; rw [hv]; exact .refl _, fun v hv => by simp at hv; omega⟩
  go_wp2
  go_loopw [5, 6] (fun out ii wr => ∃ (i f g m c : Nat) (cur : List Nat), out = .slice (some ⟨g, 0, none⟩) m c ∧ ii = .int .i64 i ∧ i ≤ m ∧ n < f + i ∧ Hid (bfs E f i cur = reachedN n E) ∧ Hid (BInv n E cur) ∧ Hid (Ils w wr B g m c cur)) (fun _ ii _ => n - (intOf ii).toNat)
  case atStart => exact ⟨0, n + 1, g5, 0 + 1, c5, [0], rfl, rfl, by omega, by omega, rfl, S0, I1⟩
  case round =>
    clear I1 S0
    obtain ⟨i, f, g, m, c, cur, rfl, rfl, him, hf, HR, HI, T⟩ := hrel
    have hmn : m ≤ n := by have := binv_len HI.out; rw [T.out.len] at this; exact this
    by_cases hlt : i < m
    · have hic : i < cur.length := by rw [T.out.len]; exact hlt
      obtain ⟨f, rfl⟩ : ∃ f', f = f' + 1 := ⟨f - 1, by omega⟩
      have hR := HR.out
      rw [bfs, if_pos hic] at hR
      obtain ⟨x, hx⟩ : ∃ x, x = cur.getD i 0 := ⟨_, rfl⟩
      rw [← hx] at hR
      have hxi : cur[i]? = some x := by rw [hx, List.getD_eq_getElem?_getD, List.getElem?_eq_getElem hic]; rfl
      have K0 : Hid (Pk n E i x cur) := ⟨HI.out, hxi⟩
      have HR := Lib.hid hR
      have b1 : (i : Int) < (m : Int) := by omega
      clear hR hx hxi HI
      go_wp2
      go_loopw [5, 7] (fun out kk wr => ∃ (k g m c : Nat), k ≤ E.length ∧ out = .slice (some ⟨g, 0, none⟩) m c ∧ kk = .int .i64 k ∧ Hid (Ils w wr B g m c (roundB (E.take k) x cur)) ∧ Hid (Pk n E i x (roundB (E.take k) x cur))) (fun _ kk _ => E.length - (intOf kk).toNat)
      case atStart => exact ⟨0, g, m, c, Nat.zero_le _, rfl, rfl, T, K0⟩
      case round =>
        clear T K0 hlt b1 hic hmn him
        obtain ⟨k, g, m, c, hk, rfl, rfl, T, K⟩ := hrel
        by_cases hke : k < E.length
        · have b2 : (k : Int) < (E.length : Int) := by omega
          have RS := Lib.hid (round_step E x cur k hke)
          have HEe := hE.out _ (List.getElem_mem hke)
          have HeE := Lib.hid (List.getElem_mem hke)
          have HED : Hid (∀ (W : World), Below B w W → ∃ ga gr cr, (Value.slice av E.length cv = .slice (some ⟨ga, 0, none⟩) E.length cv) ∧ W.cell? ⟨ga, k, none⟩ = some (.slice (some ⟨gr, 0, none⟩) 2 cr) ∧ W.cell? ⟨gr, 0, none⟩ = some (.int .i64 (E[k].1 : Int)) ∧ W.cell? ⟨gr, 1, none⟩ = some (.int .i64 (E[k].2 : Int))) := fun W hW => by
            obtain ⟨ga, c', gr, cr, h1, _, _, _, _, _, h2, h3, h4⟩ := edge_at (hG.out.below (hW.mono hH)) hke
            simp only [Value.slice.injEq] at h1
            obtain ⟨rfl, _, rfl⟩ := h1
            exact ⟨ga, gr, cr, rfl, h2, h3, h4⟩
          obtain ⟨e, he⟩ : ∃ e, e = E[k] := ⟨_, rfl⟩
          obtain ⟨O, hO⟩ : ∃ O, O = roundB (E.take k) x cur := ⟨_, rfl⟩
          rw [← he] at HEe HeE HED RS
          rw [← hO] at T K RS
          clear he hO
          go_wp2
          go_loopw [5, 8] (fun out ss wr => ∃ (s g m c : Nat) (L : List Nat), s ≤ 2 ∧ (s = 0 ∧ L = O ∨ s = 1 ∧ L = side1 x O e ∨ s = 2 ∧ L = side2 x (side1 x O e) e) ∧ out = .slice (some ⟨g, 0, none⟩) m c ∧ ss = .int .i64 s ∧ Hid (Ils w wr B g m c L) ∧ Hid (Pk n E i x L)) (fun _ ss _ => 2 - (intOf ss).toNat)
          case atStart => exact ⟨0, g, m, c, O, by omega, .inl ⟨rfl, rfl⟩, rfl, rfl, T, K⟩
          case round =>
            clear T K
            obtain ⟨s, g, m, c, L, hs, hL, rfl, rfl, T, K⟩ := hrel
            have hmn : m ≤ n := by have := binv_len K.out.1; rw [T.out.len] at this; exact this
            have him : i < m := by
              have h1 := K.out.2
              by_cases h : i < L.length
              · rw [T.out.len] at h; exact h
              · rw [List.getElem?_eq_none (by omega)] at h1; cases h1
            have hci : wr.cell? ⟨g, i, none⟩ = some (.int .i64 (x : Int)) := (T.out.own.cellAt i (by omega)).trans (ints_get L i K.out.2)
            have b3 : (i : Int) < (m : Int) := by omega
            obtain ⟨ga, gr, cr, hav, hc1, hc2, hc3⟩ := HED.out wr T.out.below
            simp only [Value.slice.injEq] at hav
            obtain ⟨rfl, _, _⟩ := hav
            have HC : ∀ (y z : Nat), Calls Try.prog 55 #[.slice (some ⟨g, 0, none⟩) m c, .int .i64 (y : Int)] (wr.drewN z) fun e w' => e = .returned (.bool (decide (y ∈ L))) ∧ ∃ q, w' = (wr.drewN z).drewN q := fun y z => by
              have ho : Own (wr.drewN z) B wr.heap.size 3 (.slice (some ⟨g, 0, none⟩) m c) (iv (L.map fun (k : Nat) => (k : Int))) := by
                rw [← ints_iv2]
                refine ⟨own_of_blocks (by rw [ints_length, T.out.len]; exact T.out.own) (fun _ _ => rfl), fun q hq => (T.out.own.lt q hq).2⟩
              refine (hasInt_any _ _ (y : Int) _ (Lib.hid ho) (by rw [List.length_map, T.out.len]; omega)).mono ?_
              rintro e w' ⟨rfl, rfl⟩
              refine ⟨?_, 0, rfl⟩
              rw [show decide ((y : Int) ∈ L.map fun (k : Nat) => (k : Int)) = decide (y ∈ L) from by rw [decide_eq_decide]; exact mem_ints L y]
            rcases hL with ⟨rfl, hL⟩ | ⟨rfl, hL⟩ | ⟨rfl, hL⟩
            · -- side 0
              have hL := hL.symm
              subst hL
              have hla := Lib.hid (pk_mem K.out)
              have K' : Hid (Pk n E i x (side1 x O e)) := pk_side1 hE.out K.out HeE.out
              by_cases hx : e.1 = x
              · by_cases hin : e.2 ∈ O
                · have e9 : side1 x O e = O := by unfold side1; rw [if_neg (fun hh => hh.2 hin)]
                  have q1 : (((e.1 : Nat) : Int) == (x : Int)) = true := by rw [hx]; simp
                  have C1 := Lib.hid (HC (e.2))
                  rw [decide_eq_true hin] at C1
                  rw [e9] at K'
                  have E9 := Lib.hid e9
                  clear hx hin e9 HC
                  go_wp2_with fail
                  go_quiet ((go_at_call 55; exact Calls.quiet_of (C1.out _)))
                  go_wp2
                  go_roundw
                  case rel => exact ⟨1, g, m, c, O, by omega, .inr (.inl ⟨rfl, E9.out.symm⟩), rfl, by go_num, T.out.drewN _, K'.out⟩
                  case measure => simp [intOf]
                · have e9 : side1 x O e = O ++ [e.2] := by unfold side1; rw [if_pos ⟨hx, hin⟩]
                  have q1 : (((e.1 : Nat) : Int) == (x : Int)) = true := by rw [hx]; simp
                  have C1 := Lib.hid (HC (e.2))
                  rw [decide_eq_false hin] at C1
                  have E9 := Lib.hid e9
                  clear hx hin e9 HC
                  go_wp2_with fail
                  go_quiet ((go_at_call 55; exact Calls.quiet_of (C1.out _)))
                  go_upto_region 14 with fail
                  have T2 := Lib.hid (T.out.drewN nq)
                  obtain ⟨w6, hw6⟩ : ∃ w6, w6 = wr.drewN nq := ⟨_, rfl⟩
                  rw [← hw6] at T2 ⊢
                  obtain ⟨ga', gr', cr', hav', hd1, hd2, hd3⟩ := HED.out w6 T2.out.below
                  simp only [Value.slice.injEq, Option.some.injEq, Addr.mk.injEq] at hav'
                  obtain ⟨⟨rfl, _, _⟩, _, _⟩ := hav'
                  have hB6 : B ≤ w6.heap.size := by have := T2.out.below.size; rw [HB.out]; exact this
                  have y1 : m + 1 ≤ maxLen := by unfold maxLen; omega
                  have y2 : (m + 1) * 8 ≤ 140737488355328 := by omega
                  have Y3 := Lib.hid (show ∀ o : Obj, B ≤ (w6.alloc o).heap.size by intro o; simp; omega)
                  have Y4 := Lib.hid (show ∀ o : Obj, (w6.alloc o).heap.size = w6.heap.size + 1 by intro o; simp)
                  clear hw6 T hc1 hc2 hc3 hci
                  go_wp2_with (at_builtin; refine wpList_append_lies _ rfl (.tmp 56) (.tmp 65) 30 rfl B 3 i0 (.int .i64 0) 1 8 Try.underlying30 hi hz0 hz1 hz2 rfl (by decide) _ m (ints O) rfl (T2.out.own.alloc _) ⟨w6.heap.size, 0, none⟩ 1 1 [_] rfl rfl (cell_one_new _ _ _) (one_intR _) (by decide) y1 y2 (Y3.out _) (w6.heap.size + 1) (Y4.out _) ?_)
                  intro g7 c7 w7 hv7 hg7 hw7 hl7
                  have T7 := Lib.hid (T2.out.app hB6 hv7 hg7)
                  rw [E9.out] at K'
                  clear hv7 hg7 hw7 hl7 T2 Y3 Y4 hB6 C1
                  go_wp2
                  go_roundw
                  case rel => exact ⟨1, g7, m + 1, c7, O ++ [e.2], by omega, .inr (.inl ⟨rfl, E9.out.symm⟩), rfl, by go_num, T7.out, K'.out⟩
                  case measure => simp [intOf]
              · have e9 : side1 x O e = O := by unfold side1; rw [if_neg (fun hh => hx hh.1)]
                have q1 : (((e.1 : Nat) : Int) == (x : Int)) = false := by rw [beq_eq_false_iff_ne]; omega
                rw [e9] at K'
                have E9 := Lib.hid e9
                clear hx e9 HC
                go_wp2_with fail
                go_quiet (fail)
                go_wp2
                go_roundw
                case rel => exact ⟨1, g, m, c, O, by omega, .inr (.inl ⟨rfl, E9.out.symm⟩), rfl, by go_num, T.out.drewN _, K'.out⟩
                case measure => simp [intOf]
            · -- side 1
              skip
              subst hL
              have hla := Lib.hid (pk_mem K.out)
              have K' : Hid (Pk n E i x (side2 x (side1 x O e) e)) := pk_side2 hE.out K.out HeE.out
              by_cases hx : e.2 = x
              · by_cases hin : e.1 ∈ (side1 x O e)
                · have e9 : side2 x (side1 x O e) e = (side1 x O e) := by unfold side2; rw [if_neg (fun hh => hh.2 hin)]
                  have q1 : (((e.2 : Nat) : Int) == (x : Int)) = true := by rw [hx]; simp
                  have C1 := Lib.hid (HC (e.1))
                  rw [decide_eq_true hin] at C1
                  rw [e9] at K'
                  have E9 := Lib.hid e9
                  clear hx hin e9 HC
                  go_wp2_with fail
                  go_quiet ((go_at_call 55; exact Calls.quiet_of (C1.out _)))
                  go_wp2
                  go_roundw
                  case rel => exact ⟨2, g, m, c, (side1 x O e), by omega, .inr (.inr ⟨rfl, E9.out.symm⟩), rfl, by go_num, T.out.drewN _, K'.out⟩
                  case measure => simp [intOf]
                · have e9 : side2 x (side1 x O e) e = (side1 x O e) ++ [e.1] := by unfold side2; rw [if_pos ⟨hx, hin⟩]
                  have q1 : (((e.2 : Nat) : Int) == (x : Int)) = true := by rw [hx]; simp
                  have C1 := Lib.hid (HC (e.1))
                  rw [decide_eq_false hin] at C1
                  have E9 := Lib.hid e9
                  clear hx hin e9 HC
                  go_wp2_with fail
                  go_quiet ((go_at_call 55; exact Calls.quiet_of (C1.out _)))
                  go_upto_region 14 with fail
                  have T2 := Lib.hid (T.out.drewN nq)
                  obtain ⟨w6, hw6⟩ : ∃ w6, w6 = wr.drewN nq := ⟨_, rfl⟩
                  rw [← hw6] at T2 ⊢
                  obtain ⟨ga', gr', cr', hav', hd1, hd2, hd3⟩ := HED.out w6 T2.out.below
                  simp only [Value.slice.injEq, Option.some.injEq, Addr.mk.injEq] at hav'
                  obtain ⟨⟨rfl, _, _⟩, _, _⟩ := hav'
                  have hB6 : B ≤ w6.heap.size := by have := T2.out.below.size; rw [HB.out]; exact this
                  have y1 : m + 1 ≤ maxLen := by unfold maxLen; omega
                  have y2 : (m + 1) * 8 ≤ 140737488355328 := by omega
                  have Y3 := Lib.hid (show ∀ o : Obj, B ≤ (w6.alloc o).heap.size by intro o; simp; omega)
                  have Y4 := Lib.hid (show ∀ o : Obj, (w6.alloc o).heap.size = w6.heap.size + 1 by intro o; simp)
                  clear hw6 T hc1 hc2 hc3 hci
                  go_wp2_with (at_builtin; refine wpList_append_lies _ rfl (.tmp 56) (.tmp 65) 30 rfl B 3 i0 (.int .i64 0) 1 8 Try.underlying30 hi hz0 hz1 hz2 rfl (by decide) _ m (ints (side1 x O e)) rfl (T2.out.own.alloc _) ⟨w6.heap.size, 0, none⟩ 1 1 [_] rfl rfl (cell_one_new _ _ _) (one_intR _) (by decide) y1 y2 (Y3.out _) (w6.heap.size + 1) (Y4.out _) ?_)
                  intro g7 c7 w7 hv7 hg7 hw7 hl7
                  have T7 := Lib.hid (T2.out.app hB6 hv7 hg7)
                  rw [E9.out] at K'
                  clear hv7 hg7 hw7 hl7 T2 Y3 Y4 hB6 C1
                  go_wp2
                  go_roundw
                  case rel => exact ⟨2, g7, m + 1, c7, (side1 x O e) ++ [e.1], by omega, .inr (.inr ⟨rfl, E9.out.symm⟩), rfl, by go_num, T7.out, K'.out⟩
                  case measure => simp [intOf]
              · have e9 : side2 x (side1 x O e) e = (side1 x O e) := by unfold side2; rw [if_neg (fun hh => hx hh.1)]
                have q1 : (((e.2 : Nat) : Int) == (x : Int)) = false := by rw [beq_eq_false_iff_ne]; omega
                rw [e9] at K'
                have E9 := Lib.hid e9
                clear hx e9 HC
                go_wp2_with fail
                go_quiet (fail)
                go_wp2
                go_roundw
                case rel => exact ⟨2, g, m, c, (side1 x O e), by omega, .inr (.inr ⟨rfl, E9.out.symm⟩), rfl, by go_num, T.out.drewN _, K'.out⟩
                case measure => simp [intOf]
            · -- both sides are done
              have RS2 : Hid (roundB (E.take (k + 1)) x cur = L) := by show _ = _; rw [RS.out, hL]; rfl
              clear hL HC
              go_wp2
              go_roundw
              case rel => exact ⟨k + 1, g, m, c, by omega, rfl, by go_num, by rw [RS2.out]; exact T, by rw [RS2.out]; exact K⟩
              case measure => simp [intOf]; omega
        · obtain rfl : k = E.length := by omega
          rw [List.take_length] at T K
          have hmn : m ≤ n := by have := binv_len K.out.1; rw [T.out.len] at this; exact this
          have him : i < m := by
            have h1 := K.out.2
            by_cases h : i < (roundB E x cur).length
            · rw [T.out.len] at h; exact h
            · rw [List.getElem?_eq_none (by omega)] at h1; cases h1
          have HI := Lib.hid K.out.1
          go_wp2
          go_roundw
          case rel => exact ⟨i + 1, f, g, m, c, _, rfl, by go_num, by omega, by omega, HR, HI, T⟩
          case measure => simp [intOf]; omega
    · obtain rfl : i = m := by omega
      have hR : reachedN n E = cur := by
        rw [← HR.out]
        cases f with
        | zero => rfl
        | succ f => rw [bfs, if_neg (by rw [T.out.len]; omega)]
      have hl := T.out.len
      subst hl
      rw [HB.out] at T
      have HRR := Lib.hid hR
      clear hR HR HI
      go_wp2
      go_ret
      refine ⟨g, c, by rw [HRR.out]; rfl, by rw [HRR.out]; exact T.out⟩
end Go.Proofs.Ytafdlilojlmchaa
