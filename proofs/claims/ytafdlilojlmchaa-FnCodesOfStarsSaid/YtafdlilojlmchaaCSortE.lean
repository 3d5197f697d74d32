/-
  The contract of the model's function that puts edges in order.
-/
import Derived.Test.YtafdlilojlmchaaZN
import Derived.Deep.CutBlock
import Derived.Deep.RegionLaw
import Derived.Maps.AppendAt
import Derived.Deep.DeepCutAuto
namespace Go.Proofs.Ytafdlilojlmchaa
open Go.RowKit

theorem take_whileE {out : Edges} {x : Nat × Nat} : ∀ {k : Nat}, k ≤ out.length → (∀ (j : Nat) (hj : j < out.length), j < k → ltP out[j] x = true) → (∀ (hk : k < out.length), ltP out[k] x = false) →
    out.takeWhile (fun y => ltP y x) = out.take k ∧ out.dropWhile (fun y => ltP y x) = out.drop k := by
  induction out with
  | nil => intro k hk _ _; simp
  | cons z r ih =>
    intro k hk h1 h2
    cases k with
    | zero =>
      have hz : ltP z x = false := h2 (by simp)
      rw [List.takeWhile_cons, List.dropWhile_cons, hz]
      simp
    | succ k =>
      have hz : ltP z x = true := h1 0 (by simp) (by omega)
      obtain ⟨i1, i2⟩ := ih (k := k) (by simpa using hk) (fun j hj hjk => by
        have := h1 (j + 1) (by simp; omega) (by omega)
        simpa using this) (fun hk' => by
        have := h2 (by simp; omega)
        simpa using this)
      rw [List.takeWhile_cons, List.dropWhile_cons, hz]
      simp [i1, i2]
theorem insP_at {out : Edges} {x : Nat × Nat} {k : Nat} (hk : k ≤ out.length) (h1 : ∀ (j : Nat) (hj : j < out.length), j < k → ltP out[j] x = true) (h2 : ∀ (hk : k < out.length), ltP out[k] x = false) :
    insP out x = out.take k ++ x :: out.drop k := by
  obtain ⟨e1, e2⟩ := take_whileE hk h1 h2
  rw [insP, e1, e2]
theorem sortP_snoc (L : Edges) (k : Nat) (h : k < L.length) : sortP (L.take (k + 1)) = insP (sortP (L.take k)) L[k] := by
  rw [sortP, List.take_succ_eq_append_getElem h, List.foldl_append]; rfl
theorem sortP_len (L : Edges) : (sortP L).length = L.length := (sortP_perm L).length_eq
theorem step_appE {P : Program} {w : World} {ops : Array Oper} {o : Oper} {a : Act} {K : Act → World → Prop} {Q : Exit → Act → World → Prop} {E : Prop} (hgd : o.guard = none) (s x : Operand) (t : TypeId)
    (ho : o.op = .call { callee := .builtin .append, args := #[s, x], argTypes := #[t, t] })
    (base : Nat) (e : TypeId) (i : TypeInfo) (z : Value) (size bytes : Nat) (ht : P.underlying t = some (.slice e)) (hi : P.info? e = some i) (hz : i.zero = some z)
    (hsize : i.size = size) (hby : i.bytes = bytes) (hzs : z.cells.size = size) (hsz : 0 < size)
    (v : Value) (n : Nat) (xs : List Value) (hs : a.eval s = v) (hown : w.ownsRow base e size v n xs)
    (ad : Addr) (m c : Nat) (news : List Value) (hx : a.eval x = .slice (some ad) m c) (hl : news.length = m * size) (hnews : ∀ j u, news[j]? = some u → w.cell? (ad.add j) = some u) (h1 : ∀ u ∈ news, u.oneCell' = true)
    (h63 : n + m ≤ maxLen) (hbytes : (n + m) * bytes ≤ 140737488355328) (hbase : base ≤ w.heap.size)
    (h : ∀ v' w', w'.ownsRow base e size v' (n + m) (xs ++ news) → w.grownBy w' v.ownBlock → (v' = .slice none 0 0 ↔ v = .slice none 0 0 ∧ m = 0) → K (a.put o.dst v') w') :
    if Region.wanted o (yielded ops a.tmps) = true then Oper.wp P o a w K Q else E := by
  have hw : Region.wanted o (yielded ops a.tmps) = true := by simp [Region.wanted, hgd]
  rw [if_pos hw]
  exact wp_append_own w s x t ho base e i z size bytes ht hi hz hsize hby hzs hsz v n xs hs hown ad m c news hx hl hnews h1 h63 hbytes hbase h
theorem RowsI.take {w : World} {B H : Nat} {RV : List Value} {rows : List (List Int)} (h : RowsI w B H RV rows) (q : Nat) : RowsI w B H (RV.take q) (rows.take q) :=
  ⟨by rw [List.length_take, List.length_take, h.1], fun i v r h1 h2 => by
    have hi : i < q := by
      have := (List.getElem?_eq_some_iff.1 h1).1
      rw [List.length_take] at this; omega
    rw [List.getElem?_take_of_lt hi] at h1 h2
    exact h.2 i v r h1 h2⟩
theorem RowsI.drop {w : World} {B H : Nat} {RV : List Value} {rows : List (List Int)} (h : RowsI w B H RV rows) (q : Nat) : RowsI w B H (RV.drop q) (rows.drop q) :=
  ⟨by rw [List.length_drop, List.length_drop, h.1], fun i v r h1 h2 => by
    rw [List.getElem?_drop] at h1 h2
    exact h.2 _ v r h1 h2⟩
theorem blk_new (w : World) (o : Obj) {i : Nat} (h : i = w.heap.size) : (w.alloc o).heap[i]? = some o := by rw [h]; exact heap_alloc_new w o
theorem blk_old (w : World) (o : Obj) {i : Nat} {x : Obj} (h : w.heap[i]? = some x) : (w.alloc o).heap[i]? = some x := by
  have hi : i < w.heap.size := by
    by_cases hi : i < w.heap.size
    · exact hi
    · rw [Array.getElem?_eq_none (by omega)] at h; cases h
  rw [← h]; exact heap_alloc_old w o hi
theorem blk_drew {w : World} {i : Nat} {x : Obj} (h : w.heap[i]? = some x) : w.drew.heap[i]? = some x := h
theorem blk_grown {w w' : World} {row : Option Nat} (hg : w.grownBy w' row) (i : Nat) (x : Obj) (hne : some i ≠ row) (h : w.heap[i]? = some x) : w'.heap[i]? = some x := by
  have hi : i < w.heap.size := by
    by_cases hi : i < w.heap.size
    · exact hi
    · rw [Array.getElem?_eq_none (by omega)] at h; cases h
  rw [hg.block i hi hne]; exact h
theorem blk_kept {w w' : World} {B n : Nat} {t : TypeId} {v : Value} {xs : List Value} (hg : w.grownBy w' v.ownBlock) (ho : w.ownsRow B t 1 v n xs) (i : Nat) (cs : Array Value) (t' : TypeId) (fr : Nat × Nat) (ht : t ≠ t') (h : w.heap[i]? = some (.cells cs t' fr)) : w'.heap[i]? = some (.cells cs t' fr) := by
  refine blk_grown hg i _ (fun e => ?_) h
  rcases ho.2 with ⟨rfl, _⟩ | ⟨g, cap, cur, rfl, _, h2, _⟩
  · cases e
  · simp only [Value.ownBlock, Option.some.injEq] at e
    subst e
    rw [h2] at h
    simp only [Option.some.injEq, Obj.cells.injEq] at h
    exact ht h.2.1
theorem bel_alloc {B : Nat} {w w' : World} (hB : B ≤ w.heap.size) (h : Below B w w') (o : Obj) : Below B w (w'.alloc o) := h.alloc (Nat.le_trans hB h.size) o
theorem bel_grown {B : Nat} {w0 w w' : World} {row : Option Nat} (h0 : B ≤ w0.heap.size) (hg : w.grownBy w' row) (hne : ∀ z, row = some z → B ≤ z) (h : Below B w0 w) : Below B w0 w' := h.grown hg (Nat.le_trans h0 h.size) hne
/-- a list of edges of the call's own -/
structure Srt (w0 w : World) (N g m c : Nat) (LV : List Value) (F : Edges) : Prop where
  grid : Grid w N w.heap.size (.slice (some ⟨g, 0, none⟩) m c) LV (rowsE F)
  len : F.length = m
  below : Below N w0 w

set_option maxHeartbeats 40000000 in
set_option maxRecDepth 100000 in
theorem sortedEdges_any (E : Edges) (v : Value) (RV : List Value) (w : World) {B0 H0 : Nat} (hG : Hid (Grid w B0 H0 v RV (rowsE E))) (hH : H0 ≤ w.heap.size) (hel : E.length ≤ 64) (hne : Hid (∀ e ∈ E, e.1 ≠ e.2)) :
    Calls Try.prog 29 #[v] w fun e w' => ∃ g m c LV, e = .returned (.slice (some ⟨g, 0, none⟩) m c) ∧ Srt w w' w.heap.size g m c LV (sortP (E.map norm)) := by
  obtain ⟨j0, hj, hy0, hy1, hy2⟩ := info_parts Try.infoRowR
  obtain ⟨av, cv, rfl, _, hcv, hcm, _⟩ := hG.out.1.slice
  have hgl : RV.length = E.length := by rw [hG.out.2.1]; simp [rowsE]
  rw [hgl] at hG hcv ⊢
  go_enter Try.func29, Try.ntmps29
  go_wp2
  have hst := World.ownsRow_lit (base := w.heap.size) (e := 30) (size := 1) w #[] 0 (Nat.le_refl _) (by decide) rfl
  have S0 : Hid (Srt w (w.alloc (.cells #[] 30)) w.heap.size w.heap.size 0 0 [] []) :=
    ⟨⟨⟨hst, fun q hq => (hst.lt q hq).2⟩, RowsI.nil⟩, rfl, (Below.refl _ _).alloc (Nat.le_refl _) _⟩
  obtain ⟨w1, hw1⟩ : ∃ w1, w1 = w.alloc (.cells #[] 30) := ⟨_, rfl⟩
  rw [← hw1] at S0 ⊢
  obtain ⟨N, hN⟩ : ∃ N, N = w.heap.size := ⟨_, rfl⟩
  have HN := Lib.hid hN
  rw [← hN] at S0 hH ⊢
  clear hw1 hN hst
  go_loopw [3, 4] (fun out i wr => ∃ (k g c : Nat) (LV : List Value), k ≤ E.length ∧ out = .slice (some ⟨g, 0, none⟩) k c ∧ i = .int .i64 k ∧ Hid (Srt w wr N g k c LV (sortP ((E.map norm).take k)))) (fun _ i _ => E.length - (intOf i).toNat)
  case atStart => exact ⟨0, N, 0, [], Nat.zero_le _, rfl, rfl, S0⟩
  case round =>
    clear S0
    obtain ⟨k, g, c, LV, hk, rfl, rfl, S⟩ := hrel
    by_cases hlt : k < E.length
    · have b1 : (k : Int) < (E.length : Int) := by omega
      obtain ⟨ga, c', gr, cr, e1, hga, hgr, _, _, hcr, hc1, hc2, hc3⟩ := edge_at (hG.out.below (S.out.below.mono hH)) hlt
      simp only [Value.slice.injEq] at e1
      obtain ⟨rfl, _, rfl⟩ := e1
      have ST := sortP_snoc (E.map norm) k (by simpa using hlt)
      rw [List.getElem_map] at ST
      obtain ⟨p1, p2, hp⟩ : ∃ p1 p2 : Nat, E[k] = (p1, p2) := ⟨_, _, rfl⟩
      have hpn : p1 ≠ p2 := by have := hne.out _ (List.getElem_mem hlt); rw [hp] at this; exact this
      rw [hp] at hc2 hc3 ST
      obtain ⟨F, hF⟩ : ∃ F, F = sortP ((E.map norm).take k) := ⟨_, rfl⟩
      rw [← hF] at S ST
      obtain ⟨x1, hx1⟩ : ∃ x1, x1 = min p1 p2 := ⟨_, rfl⟩
      obtain ⟨x2, hx2⟩ : ∃ x2, x2 = max p1 p2 := ⟨_, rfl⟩
      have hnx : norm (p1, p2) = (x1, x2) := by rw [hx1, hx2]; rfl
      rw [hnx] at ST
      have ST2 := Lib.hid ST
      have c2 : wr.cell? ⟨gr, 0, none⟩ = some (.int .i64 (p1 : Int)) := hc2
      have c3 : wr.cell? ⟨gr, 1, none⟩ = some (.int .i64 (p2 : Int)) := hc3
      have hmi : min (p1 : Int) (p2 : Int) = (x1 : Int) := by omega
      have hma : max (p1 : Int) (p2 : Int) = (x2 : Int) := by omega
      have HX1 := Lib.hid hx1
      have HX2 := Lib.hid hx2
      clear hp hc2 hc3 hF hnx hx1 hx2 hmi hma ST
      go_upto_region 5 with fail
      go_cut [5] (fun a wx => a = .int .i64 (x1 : Int) ∧ Hid (∃ m, wx = wr.drewN m))
      case first =>
        rcases Nat.lt_or_ge p2 p1 with hp | hp
        · have e1 : x1 = p2 := by have := HX1.out; omega
          clear HX1 HX2 hpn
          subst e1
          have d1 : (x1 : Int) < (p1 : Int) := by omega
          clear hp
          go_wp2
          go_quiet (fail)
          go_wp2
          go_meet
          exact ⟨rfl, _, rfl⟩
        · have e1 : x1 = p1 := by have := HX1.out; omega
          have hp : p1 < p2 := by omega
          clear HX1 HX2 hpn
          subst e1
          have d1 : (x1 : Int) < (p2 : Int) := by omega
          clear hp
          go_wp2
          go_quiet (fail)
          go_wp2
          go_meet
          exact ⟨rfl, _, rfl⟩
      case rest =>
        obtain ⟨rfl, HW⟩ := hcut
        obtain ⟨wa, hwa⟩ : ∃ wa, wa = wc := ⟨_, rfl⟩
        obtain ⟨m0, hm0⟩ := HW.out
        have hc1a : wa.cell? ⟨ga, k, none⟩ = some (.slice (some ⟨gr, 0, none⟩) 2 cr) := by rw [hwa, hm0]; exact hc1
        have c2a : wa.cell? ⟨gr, 0, none⟩ = some (.int .i64 (p1 : Int)) := by rw [hwa, hm0]; exact c2
        have c3a : wa.cell? ⟨gr, 1, none⟩ = some (.int .i64 (p2 : Int)) := by rw [hwa, hm0]; exact c3
        have Sa : Hid (Srt w wa N g k c LV F) := by rw [hwa, hm0]; exact ⟨(S.out.grid.same rfl), S.out.len, S.out.below.trans ⟨rfl, rfl, rfl, Nat.le_refl _, fun _ _ => rfl⟩⟩
        rw [← hwa]
        clear hc1 c2 c3 hwa hm0 HW S
        go_upto_region 6 with fail
        go_cut [6] (fun b wx => b = .int .i64 (x2 : Int) ∧ Hid (∃ m, wx = wa.drewN m))
        case first =>
          rcases Nat.lt_or_ge p2 p1 with hp | hp
          · have e1 : x2 = p1 := by have := HX2.out; omega
            clear HX1 HX2 hpn
            subst e1
            have d1 : (p2 : Int) < (x2 : Int) := by omega
            clear hp
            go_wp2
            go_quiet (fail)
            go_wp2
            go_meet
            exact ⟨rfl, _, rfl⟩
          · have e1 : x2 = p2 := by have := HX2.out; omega
            have hp : p1 < p2 := by omega
            clear HX1 HX2 hpn
            subst e1
            have d1 : (p1 : Int) < (x2 : Int) := by omega
            clear hp
            go_wp2
            go_quiet (fail)
            go_wp2
            go_meet
            exact ⟨rfl, _, rfl⟩
        case rest =>
          obtain ⟨rfl, HW⟩ := hcut
          obtain ⟨wb, hwb⟩ : ∃ wb, wb = wc := ⟨_, rfl⟩
          obtain ⟨m0, hm0⟩ := HW.out
          have S : Hid (Srt w wb N g k c LV F) := by rw [hwb, hm0]; exact ⟨(Sa.out.grid.same rfl), Sa.out.len, Sa.out.below.trans ⟨rfl, rfl, rfl, Nat.le_refl _, fun _ _ => rfl⟩⟩
          rw [← hwb]
          clear hc1a c2a c3a hwb hm0 HW Sa HX1 HX2 hpn
          have hFl := Lib.hid S.out.len
          go_upto_block 2 with fail
          go_cut [7] (fun j wx => ∃ q : Nat, q ≤ k ∧ j = .int .i64 q ∧ wb = wx ∧ Hid (insP F (x1, x2) = F.take q ++ (x1, x2) :: F.drop q))
          case first =>
           go_wp2_with fail
           go_loop [7] (fun j => ∃ q : Nat, q ≤ k ∧ j = .int .i64 q ∧ Hid (∀ (j : Nat) (hj : j < F.length), j < q → ltP F[j] (x1, x2) = true)) (fun j => k - (intOf j).toNat)
           case atStart => exact ⟨0, Nat.zero_le _, rfl, fun j hj h => by omega⟩
           case round =>
             obtain ⟨q, hq, rfl, HQ⟩ := hrel
             by_cases hgo : ∃ h : q < F.length, ltP F[q] (x1, x2) = true
             · obtain ⟨hqF, hless⟩ := hgo
               have hqk : q < k := by have := hFl.out; omega
               have b2 : (q : Int) < (k : Int) := by omega
               obtain ⟨gb, c', gs, cs, e1, _, _, _, _, hcs, hb1, hb2, hb3⟩ := edge_at S.out.grid hqF
               have hFl' := hFl.out
               simp only [Value.slice.injEq, Option.some.injEq, Addr.mk.injEq] at e1
               obtain ⟨⟨rfl, _, _⟩, hkk, rfl⟩ := e1
               clear hkk
               have HQ2 : Hid (∀ (j : Nat) (hj : j < F.length), j < q + 1 → ltP F[j] (x1, x2) = true) := fun j hj h => by
                 by_cases e : j = q
                 · subst e; exact hless
                 · exact HQ.out j hj (by omega)
               obtain ⟨y, hy⟩ : ∃ y, y = F[q] := ⟨_, rfl⟩
               rw [← hy] at hless hb2 hb3
               rw [ltP_iff] at hless
               clear hy HQ hFl' hqF
               by_cases h1 : y.1 < x1
               · have m1 : (y.1 : Int) < (x1 : Int) := by omega
                 clear hless
                 go_wp2
                 go_round
                 case rel => exact ⟨q + 1, by omega, by go_num, HQ2⟩
                 case measure => simp [intOf]; omega
               · have h2 : x1 = y.1 ∧ y.2 < x2 := by rcases hless with h | h <;> omega
                 obtain ⟨rfl, h2⟩ := h2
                 have m3 : (y.2 : Int) < (x2 : Int) := by omega
                 clear hless h1
                 go_wp2
                 go_round
                 case rel => exact ⟨q + 1, by omega, by go_num, HQ2⟩
                 case measure => simp [intOf]; omega
             · have HEI := Lib.hid (insP_at (x := (x1, x2)) (show q ≤ F.length by have := hFl.out; omega) HQ.out (fun h => by
                 cases hh : ltP F[q] (x1, x2) with
                 | false => rfl
                 | true => exact absurd ⟨h, hh⟩ hgo))
               rcases Nat.lt_or_ge q k with hqk | hqk
               · have b2 : (q : Int) < (k : Int) := by omega
                 have hqF : q < F.length := by have := hFl.out; omega
                 obtain ⟨gb, c', gs, cs, e1, _, _, _, _, hcs, hb1, hb2, hb3⟩ := edge_at S.out.grid hqF
                 simp only [Value.slice.injEq, Option.some.injEq, Addr.mk.injEq] at e1
                 obtain ⟨⟨rfl, _, _⟩, hkk, rfl⟩ := e1
                 have hless : ¬ ltP F[q] (x1, x2) = true := fun hh => hgo ⟨hqF, hh⟩
                 obtain ⟨y, hy⟩ : ∃ y, y = F[q] := ⟨_, rfl⟩
                 rw [← hy] at hless hb2 hb3
                 rw [ltP_iff] at hless
                 clear hkk hy HQ hqF hgo
                 by_cases h1 : x1 = y.1
                 · obtain rfl := h1
                   have m3 : ¬ (y.2 : Int) < (x2 : Int) := by omega
                   have m4 : ¬ y.2 < x2 := by omega
                   clear hless
                   go_wp2
                   go_meet
                   exact ⟨q, hq, rfl, rfl, HEI⟩
                 · have m1 : ¬ (y.1 : Int) < (x1 : Int) := by omega
                   have m2 : ¬ y.1 < x1 := by omega
                   have m4 : ¬ y.1 = x1 := by omega
                   have m3 : ((y.1 : Int) == (x1 : Int)) = false := by rw [beq_eq_false_iff_ne]; omega
                   clear hless h1
                   go_wp2
                   go_meet
                   exact ⟨q, hq, rfl, rfl, HEI⟩
               · have b2 : (k : Int) ≤ (q : Int) := by omega
                 have b3 : ¬ (q : Int) < (k : Int) := by omega
                 clear hgo HQ
                 go_wp2
                 go_meet
                 exact ⟨q, hq, rfl, rfl, HEI⟩
          case rest =>
            obtain ⟨q, hq, rfl, rfl, EI⟩ := hcut
            have hkc : k ≤ c := by
              obtain ⟨a1, c1, e1, _, h1, _⟩ := S.out.grid.1.slice
              have := S.out.grid.2.1
              rw [rowsE_length, S.out.len] at this
              cases e1; omega
            obtain ⟨d, rfl⟩ : ∃ d, k = q + d := ⟨k - q, by omega⟩
            obtain ⟨ce, rfl⟩ : ∃ ce, c = q + ce := ⟨c - q, by omega⟩
            have hde : d ≤ ce := by omega
            have i1 : (q : Int) ≤ (q : Int) + (ce : Int) := by omega
            have i2 : (0 : Int) ≤ (q : Int) := by omega
            have i3 : (q : Int) ≤ (q : Int) + (d : Int) := by omega
            have hFl2 := S.out.len
            have hLV : LV.length = q + d := by rw [S.out.grid.2.1, rowsE_length, hFl2]
            have hown : Own wb N wb.heap.size 30 (.slice (some ⟨g, 0, none⟩) (q + d) (q + ce)) LV := S.out.grid.1
            have hown2 : wb.ownsRow N 30 1 (.slice (some ⟨g, 0, none⟩) (q + d) (q + ce)) (q + d) LV := by have := hown.1; rwa [hLV] at this
            have hgM : g < wb.heap.size := (hown2.lt g rfl).2
            have CNa : Hid (∀ W : World, Below wb.heap.size wb W → ∀ (j : Nat) (u : Value), (LV.take q)[j]? = some u → W.cell? ((⟨g, 0, none⟩ : Addr).add j) = some u) := fun W hW j u hu => by
              have hj : j < q := by
                have := (List.getElem?_eq_some_iff.1 hu).1
                rw [List.length_take] at this; omega
              rw [List.getElem?_take_of_lt hj] at hu
              have h1 := hown2.cells (g := g) rfl j u hu
              rw [Addr.add_lit] at h1 ⊢
              exact (hW.cell (p := ⟨g, 0 + j, none⟩) hgM).trans h1
            have CNq : Hid (∀ W : World, Below wb.heap.size wb W → ∀ (j : Nat) (u : Value), (LV.drop q)[j]? = some u → W.cell? ((⟨g, q, none⟩ : Addr).add j) = some u) := fun W hW j u hu => by
              rw [List.getElem?_drop] at hu
              have h1 := hown2.cells (g := g) rfl (q + j) u hu
              rw [Addr.add_lit] at h1 ⊢
              rw [Nat.zero_add] at h1
              exact (hW.cell (p := ⟨g, q + j, none⟩) hgM).trans h1
            have ln1 : (LV.take q).length = q * 1 := by rw [List.length_take, hLV]; omega
            have ln3 : (LV.drop q).length = d * 1 := by rw [List.length_drop, hLV]; omega
            have LN1 := Lib.hid ln1
            have LN3 := Lib.hid ln3
            have ONE := rows_one S.out.grid.2
            have ON1 : Hid (∀ u ∈ LV.take q, u.oneCell' = true) := fun u hu => ONE u (List.mem_of_mem_take hu)
            have ON3 : Hid (∀ u ∈ LV.drop q, u.oneCell' = true) := fun u hu => ONE u (List.mem_of_mem_drop hu)
            have y1 : 0 + q ≤ maxLen := by unfold maxLen; omega
            have y2 : (0 + q) * 24 ≤ 140737488355328 := by omega
            have y3 : q + 1 ≤ maxLen := by unfold maxLen; omega
            have y4 : (q + 1) * 24 ≤ 140737488355328 := by omega
            have y5 : q + 1 + d ≤ maxLen := by unfold maxLen; omega
            have y6 : (q + 1 + d) * 24 ≤ 140737488355328 := by omega
            have HHM := Lib.hid hgM
            clear hFl2 hLV hown hown2 hgM ln1 ln3 ONE hkc hFl
            clear hG hcv hcm hgl
            rcases ce with _ | ce
            · obtain rfl : d = 0 := by omega
              have CNd : Hid (∀ W : World, Below wb.heap.size wb W → ∀ (j : Nat) (u : Value), (LV.drop q)[j]? = some u → W.cell? ((⟨g, 0, none⟩ : Addr).add j) = some u) := fun W hW j u hu => by
                have := (List.getElem?_eq_some_iff.1 hu).1
                have h2 := LN3.out
                omega
              clear CNq
              simp only [Nat.add_zero] at *
              go_wp2
              go_region_law (first
                 | (refine step_appE ?gd (.tmp 77) (.tmp 80) 23 ?ho wb.heap.size 30 j0 (.slice none 0 0) 1 24 Try.underlying23 hj hy0 hy1 hy2 rfl (Nat.lt_succ_self 0) (.slice (some ⟨wb.heap.size, 0, none⟩) 0 0) 0 [] ?hs ?own ⟨g, 0, none⟩ q q (LV.take q) ?hx LN1.out ?news ON1.out y1 y2 ?base ?_
                    case ho => with_reducible rfl
                    case hs => ((try go_simp); (try exact rfl))
                    case hx => ((try go_simp); (try exact rfl))
                    case gd => rfl
                    case own =>
                      refine own_of_full ?_ (Nat.zero_le _) rfl ?_
                      · first | exact Nat.le_refl _ | (simp; done) | omega
                      · repeat (first | (with_reducible refine blk_new _ _ ?_; first | with_reducible rfl | (simp; done)) | with_reducible refine blk_drew ?_ | with_reducible refine blk_old _ _ ?_ | (with_reducible refine KP5.out _ _ _ _ (by decide) ?_) | (with_reducible refine H1.out _ _ ?_ ?_; · (simp [Value.ownBlock]; try omega)))
                    case news =>
                      refine CNa.out _ ?_
                      repeat (first | with_reducible exact Below.refl _ _ | with_reducible exact HB5.out | with_reducible exact HB4.out | with_reducible refine Below.drew ?_ | with_reducible refine bel_alloc (Nat.le_refl _) ?_ _)
                    case base =>
                      refine Below.size (B := wb.heap.size) (w := wb) ?_
                      repeat (first | with_reducible exact Below.refl _ _ | with_reducible exact HB5.out | with_reducible exact HB4.out | with_reducible refine Below.drew ?_ | with_reducible refine bel_alloc (Nat.le_refl _) ?_ _)
                    intro v4 w4 hv4 hg4 hn4
                    obtain ⟨g4, c4, rfl⟩ := own_somR hv4 (fun e => by cases (hn4.1 e).1)
                    have HB4 : Hid (Below wb.heap.size wb w4) := by
                      refine bel_grown (Nat.le_refl _) hg4 ?_ ?_
                      · intro z hz
                        simp only [Value.ownBlock, Option.some.injEq] at hz
                        omega
                      · repeat (first | with_reducible exact Below.refl _ _ | with_reducible exact HB5.out | with_reducible exact HB4.out | with_reducible refine Below.drew ?_ | with_reducible refine bel_alloc (Nat.le_refl _) ?_ _)
                    have H1 := Lib.hid (blk_grown hg4)
                    simp only [Nat.zero_add, List.nil_append] at hv4
                    have H4 := Lib.hid hv4
                    clear hv4 hg4 hn4)
                 | (refine step_appE ?gd (.tmp 77) (.tmp 80) 23 ?ho wb.heap.size 30 j0 (.slice none 0 0) 1 24 Try.underlying23 hj hy0 hy1 hy2 rfl (Nat.lt_succ_self 0) (.slice (some ⟨wb.heap.size + 1, 0, none⟩) 0 0) 0 [] ?hs ?own ⟨g, 0, none⟩ q q (LV.take q) ?hx LN1.out ?news ON1.out y1 y2 ?base ?_
                    case ho => with_reducible rfl
                    case hs => ((try go_simp); (try exact rfl))
                    case hx => ((try go_simp); (try exact rfl))
                    case gd => rfl
                    case own =>
                      refine own_of_full ?_ (Nat.zero_le _) rfl ?_
                      · first | exact Nat.le_refl _ | (simp; done) | omega
                      · repeat (first | (with_reducible refine blk_new _ _ ?_; first | with_reducible rfl | (simp; done)) | with_reducible refine blk_drew ?_ | with_reducible refine blk_old _ _ ?_ | (with_reducible refine KP5.out _ _ _ _ (by decide) ?_) | (with_reducible refine H1.out _ _ ?_ ?_; · (simp [Value.ownBlock]; try omega)))
                    case news =>
                      refine CNa.out _ ?_
                      repeat (first | with_reducible exact Below.refl _ _ | with_reducible exact HB5.out | with_reducible exact HB4.out | with_reducible refine Below.drew ?_ | with_reducible refine bel_alloc (Nat.le_refl _) ?_ _)
                    case base =>
                      refine Below.size (B := wb.heap.size) (w := wb) ?_
                      repeat (first | with_reducible exact Below.refl _ _ | with_reducible exact HB5.out | with_reducible exact HB4.out | with_reducible refine Below.drew ?_ | with_reducible refine bel_alloc (Nat.le_refl _) ?_ _)
                    intro v4 w4 hv4 hg4 hn4
                    obtain ⟨g4, c4, rfl⟩ := own_somR hv4 (fun e => by cases (hn4.1 e).1)
                    have HB4 : Hid (Below wb.heap.size wb w4) := by
                      refine bel_grown (Nat.le_refl _) hg4 ?_ ?_
                      · intro z hz
                        simp only [Value.ownBlock, Option.some.injEq] at hz
                        omega
                      · repeat (first | with_reducible exact Below.refl _ _ | with_reducible exact HB5.out | with_reducible exact HB4.out | with_reducible refine Below.drew ?_ | with_reducible refine bel_alloc (Nat.le_refl _) ?_ _)
                    have H1 := Lib.hid (blk_grown hg4)
                    simp only [Nat.zero_add, List.nil_append] at hv4
                    have H4 := Lib.hid hv4
                    clear hv4 hg4 hn4)
                 | (refine step_appE ?gd (.tmp 77) (.tmp 80) 23 ?ho wb.heap.size 30 j0 (.slice none 0 0) 1 24 Try.underlying23 hj hy0 hy1 hy2 rfl (Nat.lt_succ_self 0) (.slice (some ⟨wb.heap.size + 2, 0, none⟩) 0 0) 0 [] ?hs ?own ⟨g, 0, none⟩ q q (LV.take q) ?hx LN1.out ?news ON1.out y1 y2 ?base ?_
                    case ho => with_reducible rfl
                    case hs => ((try go_simp); (try exact rfl))
                    case hx => ((try go_simp); (try exact rfl))
                    case gd => rfl
                    case own =>
                      refine own_of_full ?_ (Nat.zero_le _) rfl ?_
                      · first | exact Nat.le_refl _ | (simp; done) | omega
                      · repeat (first | (with_reducible refine blk_new _ _ ?_; first | with_reducible rfl | (simp; done)) | with_reducible refine blk_drew ?_ | with_reducible refine blk_old _ _ ?_ | (with_reducible refine KP5.out _ _ _ _ (by decide) ?_) | (with_reducible refine H1.out _ _ ?_ ?_; · (simp [Value.ownBlock]; try omega)))
                    case news =>
                      refine CNa.out _ ?_
                      repeat (first | with_reducible exact Below.refl _ _ | with_reducible exact HB5.out | with_reducible exact HB4.out | with_reducible refine Below.drew ?_ | with_reducible refine bel_alloc (Nat.le_refl _) ?_ _)
                    case base =>
                      refine Below.size (B := wb.heap.size) (w := wb) ?_
                      repeat (first | with_reducible exact Below.refl _ _ | with_reducible exact HB5.out | with_reducible exact HB4.out | with_reducible refine Below.drew ?_ | with_reducible refine bel_alloc (Nat.le_refl _) ?_ _)
                    intro v4 w4 hv4 hg4 hn4
                    obtain ⟨g4, c4, rfl⟩ := own_somR hv4 (fun e => by cases (hn4.1 e).1)
                    have HB4 : Hid (Below wb.heap.size wb w4) := by
                      refine bel_grown (Nat.le_refl _) hg4 ?_ ?_
                      · intro z hz
                        simp only [Value.ownBlock, Option.some.injEq] at hz
                        omega
                      · repeat (first | with_reducible exact Below.refl _ _ | with_reducible exact HB5.out | with_reducible exact HB4.out | with_reducible refine Below.drew ?_ | with_reducible refine bel_alloc (Nat.le_refl _) ?_ _)
                    have H1 := Lib.hid (blk_grown hg4)
                    simp only [Nat.zero_add, List.nil_append] at hv4
                    have H4 := Lib.hid hv4
                    clear hv4 hg4 hn4)
                 | (refine step_appE ?gd (.tmp 81) (.tmp 85) 23 ?ho wb.heap.size 30 j0 (.slice none 0 0) 1 24 Try.underlying23 hj hy0 hy1 hy2 rfl (Nat.lt_succ_self 0) (.slice (some ⟨g4, 0, none⟩) q c4) q (LV.take q) ?hs ?own ⟨w4.heap.size + 1, 0, none⟩ 1 1 [.slice (some ⟨w4.heap.size, 0, none⟩) 2 2] ?hx rfl ?news (one_rowR _ _ _ _ rfl) y3 y4 ?base ?_
                    case ho => with_reducible rfl
                    case hs => ((try go_simp); (try exact rfl))
                    case hx => ((try go_simp); (try exact rfl))
                    case gd => rfl
                    case own => first | exact H4.out | exact H4.out.alloc _ | exact (H4.out.alloc _).alloc _ | exact own_of_blocks H4.out (fun _ _ => rfl)
                    case news =>
                      refine World.news_of_block (cs := #[.slice (some ⟨w4.heap.size, 0, none⟩) 2 2]) (t := 30) (fr := (0, 0)) ?_
                      repeat (first | (with_reducible refine blk_new _ _ ?_; first | with_reducible rfl | (simp; done)) | with_reducible refine blk_drew ?_ | with_reducible refine blk_old _ _ ?_ | (with_reducible refine KP5.out _ _ _ _ (by decide) ?_) | (with_reducible refine H1.out _ _ ?_ ?_; · (simp [Value.ownBlock]; try omega)))
                    case base =>
                      refine Below.size (B := wb.heap.size) (w := wb) ?_
                      repeat (first | with_reducible exact Below.refl _ _ | with_reducible exact HB5.out | with_reducible exact HB4.out | with_reducible refine Below.drew ?_ | with_reducible refine bel_alloc (Nat.le_refl _) ?_ _)
                    intro v5 w5 hv5 hg5 hn5
                    obtain ⟨g5, c5, rfl⟩ := own_somR hv5 (fun e => by cases (hn5.1 e).1)
                    have HB5 : Hid (Below wb.heap.size wb w5) := by
                      refine bel_grown (Nat.le_refl _) hg5 (fun z hz => (H4.out.lt z hz).1) ?_
                      repeat (first | with_reducible exact Below.refl _ _ | with_reducible exact HB5.out | with_reducible exact HB4.out | with_reducible refine Below.drew ?_ | with_reducible refine bel_alloc (Nat.le_refl _) ?_ _)
                    have KP5 := Lib.hid (blk_kept hg5 (by first | exact H4.out | exact H4.out.alloc _ | exact (H4.out.alloc _).alloc _ | exact own_of_blocks H4.out (fun _ _ => rfl)))
                    have XX : ∃ xb, w5.ownsRow wb.heap.size 30 1 (.slice (some ⟨g5, 0, none⟩) (q + 1) c5) (q + 1) (LV.take q ++ [.slice (some ⟨xb, 0, none⟩) 2 2]) ∧ w5.heap[xb]? = some (.cells #[.int .i64 (x1 : Int), .int .i64 (x2 : Int)] 3 (0, 0)) ∧ wb.heap.size ≤ xb := by
                      refine ⟨_, hv5, ?_, ?_⟩
                      · repeat (first | (with_reducible refine blk_new _ _ ?_; first | with_reducible rfl | (simp; done)) | with_reducible refine blk_drew ?_ | with_reducible refine blk_old _ _ ?_ | (with_reducible refine KP5.out _ _ _ _ (by decide) ?_) | (with_reducible refine H1.out _ _ ?_ ?_; · (simp [Value.ownBlock]; try omega)))
                      · first | exact Nat.le_refl _ | exact HB4.out.size | (simp; done) | omega
                    obtain ⟨xb, hv5', hxb, hxm⟩ := XX
                    have H5 := Lib.hid hv5'
                    have XB := Lib.hid hxb
                    have XM := Lib.hid hxm
                    clear hv5 hg5 hn5 hv5' hxb hxm KP5 H1 H4)
                 | (refine step_appE ?gd (.tmp 81) (.tmp 85) 23 ?ho wb.heap.size 30 j0 (.slice none 0 0) 1 24 Try.underlying23 hj hy0 hy1 hy2 rfl (Nat.lt_succ_self 0) (.slice (some ⟨g4, 0, none⟩) q c4) q (LV.take q) ?hs ?own ⟨w4.heap.size, 0, none⟩ 1 1 [.slice (some ⟨wb.heap.size + 1, 0, none⟩) 2 2] ?hx rfl ?news (one_rowR _ _ _ _ rfl) y3 y4 ?base ?_
                    case ho => with_reducible rfl
                    case hs => ((try go_simp); (try exact rfl))
                    case hx => ((try go_simp); (try exact rfl))
                    case gd => rfl
                    case own => first | exact H4.out | exact H4.out.alloc _ | exact (H4.out.alloc _).alloc _ | exact own_of_blocks H4.out (fun _ _ => rfl)
                    case news =>
                      refine World.news_of_block (cs := #[.slice (some ⟨wb.heap.size + 1, 0, none⟩) 2 2]) (t := 30) (fr := (0, 0)) ?_
                      repeat (first | (with_reducible refine blk_new _ _ ?_; first | with_reducible rfl | (simp; done)) | with_reducible refine blk_drew ?_ | with_reducible refine blk_old _ _ ?_ | (with_reducible refine KP5.out _ _ _ _ (by decide) ?_) | (with_reducible refine H1.out _ _ ?_ ?_; · (simp [Value.ownBlock]; try omega)))
                    case base =>
                      refine Below.size (B := wb.heap.size) (w := wb) ?_
                      repeat (first | with_reducible exact Below.refl _ _ | with_reducible exact HB5.out | with_reducible exact HB4.out | with_reducible refine Below.drew ?_ | with_reducible refine bel_alloc (Nat.le_refl _) ?_ _)
                    intro v5 w5 hv5 hg5 hn5
                    obtain ⟨g5, c5, rfl⟩ := own_somR hv5 (fun e => by cases (hn5.1 e).1)
                    have HB5 : Hid (Below wb.heap.size wb w5) := by
                      refine bel_grown (Nat.le_refl _) hg5 (fun z hz => (H4.out.lt z hz).1) ?_
                      repeat (first | with_reducible exact Below.refl _ _ | with_reducible exact HB5.out | with_reducible exact HB4.out | with_reducible refine Below.drew ?_ | with_reducible refine bel_alloc (Nat.le_refl _) ?_ _)
                    have KP5 := Lib.hid (blk_kept hg5 (by first | exact H4.out | exact H4.out.alloc _ | exact (H4.out.alloc _).alloc _ | exact own_of_blocks H4.out (fun _ _ => rfl)))
                    have XX : ∃ xb, w5.ownsRow wb.heap.size 30 1 (.slice (some ⟨g5, 0, none⟩) (q + 1) c5) (q + 1) (LV.take q ++ [.slice (some ⟨xb, 0, none⟩) 2 2]) ∧ w5.heap[xb]? = some (.cells #[.int .i64 (x1 : Int), .int .i64 (x2 : Int)] 3 (0, 0)) ∧ wb.heap.size ≤ xb := by
                      refine ⟨_, hv5, ?_, ?_⟩
                      · repeat (first | (with_reducible refine blk_new _ _ ?_; first | with_reducible rfl | (simp; done)) | with_reducible refine blk_drew ?_ | with_reducible refine blk_old _ _ ?_ | (with_reducible refine KP5.out _ _ _ _ (by decide) ?_) | (with_reducible refine H1.out _ _ ?_ ?_; · (simp [Value.ownBlock]; try omega)))
                      · first | exact Nat.le_refl _ | exact HB4.out.size | (simp; done) | omega
                    obtain ⟨xb, hv5', hxb, hxm⟩ := XX
                    have H5 := Lib.hid hv5'
                    have XB := Lib.hid hxb
                    have XM := Lib.hid hxm
                    clear hv5 hg5 hn5 hv5' hxb hxm KP5 H1 H4)
                 | (refine step_appE ?gd (.tmp 81) (.tmp 85) 23 ?ho wb.heap.size 30 j0 (.slice none 0 0) 1 24 Try.underlying23 hj hy0 hy1 hy2 rfl (Nat.lt_succ_self 0) (.slice (some ⟨g4, 0, none⟩) q c4) q (LV.take q) ?hs ?own ⟨wb.heap.size + 2, 0, none⟩ 1 1 [.slice (some ⟨wb.heap.size + 1, 0, none⟩) 2 2] ?hx rfl ?news (one_rowR _ _ _ _ rfl) y3 y4 ?base ?_
                    case ho => with_reducible rfl
                    case hs => ((try go_simp); (try exact rfl))
                    case hx => ((try go_simp); (try exact rfl))
                    case gd => rfl
                    case own => first | exact H4.out | exact H4.out.alloc _ | exact (H4.out.alloc _).alloc _ | exact own_of_blocks H4.out (fun _ _ => rfl)
                    case news =>
                      refine World.news_of_block (cs := #[.slice (some ⟨wb.heap.size + 1, 0, none⟩) 2 2]) (t := 30) (fr := (0, 0)) ?_
                      repeat (first | (with_reducible refine blk_new _ _ ?_; first | with_reducible rfl | (simp; done)) | with_reducible refine blk_drew ?_ | with_reducible refine blk_old _ _ ?_ | (with_reducible refine KP5.out _ _ _ _ (by decide) ?_) | (with_reducible refine H1.out _ _ ?_ ?_; · (simp [Value.ownBlock]; try omega)))
                    case base =>
                      refine Below.size (B := wb.heap.size) (w := wb) ?_
                      repeat (first | with_reducible exact Below.refl _ _ | with_reducible exact HB5.out | with_reducible exact HB4.out | with_reducible refine Below.drew ?_ | with_reducible refine bel_alloc (Nat.le_refl _) ?_ _)
                    intro v5 w5 hv5 hg5 hn5
                    obtain ⟨g5, c5, rfl⟩ := own_somR hv5 (fun e => by cases (hn5.1 e).1)
                    have HB5 : Hid (Below wb.heap.size wb w5) := by
                      refine bel_grown (Nat.le_refl _) hg5 (fun z hz => (H4.out.lt z hz).1) ?_
                      repeat (first | with_reducible exact Below.refl _ _ | with_reducible exact HB5.out | with_reducible exact HB4.out | with_reducible refine Below.drew ?_ | with_reducible refine bel_alloc (Nat.le_refl _) ?_ _)
                    have KP5 := Lib.hid (blk_kept hg5 (by first | exact H4.out | exact H4.out.alloc _ | exact (H4.out.alloc _).alloc _ | exact own_of_blocks H4.out (fun _ _ => rfl)))
                    have XX : ∃ xb, w5.ownsRow wb.heap.size 30 1 (.slice (some ⟨g5, 0, none⟩) (q + 1) c5) (q + 1) (LV.take q ++ [.slice (some ⟨xb, 0, none⟩) 2 2]) ∧ w5.heap[xb]? = some (.cells #[.int .i64 (x1 : Int), .int .i64 (x2 : Int)] 3 (0, 0)) ∧ wb.heap.size ≤ xb := by
                      refine ⟨_, hv5, ?_, ?_⟩
                      · repeat (first | (with_reducible refine blk_new _ _ ?_; first | with_reducible rfl | (simp; done)) | with_reducible refine blk_drew ?_ | with_reducible refine blk_old _ _ ?_ | (with_reducible refine KP5.out _ _ _ _ (by decide) ?_) | (with_reducible refine H1.out _ _ ?_ ?_; · (simp [Value.ownBlock]; try omega)))
                      · first | exact Nat.le_refl _ | exact HB4.out.size | (simp; done) | omega
                    obtain ⟨xb, hv5', hxb, hxm⟩ := XX
                    have H5 := Lib.hid hv5'
                    have XB := Lib.hid hxb
                    have XM := Lib.hid hxm
                    clear hv5 hg5 hn5 hv5' hxb hxm KP5 H1 H4)
                 | (refine step_appE ?gd (.tmp 81) (.tmp 85) 23 ?ho wb.heap.size 30 j0 (.slice none 0 0) 1 24 Try.underlying23 hj hy0 hy1 hy2 rfl (Nat.lt_succ_self 0) (.slice (some ⟨g4, 0, none⟩) q c4) q (LV.take q) ?hs ?own ⟨w4.heap.size, 0, none⟩ 1 1 [.slice (some ⟨wb.heap.size, 0, none⟩) 2 2] ?hx rfl ?news (one_rowR _ _ _ _ rfl) y3 y4 ?base ?_
                    case ho => with_reducible rfl
                    case hs => ((try go_simp); (try exact rfl))
                    case hx => ((try go_simp); (try exact rfl))
                    case gd => rfl
                    case own => first | exact H4.out | exact H4.out.alloc _ | exact (H4.out.alloc _).alloc _ | exact own_of_blocks H4.out (fun _ _ => rfl)
                    case news =>
                      refine World.news_of_block (cs := #[.slice (some ⟨wb.heap.size, 0, none⟩) 2 2]) (t := 30) (fr := (0, 0)) ?_
                      repeat (first | (with_reducible refine blk_new _ _ ?_; first | with_reducible rfl | (simp; done)) | with_reducible refine blk_drew ?_ | with_reducible refine blk_old _ _ ?_ | (with_reducible refine KP5.out _ _ _ _ (by decide) ?_) | (with_reducible refine H1.out _ _ ?_ ?_; · (simp [Value.ownBlock]; try omega)))
                    case base =>
                      refine Below.size (B := wb.heap.size) (w := wb) ?_
                      repeat (first | with_reducible exact Below.refl _ _ | with_reducible exact HB5.out | with_reducible exact HB4.out | with_reducible refine Below.drew ?_ | with_reducible refine bel_alloc (Nat.le_refl _) ?_ _)
                    intro v5 w5 hv5 hg5 hn5
                    obtain ⟨g5, c5, rfl⟩ := own_somR hv5 (fun e => by cases (hn5.1 e).1)
                    have HB5 : Hid (Below wb.heap.size wb w5) := by
                      refine bel_grown (Nat.le_refl _) hg5 (fun z hz => (H4.out.lt z hz).1) ?_
                      repeat (first | with_reducible exact Below.refl _ _ | with_reducible exact HB5.out | with_reducible exact HB4.out | with_reducible refine Below.drew ?_ | with_reducible refine bel_alloc (Nat.le_refl _) ?_ _)
                    have KP5 := Lib.hid (blk_kept hg5 (by first | exact H4.out | exact H4.out.alloc _ | exact (H4.out.alloc _).alloc _ | exact own_of_blocks H4.out (fun _ _ => rfl)))
                    have XX : ∃ xb, w5.ownsRow wb.heap.size 30 1 (.slice (some ⟨g5, 0, none⟩) (q + 1) c5) (q + 1) (LV.take q ++ [.slice (some ⟨xb, 0, none⟩) 2 2]) ∧ w5.heap[xb]? = some (.cells #[.int .i64 (x1 : Int), .int .i64 (x2 : Int)] 3 (0, 0)) ∧ wb.heap.size ≤ xb := by
                      refine ⟨_, hv5, ?_, ?_⟩
                      · repeat (first | (with_reducible refine blk_new _ _ ?_; first | with_reducible rfl | (simp; done)) | with_reducible refine blk_drew ?_ | with_reducible refine blk_old _ _ ?_ | (with_reducible refine KP5.out _ _ _ _ (by decide) ?_) | (with_reducible refine H1.out _ _ ?_ ?_; · (simp [Value.ownBlock]; try omega)))
                      · first | exact Nat.le_refl _ | exact HB4.out.size | (simp; done) | omega
                    obtain ⟨xb, hv5', hxb, hxm⟩ := XX
                    have H5 := Lib.hid hv5'
                    have XB := Lib.hid hxb
                    have XM := Lib.hid hxm
                    clear hv5 hg5 hn5 hv5' hxb hxm KP5 H1 H4)
                 | (refine step_appE ?gd (.tmp 81) (.tmp 85) 23 ?ho wb.heap.size 30 j0 (.slice none 0 0) 1 24 Try.underlying23 hj hy0 hy1 hy2 rfl (Nat.lt_succ_self 0) (.slice (some ⟨g4, 0, none⟩) q c4) q (LV.take q) ?hs ?own ⟨wb.heap.size + 2, 0, none⟩ 1 1 [.slice (some ⟨wb.heap.size, 0, none⟩) 2 2] ?hx rfl ?news (one_rowR _ _ _ _ rfl) y3 y4 ?base ?_
                    case ho => with_reducible rfl
                    case hs => ((try go_simp); (try exact rfl))
                    case hx => ((try go_simp); (try exact rfl))
                    case gd => rfl
                    case own => first | exact H4.out | exact H4.out.alloc _ | exact (H4.out.alloc _).alloc _ | exact own_of_blocks H4.out (fun _ _ => rfl)
                    case news =>
                      refine World.news_of_block (cs := #[.slice (some ⟨wb.heap.size, 0, none⟩) 2 2]) (t := 30) (fr := (0, 0)) ?_
                      repeat (first | (with_reducible refine blk_new _ _ ?_; first | with_reducible rfl | (simp; done)) | with_reducible refine blk_drew ?_ | with_reducible refine blk_old _ _ ?_ | (with_reducible refine KP5.out _ _ _ _ (by decide) ?_) | (with_reducible refine H1.out _ _ ?_ ?_; · (simp [Value.ownBlock]; try omega)))
                    case base =>
                      refine Below.size (B := wb.heap.size) (w := wb) ?_
                      repeat (first | with_reducible exact Below.refl _ _ | with_reducible exact HB5.out | with_reducible exact HB4.out | with_reducible refine Below.drew ?_ | with_reducible refine bel_alloc (Nat.le_refl _) ?_ _)
                    intro v5 w5 hv5 hg5 hn5
                    obtain ⟨g5, c5, rfl⟩ := own_somR hv5 (fun e => by cases (hn5.1 e).1)
                    have HB5 : Hid (Below wb.heap.size wb w5) := by
                      refine bel_grown (Nat.le_refl _) hg5 (fun z hz => (H4.out.lt z hz).1) ?_
                      repeat (first | with_reducible exact Below.refl _ _ | with_reducible exact HB5.out | with_reducible exact HB4.out | with_reducible refine Below.drew ?_ | with_reducible refine bel_alloc (Nat.le_refl _) ?_ _)
                    have KP5 := Lib.hid (blk_kept hg5 (by first | exact H4.out | exact H4.out.alloc _ | exact (H4.out.alloc _).alloc _ | exact own_of_blocks H4.out (fun _ _ => rfl)))
                    have XX : ∃ xb, w5.ownsRow wb.heap.size 30 1 (.slice (some ⟨g5, 0, none⟩) (q + 1) c5) (q + 1) (LV.take q ++ [.slice (some ⟨xb, 0, none⟩) 2 2]) ∧ w5.heap[xb]? = some (.cells #[.int .i64 (x1 : Int), .int .i64 (x2 : Int)] 3 (0, 0)) ∧ wb.heap.size ≤ xb := by
                      refine ⟨_, hv5, ?_, ?_⟩
                      · repeat (first | (with_reducible refine blk_new _ _ ?_; first | with_reducible rfl | (simp; done)) | with_reducible refine blk_drew ?_ | with_reducible refine blk_old _ _ ?_ | (with_reducible refine KP5.out _ _ _ _ (by decide) ?_) | (with_reducible refine H1.out _ _ ?_ ?_; · (simp [Value.ownBlock]; try omega)))
                      · first | exact Nat.le_refl _ | exact HB4.out.size | (simp; done) | omega
                    obtain ⟨xb, hv5', hxb, hxm⟩ := XX
                    have H5 := Lib.hid hv5'
                    have XB := Lib.hid hxb
                    have XM := Lib.hid hxm
                    clear hv5 hg5 hn5 hv5' hxb hxm KP5 H1 H4)
                 | (refine step_appE ?gd (.tmp 81) (.tmp 85) 23 ?ho wb.heap.size 30 j0 (.slice none 0 0) 1 24 Try.underlying23 hj hy0 hy1 hy2 rfl (Nat.lt_succ_self 0) (.slice (some ⟨g4, 0, none⟩) q c4) q (LV.take q) ?hs ?own ⟨wb.heap.size + 1, 0, none⟩ 1 1 [.slice (some ⟨wb.heap.size, 0, none⟩) 2 2] ?hx rfl ?news (one_rowR _ _ _ _ rfl) y3 y4 ?base ?_
                    case ho => with_reducible rfl
                    case hs => ((try go_simp); (try exact rfl))
                    case hx => ((try go_simp); (try exact rfl))
                    case gd => rfl
                    case own => first | exact H4.out | exact H4.out.alloc _ | exact (H4.out.alloc _).alloc _ | exact own_of_blocks H4.out (fun _ _ => rfl)
                    case news =>
                      refine World.news_of_block (cs := #[.slice (some ⟨wb.heap.size, 0, none⟩) 2 2]) (t := 30) (fr := (0, 0)) ?_
                      repeat (first | (with_reducible refine blk_new _ _ ?_; first | with_reducible rfl | (simp; done)) | with_reducible refine blk_drew ?_ | with_reducible refine blk_old _ _ ?_ | (with_reducible refine KP5.out _ _ _ _ (by decide) ?_) | (with_reducible refine H1.out _ _ ?_ ?_; · (simp [Value.ownBlock]; try omega)))
                    case base =>
                      refine Below.size (B := wb.heap.size) (w := wb) ?_
                      repeat (first | with_reducible exact Below.refl _ _ | with_reducible exact HB5.out | with_reducible exact HB4.out | with_reducible refine Below.drew ?_ | with_reducible refine bel_alloc (Nat.le_refl _) ?_ _)
                    intro v5 w5 hv5 hg5 hn5
                    obtain ⟨g5, c5, rfl⟩ := own_somR hv5 (fun e => by cases (hn5.1 e).1)
                    have HB5 : Hid (Below wb.heap.size wb w5) := by
                      refine bel_grown (Nat.le_refl _) hg5 (fun z hz => (H4.out.lt z hz).1) ?_
                      repeat (first | with_reducible exact Below.refl _ _ | with_reducible exact HB5.out | with_reducible exact HB4.out | with_reducible refine Below.drew ?_ | with_reducible refine bel_alloc (Nat.le_refl _) ?_ _)
                    have KP5 := Lib.hid (blk_kept hg5 (by first | exact H4.out | exact H4.out.alloc _ | exact (H4.out.alloc _).alloc _ | exact own_of_blocks H4.out (fun _ _ => rfl)))
                    have XX : ∃ xb, w5.ownsRow wb.heap.size 30 1 (.slice (some ⟨g5, 0, none⟩) (q + 1) c5) (q + 1) (LV.take q ++ [.slice (some ⟨xb, 0, none⟩) 2 2]) ∧ w5.heap[xb]? = some (.cells #[.int .i64 (x1 : Int), .int .i64 (x2 : Int)] 3 (0, 0)) ∧ wb.heap.size ≤ xb := by
                      refine ⟨_, hv5, ?_, ?_⟩
                      · repeat (first | (with_reducible refine blk_new _ _ ?_; first | with_reducible rfl | (simp; done)) | with_reducible refine blk_drew ?_ | with_reducible refine blk_old _ _ ?_ | (with_reducible refine KP5.out _ _ _ _ (by decide) ?_) | (with_reducible refine H1.out _ _ ?_ ?_; · (simp [Value.ownBlock]; try omega)))
                      · first | exact Nat.le_refl _ | exact HB4.out.size | (simp; done) | omega
                    obtain ⟨xb, hv5', hxb, hxm⟩ := XX
                    have H5 := Lib.hid hv5'
                    have XB := Lib.hid hxb
                    have XM := Lib.hid hxm
                    clear hv5 hg5 hn5 hv5' hxb hxm KP5 H1 H4)
                 | (refine step_appE ?gd (.tmp 86) (.tmp 89) 23 ?ho wb.heap.size 30 j0 (.slice none 0 0) 1 24 Try.underlying23 hj hy0 hy1 hy2 rfl (Nat.lt_succ_self 0) (.slice (some ⟨g5, 0, none⟩) (q + 1) c5) (q + 1) (LV.take q ++ [.slice (some ⟨xb, 0, none⟩) 2 2]) ?hs H5.out ⟨g, 0, none⟩ 0 0 (LV.drop q) ?hx LN3.out (CNd.out _ HB5.out) ON3.out y5 y6 HB5.out.size ?_
                    case ho => with_reducible rfl
                    case hs => ((try go_simp); (try exact rfl))
                    case hx => ((try go_simp); (try exact rfl))
                    case gd => rfl
                    intro v6 w6 hv6 hg6 hn6
                    obtain ⟨g6, c6, rfl⟩ := own_somR hv6 (fun e => by cases (hn6.1 e).1)
                    have XB6 := Lib.hid (blk_kept hg6 H5.out xb _ _ _ (by decide) XB.out)
                    have HB6 := Lib.hid (bel_grown (Nat.le_refl _) hg6 (fun z hz => (H5.out.lt z hz).1) HB5.out)
                    have H6 := Lib.hid hv6
                    clear hv6 hg6 hn6 XB HB5 H5 HB4)
                 | fail)
              all_goals
                have S6 : Hid (Srt w w6 N g6 (q + 1 + 0) c6 (LV.take q ++ [.slice (some ⟨xb, 0, none⟩) 2 2] ++ LV.drop q) (sortP ((E.map norm).take (q + 1 + 0)))) := by
                  have e0 : sortP ((E.map norm).take (q + 1 + 0)) = insP F (x1, x2) := by
                    rw [show q + 1 + 0 = q + 1 by omega]; exact ST2.out
                  show Srt _ _ _ _ _ _ _ _
                  rw [e0, EI.out]
                  have hNM := S.out.below.size
                  have hs6 := HB6.out.size
                  have hNw : N ≤ wb.heap.size := by rw [HN.out]; exact hNM
                  refine ⟨⟨own_lo ⟨by rw [show (LV.take q ++ [Value.slice (some ⟨xb, 0, none⟩) 2 2] ++ LV.drop q).length = q + 1 + 0 by rw [List.length_append, List.length_append, LN1.out, LN3.out]; simp]; exact H6.out, fun z hz => (H6.out.lt z hz).2⟩ hNw, ?_⟩, ?_, S.out.below.trans (HB6.out.mono hNw)⟩
                  · have hr := (S.out.grid.2.below HB6.out).more hs6
                    have hx : Own w6 N w6.heap.size 3 (.slice (some ⟨xb, 0, none⟩) 2 2) (iv [(x1 : Int), (x2 : Int)]) := by
                      have h1 := own_of_full (B := N) (g := xb) (n := 2) (xs := [.int .i64 (x1 : Int), .int .i64 (x2 : Int)]) (by have := XM.out; omega) (by decide) rfl XB6.out
                      exact ⟨h1, fun z hz => (h1.lt z hz).2⟩
                    have h2 := ((hr.take q).append (RowsI.one hx)).append (hr.drop q)
                    have e2 : rowsE (F.take q ++ (x1, x2) :: F.drop q) = (rowsE F).take q ++ [[(x1 : Int), (x2 : Int)]] ++ (rowsE F).drop q := by simp [rowsE]
                    rw [e2]; exact h2
                  · have := S.out.len
                    rw [List.length_append, List.length_cons, List.length_take, List.length_drop]; omega
                clear H6 XB6 HB6 XM CNa CNd LN1 LN3 ON1 ON3 EI ST2
                go_simp
                go_wp2
                go_roundw
                case rel => exact ⟨q + 1 + 0, g6, c6, _, by omega, rfl, by (congr 1 <;> omega), S6⟩
                case measure => simp [intOf]; omega
            · have i4 : (q : Int) ≤ (q : Int) + ((ce : Int) + 1) := by omega
              have CNd := CNq
              have nk : ¬ (q + (ce + 1) = q) := by omega
              clear CNq
              go_wp2
              go_region_law (first
                 | (refine step_appE ?gd (.tmp 77) (.tmp 80) 23 ?ho wb.heap.size 30 j0 (.slice none 0 0) 1 24 Try.underlying23 hj hy0 hy1 hy2 rfl (Nat.lt_succ_self 0) (.slice (some ⟨wb.heap.size, 0, none⟩) 0 0) 0 [] ?hs ?own ⟨g, 0, none⟩ q (q + (ce + 1)) (LV.take q) ?hx LN1.out ?news ON1.out y1 y2 ?base ?_
                    case ho => with_reducible rfl
                    case hs => ((try go_simp); (try exact rfl))
                    case hx => ((try go_simp); (try exact rfl))
                    case gd => rfl
                    case own =>
                      refine own_of_full ?_ (Nat.zero_le _) rfl ?_
                      · first | exact Nat.le_refl _ | (simp; done) | omega
                      · repeat (first | (with_reducible refine blk_new _ _ ?_; first | with_reducible rfl | (simp; done)) | with_reducible refine blk_drew ?_ | with_reducible refine blk_old _ _ ?_ | (with_reducible refine KP5.out _ _ _ _ (by decide) ?_) | (with_reducible refine H1.out _ _ ?_ ?_; · (simp [Value.ownBlock]; try omega)))
                    case news =>
                      refine CNa.out _ ?_
                      repeat (first | with_reducible exact Below.refl _ _ | with_reducible exact HB5.out | with_reducible exact HB4.out | with_reducible refine Below.drew ?_ | with_reducible refine bel_alloc (Nat.le_refl _) ?_ _)
                    case base =>
                      refine Below.size (B := wb.heap.size) (w := wb) ?_
                      repeat (first | with_reducible exact Below.refl _ _ | with_reducible exact HB5.out | with_reducible exact HB4.out | with_reducible refine Below.drew ?_ | with_reducible refine bel_alloc (Nat.le_refl _) ?_ _)
                    intro v4 w4 hv4 hg4 hn4
                    obtain ⟨g4, c4, rfl⟩ := own_somR hv4 (fun e => by cases (hn4.1 e).1)
                    have HB4 : Hid (Below wb.heap.size wb w4) := by
                      refine bel_grown (Nat.le_refl _) hg4 ?_ ?_
                      · intro z hz
                        simp only [Value.ownBlock, Option.some.injEq] at hz
                        omega
                      · repeat (first | with_reducible exact Below.refl _ _ | with_reducible exact HB5.out | with_reducible exact HB4.out | with_reducible refine Below.drew ?_ | with_reducible refine bel_alloc (Nat.le_refl _) ?_ _)
                    have H1 := Lib.hid (blk_grown hg4)
                    simp only [Nat.zero_add, List.nil_append] at hv4
                    have H4 := Lib.hid hv4
                    clear hv4 hg4 hn4)
                 | (refine step_appE ?gd (.tmp 77) (.tmp 80) 23 ?ho wb.heap.size 30 j0 (.slice none 0 0) 1 24 Try.underlying23 hj hy0 hy1 hy2 rfl (Nat.lt_succ_self 0) (.slice (some ⟨wb.heap.size + 1, 0, none⟩) 0 0) 0 [] ?hs ?own ⟨g, 0, none⟩ q (q + (ce + 1)) (LV.take q) ?hx LN1.out ?news ON1.out y1 y2 ?base ?_
                    case ho => with_reducible rfl
                    case hs => ((try go_simp); (try exact rfl))
                    case hx => ((try go_simp); (try exact rfl))
                    case gd => rfl
                    case own =>
                      refine own_of_full ?_ (Nat.zero_le _) rfl ?_
                      · first | exact Nat.le_refl _ | (simp; done) | omega
                      · repeat (first | (with_reducible refine blk_new _ _ ?_; first | with_reducible rfl | (simp; done)) | with_reducible refine blk_drew ?_ | with_reducible refine blk_old _ _ ?_ | (with_reducible refine KP5.out _ _ _ _ (by decide) ?_) | (with_reducible refine H1.out _ _ ?_ ?_; · (simp [Value.ownBlock]; try omega)))
                    case news =>
                      refine CNa.out _ ?_
                      repeat (first | with_reducible exact Below.refl _ _ | with_reducible exact HB5.out | with_reducible exact HB4.out | with_reducible refine Below.drew ?_ | with_reducible refine bel_alloc (Nat.le_refl _) ?_ _)
                    case base =>
                      refine Below.size (B := wb.heap.size) (w := wb) ?_
                      repeat (first | with_reducible exact Below.refl _ _ | with_reducible exact HB5.out | with_reducible exact HB4.out | with_reducible refine Below.drew ?_ | with_reducible refine bel_alloc (Nat.le_refl _) ?_ _)
                    intro v4 w4 hv4 hg4 hn4
                    obtain ⟨g4, c4, rfl⟩ := own_somR hv4 (fun e => by cases (hn4.1 e).1)
                    have HB4 : Hid (Below wb.heap.size wb w4) := by
                      refine bel_grown (Nat.le_refl _) hg4 ?_ ?_
                      · intro z hz
                        simp only [Value.ownBlock, Option.some.injEq] at hz
                        omega
                      · repeat (first | with_reducible exact Below.refl _ _ | with_reducible exact HB5.out | with_reducible exact HB4.out | with_reducible refine Below.drew ?_ | with_reducible refine bel_alloc (Nat.le_refl _) ?_ _)
                    have H1 := Lib.hid (blk_grown hg4)
                    simp only [Nat.zero_add, List.nil_append] at hv4
                    have H4 := Lib.hid hv4
                    clear hv4 hg4 hn4)
                 | (refine step_appE ?gd (.tmp 77) (.tmp 80) 23 ?ho wb.heap.size 30 j0 (.slice none 0 0) 1 24 Try.underlying23 hj hy0 hy1 hy2 rfl (Nat.lt_succ_self 0) (.slice (some ⟨wb.heap.size + 2, 0, none⟩) 0 0) 0 [] ?hs ?own ⟨g, 0, none⟩ q (q + (ce + 1)) (LV.take q) ?hx LN1.out ?news ON1.out y1 y2 ?base ?_
                    case ho => with_reducible rfl
                    case hs => ((try go_simp); (try exact rfl))
                    case hx => ((try go_simp); (try exact rfl))
                    case gd => rfl
                    case own =>
                      refine own_of_full ?_ (Nat.zero_le _) rfl ?_
                      · first | exact Nat.le_refl _ | (simp; done) | omega
                      · repeat (first | (with_reducible refine blk_new _ _ ?_; first | with_reducible rfl | (simp; done)) | with_reducible refine blk_drew ?_ | with_reducible refine blk_old _ _ ?_ | (with_reducible refine KP5.out _ _ _ _ (by decide) ?_) | (with_reducible refine H1.out _ _ ?_ ?_; · (simp [Value.ownBlock]; try omega)))
                    case news =>
                      refine CNa.out _ ?_
                      repeat (first | with_reducible exact Below.refl _ _ | with_reducible exact HB5.out | with_reducible exact HB4.out | with_reducible refine Below.drew ?_ | with_reducible refine bel_alloc (Nat.le_refl _) ?_ _)
                    case base =>
                      refine Below.size (B := wb.heap.size) (w := wb) ?_
                      repeat (first | with_reducible exact Below.refl _ _ | with_reducible exact HB5.out | with_reducible exact HB4.out | with_reducible refine Below.drew ?_ | with_reducible refine bel_alloc (Nat.le_refl _) ?_ _)
                    intro v4 w4 hv4 hg4 hn4
                    obtain ⟨g4, c4, rfl⟩ := own_somR hv4 (fun e => by cases (hn4.1 e).1)
                    have HB4 : Hid (Below wb.heap.size wb w4) := by
                      refine bel_grown (Nat.le_refl _) hg4 ?_ ?_
                      · intro z hz
                        simp only [Value.ownBlock, Option.some.injEq] at hz
                        omega
                      · repeat (first | with_reducible exact Below.refl _ _ | with_reducible exact HB5.out | with_reducible exact HB4.out | with_reducible refine Below.drew ?_ | with_reducible refine bel_alloc (Nat.le_refl _) ?_ _)
                    have H1 := Lib.hid (blk_grown hg4)
                    simp only [Nat.zero_add, List.nil_append] at hv4
                    have H4 := Lib.hid hv4
                    clear hv4 hg4 hn4)
                 | (refine step_appE ?gd (.tmp 81) (.tmp 85) 23 ?ho wb.heap.size 30 j0 (.slice none 0 0) 1 24 Try.underlying23 hj hy0 hy1 hy2 rfl (Nat.lt_succ_self 0) (.slice (some ⟨g4, 0, none⟩) q c4) q (LV.take q) ?hs ?own ⟨w4.heap.size + 1, 0, none⟩ 1 1 [.slice (some ⟨w4.heap.size, 0, none⟩) 2 2] ?hx rfl ?news (one_rowR _ _ _ _ rfl) y3 y4 ?base ?_
                    case ho => with_reducible rfl
                    case hs => ((try go_simp); (try exact rfl))
                    case hx => ((try go_simp); (try exact rfl))
                    case gd => rfl
                    case own => first | exact H4.out | exact H4.out.alloc _ | exact (H4.out.alloc _).alloc _ | exact own_of_blocks H4.out (fun _ _ => rfl)
                    case news =>
                      refine World.news_of_block (cs := #[.slice (some ⟨w4.heap.size, 0, none⟩) 2 2]) (t := 30) (fr := (0, 0)) ?_
                      repeat (first | (with_reducible refine blk_new _ _ ?_; first | with_reducible rfl | (simp; done)) | with_reducible refine blk_drew ?_ | with_reducible refine blk_old _ _ ?_ | (with_reducible refine KP5.out _ _ _ _ (by decide) ?_) | (with_reducible refine H1.out _ _ ?_ ?_; · (simp [Value.ownBlock]; try omega)))
                    case base =>
                      refine Below.size (B := wb.heap.size) (w := wb) ?_
                      repeat (first | with_reducible exact Below.refl _ _ | with_reducible exact HB5.out | with_reducible exact HB4.out | with_reducible refine Below.drew ?_ | with_reducible refine bel_alloc (Nat.le_refl _) ?_ _)
                    intro v5 w5 hv5 hg5 hn5
                    obtain ⟨g5, c5, rfl⟩ := own_somR hv5 (fun e => by cases (hn5.1 e).1)
                    have HB5 : Hid (Below wb.heap.size wb w5) := by
                      refine bel_grown (Nat.le_refl _) hg5 (fun z hz => (H4.out.lt z hz).1) ?_
                      repeat (first | with_reducible exact Below.refl _ _ | with_reducible exact HB5.out | with_reducible exact HB4.out | with_reducible refine Below.drew ?_ | with_reducible refine bel_alloc (Nat.le_refl _) ?_ _)
                    have KP5 := Lib.hid (blk_kept hg5 (by first | exact H4.out | exact H4.out.alloc _ | exact (H4.out.alloc _).alloc _ | exact own_of_blocks H4.out (fun _ _ => rfl)))
                    have XX : ∃ xb, w5.ownsRow wb.heap.size 30 1 (.slice (some ⟨g5, 0, none⟩) (q + 1) c5) (q + 1) (LV.take q ++ [.slice (some ⟨xb, 0, none⟩) 2 2]) ∧ w5.heap[xb]? = some (.cells #[.int .i64 (x1 : Int), .int .i64 (x2 : Int)] 3 (0, 0)) ∧ wb.heap.size ≤ xb := by
                      refine ⟨_, hv5, ?_, ?_⟩
                      · repeat (first | (with_reducible refine blk_new _ _ ?_; first | with_reducible rfl | (simp; done)) | with_reducible refine blk_drew ?_ | with_reducible refine blk_old _ _ ?_ | (with_reducible refine KP5.out _ _ _ _ (by decide) ?_) | (with_reducible refine H1.out _ _ ?_ ?_; · (simp [Value.ownBlock]; try omega)))
                      · first | exact Nat.le_refl _ | exact HB4.out.size | (simp; done) | omega
                    obtain ⟨xb, hv5', hxb, hxm⟩ := XX
                    have H5 := Lib.hid hv5'
                    have XB := Lib.hid hxb
                    have XM := Lib.hid hxm
                    clear hv5 hg5 hn5 hv5' hxb hxm KP5 H1 H4)
                 | (refine step_appE ?gd (.tmp 81) (.tmp 85) 23 ?ho wb.heap.size 30 j0 (.slice none 0 0) 1 24 Try.underlying23 hj hy0 hy1 hy2 rfl (Nat.lt_succ_self 0) (.slice (some ⟨g4, 0, none⟩) q c4) q (LV.take q) ?hs ?own ⟨w4.heap.size, 0, none⟩ 1 1 [.slice (some ⟨wb.heap.size + 1, 0, none⟩) 2 2] ?hx rfl ?news (one_rowR _ _ _ _ rfl) y3 y4 ?base ?_
                    case ho => with_reducible rfl
                    case hs => ((try go_simp); (try exact rfl))
                    case hx => ((try go_simp); (try exact rfl))
                    case gd => rfl
                    case own => first | exact H4.out | exact H4.out.alloc _ | exact (H4.out.alloc _).alloc _ | exact own_of_blocks H4.out (fun _ _ => rfl)
                    case news =>
                      refine World.news_of_block (cs := #[.slice (some ⟨wb.heap.size + 1, 0, none⟩) 2 2]) (t := 30) (fr := (0, 0)) ?_
                      repeat (first | (with_reducible refine blk_new _ _ ?_; first | with_reducible rfl | (simp; done)) | with_reducible refine blk_drew ?_ | with_reducible refine blk_old _ _ ?_ | (with_reducible refine KP5.out _ _ _ _ (by decide) ?_) | (with_reducible refine H1.out _ _ ?_ ?_; · (simp [Value.ownBlock]; try omega)))
                    case base =>
                      refine Below.size (B := wb.heap.size) (w := wb) ?_
                      repeat (first | with_reducible exact Below.refl _ _ | with_reducible exact HB5.out | with_reducible exact HB4.out | with_reducible refine Below.drew ?_ | with_reducible refine bel_alloc (Nat.le_refl _) ?_ _)
                    intro v5 w5 hv5 hg5 hn5
                    obtain ⟨g5, c5, rfl⟩ := own_somR hv5 (fun e => by cases (hn5.1 e).1)
                    have HB5 : Hid (Below wb.heap.size wb w5) := by
                      refine bel_grown (Nat.le_refl _) hg5 (fun z hz => (H4.out.lt z hz).1) ?_
                      repeat (first | with_reducible exact Below.refl _ _ | with_reducible exact HB5.out | with_reducible exact HB4.out | with_reducible refine Below.drew ?_ | with_reducible refine bel_alloc (Nat.le_refl _) ?_ _)
                    have KP5 := Lib.hid (blk_kept hg5 (by first | exact H4.out | exact H4.out.alloc _ | exact (H4.out.alloc _).alloc _ | exact own_of_blocks H4.out (fun _ _ => rfl)))
                    have XX : ∃ xb, w5.ownsRow wb.heap.size 30 1 (.slice (some ⟨g5, 0, none⟩) (q + 1) c5) (q + 1) (LV.take q ++ [.slice (some ⟨xb, 0, none⟩) 2 2]) ∧ w5.heap[xb]? = some (.cells #[.int .i64 (x1 : Int), .int .i64 (x2 : Int)] 3 (0, 0)) ∧ wb.heap.size ≤ xb := by
                      refine ⟨_, hv5, ?_, ?_⟩
                      · repeat (first | (with_reducible refine blk_new _ _ ?_; first | with_reducible rfl | (simp; done)) | with_reducible refine blk_drew ?_ | with_reducible refine blk_old _ _ ?_ | (with_reducible refine KP5.out _ _ _ _ (by decide) ?_) | (with_reducible refine H1.out _ _ ?_ ?_; · (simp [Value.ownBlock]; try omega)))
                      · first | exact Nat.le_refl _ | exact HB4.out.size | (simp; done) | omega
                    obtain ⟨xb, hv5', hxb, hxm⟩ := XX
                    have H5 := Lib.hid hv5'
                    have XB := Lib.hid hxb
                    have XM := Lib.hid hxm
                    clear hv5 hg5 hn5 hv5' hxb hxm KP5 H1 H4)
                 | (refine step_appE ?gd (.tmp 81) (.tmp 85) 23 ?ho wb.heap.size 30 j0 (.slice none 0 0) 1 24 Try.underlying23 hj hy0 hy1 hy2 rfl (Nat.lt_succ_self 0) (.slice (some ⟨g4, 0, none⟩) q c4) q (LV.take q) ?hs ?own ⟨wb.heap.size + 2, 0, none⟩ 1 1 [.slice (some ⟨wb.heap.size + 1, 0, none⟩) 2 2] ?hx rfl ?news (one_rowR _ _ _ _ rfl) y3 y4 ?base ?_
                    case ho => with_reducible rfl
                    case hs => ((try go_simp); (try exact rfl))
                    case hx => ((try go_simp); (try exact rfl))
                    case gd => rfl
                    case own => first | exact H4.out | exact H4.out.alloc _ | exact (H4.out.alloc _).alloc _ | exact own_of_blocks H4.out (fun _ _ => rfl)
                    case news =>
                      refine World.news_of_block (cs := #[.slice (some ⟨wb.heap.size + 1, 0, none⟩) 2 2]) (t := 30) (fr := (0, 0)) ?_
                      repeat (first | (with_reducible refine blk_new _ _ ?_; first | with_reducible rfl | (simp; done)) | with_reducible refine blk_drew ?_ | with_reducible refine blk_old _ _ ?_ | (with_reducible refine KP5.out _ _ _ _ (by decide) ?_) | (with_reducible refine H1.out _ _ ?_ ?_; · (simp [Value.ownBlock]; try omega)))
                    case base =>
                      refine Below.size (B := wb.heap.size) (w := wb) ?_
                      repeat (first | with_reducible exact Below.refl _ _ | with_reducible exact HB5.out | with_reducible exact HB4.out | with_reducible refine Below.drew ?_ | with_reducible refine bel_alloc (Nat.le_refl _) ?_ _)
                    intro v5 w5 hv5 hg5 hn5
                    obtain ⟨g5, c5, rfl⟩ := own_somR hv5 (fun e => by cases (hn5.1 e).1)
                    have HB5 : Hid (Below wb.heap.size wb w5) := by
                      refine bel_grown (Nat.le_refl _) hg5 (fun z hz => (H4.out.lt z hz).1) ?_
                      repeat (first | with_reducible exact Below.refl _ _ | with_reducible exact HB5.out | with_reducible exact HB4.out | with_reducible refine Below.drew ?_ | with_reducible refine bel_alloc (Nat.le_refl _) ?_ _)
                    have KP5 := Lib.hid (blk_kept hg5 (by first | exact H4.out | exact H4.out.alloc _ | exact (H4.out.alloc _).alloc _ | exact own_of_blocks H4.out (fun _ _ => rfl)))
                    have XX : ∃ xb, w5.ownsRow wb.heap.size 30 1 (.slice (some ⟨g5, 0, none⟩) (q + 1) c5) (q + 1) (LV.take q ++ [.slice (some ⟨xb, 0, none⟩) 2 2]) ∧ w5.heap[xb]? = some (.cells #[.int .i64 (x1 : Int), .int .i64 (x2 : Int)] 3 (0, 0)) ∧ wb.heap.size ≤ xb := by
                      refine ⟨_, hv5, ?_, ?_⟩
                      · repeat (first | (with_reducible refine blk_new _ _ ?_; first | with_reducible rfl | (simp; done)) | with_reducible refine blk_drew ?_ | with_reducible refine blk_old _ _ ?_ | (with_reducible refine KP5.out _ _ _ _ (by decide) ?_) | (with_reducible refine H1.out _ _ ?_ ?_; · (simp [Value.ownBlock]; try omega)))
                      · first | exact Nat.le_refl _ | exact HB4.out.size | (simp; done) | omega
                    obtain ⟨xb, hv5', hxb, hxm⟩ := XX
                    have H5 := Lib.hid hv5'
                    have XB := Lib.hid hxb
                    have XM := Lib.hid hxm
                    clear hv5 hg5 hn5 hv5' hxb hxm KP5 H1 H4)
                 | (refine step_appE ?gd (.tmp 81) (.tmp 85) 23 ?ho wb.heap.size 30 j0 (.slice none 0 0) 1 24 Try.underlying23 hj hy0 hy1 hy2 rfl (Nat.lt_succ_self 0) (.slice (some ⟨g4, 0, none⟩) q c4) q (LV.take q) ?hs ?own ⟨w4.heap.size, 0, none⟩ 1 1 [.slice (some ⟨wb.heap.size, 0, none⟩) 2 2] ?hx rfl ?news (one_rowR _ _ _ _ rfl) y3 y4 ?base ?_
                    case ho => with_reducible rfl
                    case hs => ((try go_simp); (try exact rfl))
                    case hx => ((try go_simp); (try exact rfl))
                    case gd => rfl
                    case own => first | exact H4.out | exact H4.out.alloc _ | exact (H4.out.alloc _).alloc _ | exact own_of_blocks H4.out (fun _ _ => rfl)
                    case news =>
                      refine World.news_of_block (cs := #[.slice (some ⟨wb.heap.size, 0, none⟩) 2 2]) (t := 30) (fr := (0, 0)) ?_
                      repeat (first | (with_reducible refine blk_new _ _ ?_; first | with_reducible rfl | (simp; done)) | with_reducible refine blk_drew ?_ | with_reducible refine blk_old _ _ ?_ | (with_reducible refine KP5.out _ _ _ _ (by decide) ?_) | (with_reducible refine H1.out _ _ ?_ ?_; · (simp [Value.ownBlock]; try omega)))
                    case base =>
                      refine Below.size (B := wb.heap.size) (w := wb) ?_
                      repeat (first | with_reducible exact Below.refl _ _ | with_reducible exact HB5.out | with_reducible exact HB4.out | with_reducible refine Below.drew ?_ | with_reducible refine bel_alloc (Nat.le_refl _) ?_ _)
                    intro v5 w5 hv5 hg5 hn5
                    obtain ⟨g5, c5, rfl⟩ := own_somR hv5 (fun e => by cases (hn5.1 e).1)
                    have HB5 : Hid (Below wb.heap.size wb w5) := by
                      refine bel_grown (Nat.le_refl _) hg5 (fun z hz => (H4.out.lt z hz).1) ?_
                      repeat (first | with_reducible exact Below.refl _ _ | with_reducible exact HB5.out | with_reducible exact HB4.out | with_reducible refine Below.drew ?_ | with_reducible refine bel_alloc (Nat.le_refl _) ?_ _)
                    have KP5 := Lib.hid (blk_kept hg5 (by first | exact H4.out | exact H4.out.alloc _ | exact (H4.out.alloc _).alloc _ | exact own_of_blocks H4.out (fun _ _ => rfl)))
                    have XX : ∃ xb, w5.ownsRow wb.heap.size 30 1 (.slice (some ⟨g5, 0, none⟩) (q + 1) c5) (q + 1) (LV.take q ++ [.slice (some ⟨xb, 0, none⟩) 2 2]) ∧ w5.heap[xb]? = some (.cells #[.int .i64 (x1 : Int), .int .i64 (x2 : Int)] 3 (0, 0)) ∧ wb.heap.size ≤ xb := by
                      refine ⟨_, hv5, ?_, ?_⟩
                      · repeat (first | (with_reducible refine blk_new _ _ ?_; first | with_reducible rfl | (simp; done)) | with_reducible refine blk_drew ?_ | with_reducible refine blk_old _ _ ?_ | (with_reducible refine KP5.out _ _ _ _ (by decide) ?_) | (with_reducible refine H1.out _ _ ?_ ?_; · (simp [Value.ownBlock]; try omega)))
                      · first | exact Nat.le_refl _ | exact HB4.out.size | (simp; done) | omega
                    obtain ⟨xb, hv5', hxb, hxm⟩ := XX
                    have H5 := Lib.hid hv5'
                    have XB := Lib.hid hxb
                    have XM := Lib.hid hxm
                    clear hv5 hg5 hn5 hv5' hxb hxm KP5 H1 H4)
                 | (refine step_appE ?gd (.tmp 81) (.tmp 85) 23 ?ho wb.heap.size 30 j0 (.slice none 0 0) 1 24 Try.underlying23 hj hy0 hy1 hy2 rfl (Nat.lt_succ_self 0) (.slice (some ⟨g4, 0, none⟩) q c4) q (LV.take q) ?hs ?own ⟨wb.heap.size + 2, 0, none⟩ 1 1 [.slice (some ⟨wb.heap.size, 0, none⟩) 2 2] ?hx rfl ?news (one_rowR _ _ _ _ rfl) y3 y4 ?base ?_
                    case ho => with_reducible rfl
                    case hs => ((try go_simp); (try exact rfl))
                    case hx => ((try go_simp); (try exact rfl))
                    case gd => rfl
                    case own => first | exact H4.out | exact H4.out.alloc _ | exact (H4.out.alloc _).alloc _ | exact own_of_blocks H4.out (fun _ _ => rfl)
                    case news =>
                      refine World.news_of_block (cs := #[.slice (some ⟨wb.heap.size, 0, none⟩) 2 2]) (t := 30) (fr := (0, 0)) ?_
                      repeat (first | (with_reducible refine blk_new _ _ ?_; first | with_reducible rfl | (simp; done)) | with_reducible refine blk_drew ?_ | with_reducible refine blk_old _ _ ?_ | (with_reducible refine KP5.out _ _ _ _ (by decide) ?_) | (with_reducible refine H1.out _ _ ?_ ?_; · (simp [Value.ownBlock]; try omega)))
                    case base =>
                      refine Below.size (B := wb.heap.size) (w := wb) ?_
                      repeat (first | with_reducible exact Below.refl _ _ | with_reducible exact HB5.out | with_reducible exact HB4.out | with_reducible refine Below.drew ?_ | with_reducible refine bel_alloc (Nat.le_refl _) ?_ _)
                    intro v5 w5 hv5 hg5 hn5
                    obtain ⟨g5, c5, rfl⟩ := own_somR hv5 (fun e => by cases (hn5.1 e).1)
                    have HB5 : Hid (Below wb.heap.size wb w5) := by
                      refine bel_grown (Nat.le_refl _) hg5 (fun z hz => (H4.out.lt z hz).1) ?_
                      repeat (first | with_reducible exact Below.refl _ _ | with_reducible exact HB5.out | with_reducible exact HB4.out | with_reducible refine Below.drew ?_ | with_reducible refine bel_alloc (Nat.le_refl _) ?_ _)
                    have KP5 := Lib.hid (blk_kept hg5 (by first | exact H4.out | exact H4.out.alloc _ | exact (H4.out.alloc _).alloc _ | exact own_of_blocks H4.out (fun _ _ => rfl)))
                    have XX : ∃ xb, w5.ownsRow wb.heap.size 30 1 (.slice (some ⟨g5, 0, none⟩) (q + 1) c5) (q + 1) (LV.take q ++ [.slice (some ⟨xb, 0, none⟩) 2 2]) ∧ w5.heap[xb]? = some (.cells #[.int .i64 (x1 : Int), .int .i64 (x2 : Int)] 3 (0, 0)) ∧ wb.heap.size ≤ xb := by
                      refine ⟨_, hv5, ?_, ?_⟩
                      · repeat (first | (with_reducible refine blk_new _ _ ?_; first | with_reducible rfl | (simp; done)) | with_reducible refine blk_drew ?_ | with_reducible refine blk_old _ _ ?_ | (with_reducible refine KP5.out _ _ _ _ (by decide) ?_) | (with_reducible refine H1.out _ _ ?_ ?_; · (simp [Value.ownBlock]; try omega)))
                      · first | exact Nat.le_refl _ | exact HB4.out.size | (simp; done) | omega
                    obtain ⟨xb, hv5', hxb, hxm⟩ := XX
                    have H5 := Lib.hid hv5'
                    have XB := Lib.hid hxb
                    have XM := Lib.hid hxm
                    clear hv5 hg5 hn5 hv5' hxb hxm KP5 H1 H4)
                 | (refine step_appE ?gd (.tmp 81) (.tmp 85) 23 ?ho wb.heap.size 30 j0 (.slice none 0 0) 1 24 Try.underlying23 hj hy0 hy1 hy2 rfl (Nat.lt_succ_self 0) (.slice (some ⟨g4, 0, none⟩) q c4) q (LV.take q) ?hs ?own ⟨wb.heap.size + 1, 0, none⟩ 1 1 [.slice (some ⟨wb.heap.size, 0, none⟩) 2 2] ?hx rfl ?news (one_rowR _ _ _ _ rfl) y3 y4 ?base ?_
                    case ho => with_reducible rfl
                    case hs => ((try go_simp); (try exact rfl))
                    case hx => ((try go_simp); (try exact rfl))
                    case gd => rfl
                    case own => first | exact H4.out | exact H4.out.alloc _ | exact (H4.out.alloc _).alloc _ | exact own_of_blocks H4.out (fun _ _ => rfl)
                    case news =>
                      refine World.news_of_block (cs := #[.slice (some ⟨wb.heap.size, 0, none⟩) 2 2]) (t := 30) (fr := (0, 0)) ?_
                      repeat (first | (with_reducible refine blk_new _ _ ?_; first | with_reducible rfl | (simp; done)) | with_reducible refine blk_drew ?_ | with_reducible refine blk_old _ _ ?_ | (with_reducible refine KP5.out _ _ _ _ (by decide) ?_) | (with_reducible refine H1.out _ _ ?_ ?_; · (simp [Value.ownBlock]; try omega)))
                    case base =>
                      refine Below.size (B := wb.heap.size) (w := wb) ?_
                      repeat (first | with_reducible exact Below.refl _ _ | with_reducible exact HB5.out | with_reducible exact HB4.out | with_reducible refine Below.drew ?_ | with_reducible refine bel_alloc (Nat.le_refl _) ?_ _)
                    intro v5 w5 hv5 hg5 hn5
                    obtain ⟨g5, c5, rfl⟩ := own_somR hv5 (fun e => by cases (hn5.1 e).1)
                    have HB5 : Hid (Below wb.heap.size wb w5) := by
                      refine bel_grown (Nat.le_refl _) hg5 (fun z hz => (H4.out.lt z hz).1) ?_
                      repeat (first | with_reducible exact Below.refl _ _ | with_reducible exact HB5.out | with_reducible exact HB4.out | with_reducible refine Below.drew ?_ | with_reducible refine bel_alloc (Nat.le_refl _) ?_ _)
                    have KP5 := Lib.hid (blk_kept hg5 (by first | exact H4.out | exact H4.out.alloc _ | exact (H4.out.alloc _).alloc _ | exact own_of_blocks H4.out (fun _ _ => rfl)))
                    have XX : ∃ xb, w5.ownsRow wb.heap.size 30 1 (.slice (some ⟨g5, 0, none⟩) (q + 1) c5) (q + 1) (LV.take q ++ [.slice (some ⟨xb, 0, none⟩) 2 2]) ∧ w5.heap[xb]? = some (.cells #[.int .i64 (x1 : Int), .int .i64 (x2 : Int)] 3 (0, 0)) ∧ wb.heap.size ≤ xb := by
                      refine ⟨_, hv5, ?_, ?_⟩
                      · repeat (first | (with_reducible refine blk_new _ _ ?_; first | with_reducible rfl | (simp; done)) | with_reducible refine blk_drew ?_ | with_reducible refine blk_old _ _ ?_ | (with_reducible refine KP5.out _ _ _ _ (by decide) ?_) | (with_reducible refine H1.out _ _ ?_ ?_; · (simp [Value.ownBlock]; try omega)))
                      · first | exact Nat.le_refl _ | exact HB4.out.size | (simp; done) | omega
                    obtain ⟨xb, hv5', hxb, hxm⟩ := XX
                    have H5 := Lib.hid hv5'
                    have XB := Lib.hid hxb
                    have XM := Lib.hid hxm
                    clear hv5 hg5 hn5 hv5' hxb hxm KP5 H1 H4)
                 | (refine step_appE ?gd (.tmp 86) (.tmp 89) 23 ?ho wb.heap.size 30 j0 (.slice none 0 0) 1 24 Try.underlying23 hj hy0 hy1 hy2 rfl (Nat.lt_succ_self 0) (.slice (some ⟨g5, 0, none⟩) (q + 1) c5) (q + 1) (LV.take q ++ [.slice (some ⟨xb, 0, none⟩) 2 2]) ?hs H5.out ⟨g, q, none⟩ d (ce + 1) (LV.drop q) ?hx LN3.out (CNd.out _ HB5.out) ON3.out y5 y6 HB5.out.size ?_
                    case ho => with_reducible rfl
                    case hs => ((try go_simp); (try exact rfl))
                    case hx => ((try go_simp); (try exact rfl))
                    case gd => rfl
                    intro v6 w6 hv6 hg6 hn6
                    obtain ⟨g6, c6, rfl⟩ := own_somR hv6 (fun e => by cases (hn6.1 e).1)
                    have XB6 := Lib.hid (blk_kept hg6 H5.out xb _ _ _ (by decide) XB.out)
                    have HB6 := Lib.hid (bel_grown (Nat.le_refl _) hg6 (fun z hz => (H5.out.lt z hz).1) HB5.out)
                    have H6 := Lib.hid hv6
                    clear hv6 hg6 hn6 XB HB5 H5 HB4)
                 | fail)
              all_goals
                have S6 : Hid (Srt w w6 N g6 (q + 1 + d) c6 (LV.take q ++ [.slice (some ⟨xb, 0, none⟩) 2 2] ++ LV.drop q) (sortP ((E.map norm).take (q + 1 + d)))) := by
                  have e0 : sortP ((E.map norm).take (q + 1 + d)) = insP F (x1, x2) := by
                    rw [show q + 1 + d = q + d + 1 by omega]; exact ST2.out
                  show Srt _ _ _ _ _ _ _ _
                  rw [e0, EI.out]
                  have hNM := S.out.below.size
                  have hs6 := HB6.out.size
                  have hNw : N ≤ wb.heap.size := by rw [HN.out]; exact hNM
                  refine ⟨⟨own_lo ⟨by rw [show (LV.take q ++ [Value.slice (some ⟨xb, 0, none⟩) 2 2] ++ LV.drop q).length = q + 1 + d by rw [List.length_append, List.length_append, LN1.out, LN3.out]; simp]; exact H6.out, fun z hz => (H6.out.lt z hz).2⟩ hNw, ?_⟩, ?_, S.out.below.trans (HB6.out.mono hNw)⟩
                  · have hr := (S.out.grid.2.below HB6.out).more hs6
                    have hx : Own w6 N w6.heap.size 3 (.slice (some ⟨xb, 0, none⟩) 2 2) (iv [(x1 : Int), (x2 : Int)]) := by
                      have h1 := own_of_full (B := N) (g := xb) (n := 2) (xs := [.int .i64 (x1 : Int), .int .i64 (x2 : Int)]) (by have := XM.out; omega) (by decide) rfl XB6.out
                      exact ⟨h1, fun z hz => (h1.lt z hz).2⟩
                    have h2 := ((hr.take q).append (RowsI.one hx)).append (hr.drop q)
                    have e2 : rowsE (F.take q ++ (x1, x2) :: F.drop q) = (rowsE F).take q ++ [[(x1 : Int), (x2 : Int)]] ++ (rowsE F).drop q := by simp [rowsE]
                    rw [e2]; exact h2
                  · have := S.out.len
                    rw [List.length_append, List.length_cons, List.length_take, List.length_drop]; omega
                clear H6 XB6 HB6 XM CNa CNd LN1 LN3 ON1 ON3 EI ST2
                go_simp
                go_wp2
                go_roundw
                case rel => exact ⟨q + 1 + d, g6, c6, _, by omega, rfl, by (congr 1 <;> omega), S6⟩
                case measure => simp [intOf]; omega
    · obtain rfl : k = E.length := by omega
      rw [List.take_of_length_le (by simp)] at S
      go_wp2
      go_ret
      exact ⟨g, _, c, LV, rfl, by rw [← HN.out]; exact S.out⟩
end Go.Proofs.Ytafdlilojlmchaa
