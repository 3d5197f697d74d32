/-
  The program's reading of a tree out of rows: which rows it takes, and what edges it tells.
-/
import Derived.Test.YtmpppocmbdainaaCAllR
import Derived.Test.YtmpppocmbdainaaCVTree
import Derived.Test.YtmpppocmbdainaaZCW
import Derived.Deep.AppendLies
namespace Go.Proofs.Ytmpppocmbdainaa
open Go.RowKit

theorem rows_of_ok {n : Int} {rows : List (List Int)} (h : ∀ r ∈ rows, okRow n r = true) : rows = rowsE (edgesR rows) := by
  unfold rowsE edgesR
  rw [List.map_map]
  refine ((List.map_congr_left fun r hr => ?_).trans (List.map_id _)).symm
  obtain ⟨a, b, rfl, _, _⟩ := okRow_eq (h r hr)
  simp
theorem edges_ok {n : Int} {rows : List (List Int)} (h : ∀ r ∈ rows, okRow n r = true) : ∀ e ∈ edgesR rows, e.1 < e.2 ∧ (e.2 : Int) ≤ n - 1 := by
  intro e he
  obtain ⟨r, hr, rfl⟩ := List.mem_map.1 he
  obtain ⟨a, b, rfl, h1, h2⟩ := okRow_eq (h r hr)
  simp; omega
theorem edgesR_length (rows : List (List Int)) : (edgesR rows).length = rows.length := by simp [edgesR]
theorem tree_up_no {n : Int} {rows : List (List Int)} (h : upB (edgesR rows) = false) : treeB n rows = false := by
  cases hb : treeB n rows with
  | false => rfl
  | true =>
    obtain ⟨_, _, hv⟩ := treeB_iff.1 hb
    rw [(upB_iff _).2 (valid_upB hv)] at h
    cases h
theorem tree_via {n : Nat} {rows : List (List Int)} (h1 : 1 ≤ n) (h7 : n ≤ 7) (hl : rows.length + 1 = n) (hr : ∀ r ∈ rows, okRow (n : Int) r = true) (hu : upB (edgesR rows) = true) (r : Nat → Bool) (hR : ∀ u, u < 7 → (r u = true ↔ Reach (edgesR rows) 0 u)) : (List.range n).all r = treeB (n : Int) rows := by
  rw [Bool.eq_iff_iff, treeB_iff, List.all_eq_true]
  constructor
  · intro ha
    refine ⟨by omega, rows_of_ok hr, ?_⟩
    rw [Int.toNat_natCast]
    exact valid_up h1 (by rw [edgesR_length]; exact hl) (fun e he => by have := edges_ok hr e he; omega) ((upB_iff _).1 hu) fun v hv => (hR v (by omega)).1 (ha v (List.mem_range.2 hv))
  · rintro ⟨_, _, hv⟩ v hv2
    rw [Int.toNat_natCast] at hv
    have := List.mem_range.1 hv2
    exact (hR v (by omega)).2 (hv.conn v this)
theorem edgesR_snoc (rows : List (List Int)) (r : List Int) : edgesR (rows ++ [r]) = edgesR rows ++ edgesR [r] := by simp [edgesR]
theorem edgesR_take {rows : List (List Int)} {k : Nat} (h : k < rows.length) {a b : Nat} (hr : rows[k] = [(a : Int), (b : Int)]) : edgesR (rows.take (k + 1)) = edgesR (rows.take k) ++ [(a, b)] := by
  rw [List.take_succ_eq_append_getElem h, edgesR_snoc, hr]; simp [edgesR]
theorem ERow.push {w : World} {B : Nat} {v : Value} {E : Edges} {a b k : Nat} (hk : E.length = k) (h : w.ownsRow B 87 2 v (k + 1) (flatE E ++ [.int .i64 (a : Int), .int .i64 (b : Int)])) : ERow w B w.heap.size v (E ++ [(a, b)]) := by
  refine ERow.of ?_
  rw [flatE_append, List.length_append, hk]
  exact h
theorem ERow.nil (w : World) (B H : Nat) : ERow w B H (.slice none 0 0) [] := ⟨⟨rfl, .inl ⟨rfl, rfl⟩⟩, fun g hg => by cases hg⟩
theorem ok_take {n : Int} {rows : List (List Int)} {k : Nat} (h : k < rows.length) (hr : ∀ r ∈ rows.take k, okRow n r = true) (h1 : okRow n rows[k] = true) : ∀ r ∈ rows.take (k + 1), okRow n r = true := by
  rw [List.take_succ_eq_append_getElem h]
  intro r hm
  rcases List.mem_append.1 hm with hm | hm
  · exact hr r hm
  · rw [List.mem_singleton] at hm; rw [hm]; exact h1
theorem row_bad {n : Int} {rows : List (List Int)} {k : Nat} (hk : k < rows.length) (h : okRow n rows[k] = false) : treeB n rows = false := by
  refine tree_no hk ?_
  unfold okAt
  rw [getD_at hk, h]; rfl
theorem below_drew2 {w wr : World} {n q : Nat} (h : Below n w wr) : Below n w (wr.drewN q) := h.trans ⟨rfl, rfl, rfl, Nat.le_refl _, fun _ _ => rfl⟩
theorem Try.infoEdge : (Try.prog.info? 87).map (fun i => (i.zero, i.size, i.bytes)) = some (some (.agg #[.int .i64 0, .int .i64 0]), 2, 16) := by kernel_rfl

set_option maxHeartbeats 3200000 in
set_option maxRecDepth 100000 in
theorem treeEdges_p (n : Int) (rows : List (List Int)) (v : Value) (RV : List Value) (w : World) {B0 H0 : Nat} (hG : Hid (Grid w B0 H0 v RV rows)) (hH : H0 ≤ w.heap.size) (hrl : rows.length ≤ 1048576) (hrs : ∀ r ∈ rows, r.length ≤ 1048576) (hwf : (Lit.int .i64 n).wf = true) :
    Calls Try.prog 54 #[.int .i64 n, v] w fun e w' => ∃ x, e = .returned (.tuple #[x, .bool (treeB n rows)]) ∧ (treeB n rows = true → ERow w' w.heap.size w'.heap.size x (edgesR rows)) ∧ Below w.heap.size w w' := by
  obtain ⟨i0, hi0, hz0, hz1, hz2⟩ := info_parts Try.infoEdge
  obtain ⟨av, cv, rfl, _, hcv, _, _⟩ := hG.out.1.slice
  have hgl := hG.out.2.1
  rw [hgl] at hG hcv ⊢
  have HRS := Lib.hid hrs
  clear hrs
  by_cases hn : 1 ≤ n ∧ n ≤ 7
  · obtain ⟨hn1, hn2⟩ := hn
    have ew2 : IntKind.i64.wrap (n - 1) = n - 1 := by rw [IntKind.wrap_i64]; omega
    by_cases hlen : (rows.length : Int) = n - 1
    · obtain ⟨N, rfl⟩ : ∃ N : Nat, n = (N : Int) := ⟨n.toNat, by omega⟩
      have q0 : ((rows.length : Int) == (N : Int) - 1) = true := by rw [hlen]; simp
      have HN : Hid (rows.length + 1 = N) := by show _ = _; omega
      have HN7 : Hid (1 ≤ N ∧ N ≤ 7) := by show _ ∧ _; omega
      have r6 : rows.length ≤ 6 := by omega
      have HNl : ¬ ((N : Int) < 1) := by omega
      have HNr : ¬ (7 < (N : Int)) := by omega
      obtain ⟨SZ, hSZ⟩ : ∃ SZ, SZ = w.heap.size := ⟨_, rfl⟩
      rw [← hSZ] at hH ⊢
      have HSZ := Lib.hid hSZ
      have E0 : Hid (ERow w SZ w.heap.size (.slice none 0 0) (edgesR (rows.take 0))) := ERow.nil w _ _
      clear hlen hn1 hn2 hSZ
      go_enter Try.func54, Try.ntmps54
      go_wp2_with fail
      try (have q00 : ((rows.length : Int) != (N : Int) - 1) = false := by rw [bne, q0]; rfl
           simp only [q00]
           clear q00)
      clear q0
      go_loopw [6, 8, 9, 10, 26] (fun e6 e8 e9 e10 ii wr => ∃ k : Nat, k ≤ rows.length ∧ ii = .int .i64 k ∧ Hid (∀ r ∈ rows.take k, okRow (N : Int) r = true) ∧ Hid (ERow wr SZ wr.heap.size e6 (edgesR (rows.take k))) ∧ Hid (Below SZ w wr)) (fun _ _ _ _ ii _ => rows.length - (intOf ii).toNat)
      case atStart => exact ⟨0, Nat.zero_le _, rfl, fun r hr => by simp at hr, E0, Below.refl _ _⟩
      case round =>
        obtain ⟨k, hk, rfl, HO, HE, HB⟩ := hrel
        by_cases hlt : k < rows.length
        · have b1 : (k : Int) < (rows.length : Int) := by omega
          have hGr : Grid wr B0 H0 (.slice av rows.length cv) RV rows := hG.out.below (HB.out.mono hH)
          have EL : (edgesR (rows.take k)).length = k := by rw [edgesR_length, List.length_take]; omega
          obtain ⟨ao, c6, he6, _⟩ := HE.out.slice
          rw [EL] at he6
          subst he6
          by_cases h2 : rows[k].length = 2
          · obtain ⟨a, b, hr⟩ : ∃ a b, rows[k] = [a, b] := by
              match rows[k], h2 with
              | [a, b], _ => exact ⟨a, b, rfl⟩
            obtain ⟨ga, gr, cr, rfl, hcr, hc1, hc2, hc3⟩ := pair_at hGr hlt hr
            have CE := Lib.hid (edgeOfRow_two (N : Int) a b gr cr wr hc2 hc3)
            have hgr : gr < wr.heap.size := World.block_lt_of_cell? wr _ hc2
            have BAD : okRow (N : Int) [a, b] = false → Hid (treeB (N : Int) rows = false) := fun h => row_bad hlt (by rw [hr]; exact h)
            have hsr : Hid (SZ ≤ wr.heap.size) := by have := HB.out.size; show _ ≤ _; rw [HSZ.out]; exact this
            by_cases hw : rowW (N : Int) [a, b]
            · have hw2 : (0 ≤ a ∧ a ≤ (N : Int) - 1) ∧ (0 ≤ b ∧ b ≤ (N : Int) - 1) := hw.2
              rw [decide_eq_true hw] at CE
              have hre : rowEdge (N : Int) [a, b] = norm (a.toNat, b.toNat) := by rw [rowEdge, if_pos hw]; rfl
              rw [hre] at CE
              by_cases hab : a < b
              · have hdab : decide (b ≤ a) = false := decide_eq_false (by omega)
                have HOK : okRow (N : Int) rows[k] = true := by rw [hr]; simp [okRow]; omega
                have HO2 := Lib.hid (ok_take hlt HO.out HOK)
                obtain ⟨x, hx⟩ : ∃ x : Nat, a = (x : Int) := ⟨a.toNat, by omega⟩
                obtain ⟨y, hy⟩ : ∃ y : Nat, b = (y : Int) := ⟨b.toNat, by omega⟩
                have hnm : norm (a.toNat, b.toNat) = (x, y) := by
                  unfold norm
                  rw [hx, hy, Int.toNat_natCast, Int.toNat_natCast]
                  simp only [Prod.mk.injEq]
                  omega
                rw [hnm] at CE
                simp only at CE
                have ET := Lib.hid (edgesR_take hlt (by rw [hr, hx, hy]))
                clear hx hy hnm hre BAD hr h2 hGr HOK hw hw2 hab
                go_wp2_with fail
                refine CE.out.mono ?_
                rintro e w1 ⟨rfl, hb1⟩
                have E1 : Hid (ERow w1 SZ w1.heap.size (.slice ao k c6) (edgesR (rows.take k))) := (HE.out.below hb1).more hb1.size
                have B1 : Hid (Below SZ w w1) := HB.out.trans (hb1.mono hsr.out)
                have s1 : Hid (SZ ≤ w1.heap.size) := by have := hb1.size; have := hsr.out; show _ ≤ _; omega
                have d2 := (hb1.cell (p := ⟨gr, 0, none⟩) hgr).trans hc2
                have d3 := (hb1.cell (p := ⟨gr, 1, none⟩) hgr).trans hc3
                have hg1 : gr < w1.heap.size := Nat.lt_of_lt_of_le hgr hb1.size
                clear hb1 CE HE HB hsr hc1 hc2 hc3 hgr
                go_upto_region 8 with fail
                obtain ⟨W2, hW2⟩ : ∃ W2, W2 = w1.alloc (.cells #[.int .i64 (x : Int), .int .i64 (y : Int)] 87) := ⟨_, rfl⟩
                obtain ⟨GX, hGX⟩ : ∃ GX, GX = w1.heap.size := ⟨_, rfl⟩
                have hb2 : Below w1.heap.size w1 W2 := by rw [hW2]; exact (Below.refl _ _).alloc (Nat.le_refl _) _
                have e2 := (hb2.cell (p := ⟨gr, 0, none⟩) hg1).trans d2
                have e3 := (hb2.cell (p := ⟨gr, 1, none⟩) hg1).trans d3
                have hr2 : W2.heap[GX]? = some (.cells #[.int .i64 (x : Int), .int .i64 (y : Int)] 87 (0, 0)) := by rw [hW2, hGX]; exact heap_alloc_new _ _
                have R2 := Lib.hid hr2
                have E2 : Hid (ERow W2 SZ w1.heap.size (.slice ao k c6) (edgesR (rows.take k))) := E1.out.below hb2
                have B2 : Hid (Below SZ w W2) := B1.out.trans (hb2.mono s1.out)
                have s2 : Hid (SZ ≤ W2.heap.size) := Nat.le_trans s1.out hb2.size
                rw [← hW2, ← hGX]
                clear hW2 hb2 hr2 E1 B1 d2 d3 hg1 s1
                go_quiet (fail)
                obtain ⟨wa, hwa⟩ : ∃ wa, wa = W2.drewN nq := ⟨_, rfl⟩
                have a1 : wa.cell? ⟨GX, 0, none⟩ = some (.int .i64 (x : Int)) := by rw [hwa]; simp [World.cell?, R2.out]
                have a2 : wa.cell? ⟨GX, 1, none⟩ = some (.int .i64 (y : Int)) := by rw [hwa]; simp [World.cell?, R2.out]
                have EA : Hid (wa.ownsRow SZ 87 2 (.slice ao k c6) k (flatE (edgesR (rows.take k)))) := by
                  have := E2.out.1
                  rw [EL] at this
                  rw [hwa]; exact own_blocks2 this fun _ _ => rfl
                have BA : Hid (Below SZ w wa) := by rw [hwa]; exact below_drew2 B2.out
                have sA : Hid (SZ ≤ wa.heap.size) := by rw [hwa]; exact s2.out
                rw [← hwa]
                have NW := Lib.hid (World.news_of_block (heap_alloc_new wa (.cells #[.int .i64 (x : Int), .int .i64 (y : Int)] 87)))
                have ON : Hid (∀ u ∈ [Value.int .i64 (x : Int), Value.int .i64 (y : Int)], u.oneCell' = true) := by intro u hu; simp at hu; rcases hu with rfl | rfl <;> rfl
                have z1 : k + 1 ≤ maxLen := by unfold maxLen; omega
                have z2 : (k + 1) * 16 ≤ 140737488355328 := by omega
                have HSb : Hid (SZ ≤ (wa.alloc (.cells #[.int .i64 (x : Int), .int .i64 (y : Int)] 87)).heap.size) := by
                  have := sA.out; show _ ≤ _; rw [World.size_alloc]; omega
                have HEL := Lib.hid EL
                clear hwa hGX R2 E2 B2 s2 e2 e3 EL
                go_wp2_with (at_builtin; refine wpList_append_lies _ rfl (.tmp 47) (.tmp 49) 57 rfl SZ 87 i0 (.agg #[.int .i64 0, .int .i64 0]) 2 16 Try.underlying57 hi0 hz0 hz1 hz2 rfl (Nat.succ_pos 1) _ k (flatE (edgesR (rows.take k))) rfl (EA.out.alloc _) ⟨wa.heap.size, 0, none⟩ 1 1 [.int .i64 (x : Int), .int .i64 (y : Int)] rfl rfl NW.out ON.out (Nat.lt_succ_self 0) z1 z2 HSb.out _ rfl ?_)
                intro g2 c2 w2 hv2 hg2 _ _
                have BA2 : Hid (Below SZ w w2) := (BA.out.alloc sA.out _).grown hg2 HSb.out (fun q hq => (EA.out.lt q hq).1)
                have EA2 : Hid (ERow w2 SZ w2.heap.size (.slice (some ⟨g2, 0, none⟩) (k + 1) c2) (edgesR (rows.take (k + 1)))) := by
                  show ERow _ _ _ _ _
                  rw [ET.out]
                  exact ERow.push HEL.out hv2
                clear hv2 hg2 EA BA NW ON HSb a1 a2 sA
                go_wp2
                go_roundw
                case rel => exact ⟨k + 1, by omega, by go_num, HO2, EA2, BA2⟩
                case measure => simp [intOf]; omega
              · have hdab : decide (b ≤ a) = true := decide_eq_true (by omega)
                have TN := BAD (by simp [okRow]; omega)
                obtain ⟨z, hz⟩ : ∃ z, z = norm (a.toNat, b.toNat) := ⟨_, rfl⟩
                rw [← hz] at CE
                clear hre BAD hr h2 hGr hw hw2 hab hz
                go_wp2_with fail
                refine CE.out.mono ?_
                rintro e w1 ⟨rfl, hb1⟩
                have B1 : Hid (Below SZ w w1) := HB.out.trans (hb1.mono hsr.out)
                have s1 : Hid (SZ ≤ w1.heap.size) := by have := hb1.size; have := hsr.out; show _ ≤ _; omega
                have d2 := (hb1.cell (p := ⟨gr, 0, none⟩) hgr).trans hc2
                have d3 := (hb1.cell (p := ⟨gr, 1, none⟩) hgr).trans hc3
                have hg1 : gr < w1.heap.size := Nat.lt_of_lt_of_le hgr hb1.size
                clear hb1 CE HE HB hsr hc1 hc2 hc3 hgr
                go_upto_region 8 with fail
                obtain ⟨W2, hW2⟩ : ∃ W2, W2 = w1.alloc (.cells #[.int .i64 (z.1 : Int), .int .i64 (z.2 : Int)] 87) := ⟨_, rfl⟩
                have hb2 : Below w1.heap.size w1 W2 := by rw [hW2]; exact (Below.refl _ _).alloc (Nat.le_refl _) _
                have e2 := (hb2.cell (p := ⟨gr, 0, none⟩) hg1).trans d2
                have e3 := (hb2.cell (p := ⟨gr, 1, none⟩) hg1).trans d3
                have B2 : Hid (Below SZ w W2) := B1.out.trans (hb2.mono s1.out)
                rw [← hW2]
                clear hW2 hb2 B1 d2 d3 hg1 s1
                go_quiet (fail)
                go_wp2
                go_ret2
                exact ⟨.slice none 0 0, by rw [TN.out]; rfl, fun h => (by rw [TN.out] at h; cases h), below_drew2 B2.out⟩
            · have TN := BAD (by
                cases hb : okRow (N : Int) [a, b] with
                | false => rfl
                | true =>
                  exfalso
                  apply hw
                  simp [okRow] at hb
                  exact ⟨rfl, by simp only [List.getD_cons_zero]; omega, by simp only [List.getD_cons_succ, List.getD_cons_zero]; omega⟩)
              rw [decide_eq_false hw] at CE
              obtain ⟨z, hz⟩ : ∃ z, z = rowEdge (N : Int) [a, b] := ⟨_, rfl⟩
              rw [← hz] at CE
              clear BAD hr h2 hGr hw hz
              go_wp2_with fail
              refine CE.out.mono ?_
              rintro e w1 ⟨rfl, hb1⟩
              have B1 : Hid (Below SZ w w1) := HB.out.trans (hb1.mono hsr.out)
              have s1 : Hid (SZ ≤ w1.heap.size) := by have := hb1.size; have := hsr.out; show _ ≤ _; omega
              have B2 := fun o => Lib.hid (B1.out.alloc s1.out o)
              clear hb1 CE HE HB hsr hc1 hc2 hc3 hgr
              go_wp2_with fail
              go_quiet (fail)
              go_wp2
              go_ret2
              exact ⟨.slice none 0 0, by rw [TN.out]; rfl, fun h => (by rw [TN.out] at h; cases h), below_drew2 (B2 _).out⟩
          · obtain ⟨ga, au, cu, rfl, hcu, hcm, hc1⟩ := row_len hGr hlt
            have hrow : okRow (N : Int) rows[k] = false := by
              unfold okRow
              split
              · rename_i h; rw [h] at h2; simp at h2
              · rfl
            have TN := Lib.hid (row_bad hlt hrow)
            have hsr : Hid (SZ ≤ wr.heap.size) := by have := HB.out.size; show _ ≤ _; rw [HSZ.out]; exact this
            obtain ⟨m, hm⟩ : ∃ m, m = rows[k].length := ⟨_, rfl⟩
            rw [← hm] at hc1 hcu h2
            have CE := Lib.hid (edgeOfRow_len (N : Int) au m cu wr h2)
            clear hrow hm hGr h2
            go_wp2_with fail
            refine CE.out.mono ?_
            rintro e w1 ⟨rfl, hb1⟩
            have B1 : Hid (Below SZ w w1) := HB.out.trans (hb1.mono hsr.out)
            have s1 : Hid (SZ ≤ w1.heap.size) := by have := hb1.size; have := hsr.out; show _ ≤ _; omega
            have B2 := fun o => Lib.hid (B1.out.alloc s1.out o)
            clear hb1 CE HE HB hsr hc1
            go_wp2_with fail
            go_quiet (fail)
            go_wp2
            go_ret2
            exact ⟨.slice none 0 0, by rw [TN.out]; rfl, fun h => (by rw [TN.out] at h; cases h), below_drew2 (B2 _).out⟩
        · obtain rfl : k = rows.length := by omega
          rw [List.take_length] at HO HE
          have EO := edges_ok HO.out
          have hel := edgesR_length rows
          have TNo : upB (edgesR rows) = false → Hid (treeB (N : Int) rows = false) := fun h => tree_up_no h
          have TVia : upB (edgesR rows) = true → ∀ r : Nat → Bool, Hid (∀ u, u < 7 → (r u = true ↔ Reach (edgesR rows) 0 u)) → Hid ((List.range N).all r = treeB (N : Int) rows) := fun hu r hR => tree_via HN7.out.1 HN7.out.2 HN.out HO.out hu r hR.out
          obtain ⟨E, hE⟩ : ∃ E, E = edgesR rows := ⟨_, rfl⟩
          rw [← hE] at HE EO hel TNo TVia
          have HEQ := Lib.hid hE
          have EO7 : Hid (∀ e ∈ E, e.1 < 7 ∧ e.2 < 7) := fun e he => by have h1 := EO e he; have h2 := HN7.out; omega
          have he64 : E.length ≤ 64 := by omega
          obtain ⟨ao, c6, he6, _⟩ := HE.out.slice
          subst he6
          have CS := Lib.hid (isSorted_p E _ wr HE he64)
          have CA := Lib.hid (fun (W : World) (hE : Hid (ERow W SZ wr.heap.size (.slice ao E.length c6) E)) hH => allReached_p N E _ W hE hH HN7.out.2 (by have := HN7.out; omega) he64 EO7)
          have HWB : ∀ {W}, Wide wr W → Hid (ERow W SZ wr.heap.size (.slice ao E.length c6) E ∧ wr.heap.size ≤ W.heap.size ∧ Below SZ w W) := fun hW => ⟨HE.out.below hW.below, hW.below.size, HB.out.trans (hW.below.mono (by have := HB.out.size; rw [HSZ.out]; exact this))⟩
          obtain ⟨m, hm⟩ : ∃ m, m = E.length := ⟨_, rfl⟩
          rw [← hm] at CS CA HWB
          rw [← hm]
          clear EO hE hel he64 hm HE HB
          cases hu : upB E with
          | false =>
            have TN := TNo hu
            rw [hu] at CS
            clear TNo TVia hu
            go_wp2_with fail
            refine CS.out.mono ?_
            rintro e w1 ⟨rfl, hw1⟩
            have BB := (HWB hw1).out.2.2
            clear hw1
            go_wp2
            go_ret2
            exact ⟨.slice none 0 0, by rw [TN.out]; rfl, fun h => (by rw [TN.out] at h; cases h), BB⟩
          | true =>
            have TV := TVia hu
            rw [hu] at CS
            clear TNo TVia hu
            go_wp2_with fail
            refine CS.out.mono ?_
            rintro e w1 ⟨rfl, hw1⟩
            have W1 := HWB hw1
            clear hw1 HWB CS
            go_wp2_with fail
            refine (CA.out w1 W1.out.1 W1.out.2.1).mono ?_
            rintro e w2 ⟨r, rfl, hr, hb⟩
            have TR := TV r hr
            have BB : Hid (Below SZ w w2) := W1.out.2.2.trans (hb.mono (by have := W1.out.2.2.size; rw [HSZ.out]; exact this))
            have EE : Hid (ERow w2 SZ w2.heap.size (.slice ao m c6) E) := (W1.out.1.below (hb.mono W1.out.2.1)).more (Nat.le_trans W1.out.2.1 hb.size)
            obtain ⟨bb, hbb⟩ : ∃ bb, bb = (List.range N).all r := ⟨_, rfl⟩
            rw [← hbb] at TR ⊢
            clear hb hr hbb TV W1 CA
            cases bb with
            | false =>
              go_wp2
              go_ret2
              exact ⟨.slice none 0 0, by rw [← TR.out]; rfl, fun h => (by rw [← TR.out] at h; cases h), BB.out⟩
            | true =>
              go_wp2
              go_ret2
              exact ⟨.slice ao m c6, by rw [← TR.out]; rfl, fun _ => (by rw [← HEQ.out]; exact EE.out), BB.out⟩
    · have TN := Lib.hid (tree_len hlen)
      have q0 : ((rows.length : Int) == n - 1) = false := by rw [beq_eq_false_iff_ne]; exact hlen
      have q00 : ((rows.length : Int) != n - 1) = true := by rw [bne, q0]; rfl
      have y1 : ¬ (n < 1) := by omega
      have y2 : ¬ (7 < n) := by omega
      clear hlen hn1 hn2
      go_enter Try.func54, Try.ntmps54
      go_wp2
      go_ret2
      exact ⟨.slice none 0 0, by rw [TN.out]; rfl, fun h => (by rw [TN.out] at h; cases h), Below.refl _ _⟩
  · have TN := Lib.hid (tree_range hn (rows := rows))
    by_cases h1 : n < 1
    · clear hn
      go_enter Try.func54, Try.ntmps54
      go_wp2
      go_ret2
      exact ⟨.slice none 0 0, by rw [TN.out]; rfl, fun h => (by rw [TN.out] at h; cases h), Below.refl _ _⟩
    · have h7 : 7 < n := by omega
      clear hn
      go_enter Try.func54, Try.ntmps54
      go_wp2
      go_ret2
      exact ⟨.slice none 0 0, by rw [TN.out]; rfl, fun h => (by rw [TN.out] at h; cases h), Below.refl _ _⟩
end Go.Proofs.Ytmpppocmbdainaa
