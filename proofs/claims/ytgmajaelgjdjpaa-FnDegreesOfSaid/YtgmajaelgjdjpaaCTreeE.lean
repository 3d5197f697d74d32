/-
  The program's reading of a tree out of rows: which rows it takes, and what edges it tells.
-/
import Derived.Test.YtgmajaelgjdjpaaCAllR
import Derived.Test.YtgmajaelgjdjpaaCVTree
import Derived.Deep.AppendLies
namespace Go.Proofs.Ytgmajaelgjdjpaa
open Go.RowKit

theorem rows_of_ok {n : Int} {rows : List (List Int)} (h : ∀ r ∈ rows, okRow n r = true) : rows = rowsE (edgesR rows) := by
  unfold rowsE edgesR
  rw [List.map_map]
  refine ((List.map_congr_left fun r hr => ?_).trans (List.map_id _)).symm
  obtain ⟨a, b, rfl, _, _⟩ := okRow_eq (h r hr)
  simp
theorem edges_ok {n : Int} {rows : List (List Int)} (h : ∀ r ∈ rows, okRow n r = true) : ∀ e ∈ edgesR rows, e.1 < e.2 ∧ (e.2 : Int) ≤ n - 1 := by
  intro e he
  obtain ⟨r, hr, rfl⟩ := List.mem_map.1 he
  obtain ⟨a, b, rfl, h1, h2⟩ := okRow_eq (h r hr)
  simp; omega
theorem edgesR_length (rows : List (List Int)) : (edgesR rows).length = rows.length := by simp [edgesR]
theorem tree_up_no {n : Int} {rows : List (List Int)} (h : upB (edgesR rows) = false) : treeB n rows = false := by
  cases hb : treeB n rows with
  | false => rfl
  | true =>
    obtain ⟨_, _, hv⟩ := treeB_iff.1 hb
    rw [(upB_iff _).2 (valid_upB hv)] at h
    cases h
theorem tree_via {n : Nat} {rows : List (List Int)} (h1 : 1 ≤ n) (h7 : n ≤ 7) (hl : rows.length + 1 = n) (hr : ∀ r ∈ rows, okRow (n : Int) r = true) (hu : upB (edgesR rows) = true) (r : Nat → Bool) (hR : ∀ u, u < 7 → (r u = true ↔ Reach (edgesR rows) 0 u)) : (List.range n).all r = treeB (n : Int) rows := by
  rw [Bool.eq_iff_iff, treeB_iff, List.all_eq_true]
  constructor
  · intro ha
    refine ⟨by omega, rows_of_ok hr, ?_⟩
    rw [Int.toNat_natCast]
    exact valid_up h1 (by rw [edgesR_length]; exact hl) (fun e he => by have := edges_ok hr e he; omega) ((upB_iff _).1 hu) fun v hv => (hR v (by omega)).1 (ha v (List.mem_range.2 hv))
  · rintro ⟨_, _, hv⟩ v hv2
    rw [Int.toNat_natCast] at hv
    have := List.mem_range.1 hv2
    exact (hR v (by omega)).2 (hv.conn v this)
theorem edgesR_snoc (rows : List (List Int)) (r : List Int) : edgesR (rows ++ [r]) = edgesR rows ++ edgesR [r] := by simp [edgesR]
theorem edgesR_take {rows : List (List Int)} {k : Nat} (h : k < rows.length) {a b : Nat} (hr : rows[k] = [(a : Int), (b : Int)]) : edgesR (rows.take (k + 1)) = edgesR (rows.take k) ++ [(a, b)] := by
  rw [List.take_succ_eq_append_getElem h, edgesR_snoc, hr]; simp [edgesR]
theorem ERow.push {w : World} {B : Nat} {v : Value} {E : Edges} {a b k : Nat} (hk : E.length = k) (h : w.ownsRow B 46 2 v (k + 1) (flatE E ++ [.int .i64 (a : Int), .int .i64 (b : Int)])) : ERow w B w.heap.size v (E ++ [(a, b)]) := by
  refine ERow.of ?_
  rw [flatE_append, List.length_append, hk]
  exact h
theorem ERow.nil (w : World) (B H : Nat) : ERow w B H (.slice none 0 0) [] := ⟨⟨rfl, .inl ⟨rfl, rfl⟩⟩, fun g hg => by cases hg⟩
theorem ok_take {n : Int} {rows : List (List Int)} {k : Nat} (h : k < rows.length) (hr : ∀ r ∈ rows.take k, okRow n r = true) (h1 : okRow n rows[k] = true) : ∀ r ∈ rows.take (k + 1), okRow n r = true := by
  rw [List.take_succ_eq_append_getElem h]
  intro r hm
  rcases List.mem_append.1 hm with hm | hm
  · exact hr r hm
  · rw [List.mem_singleton] at hm; rw [hm]; exact h1
theorem row_bad {n : Int} {rows : List (List Int)} {k : Nat} (hk : k < rows.length) (h : okRow n rows[k] = false) : treeB n rows = false := by
  refine tree_no hk ?_
  unfold okAt
  rw [getD_at hk, h]; rfl
theorem below_drew2 {w wr : World} {n q : Nat} (h : Below n w wr) : Below n w (wr.drewN q) := h.trans ⟨rfl, rfl, rfl, Nat.le_refl _, fun _ _ => rfl⟩
theorem Try.infoEdge : (Try.prog.info? 46).map (fun i => (i.zero, i.size, i.bytes)) = some (some (.agg #[.int .i64 0, .int .i64 0]), 2, 16) := by kernel_rfl

set_option maxHeartbeats 3200000 in
set_option maxRecDepth 100000 in
theorem treeEdges_p (n : Int) (rows : List (List Int)) (v : Value) (RV : List Value) (w : World) {B0 H0 : Nat} (hG : Hid (Grid w B0 H0 v RV rows)) (hH : H0 ≤ w.heap.size) (hrl : rows.length ≤ 1048576) (hrs : ∀ r ∈ rows, r.length ≤ 1048576) (hwf : (Lit.int .i64 n).wf = true) :
    Calls Try.prog 24 #[.int .i64 n, v] w fun e w' => ∃ x, e = .returned (.tuple #[x, .bool (treeB n rows)]) ∧ (treeB n rows = true → ERow w' w.heap.size w'.heap.size x (edgesR rows)) ∧ Below w.heap.size w w' := by
  obtain ⟨i0, hi0, hz0, hz1, hz2⟩ := info_parts Try.infoEdge
  obtain ⟨av, cv, rfl, _, hcv, _, _⟩ := hG.out.1.slice
  have hgl := hG.out.2.1
  rw [hgl] at hG hcv ⊢
  have HRS := Lib.hid hrs
  clear hrs
  by_cases hn : 1 ≤ n ∧ n ≤ 7
  · obtain ⟨hn1, hn2⟩ := hn
    have ew2 : IntKind.i64.wrap (n - 1) = n - 1 := by rw [IntKind.wrap_i64]; omega
    by_cases hlen : (rows.length : Int) = n - 1
    · obtain ⟨N, rfl⟩ : ∃ N : Nat, n = (N : Int) := ⟨n.toNat, by omega⟩
      have q0 : ((rows.length : Int) == (N : Int) - 1) = true := by rw [hlen]; simp
      have HN : Hid (rows.length + 1 = N) := by show _ = _; omega
      have HN7 : Hid (1 ≤ N ∧ N ≤ 7) := by show _ ∧ _; omega
      have r6 : rows.length ≤ 6 := by omega
      have HNl : ¬ ((N : Int) < 1) := by omega
      have HNr : ¬ (7 < (N : Int)) := by omega
      obtain ⟨SZ, hSZ⟩ : ∃ SZ, SZ = w.heap.size := ⟨_, rfl⟩
      rw [← hSZ] at hH ⊢
      have HSZ := Lib.hid hSZ
      have E0 : Hid (ERow w SZ w.heap.size (.slice none 0 0) (edgesR (rows.take 0))) := ERow.nil w _ _
      clear hlen hn1 hn2 hSZ
      go_enter Try.func24, Try.ntmps24
      go_wp2_with fail
      try (have q00 : ((rows.length : Int) != (N : Int) - 1) = false := by rw [bne, q0]; rfl
           simp only [q00]
           clear q00)
      clear q0
      go_loopw [6, 8, 24] (fun e6 e8 ii wr => ∃ k : Nat, k ≤ rows.length ∧ ii = .int .i64 k ∧ Hid (∀ r ∈ rows.take k, okRow (N : Int) r = true) ∧ Hid (ERow wr SZ wr.heap.size e6 (edgesR (rows.take k))) ∧ Hid (Below SZ w wr)) (fun _ _ ii _ => rows.length - (intOf ii).toNat)
      case atStart => exact ⟨0, Nat.zero_le _, rfl, fun r hr => by simp at hr, E0, Below.refl _ _⟩
      case round =>
        obtain ⟨k, hk, rfl, HO, HE, HB⟩ := hrel
        by_cases hlt : k < rows.length
        · have b1 : (k : Int) < (rows.length : Int) := by omega
          have hGr : Grid wr B0 H0 (.slice av rows.length cv) RV rows := hG.out.below (HB.out.mono hH)
          have EL : (edgesR (rows.take k)).length = k := by rw [edgesR_length, List.length_take]; omega
          obtain ⟨ao, c6, he6, _⟩ := HE.out.slice
          rw [EL] at he6
          subst he6
          by_cases h2 : rows[k].length = 2
          · obtain ⟨a, b, hr⟩ : ∃ a b, rows[k] = [a, b] := by
              match rows[k], h2 with
              | [a, b], _ => exact ⟨a, b, rfl⟩
            obtain ⟨ga, gr, cr, rfl, hcr, hc1, hc2, hc3⟩ := pair_at hGr hlt hr
            have BAD : okRow (N : Int) [a, b] = false → Hid (treeB (N : Int) rows = false) := fun h => row_bad hlt (by rw [hr]; exact h)
            have HR := Lib.hid hr
            by_cases x1 : a < 0
            · have TN := BAD (by simp [okRow]; omega)
              clear BAD hr h2 hGr
              go_wp2_with fail
              go_quiet (fail)
              go_wp2
              go_ret2
              exact ⟨.slice none 0 0, by rw [TN.out]; rfl, fun h => (by rw [TN.out] at h; cases h), below_drew2 HB.out⟩
            · by_cases x2 : b ≤ a
              · have TN := BAD (by simp [okRow]; omega)
                clear BAD hr h2 hGr
                go_wp2_with fail
                go_quiet (fail)
                go_wp2
                go_ret2
                exact ⟨.slice none 0 0, by rw [TN.out]; rfl, fun h => (by rw [TN.out] at h; cases h), below_drew2 HB.out⟩
              · by_cases x3 : (N : Int) ≤ b
                · have TN := BAD (by simp [okRow]; omega)
                  clear BAD hr h2 hGr
                  go_wp2_with fail
                  go_quiet (fail)
                  go_wp2
                  go_ret2
                  exact ⟨.slice none 0 0, by rw [TN.out]; rfl, fun h => (by rw [TN.out] at h; cases h), below_drew2 HB.out⟩
                · have HOK : okRow (N : Int) rows[k] = true := by rw [hr]; simp [okRow]; omega
                  have HO2 := Lib.hid (ok_take hlt HO.out HOK)
                  obtain ⟨x, hx⟩ : ∃ x : Nat, a = (x : Int) := ⟨a.toNat, by omega⟩
                  obtain ⟨y, hy⟩ : ∃ y : Nat, b = (y : Int) := ⟨b.toNat, by omega⟩
                  have ET := Lib.hid (edgesR_take hlt (by rw [hr, hx, hy]))
                  have HX := Lib.hid hx
                  have HY := Lib.hid hy
                  clear hx hy
                  clear BAD hr h2 hGr HOK
                  go_wp2_with fail
                  go_quiet (fail)
                  obtain ⟨wa, hwa⟩ : ∃ wa, wa = wr.drewN nq := ⟨_, rfl⟩
                  have d2 : wa.cell? ⟨gr, 0, none⟩ = some (.int .i64 a) := by rw [hwa]; exact hc2
                  have d3 : wa.cell? ⟨gr, 1, none⟩ = some (.int .i64 b) := by rw [hwa]; exact hc3
                  have EA : Hid ((wa.alloc (.cells #[.int .i64 a, .int .i64 b] 46)).ownsRow SZ 46 2 (.slice ao k c6) k (flatE (edgesR (rows.take k)))) := by
                    have := HE.out.1
                    rw [EL] at this
                    rw [hwa]; exact World.ownsRow.alloc (w := wr.drewN nq) (own_blocks2 this fun _ _ => rfl) _
                  have BA : Hid (Below SZ w (wa.alloc (.cells #[.int .i64 a, .int .i64 b] 46))) := by
                    have h1 := below_drew2 (q := nq) HB.out
                    rw [hwa]; exact h1.alloc (by have := h1.size; rw [HSZ.out]; exact this) _
                  rw [← hwa]
                  have NW := Lib.hid (World.news_of_block (heap_alloc_new wa (.cells #[.int .i64 a, .int .i64 b] 46)))
                  have ON : Hid (∀ u ∈ [Value.int .i64 a, Value.int .i64 b], u.oneCell' = true) := by intro u hu; simp at hu; rcases hu with rfl | rfl <;> rfl
                  have z1 : k + 1 ≤ maxLen := by unfold maxLen; omega
                  have z2 : (k + 1) * 16 ≤ 140737488355328 := by omega
                  have HSb : Hid (SZ ≤ (wa.alloc (.cells #[.int .i64 a, .int .i64 b] 46)).heap.size) := by
                    have := BA.out.size; show _ ≤ _; rw [HSZ.out]; omega
                  clear hc1 hc2 hc3 hwa HE HB
                  go_wp2_with fail
                  go_region_law (first
                    | (refine step_append_lies _ ?gd (.tmp 53) (.tmp 61) 39 ?ho SZ 46 i0 (.agg #[.int .i64 0, .int .i64 0]) 2 16 Try.underlying39 hi0 hz0 hz1 hz2 rfl (Nat.succ_pos 1) (.slice ao k c6) k (flatE (edgesR (rows.take k))) ?hs ?own ⟨wa.heap.size, 0, none⟩ 1 1 [.int .i64 a, .int .i64 b] ?hx rfl ?news ON.out (Nat.lt_succ_self 0) z1 z2 ?base (wa.heap.size + 1) ?hh ?_
                       case gd => rfl
                       case ho => rfl
                       case hs => rfl
                       case hx => rfl
                       case own => exact own_blocks2 EA.out (fun _ _ => rfl)
                       case news => exact NW.out
                       case base => exact HSb.out
                       case hh => exact World.size_alloc wa _
                       intro g2 c2 w2 hv2 hg2 _ _))
                  all_goals
                    have BA2 : Hid (Below SZ w w2) := BA.out.grown ⟨hg2.1, hg2.2, hg2.3, hg2.4, hg2.5⟩ HSb.out (fun q hq => (EA.out.lt q hq).1)
                    have EA2 : Hid (ERow w2 SZ w2.heap.size (.slice (some ⟨g2, 0, none⟩) (k + 1) c2) (edgesR (rows.take (k + 1)))) := by
                      show ERow _ _ _ _ _
                      rw [ET.out]
                      rw [HX.out, HY.out] at hv2
                      exact ERow.push EL hv2
                    clear hv2 hg2 EA BA NW ON HSb
                    go_wp2
                    go_roundw
                    case rel => exact ⟨k + 1, by omega, by go_num, HO2, EA2, BA2⟩
                    case measure => simp [intOf]; omega
          · obtain ⟨ga, au, cu, rfl, hcu, hcm, hc1⟩ := row_len hGr hlt
            have q1 : ((rows[k].length : Int) == 2) = false := by rw [beq_eq_false_iff_ne]; omega
            have q2 : ((rows[k].length : Int) != 2) = true := by rw [bne, q1]; rfl
            have hrow : okRow (N : Int) rows[k] = false := by
              unfold okRow
              split
              · rename_i h; rw [h] at h2; simp at h2
              · rfl
            have TN := Lib.hid (row_bad hlt hrow)
            obtain ⟨m, hm⟩ : ∃ m, m = rows[k].length := ⟨_, rfl⟩
            rw [← hm] at hc1 q1 q2 hcu h2
            clear hrow hm hGr
            go_wp2_with fail
            go_quiet (fail)
            go_wp2
            go_ret2
            exact ⟨.slice none 0 0, by rw [TN.out]; rfl, fun h => (by rw [TN.out] at h; cases h), below_drew2 HB.out⟩
        · obtain rfl : k = rows.length := by omega
          rw [List.take_length] at HO HE
          have EO := edges_ok HO.out
          have hel := edgesR_length rows
          have TNo : upB (edgesR rows) = false → Hid (treeB (N : Int) rows = false) := fun h => tree_up_no h
          have TVia : upB (edgesR rows) = true → ∀ r : Nat → Bool, Hid (∀ u, u < 7 → (r u = true ↔ Reach (edgesR rows) 0 u)) → Hid ((List.range N).all r = treeB (N : Int) rows) := fun hu r hR => tree_via HN7.out.1 HN7.out.2 HN.out HO.out hu r hR.out
          obtain ⟨E, hE⟩ : ∃ E, E = edgesR rows := ⟨_, rfl⟩
          rw [← hE] at HE EO hel TNo TVia
          have HEQ := Lib.hid hE
          have EO7 : Hid (∀ e ∈ E, e.1 < 7 ∧ e.2 < 7) := fun e he => by have h1 := EO e he; have h2 := HN7.out; omega
          have he64 : E.length ≤ 64 := by omega
          obtain ⟨ao, c6, he6, _⟩ := HE.out.slice
          subst he6
          have CS := Lib.hid (isSorted_p E _ wr HE he64)
          have CA := Lib.hid (fun (W : World) (hE : Hid (ERow W SZ wr.heap.size (.slice ao E.length c6) E)) hH => allReached_p N E _ W hE hH HN7.out.2 (by have := HN7.out; omega) he64 EO7)
          have HWB : ∀ {W}, Wide wr W → Hid (ERow W SZ wr.heap.size (.slice ao E.length c6) E ∧ wr.heap.size ≤ W.heap.size ∧ Below SZ w W) := fun hW => ⟨HE.out.below hW.below, hW.below.size, HB.out.trans (hW.below.mono (by have := HB.out.size; rw [HSZ.out]; exact this))⟩
          obtain ⟨m, hm⟩ : ∃ m, m = E.length := ⟨_, rfl⟩
          rw [← hm] at CS CA HWB
          rw [← hm]
          clear EO hE hel he64 hm HE HB
          cases hu : upB E with
          | false =>
            have TN := TNo hu
            rw [hu] at CS
            clear TNo TVia hu
            go_wp2_with fail
            refine CS.out.mono ?_
            rintro e w1 ⟨rfl, hw1⟩
            have BB := (HWB hw1).out.2.2
            clear hw1
            go_wp2
            go_ret2
            exact ⟨.slice none 0 0, by rw [TN.out]; rfl, fun h => (by rw [TN.out] at h; cases h), BB⟩
          | true =>
            have TV := TVia hu
            rw [hu] at CS
            clear TNo TVia hu
            go_wp2_with fail
            refine CS.out.mono ?_
            rintro e w1 ⟨rfl, hw1⟩
            have W1 := HWB hw1
            clear hw1 HWB CS
            go_wp2_with fail
            refine (CA.out w1 W1.out.1 W1.out.2.1).mono ?_
            rintro e w2 ⟨r, rfl, hr, hb⟩
            have TR := TV r hr
            have BB : Hid (Below SZ w w2) := W1.out.2.2.trans (hb.mono (by have := W1.out.2.2.size; rw [HSZ.out]; exact this))
            have EE : Hid (ERow w2 SZ w2.heap.size (.slice ao m c6) E) := (W1.out.1.below (hb.mono W1.out.2.1)).more (Nat.le_trans W1.out.2.1 hb.size)
            obtain ⟨bb, hbb⟩ : ∃ bb, bb = (List.range N).all r := ⟨_, rfl⟩
            rw [← hbb] at TR ⊢
            clear hb hr hbb TV W1 CA
            cases bb with
            | false =>
              go_wp2
              go_ret2
              exact ⟨.slice none 0 0, by rw [← TR.out]; rfl, fun h => (by rw [← TR.out] at h; cases h), BB.out⟩
            | true =>
              go_wp2
              go_ret2
              exact ⟨.slice ao m c6, by rw [← TR.out]; rfl, fun _ => (by rw [← HEQ.out]; exact EE.out), BB.out⟩
    · have TN := Lib.hid (tree_len hlen)
      have q0 : ((rows.length : Int) == n - 1) = false := by rw [beq_eq_false_iff_ne]; exact hlen
      have q00 : ((rows.length : Int) != n - 1) = true := by rw [bne, q0]; rfl
      have y1 : ¬ (n < 1) := by omega
      have y2 : ¬ (7 < n) := by omega
      clear hlen hn1 hn2
      go_enter Try.func24, Try.ntmps24
      go_wp2
      go_ret2
      exact ⟨.slice none 0 0, by rw [TN.out]; rfl, fun h => (by rw [TN.out] at h; cases h), Below.refl _ _⟩
  · have TN := Lib.hid (tree_range hn (rows := rows))
    by_cases h1 : n < 1
    · clear hn
      go_enter Try.func24, Try.ntmps24
      go_wp2
      go_ret2
      exact ⟨.slice none 0 0, by rw [TN.out]; rfl, fun h => (by rw [TN.out] at h; cases h), Below.refl _ _⟩
    · have h7 : 7 < n := by omega
      clear hn
      go_enter Try.func24, Try.ntmps24
      go_wp2
      go_ret2
      exact ⟨.slice none 0 0, by rw [TN.out]; rfl, fun h => (by rw [TN.out] at h; cases h), Below.refl _ _⟩
end Go.Proofs.Ytgmajaelgjdjpaa
