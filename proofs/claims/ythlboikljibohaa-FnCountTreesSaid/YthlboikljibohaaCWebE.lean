/-
  The program's reading of a web out of rows: which rows it takes, and what edges it tells.
-/
import Derived.Test.YthlboikljibohaaZI
import Derived.Test.YthlboikljibohaaCGridA
import Derived.Deep.AppendLies
namespace Go.Proofs.Ythlboikljibohaa
open Go.RowKit

/-- rows of numbers that can be read, from an address on -/
def RdR (w : World) (H : Nat) (a : Option Addr) (rows : List (List Int)) : Prop :=
  ∀ (k : Nat) (hk : k < rows.length), ∃ b off au cu, a = some ⟨b, off, none⟩ ∧ b < H ∧ rows[k].length ≤ cu ∧ cu ≤ maxLen ∧ w.cell? ⟨b, off + k, none⟩ = some (.slice au rows[k].length cu) ∧
    ∀ (j : Nat) (hj : j < rows[k].length), ∃ gr, au = some ⟨gr, 0, none⟩ ∧ gr < H ∧ w.cell? ⟨gr, j, none⟩ = some (.int .i64 rows[k][j])
theorem RdR.below {w w' : World} {H : Nat} {a : Option Addr} {rows : List (List Int)} (h : RdR w H a rows) (hb : Below H w w') : RdR w' H a rows := fun k hk => by
  obtain ⟨b, off, au, cu, h1, h2, h3, h4, c1, hr⟩ := h k hk
  refine ⟨b, off, au, cu, h1, h2, h3, h4, (hb.cell (p := ⟨b, off + k, none⟩) h2).trans c1, fun j hj => ?_⟩
  obtain ⟨gr, e1, e2, e3⟩ := hr j hj
  exact ⟨gr, e1, e2, (hb.cell (p := ⟨gr, j, none⟩) e2).trans e3⟩
theorem RdR.more {w : World} {H H' : Nat} {a : Option Addr} {rows : List (List Int)} (h : RdR w H a rows) (hH : H ≤ H') : RdR w H' a rows := fun k hk => by
  obtain ⟨b, off, au, cu, h1, h2, h3, h4, c1, hr⟩ := h k hk
  refine ⟨b, off, au, cu, h1, by omega, h3, h4, c1, fun j hj => ?_⟩
  obtain ⟨gr, e1, e2, e3⟩ := hr j hj
  exact ⟨gr, e1, by omega, e3⟩
theorem RdR.tail {w : World} {H b off : Nat} {r : List Int} {rows : List (List Int)} (h : RdR w H (some ⟨b, off, none⟩) (r :: rows)) : RdR w H (some ⟨b, off + 1, none⟩) rows := fun k hk => by
  obtain ⟨b', off', au, cu, h1, h2, h3, h4, c1, hr⟩ := h (k + 1) (by simpa using hk)
  simp only [Option.some.injEq, Addr.mk.injEq] at h1
  obtain ⟨rfl, rfl, _⟩ := h1
  refine ⟨b, off + 1, au, cu, rfl, h2, h3, h4, by rw [show off + 1 + k = off + (k + 1) by omega]; exact c1, hr⟩
theorem RdR.take {w : World} {H m : Nat} {a : Option Addr} {rows : List (List Int)} (h : RdR w H a rows) : RdR w H a (rows.take m) := fun k hk => by
  have hk2 : k < rows.length := by rw [List.length_take] at hk; omega
  obtain ⟨b, off, au, cu, h1, h2, h3, h4, c1, hr⟩ := h k hk2
  have e : (rows.take m)[k] = rows[k] := List.getElem_take ..
  rw [e]
  exact ⟨b, off, au, cu, h1, h2, h3, h4, c1, hr⟩
theorem RdR.of {w : World} {B H n c : Nat} {a : Option Addr} {RV : List Value} {rows : List (List Int)} (h : Grid w B H (.slice a n c) RV rows) : RdR w H a rows := fun k hk => by
  obtain ⟨hO, hl, hr⟩ := h
  obtain ⟨ga, ca, e1, _, h2, c1, _⟩ := hO.cell k (by rw [hl]; exact hk)
  simp only [Value.slice.injEq] at e1
  have hk' : k < RV.length := by rw [hl]; exact hk
  have ho := hr k _ _ (List.getElem?_eq_getElem hk') (List.getElem?_eq_getElem hk)
  obtain ⟨au, cu, ev, _, h3, h4, _⟩ := ho.slice
  rw [iv_length] at ev h3
  refine ⟨ga, 0, au, cu, e1.1, h2, h3, h4, ?_, fun j hj => ?_⟩
  · rw [Nat.zero_add, c1, List.getElem?_eq_getElem hk', ev]
  · obtain ⟨gr, cr, ev2, _, h5, c2, _⟩ := ho.cell j (by rw [iv_length]; exact hj)
    rw [ev] at ev2
    simp only [Value.slice.injEq] at ev2
    exact ⟨gr, ev2.1, h5, by rw [c2, iv_at _ _ hj]⟩
theorem RdR.pair {w : World} {H k : Nat} {a : Option Addr} {rows : List (List Int)} {x y : Int} (h : RdR w H a rows) (hk : k < rows.length) (hr : rows[k] = [x, y]) :
    ∃ b off gr cr, a = some ⟨b, off, none⟩ ∧ w.cell? ⟨b, off + k, none⟩ = some (.slice (some ⟨gr, 0, none⟩) 2 cr) ∧ w.cell? ⟨gr, 0, none⟩ = some (.int .i64 x) ∧ w.cell? ⟨gr, 1, none⟩ = some (.int .i64 y) := by
  obtain ⟨b, off, au, cu, h1, _, _, _, c1, hh⟩ := h k hk
  rw [hr] at c1
  have l : rows[k].length = 2 := by rw [hr]; rfl
  obtain ⟨gr, e1, _, c2⟩ := hh 0 (by omega)
  obtain ⟨gr', e1', _, c3⟩ := hh 1 (by omega)
  rw [e1] at e1'
  simp only [Option.some.injEq, Addr.mk.injEq] at e1'
  obtain ⟨rfl, _, _⟩ := e1'
  have g0 : rows[k][0]'(by omega) = x := by simp [hr]
  have g1 : rows[k][1]'(by omega) = y := by simp [hr]
  rw [g0] at c2
  rw [g1] at c3
  subst e1
  exact ⟨b, off, gr, cu, h1, c1, c2, c3⟩
/-- the edges of a web as the program keeps them -/
def webN (rows : List (List Int)) : Edges := (edgesR rows).map norm
theorem webN_length (rows : List (List Int)) : (webN rows).length = rows.length := by simp [webN, edgesR]
theorem webN_take {rows : List (List Int)} {k : Nat} {n x y : Int} (h : k < rows.length) (hr : rows[k] = [x, y]) (hw : rowW n [x, y]) : webN (rows.take (k + 1)) = webN (rows.take k) ++ [rowEdge n [x, y]] := by
  rw [List.take_succ_eq_append_getElem h, hr, rowEdge, if_pos hw]
  simp [webN, edgesR]
theorem webB_row {n : Int} {rows : List (List Int)} {k : Nat} (hk : k < rows.length) (h : ¬ rowW n rows[k]) : webB n rows = false := by
  cases hb : webB n rows with
  | false => rfl
  | true => exact absurd ((webB_iff.1 hb).1 _ (List.getElem_mem hk)) h
theorem webB_off {n : Int} {rows : List (List Int)} (h : ¬ ((1 ≤ n ∧ n ≤ 5) ∧ rows.length ≤ 8)) : webB n rows = false := by
  cases hb : webB n rows with
  | false => rfl
  | true => exact absurd (webB_iff.1 hb).2 h
theorem ERow.push2 {w : World} {B : Nat} {v : Value} {E : Edges} {e : Nat × Nat} {k : Nat} (hk : E.length = k) (h : w.ownsRow B 79 2 v (k + 1) (flatE E ++ [.int .i64 (e.1 : Int), .int .i64 (e.2 : Int)])) : ERow w B w.heap.size v (E ++ [e]) := by
  refine ERow.of ?_
  rw [flatE_append, List.length_append, hk]
  exact h
theorem ERow.nil2 (w : World) (B H : Nat) : ERow w B H (.slice none 0 0) [] := ⟨⟨rfl, .inl ⟨rfl, rfl⟩⟩, fun g hg => by cases hg⟩
theorem Try.infoEdge2 : (Try.prog.info? 79).map (fun i => (i.zero, i.size, i.bytes)) = some (some (.agg #[.int .i64 0, .int .i64 0]), 2, 16) := by kernel_rfl

set_option maxHeartbeats 3200000 in
set_option maxRecDepth 100000 in
theorem webEdges_p (n : Int) (rows : List (List Int)) (a : Option Addr) (cv : Nat) (w : World) {H0 : Nat} (hR : Hid (RdR w H0 a rows)) (hH : H0 ≤ w.heap.size) :
    Calls Try.prog 34 #[.int .i64 n, .slice a rows.length cv] w fun e w' => ∃ x, e = .returned (.tuple #[x, .bool (webB n rows)]) ∧ (webB n rows = true → ERow w' w.heap.size w'.heap.size x (webN rows)) ∧ Below w.heap.size w w' := by
  obtain ⟨i0, hi0, hz0, hz1, hz2⟩ := info_parts Try.infoEdge2
  by_cases hoff : (1 ≤ n ∧ n ≤ 5) ∧ rows.length ≤ 8
  · obtain ⟨⟨hn1, hn5⟩, h8⟩ := hoff
    have HW : Hid ((∀ r ∈ rows, rowW n r) → webB n rows = true) := fun h => webB_iff.2 ⟨h, ⟨hn1, hn5⟩, h8⟩
    have y1 : ¬ n < 1 := by omega
    have y2 : ¬ 5 < n := by omega
    have y3 : ¬ (8 : Int) < (rows.length : Int) := by omega
    obtain ⟨SZ, hSZ⟩ : ∃ SZ, SZ = w.heap.size := ⟨_, rfl⟩
    rw [← hSZ] at hH ⊢
    have HSZ := Lib.hid hSZ
    have E0 : Hid (ERow w SZ w.heap.size (.slice none 0 0) (webN (rows.take 0))) := ERow.nil2 w _ _
    clear hn1 hn5 hSZ
    go_enter Try.func34, Try.ntmps34
    go_wp2_with fail
    go_loopw [6, 8, 9, 10, 24] (fun e6 e8 e9 e10 ii wr => ∃ k : Nat, k ≤ rows.length ∧ ii = .int .i64 k ∧ Hid (∀ r ∈ rows.take k, rowW n r) ∧ Hid (ERow wr SZ wr.heap.size e6 (webN (rows.take k))) ∧ Hid (Below SZ w wr)) (fun _ _ _ _ ii _ => rows.length - (intOf ii).toNat)
    case atStart => exact ⟨0, Nat.zero_le _, rfl, fun r hr => by simp at hr, E0, Below.refl _ _⟩
    case round =>
      clear E0
      obtain ⟨k, hk, rfl, HO, HE, HB⟩ := hrel
      by_cases hlt : k < rows.length
      · have b1 : (k : Int) < (rows.length : Int) := by omega
        have hRr : RdR wr H0 a rows := hR.out.below (HB.out.mono hH)
        have EL : (webN (rows.take k)).length = k := by rw [webN_length, List.length_take]; omega
        obtain ⟨ao, c6, he6, _⟩ := HE.out.slice
        rw [EL] at he6
        subst he6
        have hsr : Hid (SZ ≤ wr.heap.size) := by have := HB.out.size; show _ ≤ _; rw [HSZ.out]; exact this
        by_cases h2 : rows[k].length = 2
        · obtain ⟨x, y, hr⟩ : ∃ x y, rows[k] = [x, y] := by
            match rows[k], h2 with
            | [x, y], _ => exact ⟨x, y, rfl⟩
          obtain ⟨b, off, gr, cr, rfl, c1, c2, c3⟩ := hRr.pair hlt hr
          have CE := Lib.hid (edgeOfRow_two n x y gr cr wr c2 c3)
          clear c2 c3
          by_cases hw : rowW n [x, y]
          · have WT := Lib.hid (webN_take hlt hr hw)
            have HO2 : Hid (∀ r ∈ rows.take (k + 1), rowW n r) := fun r hm => by
              rw [List.take_succ_eq_append_getElem hlt] at hm
              rcases List.mem_append.1 hm with hm | hm
              · exact HO.out r hm
              · rw [List.mem_singleton.1 hm, hr]; exact hw
            rw [decide_eq_true hw] at CE
            obtain ⟨z, hz⟩ : ∃ z, z = rowEdge n [x, y] := ⟨_, rfl⟩
            rw [← hz] at CE WT
            clear hr h2 hw hz hRr HO
            go_wp2_with fail
            refine CE.out.mono ?_
            rintro e w1 ⟨rfl, b1'⟩
            have E1 : Hid (ERow w1 SZ w1.heap.size (.slice ao k c6) (webN (rows.take k))) := (HE.out.below b1').more b1'.size
            have B1 : Hid (Below SZ w w1) := HB.out.trans (b1'.mono hsr.out)
            have s1 : Hid (SZ ≤ w1.heap.size) := by have := b1'.size; have := hsr.out; show _ ≤ _; omega
            clear b1' CE HE HB hsr c1
            go_upto_region 8 with fail
            obtain ⟨W2, hW2⟩ : ∃ W2, W2 = w1.alloc (.cells #[.int .i64 (z.1 : Int), .int .i64 (z.2 : Int)] 79) := ⟨_, rfl⟩
            obtain ⟨GX, hGX⟩ : ∃ GX, GX = w1.heap.size := ⟨_, rfl⟩
            have a1 : W2.cell? ⟨GX, 0, none⟩ = some (.int .i64 (z.1 : Int)) := by rw [hW2, hGX]; simp
            have a2 : W2.cell? ⟨GX, 1, none⟩ = some (.int .i64 (z.2 : Int)) := by rw [hW2, hGX]; simp
            have hb2 : Below w1.heap.size w1 W2 := by rw [hW2]; exact (Below.refl _ _).alloc (Nat.le_refl _) _
            have OW : Hid (W2.ownsRow SZ 79 2 (.slice ao k c6) k (flatE (webN (rows.take k)))) := by
              have := (E1.out.below hb2).1
              rw [EL] at this
              exact this
            have B2 : Hid (Below SZ w W2) := B1.out.trans (hb2.mono s1.out)
            have s2 : Hid (SZ ≤ W2.heap.size) := Nat.le_trans s1.out hb2.size
            rw [← hW2, ← hGX]
            have NW := Lib.hid (World.news_of_block (heap_alloc_new W2 (.cells #[.int .i64 (z.1 : Int), .int .i64 (z.2 : Int)] 79)))
            have ON : Hid (∀ u ∈ [Value.int .i64 (z.1 : Int), Value.int .i64 (z.2 : Int)], u.oneCell' = true) := by intro u hu; simp at hu; rcases hu with rfl | rfl <;> rfl
            have z1 : k + 1 ≤ maxLen := by unfold maxLen; omega
            have z2 : (k + 1) * 16 ≤ 140737488355328 := by omega
            have HSb : Hid (SZ ≤ (W2.alloc (.cells #[.int .i64 (z.1 : Int), .int .i64 (z.2 : Int)] 79)).heap.size) := by
              have := s2.out; show _ ≤ _; rw [World.size_alloc]; omega
            have HEL := Lib.hid EL
            clear hW2 hGX hb2 E1 B1 s1 EL
            go_wp2_with (at_builtin; refine wpList_append_lies _ rfl (.tmp 36) (.tmp 38) 45 rfl SZ 79 i0 (.agg #[.int .i64 0, .int .i64 0]) 2 16 Try.underlying45 hi0 hz0 hz1 hz2 rfl (Nat.succ_pos 1) _ k (flatE (webN (rows.take k))) rfl (OW.out.alloc _) ⟨W2.heap.size, 0, none⟩ 1 1 [.int .i64 (z.1 : Int), .int .i64 (z.2 : Int)] rfl rfl NW.out ON.out (Nat.lt_succ_self 0) z1 z2 HSb.out _ rfl ?_)
            intro g2 c2 w2 hv2 hg2 _ _
            have BA2 : Hid (Below SZ w w2) := (B2.out.alloc s2.out _).grown hg2 HSb.out (fun q hq => (OW.out.lt q hq).1)
            have EA2 : Hid (ERow w2 SZ w2.heap.size (.slice (some ⟨g2, 0, none⟩) (k + 1) c2) (webN (rows.take (k + 1)))) := by
              show ERow _ _ _ _ _
              rw [WT.out]
              exact ERow.push2 HEL.out hv2
            clear hv2 hg2 OW NW ON HSb B2 a1 a2 s2
            go_wp2
            go_roundw
            case rel => exact ⟨k + 1, by omega, by go_num, HO2, EA2, BA2⟩
            case measure => simp [intOf]; omega
          · have TN := Lib.hid (webB_row hlt (by rw [hr]; exact hw))
            rw [decide_eq_false hw] at CE
            clear hr h2 hw hRr HO
            go_wp2_with fail
            refine CE.out.mono ?_
            rintro e w1 ⟨rfl, b1'⟩
            have B1 : Hid (Below SZ w w1) := HB.out.trans (b1'.mono hsr.out)
            have s1 : Hid (SZ ≤ w1.heap.size) := by have := b1'.size; have := hsr.out; show _ ≤ _; omega
            clear b1' CE HE HB hsr c1
            go_wp2
            go_ret2
            exact ⟨.slice none 0 0, by rw [TN.out]; rfl, fun h => (by rw [TN.out] at h; cases h), B1.out.alloc s1.out _⟩
        · obtain ⟨b, off, au, cu, rfl, _, _, _, c1, _⟩ := hRr k hlt
          have TN := Lib.hid (webB_row hlt (n := n) (fun h => h2 h.1))
          obtain ⟨m, hm⟩ : ∃ m, m = rows[k].length := ⟨_, rfl⟩
          rw [← hm] at c1 h2
          have CE := Lib.hid (edgeOfRow_len n au m cu wr h2)
          clear hm hRr HO h2
          go_wp2_with fail
          refine CE.out.mono ?_
          rintro e w1 ⟨rfl, b1'⟩
          have B1 : Hid (Below SZ w w1) := HB.out.trans (b1'.mono hsr.out)
          have s1 : Hid (SZ ≤ w1.heap.size) := by have := b1'.size; have := hsr.out; show _ ≤ _; omega
          clear b1' CE HE HB hsr c1
          go_wp2
          go_ret2
          exact ⟨.slice none 0 0, by rw [TN.out]; rfl, fun h => (by rw [TN.out] at h; cases h), B1.out.alloc s1.out _⟩
      · obtain rfl : k = rows.length := by omega
        rw [List.take_length] at HO HE
        have TW := Lib.hid (HW.out HO.out)
        obtain ⟨ao, c6, he6, _⟩ := HE.out.slice
        subst he6
        go_wp2
        go_ret2
        exact ⟨_, by rw [TW.out]; rfl, fun _ => HE.out, HB.out⟩
  · have TN := Lib.hid (webB_off hoff)
    by_cases h1 : n < 1
    · clear hoff
      go_enter Try.func34, Try.ntmps34
      go_wp2
      go_ret2
      exact ⟨.slice none 0 0, by rw [TN.out]; rfl, fun h => (by rw [TN.out] at h; cases h), Below.refl _ _⟩
    · by_cases h5 : 5 < n
      · clear hoff
        go_enter Try.func34, Try.ntmps34
        go_wp2
        go_ret2
        exact ⟨.slice none 0 0, by rw [TN.out]; rfl, fun h => (by rw [TN.out] at h; cases h), Below.refl _ _⟩
      · have h8 : (8 : Int) < (rows.length : Int) := by omega
        clear hoff
        go_enter Try.func34, Try.ntmps34
        go_wp2
        go_ret2
        exact ⟨.slice none 0 0, by rw [TN.out]; rfl, fun h => (by rw [TN.out] at h; cases h), Below.refl _ _⟩
theorem grid_rd {w : World} {B0 H0 : Nat} {v : Value} {RV : List Value} {rows : List (List Int)} (hG : Grid w B0 H0 v RV rows) : ∃ a cv, v = .slice a rows.length cv ∧ RdR w H0 a rows := by
  obtain ⟨av, cv, e, _⟩ := hG.1.slice
  rw [hG.2.1] at e
  subst e
  exact ⟨av, cv, rfl, .of hG⟩
end Go.Proofs.Ythlboikljibohaa
