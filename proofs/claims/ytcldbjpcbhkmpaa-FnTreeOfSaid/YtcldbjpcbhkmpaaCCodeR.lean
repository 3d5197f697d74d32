/-
  The program's CodeOf: the loop over leaves.
-/
import Derived.Test.YtcldbjpcbhkmpaaCCodeQ
namespace Go.Proofs.Ytcldbjpcbhkmpaa
open Go.RowKit

/-- one round, as the program goes it -/
theorem Pl.round2 {n x : Nat} {es : Edges} {c : List Nat} (h : Pl n es (x :: c)) {F : Edges} (hF : SameE F es) :
    ∃ l e es', leastL n (deg F) = some l ∧ F.find? (touches l) = some e ∧ touches l e = true ∧ other l e = x ∧ (e.1 < n ∧ e.2 < n) ∧ Pl n es' c ∧ SameE (butE e F) es' := by
  obtain ⟨l, es', h1, h2, h3, h4⟩ := h.round hF
  obtain ⟨e, he, hx⟩ : ∃ e, F.filter (touches l) = [e] ∧ other l e = x := by
    match hf : F.filter (touches l) with
    | [] => rw [hf] at h2; simp at h2
    | [e] => rw [hf] at h2; simp at h2; exact ⟨e, rfl, h2⟩
    | a :: b :: r => rw [hf] at h2; simp at h2
  have hm : e ∈ F.filter (touches l) := by rw [he]; simp
  obtain ⟨hm1, hm2⟩ := List.mem_filter.1 hm
  refine ⟨l, e, es', h1, ?_, hm2, hx, ?_, h3, ?_⟩
  · rw [← List.head?_filter, he]; rfl
  · rcases (hF.ends e.1 e.2).1 (.inl hm1) with h5 | h5
    · have := h.lt _ h5; exact ⟨this.1, this.2.1⟩
    · have := h.lt _ h5; exact ⟨this.2.1, this.1⟩
  · have : butE e F = F.filter fun y => !touches l y := by
      unfold butE
      refine List.filter_congr fun y hy => ?_
      cases ht : touches l y with
      | true =>
        have : y ∈ F.filter (touches l) := List.mem_filter.2 ⟨hy, ht⟩
        rw [he, List.mem_singleton] at this
        simp [this]
      | false =>
        have : y ≠ e := fun e1 => by rw [e1, hm2] at ht; cases ht
        simp [this]
    rw [this]
    exact h4
theorem ERow.ne {w : World} {B H B' H' : Nat} {v v' : Value} {E : Edges} {xs : List Value} (h : ERow w B H v E) (h' : Own w B' H' 3 v' xs) : v.ownBlock = none ∨ v.ownBlock ≠ v'.ownBlock := by
  rcases h.1.2 with ⟨rfl, _⟩ | ⟨g, cap, cur, rfl, _, h2, _⟩
  · exact .inl rfl
  · rcases h'.1.2 with ⟨rfl, _⟩ | ⟨g', cap', cur', rfl, _, h4, _⟩
    · right; intro e; cases e
    · right
      intro e
      simp only [Value.ownBlock, Option.some.injEq] at e
      subst e
      rw [h2] at h4
      simp only [Option.some.injEq, Obj.cells.injEq] at h4
      exact absurd h4.2.1 (by decide)
theorem ERow.grown {w w' : World} {B H : Nat} {v v' : Value} {E : Edges} (h : ERow w B H v E) (hg : w.grownBy w' v'.ownBlock) (hne : v.ownBlock = none ∨ v.ownBlock ≠ v'.ownBlock) : ERow w' B H v E := by
  refine ⟨own_blocks2 h.1 fun g hgv => hg.block g (h.1.lt g hgv).2 fun e => ?_, h.2⟩
  rcases hne with h0 | h0
  · rw [h0] at hgv; cases hgv
  · exact h0 (hgv.trans e)
theorem ERow.alloc {w : World} {B H : Nat} {v : Value} {E : Edges} (h : ERow w B H v E) (o : Obj) : ERow (w.alloc o) B H v E := ⟨h.1.alloc o, h.2⟩

set_option maxHeartbeats 3200000 in
set_option maxRecDepth 100000 in
theorem codeOf_p (n : Int) (rows : List (List Int)) (v : Value) (RV : List Value) (w : World) (B0 H0 : Nat) (hG : Hid (Grid w B0 H0 v RV rows)) (hH : H0 ≤ w.heap.size) (hrl : rows.length ≤ 1048576) (hrs : ∀ r ∈ rows, r.length ≤ 1048576) (hwf : (Lit.int .i64 n).wf = true) :
    Calls Try.prog 15 #[.int .i64 n, v] w (IntsOut (codeOut n rows) w) := by
  obtain ⟨i0, hi, hz0, hz1, hz2⟩ := info_parts Try.infoIntR
  have C := Lib.hid (treeEdges_p n rows v RV w hG hH hrl hrs hwf)
  obtain ⟨av, cv, rfl⟩ : ∃ a c, v = .slice a RV.length c := by
    obtain ⟨a, c, h, _⟩ := hG.out.1.slice; exact ⟨a, c, h⟩
  clear hG hrs
  cases ht : treeB n rows with
  | false =>
    rw [codeOut, if_neg (by rw [ht]; decide)]
    rw [ht] at C
    go_enter Try.func15, Try.ntmps15
    go_wp2_with fail
    refine C.out.mono ?_
    rintro e w1 ⟨x, rfl, _, hb⟩
    have HB := Lib.hid hb
    clear hb C
    go_wp2
    go_ret
    exact nilOut _ _ HB.out
  | true =>
    rw [codeOut, if_pos ht]
    rw [ht] at C
    obtain ⟨h1, h2, h3⟩ := treeB_iff.1 ht
    obtain ⟨N, rfl⟩ : ∃ N : Nat, n = N := ⟨n.toNat, by omega⟩
    rw [Int.toNat_natCast] at h3 ⊢
    obtain ⟨E, hE⟩ : ∃ E, E = edgesR rows := ⟨_, rfl⟩
    rw [← hE] at h3 C ⊢
    obtain ⟨cd, hcd, HP⟩ : ∃ cd, codeN N E = cd ∧ Hid ((∃ es, Pl N es cd ∧ SameE E es) ∨ (E.length = 0 ∧ cd = [])) := by
      by_cases hN : 2 ≤ N
      · obtain ⟨es, c, hp, hs, _, hc⟩ := valid_peel h3 hN
        exact ⟨c, hc, .inl ⟨es, hp, hs⟩⟩
      · obtain rfl : N = 1 := by omega
        have := valid_one h3
        subst this
        exact ⟨[], rfl, .inr ⟨rfl, rfl⟩⟩
    rw [hcd]
    have hN7 : N ≤ 7 := by omega
    have hel := h3.len
    have hE6 : Hid (E.length ≤ 6) := by show _ ≤ _; omega
    obtain ⟨B, hB⟩ : ∃ B, B = w.heap.size := ⟨_, rfl⟩
    rw [← hB] at C
    have HBE := Lib.hid hB
    clear hE h3 ht h2 hel h1 hcd hB
    go_enter Try.func15, Try.ntmps15
    go_wp2_with fail
    refine C.out.mono ?_
    rintro e w1 ⟨x, rfl, hx, hb⟩
    have HX := Lib.hid (hx (by first | exact rfl | trivial))
    have HB := Lib.hid hb
    clear hb C hx
    obtain ⟨ao, cap, rfl, _⟩ := HX.out.slice
    go_wp2_with fail
    go_loopw [5, 7, 8] (fun left code _ wr => ∃ (ao : Option Addr) (q cl : Nat) (ac : Option Addr) (m cc : Nat) (F : Edges) (L r : List Nat), left = .slice ao q cl ∧ code = .slice ac m cc ∧ F.length = q ∧ L.length = m ∧ q ≤ 6 ∧ m + q ≤ 12 ∧ Hid (ERow wr B wr.heap.size (.slice ao q cl) F) ∧ Hid (Own wr B wr.heap.size 3 (.slice ac m cc) (ints L)) ∧ Hid (L ++ r = cd) ∧ Hid (Below B w wr) ∧ Hid ((∃ es, Pl N es r ∧ SameE F es) ∨ (F.length = 0 ∧ r = []))) (fun left _ _ _ => match left with | .slice _ q _ => q | _ => 0)
    case atStart => exact ⟨ao, E.length, cap, none, 0, 0, E, [], cd, rfl, rfl, rfl, rfl, hE6.out, by have := hE6.out; omega, HX, ⟨⟨rfl, .inl ⟨rfl, rfl⟩⟩, fun g hg => by cases hg⟩, rfl, HB, HP⟩
    case round =>
      clear HX HB HP hE6
      obtain ⟨ao, q, cl, ac, m, cc, F, L, r, rfl, rfl, hFq, hLm, hq6, hmq, HE, HC, HL, HB, HP⟩ := hrel
      have hBs : Hid (B ≤ wr.heap.size) := by have := HB.out.size; rw [HBE.out]; exact this
      by_cases hgt : 1 < q
      · obtain ⟨x, r', rfl, es, hp, hs⟩ : ∃ x r', r = x :: r' ∧ ∃ es, Pl N es (x :: r') ∧ SameE F es := by
          rcases HP.out with ⟨es, hp, hs⟩ | ⟨h0, _⟩
          · have h5 := hp.length
            have h6 := hs.length
            cases r with
            | nil => simp only [List.length_nil] at h5; omega
            | cons x r' => exact ⟨x, r', rfl, es, hp, hs⟩
          · omega
        have b1 : (1 : Int) < (q : Int) := by omega
        obtain ⟨l, e, es', hl1, hl2, hl3, hl4, hl5, hp', hs'⟩ := hp.round2 hs
        have hlen' : (butE e F).length < q := by
          have a1 := hs'.length
          have a2 := hp'.length
          have a3 := hs.length
          have a4 := hp.length
          simp only [List.length_cons] at a4
          omega
        have HP' : Hid ((∃ es, Pl N es r' ∧ SameE (butE e F) es) ∨ ((butE e F).length = 0 ∧ r' = [])) := .inl ⟨es', hp', hs'⟩
        have hFe : Hid (∀ e ∈ F, e.1 < N ∧ e.2 < N) := fun e he => by
          rcases (hs.ends e.1 e.2).1 (.inl he) with h | h
          · have := hp.lt _ h; exact ⟨this.1, this.2.1⟩
          · have := hp.lt _ h; exact ⟨this.2.1, this.1⟩
        have hFq64 : F.length ≤ 64 := by omega
        have CD := Lib.hid (countEnds_p N F (.slice ao q cl) wr HE (Nat.le_refl _) hFe (by omega) hFq64)
        have HL1 := Lib.hid hl1
        have HL2 := Lib.hid hl2
        have HL3 := Lib.hid hl3
        have HL5 : Hid (e.1 < 64 ∧ e.2 < 64) := by show _ ∧ _; omega
        have HLEN := Lib.hid hlen'
        clear hp hs hp' hs' hFe HP hl1 hl2 hl3 hl5 hlen'
        subst hl4
        go_wp2_with fail
        refine CD.out.mono ?_
        rintro e' w2 ⟨g, rfl, hD⟩
        have CI := Lib.hid (indexI_p (deg F) N g N l w2 (Lib.hid fun v hv => (hD.own.cellAt v (by omega)).trans (degV_at (deg F) hv)) (by omega) HL1)
        have E2 := Lib.hid ((HE.out.below hD.below).more hD.below.size)
        have C2 := Lib.hid ((HC.out.below hD.below).more hD.below.size)
        have B2 := Lib.hid (HB.out.trans (hD.below.mono hBs.out))
        clear hD CD HE HC HB
        go_wp2_with fail
        refine CI.out.mono ?_
        rintro e' w3 ⟨rfl, rfl⟩
        have CE := Lib.hid (edgeAt_p l F (.slice ao q cl) w2 E2 (Nat.le_refl _) hFq64 e HL2)
        clear CI
        go_wp2_with fail
        refine CE.out.mono ?_
        rintro e' w3 ⟨rfl, hb3⟩
        have hBs2 : B ≤ w2.heap.size := by have := B2.out.size; rw [HBE.out]; exact this
        have E3 := Lib.hid ((E2.out.below hb3).more hb3.size)
        have C3 := Lib.hid ((C2.out.below hb3).more hb3.size)
        have B3 := Lib.hid (B2.out.trans (hb3.mono hBs2))
        clear hb3 CE E2 C2 B2 hBs2
        go_upto_region 8 with fail
        obtain ⟨W4, hW4⟩ : ∃ W4, W4 = w3.alloc (.cells #[.int .i64 (e.1 : Int), .int .i64 (e.2 : Int)] 48) := ⟨_, rfl⟩
        obtain ⟨GX, hGX⟩ : ∃ GX, GX = w3.heap.size := ⟨_, rfl⟩
        have a1 : W4.cell? ⟨GX, 0, none⟩ = some (.int .i64 (e.1 : Int)) := by rw [hW4, hGX]; simp
        have a2 : W4.cell? ⟨GX, 1, none⟩ = some (.int .i64 (e.2 : Int)) := by rw [hW4, hGX]; simp
        have hb4 : Below w3.heap.size w3 W4 := by rw [hW4]; exact (Below.refl _ _).alloc (Nat.le_refl _) _
        have hXlt : GX < W4.heap.size := by rw [hW4, hGX, World.size_alloc]; omega
        have hBs3 : B ≤ w3.heap.size := by have := B3.out.size; rw [HBE.out]; exact this
        have E4 := Lib.hid (E3.out.below hb4)
        have C4 := Lib.hid (C3.out.below hb4)
        have B4 := Lib.hid (B3.out.trans (hb4.mono hBs3))
        rw [← hGX] at E4 C4
        have hBX : B ≤ GX := by rw [hGX]; exact hBs3
        rw [← hW4, ← hGX]
        clear hW4 hGX hb4 E3 C3 B3 hBs3
        have CA := Lib.hid (across_p e l W4 HL3.out HL5.out)
        go_wp2_with fail
        refine CA.out.mono ?_
        rintro e' w5 ⟨rfl, hb5⟩
        have a3 : w5.cell? ⟨GX, 0, none⟩ = some (.int .i64 (e.1 : Int)) := (hb5.cell (p := ⟨GX, 0, none⟩) hXlt).trans a1
        have a4 : w5.cell? ⟨GX, 1, none⟩ = some (.int .i64 (e.2 : Int)) := (hb5.cell (p := ⟨GX, 1, none⟩) hXlt).trans a2
        have hX5 : GX < w5.heap.size := Nat.lt_of_lt_of_le hXlt hb5.size
        have E5 := Lib.hid (E4.out.below (hb5.mono (Nat.le_of_lt hXlt)))
        have C5 := Lib.hid (C4.out.below (hb5.mono (Nat.le_of_lt hXlt)))
        have B5 := Lib.hid (B4.out.trans (hb5.mono (by omega)))
        have OC : Hid (w5.ownsRow B 3 1 (.slice ac m cc) m (ints L)) := by
          have := C5.out.1
          rwa [ints_length, hLm] at this
        obtain ⟨x, hx⟩ : ∃ x, x = other l e := ⟨_, rfl⟩
        rw [← hx] at HL ⊢
        clear hb5 a1 a2 hXlt CA E4 C4 B4 hx
        have y1 : m + 1 ≤ maxLen := by unfold maxLen; omega
        have y2 : (m + 1) * 8 ≤ 140737488355328 := by omega
        have Y3 := Lib.hid (show ∀ o : Obj, B ≤ (w5.alloc o).heap.size by intro o; simp; omega)
        go_wp2_with (at_builtin; refine wpList_append_lies _ rfl (.tmp 28) (.tmp 32) 29 rfl B 3 i0 (.int .i64 0) 1 8 Try.underlying29 hi hz0 hz1 hz2 rfl (Nat.succ_pos 0) _ m (ints L) rfl (OC.out.alloc _) ⟨w5.heap.size, 0, none⟩ 1 1 [.int .i64 (x : Int)] rfl rfl (cell_one_new _ _ _) (one_intR _) (Nat.succ_pos 0) y1 y2 (Y3.out _) _ rfl ?_)
        intro g7 c7 w7 hv7 hg7 _ _
        have hal : Below w5.heap.size w5 (w5.alloc (.cells #[.int .i64 (x : Int)] 3)) := (Below.refl _ _).alloc (Nat.le_refl _) _
        have hfar : ∀ i : Nat, w7.cell? ⟨GX, i, none⟩ = w5.cell? ⟨GX, i, none⟩ := fun i => by
          refine (hg7.cell_far ⟨GX, i, none⟩ (by rw [World.size_alloc]; show GX < _; omega) fun h => ?_).trans (hal.cell (p := ⟨GX, i, none⟩) hX5)
          have := C5.out.2 GX h.symm
          omega
        have a5 : w7.cell? ⟨GX, 0, none⟩ = some (.int .i64 (e.1 : Int)) := (hfar 0).trans a3
        have a6 : w7.cell? ⟨GX, 1, none⟩ = some (.int .i64 (e.2 : Int)) := (hfar 1).trans a4
        have E7 : Hid (ERow w7 B w7.heap.size (.slice ao q cl) F) := ((E5.out.alloc _).grown hg7 (E5.out.ne C5.out)).more (by have := hg7.size; rw [World.size_alloc] at this; omega)
        have B7 : Hid (Below B w w7) := (B5.out.alloc (by omega) _).grown hg7 (Y3.out _) (fun k hk => (OC.out.lt k hk).1)
        have C7 : Hid (Own w7 B w7.heap.size 3 (.slice (some ⟨g7, 0, none⟩) (m + 1) c7) (ints (L ++ [x]))) := by
          refine ⟨?_, fun k hk => (hv7.lt k hk).2⟩
          have e1 : ints (L ++ [x]) = ints L ++ [.int .i64 (x : Int)] := by simp [ints]
          rw [e1, List.length_append, ints_length, hLm]
          exact hv7
        have LX : Hid ((L ++ [x]) ++ r' = cd) := by show _ = _; rw [← HL.out]; simp
        have hlx : (L ++ [x]).length = m + 1 := by rw [List.length_append, hLm]; rfl
        clear hv7 hg7 hal hfar a3 a4 hX5 E5 C5 B5 OC Y3 HL
        have CW := Lib.hid (without_p e F (.slice ao q cl) w7 E7 (Nat.le_refl _) hFq64)
        have hB7 : B ≤ w7.heap.size := by have := B7.out.size; rw [HBE.out]; exact this
        go_wp2_with fail
        refine CW.out.mono ?_
        rintro e' w8 ⟨u, rfl, hu8, hb8⟩
        have E8 := Lib.hid (hu8.lo hB7)
        have C8 := Lib.hid ((C7.out.below hb8).more hb8.size)
        have B8 := Lib.hid (B7.out.trans (hb8.mono hB7))
        obtain ⟨ao8, c8, rfl, _⟩ := hu8.slice
        have hq8' := HLEN.out
        clear hu8 hb8 C7 B7 E7 CW
        go_wp2
        go_roundw
        case rel => exact ⟨ao8, _, c8, some ⟨g7, 0, none⟩, m + 1, c7, butE e F, L ++ [x], r', rfl, rfl, rfl, hlx, by omega, by omega, E8, C8, LX, B8, HP'⟩
        case measure => exact hq8'
      · obtain rfl : r = [] := by
          rcases HP.out with ⟨es, hp, hs⟩ | ⟨_, h0⟩
          · have h5 := hp.length
            have h6 := hs.length
            exact List.eq_nil_of_length_eq_zero (by omega)
          · exact h0
        have hl := HL.out
        rw [List.append_nil] at hl
        have HL := Lib.hid hl
        clear hl
        go_wp2
        go_ret
        refine ⟨_, rfl, ?_, by rw [← HBE.out]; exact HB.out⟩
        rw [← ints_iv2, ← HL.out, ← HBE.out]
        exact HC.out
end Go.Proofs.Ytcldbjpcbhkmpaa
