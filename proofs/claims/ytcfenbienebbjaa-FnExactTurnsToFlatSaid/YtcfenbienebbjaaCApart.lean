/-
  The contract of the model's function that counts the fewest turns from a word to another one.
-/
import Derived.Test.YtcfenbienebbjaaCTurnF
namespace Go.Proofs.Ytcfenbienebbjaa
open Go.RowKit

theorem mem_lst {M : List Tw} {u : Tw} : u.lst ∈ M.map Tw.lst ↔ u ∈ M := by
  rw [List.mem_map]
  constructor
  · rintro ⟨v, hv, e⟩; rw [← Tw.lst_inj _ _ e]; exact hv
  · intro h; exact ⟨u, h, rfl⟩
/-- behind an append to one list, the others are as they were -/
theorem row_step {w0 wr w5 : World} {B g m c g5 c5 : Nat} {L : List (List UInt8)} {V : ByteArray} (hB : B = w0.heap.size) (T : Txt w0 wr B g m c L)
    (hv : w5.ownsRow B 9 1 (.slice (some ⟨g5, 0, none⟩) (m + 1) c5) (m + 1) (sv L ++ [.string V])) (hg : (wr.alloc (.cells #[.string V] 9)).grownBy w5 (Value.slice (some ⟨g, 0, none⟩) m c).ownBlock) (hw : (Value.slice (some ⟨g, 0, none⟩) m c).ownBlock = some g5 ∨ g5 = wr.heap.size + 1) :
    Txt w0 w5 B g5 (m + 1) c5 (L ++ [V.data.toList]) ∧ (∀ g' m' c' L', Txt w0 wr B g' m' c' L' → g' ≠ g → Txt w0 w5 B g' m' c' L' ∧ g' ≠ g5) ∧
      (∀ B3 H3 a3 n3 c3 xs, Own wr B3 H3 9 (.slice a3 n3 c3) xs → (∀ q, (Value.slice a3 n3 c3).ownBlock = some q → q ≠ g) → Own w5 B3 H3 9 (.slice a3 n3 c3) xs ∧ ∀ q, (Value.slice a3 n3 c3).ownBlock = some q → q ≠ g5) ∧ wr.heap.size ≤ w5.heap.size := by
  have hs := T.below.size
  have hz : (wr.alloc (.cells #[.string V] 9)).heap.size = wr.heap.size + 1 := by simp
  have hsz := hg.size
  rw [hz] at hsz
  have hb5 : Below B w0 w5 := (T.below.alloc (by omega) _).grown hg (by rw [hz]; omega) (fun q hq => (T.own.lt q hq.symm.symm).1)
  have hblk : ∀ q, q < wr.heap.size → q ≠ g → w5.heap[q]? = wr.heap[q]? := fun q hq hne => by
    rw [hg.block q (by rw [hz]; omega) (by simp only [Value.ownBlock, ne_eq, Option.some.injEq]; exact hne), Below.heap_alloc _ _ _ hq]
  have hg5 : ∀ q, q < wr.heap.size → q ≠ g → q ≠ g5 := fun q hq hne => by
    rcases hw with e | e
    · simp only [Value.ownBlock, Option.some.injEq] at e
      omega
    · omega
  refine ⟨⟨by rw [List.length_append, T.len]; rfl, ?_, hb5⟩, ?_, ?_, by omega⟩
  · rw [str_list V, sv_snoc] at hv
    exact hv
  · intro g' m' c' L' T' hne
    have hlt := (T'.own.lt g' rfl).2
    exact ⟨⟨T'.len, own_of_blocks T'.own (fun q hq => by
      simp only [Value.ownBlock, Option.some.injEq] at hq
      subst hq
      exact hblk _ hlt hne), hb5⟩, hg5 _ hlt hne⟩
  · intro B3 H3 a3 n3 c3 xs O hne
    exact ⟨⟨own_of_blocks O.1 (fun q hq => hblk q (O.1.lt q hq).2 (hne q hq)), O.2⟩, fun q hq => hg5 q (O.1.lt q hq).2 (hne q hq)⟩
theorem Txt.later {w0 w w' : World} {B g m c : Nat} {L : List (List UInt8)} (hB : B = w0.heap.size) (T : Txt w0 w B g m c L) (hb : Below w.heap.size w w') : Txt w0 w' B g m c L :=
  ⟨T.len, own_of_blocks T.own (fun q hq => hb.block q (T.own.lt q hq).2), T.below.trans (hb.mono (by rw [hB]; exact T.below.size))⟩
theorem Txt.to_own {w0 w : World} {B g m c : Nat} {L : List (List UInt8)} (T : Txt w0 w B g m c L) : Own w B w.heap.size 9 (.slice (some ⟨g, 0, none⟩) m c) (sv L) := Own.of_own (by rw [sv_length, T.len]; exact T.own)
/-- the layers as far as the i-th word of the newest one -/
def part (p : List Tw × List Tw) (i : Nat) : List Tw × List Tw := ((p.2.take i).flatMap Tw.turns).foldl addT (p.1, [])
theorem part_zero (p : List Tw × List Tw) : part p 0 = (p.1, []) := rfl
theorem part_step (p : List Tw × List Tw) (i : Nat) (h : i < p.2.length) : part p (i + 1) = (p.2[i]).turns.foldl addT (part p i) := by
  rw [part, List.take_succ_eq_append_getElem h, List.flatMap_append, List.foldl_append]
  simp [part]
theorem part_all (p : List Tw × List Tw) : part p p.2.length = grow p := by rw [part, List.take_length]; rfl
theorem add_step (R : List Tw × List Tw) (T : List Tw) (k : Nat) (h : k < T.length) : (T.take (k + 1)).foldl addT R = addT ((T.take k).foldl addT R) T[k] := by
  rw [List.take_succ_eq_append_getElem h, List.foldl_append]; rfl

set_option maxHeartbeats 3200000 in
set_option maxRecDepth 100000 in
theorem apart_any (x y : Tw) (a b : ByteArray) (d : Nat) (w : World) (ha : a.data.toList = x.lst) (hb : b.data.toList = y.lst) (hx : x.size ≤ 6) (hd : Tw.Far x y d) (hd10 : d ≤ 10) :
    Calls Try.prog 27 #[.string a, .string b] w fun e w' => e = .returned (.int .i64 d) ∧ Below w.heap.size w w' := by
  obtain ⟨i0, hi, hz0, hz1, hz2⟩ := info_parts Try.infoStr
  have A0 := Lib.hid ha
  have B0 := Lib.hid hb
  have FD := Lib.hid hd
  have hst1 := (World.ownsRow_lit (base := w.heap.size) (e := 9) (size := 1) w #[.string a] 1 (Nat.le_refl _) (by decide) rfl).alloc (.cells #[.string a] 9)
  have hst2 := World.ownsRow_lit (base := w.heap.size) (e := 9) (size := 1) (w.alloc (.cells #[.string a] 9)) #[.string a] 1 (by simp) (by decide) rfl
  rw [World.size_alloc] at hst2
  have hbb : Below w.heap.size w ((w.alloc (.cells #[.string a] 9)).alloc (.cells #[.string a] 9)) := ((Below.refl _ _).alloc (Nat.le_refl _) _).alloc (by simp) _
  have e0 : [Value.string a] = sv [x.lst] := by rw [← ha]; show [Value.string a] = [Value.string ⟨a.data.toList.toArray⟩]; rw [← str_list a]
  have H1 : Hid (Txt w ((w.alloc (.cells #[.string a] 9)).alloc (.cells #[.string a] 9)) w.heap.size w.heap.size 1 1 [x.lst]) := ⟨rfl, by rw [← e0]; exact hst1, hbb⟩
  have H2 : Hid (Txt w ((w.alloc (.cells #[.string a] 9)).alloc (.cells #[.string a] 9)) w.heap.size (w.heap.size + 1) 1 1 [x.lst]) := ⟨rfl, by rw [← e0]; exact hst2, hbb⟩
  clear hst1 hst2 hbb e0 ha hb hd
  go_enter Try.func27, Try.ntmps27
  go_wp2
  obtain ⟨w1, hw1⟩ : ∃ w1, w1 = (w.alloc (.cells #[.string a] 9)).alloc (.cells #[.string a] 9) := ⟨_, rfl⟩
  rw [← hw1] at H1 H2 ⊢
  obtain ⟨B, hB⟩ : ∃ B, B = w.heap.size := ⟨_, rfl⟩
  have HB := Lib.hid hB
  rw [← hB] at H1 H2 ⊢
  clear hw1 hB
  go_loopw [5, 6, 7] (fun seen now n wr => ∃ (k gs ms cs gn mn cn P : Nat) (p : List Tw × List Tw), k ≤ d ∧ seen = .slice (some ⟨gs, 0, none⟩) ms cs ∧ now = .slice (some ⟨gn, 0, none⟩) mn cn ∧ n = .int .i64 k ∧ mn ≤ P ∧ ms ≤ 2 * P ∧ gs ≠ gn ∧ Hid (P = 5 ^ k) ∧ Hid (Layer x k p) ∧ Hid (Txt w wr B gs ms cs (p.1.map Tw.lst)) ∧ Hid (Txt w wr B gn mn cn (p.2.map Tw.lst))) (fun _ _ n _ => d - (intOf n).toNat)
  case atStart => exact ⟨0, B, 1, 1, B + 1, 1, 1, 1, ([x], [x]), Nat.zero_le _, rfl, rfl, rfl, by omega, by omega, by omega, rfl, layer_zero x, H1, H2⟩
  case round =>
    clear H1 H2
    obtain ⟨k, gs, ms, cs, gn, mn, cn, P, p, hk, rfl, rfl, rfl, hmn, hms, hne, HP, HL, TS, TN⟩ := hrel
    have hP10 : P ≤ 9765625 := by
      rw [HP.out]
      exact Nat.le_trans (Nat.pow_le_pow_right (by decide) (show k ≤ 10 by omega)) (by decide)
    have HW := Lib.hid (hasWord_any (p.2.map Tw.lst) (.slice (some ⟨gn, 0, none⟩) mn cn) b wr TN.out.to_own (by rw [TN.out.len]; omega))
    have hin : (b.data.toList ∈ p.2.map Tw.lst) ↔ k = d := by
      rw [B0.out, mem_lst, HL.out.2]
      exact ⟨fun h => h.uniq FD.out, fun h => by rw [h]; exact FD.out⟩
    by_cases hkd : k = d
    · rw [decide_eq_true (hin.2 hkd)] at HW
      subst hkd
      clear hin hP10
      go_wp2_with fail
      refine HW.out.mono ?_
      rintro e w2 ⟨rfl, rfl⟩
      clear HW
      go_wp2
      go_ret
      rw [← HB.out]
      exact ⟨rfl, TS.out.below⟩
    · rw [decide_eq_false (fun h => hkd (hin.1 h))] at HW
      clear hin
      have hkd2 : k + 1 ≤ d := by omega
      have hz6 : Hid (∀ u ∈ p.2, u.size ≤ 6) := fun u hu => by
        have := ((HL.out.2 u).1 hu).1.size
        omega
      have hnl : p.2.length = mn := by have := TN.out.len; rwa [List.length_map] at this
      have HNL := Lib.hid hnl
      have hst := World.ownsRow_lit (base := B) (e := 9) (size := 1) wr #[] 0 (by rw [HB.out]; exact TS.out.below.size) (by decide) rfl
      have hal : Below wr.heap.size wr (wr.alloc (.cells #[] 9)) := (Below.refl _ _).alloc (Nat.le_refl _) _
      have X1 : Hid (Txt w (wr.alloc (.cells #[] 9)) B wr.heap.size 0 0 []) := ⟨rfl, hst, (TS.out.later HB.out hal).below⟩
      have S1 := Lib.hid (TS.out.later HB.out hal)
      have N1 := Lib.hid (TN.out.later HB.out hal)
      have hg1 : gs ≠ wr.heap.size := by have := (TS.out.own.lt gs rfl).2; omega
      have hg2 : wr.heap.size ≠ gn := by have := (TN.out.own.lt gn rfl).2; omega
      clear hnl hst hal
      go_wp2_with fail
      refine HW.out.mono ?_
      rintro e w2 ⟨rfl, rfl⟩
      clear HW TS TN
      go_wp2
      obtain ⟨w3, hw3⟩ : ∃ w3, w3 = w2.alloc (.cells #[] 9) := ⟨_, rfl⟩
      rw [← hw3] at X1 S1 N1 ⊢
      obtain ⟨gx0, hgx0⟩ : ∃ gx0, gx0 = w2.heap.size := ⟨_, rfl⟩
      rw [← hgx0] at X1 hg1 hg2 ⊢
      clear hw3 hgx0
      go_loopw [5, 8, 9] (fun seen nxt i wr => ∃ (j gs ms cs gx mx cx : Nat), j ≤ mn ∧ seen = .slice (some ⟨gs, 0, none⟩) ms cs ∧ nxt = .slice (some ⟨gx, 0, none⟩) mx cx ∧ i = .int .i64 j ∧ ms ≤ 2 * P + 5 * j ∧ mx ≤ 5 * j ∧ gs ≠ gn ∧ gs ≠ gx ∧ gx ≠ gn ∧ Hid (Txt w wr B gs ms cs ((part p j).1.map Tw.lst)) ∧ Hid (Txt w wr B gx mx cx ((part p j).2.map Tw.lst)) ∧ Hid (Txt w wr B gn mn cn (p.2.map Tw.lst))) (fun _ _ i _ => mn - (intOf i).toNat)
      case atStart => exact ⟨0, gs, ms, cs, gx0, 0, 0, Nat.zero_le _, rfl, rfl, rfl, by omega, by omega, hne, hg1, hg2, S1, X1, N1⟩
      case round =>
        clear S1 X1 N1 hg1 hg2 hne hms
        obtain ⟨j, gs, ms, cs, gx, mx, cx, hj, rfl, rfl, rfl, hms, hmx, hn1, hn2, hn3, TS, TX, TN⟩ := hrel
        by_cases hlt : j < mn
        · have b1 : (j : Int) < (mn : Int) := by omega
          have hjl : j < p.2.length := by rw [HNL.out]; exact hlt
          have hc := TN.out.own.cellAt j (by omega)
          rw [sv_get _ j (by rw [List.length_map]; exact hjl), List.getElem_map] at hc
          obtain ⟨u, hu⟩ : ∃ u, u = p.2[j] := ⟨_, rfl⟩
          have hu6 : u.size ≤ 6 := by rw [hu]; exact hz6.out _ (List.getElem_mem hjl)
          have PS := part_step p j hjl
          rw [← hu] at hc PS
          have PS := Lib.hid PS
          obtain ⟨tu, htu⟩ : ∃ tu : ByteArray, tu = ⟨u.lst.toArray⟩ := ⟨_, rfl⟩
          have htl : tu.data.toList = u.lst := by rw [htu]
          rw [← htu] at hc
          have CT := Lib.hid (turns_any u tu wr htl (by omega))
          have ht5 : u.turns.length ≤ 5 := by rw [Tw.turns_length]; omega
          obtain ⟨T, hT⟩ : ∃ T, T = u.turns := ⟨_, rfl⟩
          rw [← hT] at CT PS ht5
          have hTz : Hid (∀ v ∈ T, v.size ≤ 6) := fun v hv => by
            rw [hT] at hv
            rw [Tw.turns_size _ _ hv]; exact hu6
          clear hT htu htl hu hjl
          go_wp2_with fail
          refine CT.out.mono ?_
          rintro e w4 ⟨v4, rfl, hv4, hb4⟩
          rw [List.length_map] at hv4
          obtain ⟨a4, c4, rfl⟩ := own_shapeS hv4
          have O4 : Hid (Own w4 wr.heap.size w4.heap.size 9 (.slice a4 T.length c4) (sv (T.map Tw.lst))) := Own.of_own (by rw [sv_length, List.length_map]; exact hv4)
          have S4 := Lib.hid (TS.out.later HB.out hb4)
          have X4 := Lib.hid (TX.out.later HB.out hb4)
          have N4 := Lib.hid (TN.out.later HB.out hb4)
          have hq4 : Hid (∀ q, (Value.slice a4 T.length c4).ownBlock = some q → q ≠ gs ∧ q ≠ gx) := fun q hq => by
            have h1 := (hv4.lt q hq).1
            have h2 := (TS.out.own.lt gs rfl).2
            have h3 := (TX.out.own.lt gx rfl).2
            omega
          obtain ⟨Bl, hBl⟩ : ∃ Bl, Bl = wr.heap.size := ⟨_, rfl⟩
          rw [← hBl] at O4
          obtain ⟨R, hR⟩ : ∃ R, R = part p j := ⟨_, rfl⟩
          rw [← hR] at S4 X4 PS
          clear CT hv4 hb4 TS TX TN hBl hR hc
          go_wp2
          go_loopw [5, 8, 11] (fun seen nxt i wr => ∃ (q gs ms cs gx mx cx : Nat), q ≤ T.length ∧ seen = .slice (some ⟨gs, 0, none⟩) ms cs ∧ nxt = .slice (some ⟨gx, 0, none⟩) mx cx ∧ i = .int .i64 q ∧ ms ≤ 2 * P + 5 * j + q ∧ mx ≤ 5 * j + q ∧ gs ≠ gn ∧ gs ≠ gx ∧ gx ≠ gn ∧ Hid (Txt w wr B gs ms cs (((T.take q).foldl addT R).1.map Tw.lst)) ∧ Hid (Txt w wr B gx mx cx (((T.take q).foldl addT R).2.map Tw.lst)) ∧ Hid (Txt w wr B gn mn cn (p.2.map Tw.lst)) ∧ Hid (Own wr Bl w4.heap.size 9 (.slice a4 T.length c4) (sv (T.map Tw.lst))) ∧ Hid (∀ q, (Value.slice a4 T.length c4).ownBlock = some q → q ≠ gs ∧ q ≠ gx)) (fun _ _ i _ => T.length - (intOf i).toNat)
          case atStart => exact ⟨0, gs, ms, cs, gx, mx, cx, Nat.zero_le _, rfl, rfl, rfl, by omega, by omega, hn1, hn2, hn3, S4, X4, N4, O4, hq4⟩
          case round =>
            clear S4 X4 N4 O4 hq4 hn1 hn2 hn3 hms hmx
            obtain ⟨q, gs, ms, cs, gx, mx, cx, hq, rfl, rfl, rfl, hms, hmx, hn1, hn2, hn3, TS, TX, TN, TO, NE⟩ := hrel
            by_cases hlq : q < T.length
            · have b2 : (q : Int) < (T.length : Int) := by omega
              obtain ⟨gl, rfl, _, _, hc, _⟩ := TO.out.at_ q (by rw [sv_length, List.length_map]; exact hlq)
              rw [sv_get _ q (by rw [List.length_map]; exact hlq), List.getElem_map] at hc
              have HC0 := Lib.hid (show (sv (T.map Tw.lst))[q]? = some (.string ⟨(T[q]).lst.toArray⟩) by rw [sv_get _ q (by rw [List.length_map]; exact hlq), List.getElem_map])
              obtain ⟨t, ht⟩ : ∃ t, t = T[q] := ⟨_, rfl⟩
              have AS := add_step R T q hlq
              rw [← ht] at hc AS HC0
              obtain ⟨V, hV⟩ : ∃ V : ByteArray, V = ⟨t.lst.toArray⟩ := ⟨_, rfl⟩
              have hVl : V.data.toList = t.lst := by rw [hV]
              rw [← hV] at hc HC0
              obtain ⟨R', hR'⟩ : ∃ R', R' = (T.take q).foldl addT R := ⟨_, rfl⟩
              rw [← hR'] at TS TX AS
              have HW := Lib.hid (hasWord_any (R'.1.map Tw.lst) (.slice (some ⟨gs, 0, none⟩) ms cs) V wr TS.out.to_own (by rw [TS.out.len]; omega))
              have hin : V.data.toList ∈ R'.1.map Tw.lst ↔ t ∈ R'.1 := by rw [hVl, mem_lst]
              clear hV ht hR'
              by_cases hm : t ∈ R'.1
              · rw [decide_eq_true (hin.2 hm)] at HW
                rw [addT, if_pos hm] at AS
                have AS := Lib.hid AS
                clear hin hm hVl HC0
                go_wp2_with fail
                refine HW.out.mono ?_
                rintro e w5 ⟨rfl, rfl⟩
                clear HW
                go_wp2
                go_roundw
                case rel => exact ⟨q + 1, gs, ms, cs, gx, mx, cx, by omega, rfl, rfl, by go_num, by omega, by omega, hn1, hn2, hn3, by rw [AS.out]; exact TS, by rw [AS.out]; exact TX, TN, TO, NE⟩
                case measure => simp [intOf]; omega
              · rw [decide_eq_false (fun h => hm (hin.1 h))] at HW
                rw [addT, if_neg hm] at AS
                have AS1 : Hid (((T.take (q + 1)).foldl addT R).1.map Tw.lst = R'.1.map Tw.lst ++ [V.data.toList]) := by show _ = _; rw [AS, hVl]; simp
                have AS2 : Hid (((T.take (q + 1)).foldl addT R).2.map Tw.lst = R'.2.map Tw.lst ++ [V.data.toList]) := by show _ = _; rw [AS, hVl]; simp
                have y1 : ms + 1 ≤ maxLen := by unfold maxLen; omega
                have y2 : (ms + 1) * 16 ≤ 140737488355328 := by omega
                have y3 : mx + 1 ≤ maxLen := by unfold maxLen; omega
                have y4 : (mx + 1) * 16 ≤ 140737488355328 := by omega
                have Y3 := Lib.hid (show ∀ o : Obj, B ≤ (wr.alloc o).heap.size by intro o; have := TS.out.below.size; rw [HB.out]; simp; omega)
                have Y4 := Lib.hid (show ∀ o : Obj, (wr.alloc o).heap.size = wr.heap.size + 1 by intro o; simp)
                clear hin hm hVl AS
                go_wp2_with fail
                refine HW.out.mono ?_
                rintro e w5 ⟨rfl, rfl⟩
                clear HW
                go_wp2_with (at_builtin; refine wpList_append_lies _ rfl _ _ 22 rfl B 9 i0 (.string ⟨#[]⟩) 1 16 Try.underlying22 hi hz0 hz1 hz2 rfl (by decide) _ ms (sv (R'.1.map Tw.lst)) rfl (TS.out.own.alloc _) ⟨w5.heap.size, 0, none⟩ 1 1 [.string V] rfl rfl (cell_one_new _ _ _) (one_str _) (by decide) y1 y2 (Y3.out _) (w5.heap.size + 1) (Y4.out _) ?_)
                intro g6 c6 w6 hv6 hg6 hw6 hl6
                obtain ⟨K1, K2, K3, K4⟩ := row_step HB.out TS.out hv6 hg6 hw6
                obtain ⟨KX, n6⟩ := K2 _ _ _ _ TX.out (by omega)
                obtain ⟨KN, n7⟩ := K2 _ _ _ _ TN.out (by omega)
                obtain ⟨KO, n8⟩ := K3 _ _ _ _ _ _ TO.out (fun q hq => (NE.out q hq).1)
                have hc6 : w6.cell? ⟨gl, q, none⟩ = some (.string V) := by
                  obtain ⟨gl', e9, _, _, h9, _⟩ := KO.at_ q (by rw [sv_length, List.length_map]; exact hlq)
                  cases e9
                  rw [h9]; exact HC0.out
                have S6 := Lib.hid K1
                have X6 := Lib.hid KX
                have N6 := Lib.hid KN
                have O6 := Lib.hid KO
                have NE6 : Hid (∀ z, (Value.slice (some ⟨gl, 0, none⟩) T.length c4).ownBlock = some z → z ≠ g6 ∧ z ≠ gx) := fun z hz => ⟨n8 z hz, (NE.out z hz).2⟩
                have Y5 := Lib.hid (show ∀ o : Obj, B ≤ (w6.alloc o).heap.size by intro o; have := S6.out.below.size; rw [HB.out]; simp; omega)
                have Y6 := Lib.hid (show ∀ o : Obj, (w6.alloc o).heap.size = w6.heap.size + 1 by intro o; simp)
                clear hv6 hg6 hw6 hl6 K1 K2 K3 K4 KX KN KO n8 TS TX TN TO NE hc Y3 Y4 y1 y2
                go_wp2_with (at_builtin; refine wpList_append_lies _ rfl _ _ 22 rfl B 9 i0 (.string ⟨#[]⟩) 1 16 Try.underlying22 hi hz0 hz1 hz2 rfl (by decide) _ mx (sv (R'.2.map Tw.lst)) rfl (X6.out.own.alloc _) ⟨w6.heap.size, 0, none⟩ 1 1 [.string V] rfl rfl (cell_one_new _ _ _) (one_str _) (by decide) y3 y4 (Y5.out _) (w6.heap.size + 1) (Y6.out _) ?_)
                intro g7 c7 w7 hv7 hg7 hw7 hl7
                obtain ⟨K1, K2, K3, K4⟩ := row_step HB.out X6.out hv7 hg7 hw7
                obtain ⟨KS, m6⟩ := K2 _ _ _ _ S6.out (by omega)
                obtain ⟨KN, m7⟩ := K2 _ _ _ _ N6.out (by omega)
                obtain ⟨KO, m8⟩ := K3 _ _ _ _ _ _ O6.out (fun q hq => (NE6.out q hq).2)
                have S7 := Lib.hid KS
                have X7 := Lib.hid K1
                have N7 := Lib.hid KN
                have O7 := Lib.hid KO
                have NE7 : Hid (∀ z, (Value.slice (some ⟨gl, 0, none⟩) T.length c4).ownBlock = some z → z ≠ g6 ∧ z ≠ g7) := fun z hz => ⟨(NE6.out z hz).1, m8 z hz⟩
                clear hv7 hg7 hw7 hl7 K1 K2 K3 K4 KS KN KO m8 S6 X6 N6 O6 NE6 hc6 Y5 Y6 y3 y4
                rw [← AS1.out] at S7
                rw [← AS2.out] at X7
                go_wp2
                go_roundw
                case rel => exact ⟨q + 1, g6, ms + 1, c6, g7, mx + 1, c7, by omega, rfl, rfl, by go_num, by omega, by omega, by omega, by omega, by omega, S7, X7, N7, O7, NE7⟩
                case measure => simp [intOf]; omega
            · obtain rfl : q = T.length := by omega
              rw [List.take_of_length_le (Nat.le_refl _), ← PS.out] at TS TX
              clear TO NE
              go_wp2
              go_roundw
              case rel => exact ⟨j + 1, gs, ms, cs, gx, mx, cx, by omega, rfl, rfl, by go_num, by omega, by omega, hn1, hn2, hn3, TS, TX, TN⟩
              case measure => simp [intOf]; omega
        · obtain rfl : j = mn := by omega
          have e9 := part_all p
          rw [HNL.out] at e9
          rw [e9] at TS TX
          have HP2 : Hid (5 * P = 5 ^ (k + 1)) := by show _ = _; rw [HP.out, Nat.pow_succ]; omega
          have HL2 := Lib.hid (layer_grow HL.out)
          clear TN e9 HP HL
          go_wp2
          go_roundw
          case rel => exact ⟨k + 1, gs, ms, cs, gx, mx, cx, 5 * P, grow p, by omega, rfl, rfl, by go_num, by omega, by omega, hn2, HP2, HL2, TS, TX⟩
          case measure => simp [intOf]; omega
end Go.Proofs.Ytcfenbienebbjaa
