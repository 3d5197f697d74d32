/-
  The walk of the law on SpansWith.
-/
import Derived.Test.YtgboecnfghhooaaCGridApp
import Derived.Test.YtgboecnfghhooaaCByRows
import Derived.Test.YtgboecnfghhooaaCWithP
import Derived.Test.YtgboecnfghhooaaKSpanL
namespace Go.Proofs.Ytgboecnfghhooaa
open Go.RowKit

theorem step_append_gr {ops : Array Oper} {o : Oper} {a : Act} {w : World} {K : Act → World → Prop} {Q : Exit → Act → World → Prop} {F : Prop} (hgd : o.guard = none) (s x : Operand)
    (ho : o.op = .call { callee := .builtin .append, args := #[s, x], argTypes := #[26, 26] })
    (base : Nat) (v : Value) (n : Nat) (xs : List Value) (hs : a.eval s = v) (hown : w.ownsRow base 32 1 v n xs) (ao : Option Addr) (m c : Nat) (hx : a.eval x = .slice ao m c) (news : List Value) {H : Nat} (hl : news.length = m) (hR : RdS w H ao news)
    (h1 : ∀ u ∈ news, u.oneCell' = true) (hn : n ≤ 1000) (hm : m ≤ 1000) (hbase : base ≤ w.heap.size)
    (h : ∀ av nv cv w', w'.ownsRow base 32 1 (.slice av nv cv) (n + m) (xs ++ news) → w.grownBy w' v.ownBlock → K (a.put o.dst (.slice av nv cv)) w') :
    if Region.wanted o (yielded ops a.tmps) = true then Oper.wp Try.prog o a w K Q else F := by
  obtain ⟨j0, hj, hy0, hy1, hy2⟩ := info_parts Try.infoRowR
  rcases Nat.eq_zero_or_pos m with h0 | h0
  · subst h0
    obtain rfl : news = [] := List.eq_nil_of_length_eq_zero hl
    have hw : Region.wanted o (yielded ops a.tmps) = true := by simp [Region.wanted, hgd]
    rw [if_pos hw]
    have hrun := run_append_zero (P := Try.prog) (w := w) base 26 o.type 32 j0 1 Try.underlying26 hj v n xs hown ao c
    obtain ⟨av, nv, cv, rfl⟩ := own_formD hown
    unfold Oper.wp
    simp [execOp, ho, resolve, invoke, builtin, hs, hx, hrun, Result.andThen]
    refine h av nv cv w ?_ ⟨rfl, rfl, rfl, Nat.le_refl _, fun _ _ _ => rfl⟩
    rw [List.append_nil, Nat.add_zero]
    exact hown
  · obtain ⟨b, off, rfl, _, _⟩ := hR 0 _ (List.getElem?_eq_getElem (by omega))
    refine step_append_lies w hgd s x 26 ho base 32 j0 (.slice none 0 0) 1 24 Try.underlying26 hj hy0 hy1 hy2 rfl (by decide) v n xs hs hown ⟨b, off, none⟩ m c news hx (by omega) (fun j u hu => ?_) h1 h0 (by unfold maxLen; omega) (by omega) hbase _ rfl (fun g cap w' h1 h2 _ _ => h _ _ _ w' h1 h2)
    obtain ⟨b', off', e, _, h3⟩ := hR j u hu
    simp only [Option.some.injEq, Addr.mk.injEq] at e
    obtain ⟨rfl, rfl, _⟩ := e
    rw [Addr.add_lit]
    exact h3
theorem RowsI.take {w : World} {B H k : Nat} {RV : List Value} {rows : List (List Int)} (h : RowsI w B H RV rows) : RowsI w B H (RV.take k) (rows.take k) := by
  refine ⟨by rw [List.length_take, List.length_take, h.1], fun i v r h1 h2 => ?_⟩
  have hi : i < k := by
    have := (List.getElem?_eq_some_iff.1 h1).1
    rw [List.length_take] at this; omega
  rw [List.getElem?_take_of_lt hi] at h1 h2
  exact h.2 i v r h1 h2
theorem RowsI.drop {w : World} {B H k : Nat} {RV : List Value} {rows : List (List Int)} (h : RowsI w B H RV rows) : RowsI w B H (RV.drop k) (rows.drop k) := by
  refine ⟨by rw [List.length_drop, List.length_drop, h.1], fun i v r h1 h2 => ?_⟩
  rw [List.getElem?_drop] at h1 h2
  exact h.2 _ v r h1 h2
theorem web_less {n : Int} {rows : List (List Int)} {K : Nat} (h : webB n rows = true) : webB n (rows.take K ++ rows.drop (K + 1)) = true := by
  obtain ⟨a1, a2, a3⟩ := webB_iff.1 h
  refine webB_iff.2 ⟨fun r hr => ?_, a2, ?_⟩
  · rcases List.mem_append.1 hr with h | h
    · exact a1 r (List.mem_of_mem_take h)
    · exact a1 r (List.mem_of_mem_drop h)
  · rw [List.length_append, List.length_take, List.length_drop]; omega
theorem spanC_less {N K : Nat} {rows : List (List Int)} (h : webB (N : Int) rows = true) (hK : K < rows.length) : spanC (N : Int) (rows.take K ++ rows.drop (K + 1)) = spanC (N : Int) rows - (hasN (spansN N (edgesR rows)) K : Int) := by
  unfold spanC
  rw [if_pos (web_less h), if_pos h, Int.toNat_natCast]
  have e : edgesR (rows.take K ++ rows.drop (K + 1)) = (edgesR rows).take K ++ (edgesR rows).drop (K + 1) := by simp [edgesR]
  rw [e]
  have := spans_with (n := N) (k := K) (edgesR rows) (by simp [edgesR]; exact hK)
  omega
theorem has_le (L : List Nat) (k : Nat) : hasN L k ≤ L.length := List.countP_le_length
set_option maxHeartbeats 6400000 in
set_option maxRecDepth 100000 in
theorem spansWith_law (a : Option Addr) (len cap : Nat) (zs : List Int) (w : World) (hr0 : IsRow .u8 w a len cap zs) :
    Calls Try.prog 8 #[.slice a len cap] w fun e w' => e = .returned (.bool true) ∧ Below w.heap.size w w' := by
  have hr := Lib.hid hr0
  clear hr0
  by_cases hbig : (1048576 : Int) < (len : Int)
  · go_enter Try.func8, Try.ntmps8
    go_wp2
    go_ret
    exact ⟨rfl, Below.refl _ _⟩
  · go_enter Try.func8, Try.ntmps8
    go_wp2_with fail
    refine (drawSpansWith a len cap zs w hr (by omega)).mono ?_
    rintro e w1 ⟨n, k, rows, v, RV, rfl, g1, hn, hk, hl, hr2, b1⟩
    have hwf : (Lit.int .i64 n).wf = true := wf_smallW n (by omega)
    have G1 := Lib.hid g1
    have B1 := Lib.hid b1
    have hrs : ∀ r ∈ rows, r.length ≤ 1048576 := fun r h => by rw [hr2 r h]; decide
    have HRS := Lib.hid hrs
    have hrl : rows.length ≤ 1048576 := by omega
    obtain ⟨av, cv, rfl, hcv, _⟩ := Grid.form g1
    have hgl : RV.length = rows.length := g1.2.1
    obtain ⟨m, hm⟩ : ∃ m, m = rows.length := ⟨_, rfl⟩
    rw [← hm] at G1 hcv ⊢
    have HMR := Lib.hid hm
    have s01 := b1.size
    clear g1 b1 hr hrs
    have CI := Lib.hid (spansWith_p n rows k _ RV w1 _ _ G1 (Nat.le_refl _) hrl)
    obtain ⟨t, ht⟩ : ∃ t, t = spanW n rows k := ⟨_, rfl⟩
    rw [← ht] at CI
    have HT := Lib.hid ht
    clear ht hm
    go_wp2_with fail
    refine CI.out.mono ?_
    rintro e w2 ⟨rfl, b2⟩
    have G2 := Lib.hid (G1.out.below b2)
    have B2 := Lib.hid (B1.out.trans (b2.mono s01))
    have s12 := b2.size
    have CS := Lib.hid (specSpansWith_any n rows k _ RV w2 G2 s12 hrl)
    rw [← HT.out] at CS
    clear b2 CI
    go_wp2_with fail
    refine CS.out.mono ?_
    rintro e w3 ⟨rfl, b3⟩
    have G3 := Lib.hid (G2.out.below (b3.mono s12))
    have B3 := Lib.hid (B2.out.trans (b3.mono (by omega)))
    have s13 : w1.heap.size ≤ w3.heap.size := by have := b3.size; omega
    have q1 : ((t : Int) == t) = true := by simp
    have q2 : ((t : Int) != t) = false := by simp
    clear b3 G2 B2 CS
    by_cases ht0 : t < 0
    · have CS := Lib.hid (specSpansWith_any n rows k _ RV w3 G3 s13 hrl)
      rw [← HT.out] at CS
      go_wp2_with fail
      refine CS.out.mono ?_
      rintro e w4 ⟨rfl, b4⟩
      have B4 := Lib.hid (B3.out.trans (b4.mono (by omega)))
      clear b4
      go_wp2
      go_ret
      exact ⟨rfl, B4.out⟩
    · have ht := HT.out
      have hm := HMR.out
      have hcond : webB n rows = true ∧ 0 ≤ k ∧ k ≤ (rows.length : Int) - 1 := by
        by_cases h : webB n rows = true ∧ 0 ≤ k ∧ k ≤ (rows.length : Int) - 1
        · exact h
        · rw [ht, spanW, if_neg h] at ht0; omega
      obtain ⟨hweb, hk0, hk1⟩ := hcond
      obtain ⟨N, hnN, hN1, hN5, hrw, hE, h8, hlr⟩ := web_rows hweb
      subst hnN
      obtain ⟨K, rfl⟩ : ∃ K : Nat, k = K := ⟨k.toNat, by omega⟩
      have hKm : K < m := by omega
      have hm8 : m ≤ 8 := by omega
      have hz256 := (spans_lt (n := N) h8).1
      have hspC : spanC (N : Int) rows = ((spansN N (edgesR rows)).length : Int) := by rw [spanC, if_pos hweb, Int.toNat_natCast]
      have hspW : ∀ i : Nat, i < m → spanW (N : Int) rows (i : Int) = (hasN (spansN N (edgesR rows)) i : Int) := fun i hi => by
        rw [spanW, if_pos ⟨hweb, by omega, by omega⟩, Int.toNat_natCast, Int.toNat_natCast]; rfl
      have hless := spanC_less hweb (by omega : K < rows.length)
      have hsum := spans_sum (n := N) (edgesR rows) hN1
      rw [hlr, ← hm] at hsum
      have hhle := has_le (spansN N (edgesR rows))
      have htK : t = (hasN (spansN N (edgesR rows)) K : Int) := by rw [ht]; exact hspW K hKm
      obtain ⟨L, hL⟩ : ∃ L, L = spansN N (edgesR rows) := ⟨_, rfl⟩
      rw [← hL] at hz256 hspC hless hsum hhle htK
      simp only [← hL] at hspW
      obtain ⟨z, hz⟩ : ∃ z, z = L.length := ⟨_, rfl⟩
      rw [← hz] at hz256 hspC hsum
      simp only [← hz] at hhle
      rw [hspC] at hless
      have HSW := Lib.hid hspW
      have HSUM := Lib.hid hsum
      have HHLE := Lib.hid hhle
      have CR := Lib.hid (spanByRows_p (N : Int) rows _ RV w3 _ _ G3 s13 hrl HRS.out hwf)
      rw [hspC] at CR
      have htz : t ≤ (z : Int) := by rw [htK]; have := hhle K; omega
      have hlessT : spanC (N : Int) (rows.take K ++ rows.drop (K + 1)) = (z : Int) - t := by rw [hless, htK]
      have HLT := Lib.hid hlessT
      have hRm : RV.length = m := by omega
      have HRm := Lib.hid hRm
      clear hrw hE hlr h8 hL hz hless hspC hspW hsum hhle htK hlessT hk0 hk1 hm hweb ht hgl hRm hr2 hl
      go_wp2_with fail
      refine CR.out.mono ?_
      rintro e w4 ⟨rfl, b4⟩
      have G4 := Lib.hid (G3.out.below (b4.mono s13))
      have B4 := Lib.hid (B3.out.trans (b4.mono (by omega)))
      have s14 : Hid (w1.heap.size ≤ w4.heap.size) := by have := b4.size; show _ ≤ _; omega
      clear b4 CR G3 B3 s13
      go_wp2_with fail
      go_loopw [8, 9] (fun e8 e9 wr => ∃ i x : Nat, i ≤ m ∧ e9 = .int .i64 (i : Int) ∧ e8 = .int .i64 (x : Int) ∧ x ≤ i * 256 ∧ Hid (x = sumTo (hasN L) i) ∧ Hid (Grid wr w.heap.size w1.heap.size (.slice av m cv) RV rows) ∧ Hid (Below w.heap.size w wr) ∧ Hid (w1.heap.size ≤ wr.heap.size)) (fun _ e9 _ => m - (intOf e9).toNat)
      case atStart => exact ⟨0, 0, Nat.zero_le _, rfl, rfl, Nat.zero_le _, rfl, G4, B4, s14⟩
      case round =>
        clear G4 B4 s14
        obtain ⟨i, x, hi, rfl, rfl, hx, HX, G, B, s⟩ := hrel
        by_cases hlt : i < m
        · have b1 : (i : Int) < (m : Int) := by omega
          have CW := Lib.hid (spansWith_p (N : Int) rows (i : Int) _ RV wr _ _ G s.out hrl)
          rw [HSW.out i hlt] at CW
          have hle := HHLE.out i
          have HX2 : Hid (x + hasN L i = sumTo (hasN L) (i + 1)) := by show _ = _; rw [sumTo, HX.out]
          obtain ⟨y, hy⟩ : ∃ y, y = hasN L i := ⟨_, rfl⟩
          rw [← hy] at CW HX2 hle
          have ewx : IntKind.i64.wrap ((x : Int) + (y : Int)) = (x : Int) + (y : Int) := by rw [IntKind.wrap_i64]; omega
          clear hy HX
          go_wp2_with fail
          refine CW.out.mono ?_
          rintro e w5 ⟨rfl, b5⟩
          have G5 := Lib.hid (G.out.below (b5.mono s.out))
          have B5 := Lib.hid (B.out.trans (b5.mono (by have := s.out; omega)))
          have s5 : Hid (w1.heap.size ≤ w5.heap.size) := Nat.le_trans s.out b5.size
          clear b5 CW G B s
          go_wp2
          go_roundw
          case rel => exact ⟨i + 1, x + y, by omega, by go_num, by go_num, by omega, HX2, G5, B5, s5⟩
          case measure => simp [intOf]; omega
        · obtain rfl : i = m := by omega
          have hx2 : (x : Int) = ((N : Int) - 1) * (z : Int) := by
            rw [HX.out, HSUM.out]
            rw [show (N : Int) - 1 = ((N - 1 : Nat) : Int) by omega]
            push_cast; rfl
          obtain ⟨b, off, rfl, hbH⟩ : ∃ b off, av = some ⟨b, off, none⟩ ∧ b < w1.heap.size := by
            obtain ⟨b, off, e, h2, _⟩ := (RdS.of G.out.1 rfl) K _ (List.getElem?_eq_getElem (by rw [HRm.out]; exact hKm))
            exact ⟨b, off, e, h2⟩
          have RS := RdS.of G.out.1 rfl
          have RA : Hid (RdS wr w1.heap.size (some ⟨b, off, none⟩) (RV.take K)) := fun j u hu => by
            have hj : j < K := by have := (List.getElem?_eq_some_iff.1 hu).1; rw [List.length_take] at this; omega
            rw [List.getElem?_take_of_lt hj] at hu
            exact RS j u hu
          have RB : Hid (RdS wr w1.heap.size (if cv = K + 1 then some (Addr.mk b off none) else some (Addr.mk b (off + (K + 1)) none)) (RV.drop (K + 1))) := fun j u hu => by
            have hj : j < RV.length - (K + 1) := by have := (List.getElem?_eq_some_iff.1 hu).1; rwa [List.length_drop] at this
            rw [List.getElem?_drop] at hu
            obtain ⟨b', off', e, h2, h3⟩ := RS _ u hu
            simp only [Option.some.injEq, Addr.mk.injEq] at e
            obtain ⟨rfl, rfl, _⟩ := e
            have := HRm.out
            exact ⟨b, off + (K + 1), by rw [if_neg (by omega)], h2, by rw [show off + (K + 1) + j = off + (K + 1 + j) by omega]; exact h3⟩
          have lA : Hid ((RV.take K).length = K) := by show _ = _; rw [List.length_take, HRm.out]; omega
          have lB : Hid ((RV.drop (K + 1)).length = i - (K + 1)) := by show _ = _; rw [List.length_drop, HRm.out]
          have ONE := rows_one G.out.2
          have OA : Hid (∀ u ∈ RV.take K, u.oneCell' = true) := fun u hu => ONE u (List.mem_of_mem_take hu)
          have OB : Hid (∀ u ∈ RV.drop (K + 1), u.oneCell' = true) := fun u hu => ONE u (List.mem_of_mem_drop hu)
          have BW : Hid (∀ o : Obj, Below wr.heap.size wr (wr.alloc o).drew) := fun o => Below.drew ((Below.refl _ wr).alloc (Nat.le_refl _) o)
          have OL : Hid ((wr.alloc (.cells #[] 32)).drew.ownsRow wr.heap.size 32 1 (.slice (some ⟨wr.heap.size, 0, none⟩) 0 0) 0 []) := own_of_blocks (World.ownsRow_lit (base := wr.heap.size) (e := 32) (size := 1) wr #[] 0 (Nat.le_refl _) (by unfold maxLen; omega) rfl) (fun _ _ => rfl)
          have j1 : (K : Int) ≤ (cv : Int) := by omega
          have j2 : K ≤ cv := by omega
          have j3 : (K : Int) + 1 ≤ (i : Int) := by omega
          have j4 : K + 1 ≤ i := by omega
          have j5 : (0 : Int) ≤ (K : Int) + 1 := by omega
          have ewc : IntKind.i64.wrap ((K : Int) + 1) = (K : Int) + 1 := by rw [IntKind.wrap_i64]; omega
          have HX2 := Lib.hid hx2
          clear RS ONE HX hx2
          go_wp2_with fail
          go_region_law (first
            | (refine step_append_gr (H := w1.heap.size) ?gd (.tmp 55) (.tmp 58) ?ho wr.heap.size (.slice (some ⟨wr.heap.size, 0, none⟩) 0 0) 0 [] ?hs ?own (some ⟨b, off, none⟩) K cv ?hx (RV.take K) lA.out ?rd OA.out ?hn ?hm ?base ?_
               case gd => rfl
               case ho => rfl
               case hs => rfl
               case hx => rfl
               case own => exact OL.out
               case rd => exact RA.out.below ((BW.out _).mono s.out)
               case hn => exact Nat.zero_le _
               case hm => omega
               case base => exact (BW.out _).size
               intro av6 nv6 cv6 w6 hv6 hg6
               have HV6 : Hid (w6.ownsRow wr.heap.size 32 1 (.slice av6 nv6 cv6) K (RV.take K)) := by first | exact hv6 | (rw [List.nil_append, Nat.zero_add] at hv6; exact hv6)
               have HB6 : Hid (Below wr.heap.size wr w6) := (BW.out _).grown hg6 (BW.out _).size (fun q hq => by simp only [Value.ownBlock, Option.some.injEq] at hq; omega)
               clear hv6 hg6)
            | (refine step_append_gr (H := w1.heap.size) ?gd (.tmp 59) (.tmp 63) ?ho wr.heap.size (.slice av6 nv6 cv6) K (RV.take K) ?hs ?own (if cv = K + 1 then some (Addr.mk b off none) else some (Addr.mk b (off + (K + 1)) none)) (i - (K + 1)) (cv - (K + 1)) ?hx (RV.drop (K + 1)) lB.out ?rd OB.out ?hn ?hm ?base ?_
               case gd => rfl
               case ho => rfl
               case hs => rfl
               case hx => (first | rfl | (go_simp; done))
               case own => exact HV6.out
               case rd => exact RB.out.below (HB6.out.mono s.out)
               case hn => omega
               case hm => omega
               case base => exact HB6.out.size
               intro av7 nv7 cv7 w7 hv7 hg7))
          all_goals
            have HB7 : Hid (Below wr.heap.size wr w7) := HB6.out.grown hg7 HB6.out.size (fun q hq => (HV6.out.lt q hq).1)
            have GN : Hid (Grid w7 w.heap.size w7.heap.size (.slice av7 nv7 cv7) (RV.take K ++ RV.drop (K + 1)) (rows.take K ++ rows.drop (K + 1))) := by
              have hR7 := (G.out.2.below (HB7.out.mono s.out)).more (Nat.le_trans s.out HB7.out.size)
              refine ⟨own_lo (B := wr.heap.size) (Own.of_own ?_) (by have := s.out; omega), hR7.take.append hR7.drop⟩
              rw [List.length_append, lA.out, lB.out]; exact hv7
            have hlen7 : (rows.take K ++ rows.drop (K + 1)).length ≤ 1048576 := by rw [List.length_append, List.length_take, List.length_drop]; omega
            have CX := Lib.hid (spanByRows_p (N : Int) (rows.take K ++ rows.drop (K + 1)) _ _ w7 _ _ GN (Nat.le_refl _) hlen7 (fun r hr => by
              rcases List.mem_append.1 hr with h | h
              · exact HRS.out r (List.mem_of_mem_take h)
              · exact HRS.out r (List.mem_of_mem_drop h)) hwf)
            rw [HLT.out] at CX
            have B7 : Hid (Below w.heap.size w w7) := B.out.trans (HB7.out.mono (by have := s.out; omega))
            have s07 : Hid (w.heap.size ≤ w7.heap.size) := by have := s.out; have := HB7.out.size; show _ ≤ _; omega
            clear hv7 hg7 HV6 HB6 HB7 GN hlen7 G B s RA RB OA OB BW OL
            have ew1 : IntKind.i64.wrap ((N : Int) - 1) = (N : Int) - 1 := by rw [IntKind.wrap_i64]; omega
            have ew2 : IntKind.i64.wrap (((N : Int) - 1) * (z : Int)) = (x : Int) := by rw [← HX2.out, IntKind.wrap_i64]; omega
            have ew3 : IntKind.i64.wrap ((z : Int) - ((z : Int) - t)) = t := by rw [IntKind.wrap_i64]; omega
            have q3 : ((x : Int) == (x : Int)) = true := by simp
            go_simp
            go_wp2_with fail
            all_goals
              refine CX.out.mono ?_
              rintro e w8 ⟨rfl, b8⟩
              have B8 := Lib.hid (B7.out.trans (b8.mono s07.out))
              clear b8 CX
              go_wp2
              all_goals
                go_ret
                exact ⟨rfl, B8.out⟩
end Go.Proofs.Ytgboecnfghhooaa
