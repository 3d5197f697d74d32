/-
  The walk of the law on SpansOf, given the contracts of the program's functions.
-/
import Derived.Test.YtgboecnfghhooaaKSpanL
import Derived.Test.YtgboecnfghhooaaKBits
import Derived.Test.YtgboecnfghhooaaZE
namespace Go.Proofs.Ytgboecnfghhooaa
open Go.RowKit

theorem spansL_le (n : Int) (rows : List (List Int)) : (spansL n rows).length ≤ 256 := by
  unfold spansL
  split
  · next h =>
    obtain ⟨N, _, _, _, _, _, h8, _⟩ := web_rows h
    rw [List.length_map]
    exact (spans_lt h8).1
  · simp
theorem spans_bits8 {n s : Nat} {E : Edges} (h8 : E.length ≤ 8) (h : s ∈ spansN n E) : sumTo (bitD s) 8 + 1 = n ∧ s < 2 ^ 8 := by
  have h1 := span_bits h
  have h2 : s < 2 ^ E.length := List.mem_range.1 (List.mem_filter.1 h).1
  have h3 := bits_zero (s := s) (j := E.length) (Nat.div_eq_of_lt h2) (8 - E.length)
  rw [show E.length + (8 - E.length) = 8 by omega] at h3
  have h4 : 2 ^ E.length ≤ 2 ^ 8 := Nat.pow_le_pow_right (by omega) h8
  exact ⟨by rw [h3]; exact h1, by omega⟩
set_option maxHeartbeats 3200000 in
set_option maxRecDepth 100000 in
theorem spansOf_law (HR : Hid (∀ (n : Int) (rows : List (List Int)) (v : Value) (RV : List Value) (w : World) (B0 H0 : Nat), Hid (Grid w B0 H0 v RV rows) → H0 ≤ w.heap.size → rows.length ≤ 1048576 → (∀ r ∈ rows, r.length ≤ 1048576) → (Lit.int .i64 n).wf = true →
      Calls Try.prog 14 #[.int .i64 n, v] w fun e w' => e = .returned (.int .i64 (spanC n rows)) ∧ Below w.heap.size w w'))
    (HO : Hid (∀ (n : Int) (rows : List (List Int)) (v : Value) (RV : List Value) (w : World) (B0 H0 : Nat), Hid (Grid w B0 H0 v RV rows) → H0 ≤ w.heap.size → rows.length ≤ 1048576 → (∀ r ∈ rows, r.length ≤ 1048576) → (Lit.int .i64 n).wf = true →
      Calls Try.prog 22 #[.int .i64 n, v] w (IntsOut (spansL n rows) w)))
    (HV : Hid (∀ (n : Int) (rows : List (List Int)) (v : Value) (RV : List Value) (w : World) (B0 H0 : Nat), Hid (Grid w B0 H0 v RV rows) → H0 ≤ w.heap.size → rows.length ≤ 1048576 → (∀ r ∈ rows, r.length ≤ 1048576) → (Lit.int .i64 n).wf = true →
      Calls Try.prog 17 #[.int .i64 n, v] w fun e w' => e = .returned (.bool (webB n rows)) ∧ Below w.heap.size w w'))
    (a : Option Addr) (len cap : Nat) (zs : List Int) (w : World) (hr0 : IsRow .u8 w a len cap zs) :
    Calls Try.prog 7 #[.slice a len cap] w fun e w' => e = .returned (.bool true) ∧ Below w.heap.size w w' := by
  have hr := Lib.hid hr0
  clear hr0
  by_cases hbig : (1048576 : Int) < (len : Int)
  · go_enter Try.func7, Try.ntmps7
    go_wp2
    go_ret
    exact ⟨rfl, Below.refl _ _⟩
  · go_enter Try.func7, Try.ntmps7
    go_wp2_with fail
    refine (drawSpansOf a len cap zs w hr (by omega)).mono ?_
    rintro e w1 ⟨n, rows, v, RV, rfl, g1, hn, hl, hr2, b1⟩
    have hwf : (Lit.int .i64 n).wf = true := wf_smallW n (by omega)
    have G1 := Lib.hid g1
    have B1 := Lib.hid b1
    have hrs : ∀ r ∈ rows, r.length ≤ 1048576 := fun r h => by rw [hr2 r h]; decide
    have HRS := Lib.hid hrs
    have hrl : rows.length ≤ 1048576 := by omega
    obtain ⟨av, cv, rfl, _, _, _, _⟩ := g1.1.slice
    have hgl : RV.length = rows.length := g1.2.1
    obtain ⟨m, hm⟩ : ∃ m, m = RV.length := ⟨_, rfl⟩
    rw [← hm] at G1 ⊢
    have HMR := Lib.hid (hm.trans hgl)
    have s01 := b1.size
    clear g1 b1 hr hrs hm hgl
    have CI := Lib.hid (HO.out n rows _ RV w1 _ _ G1 (Nat.le_refl _) hrl HRS.out hwf)
    have hdl := spansL_le n rows
    obtain ⟨l, hle⟩ : ∃ l, l = spansL n rows := ⟨_, rfl⟩
    have HLE := Lib.hid hle
    rw [← hle] at CI hdl
    clear hle
    go_wp2_with fail
    refine CI.out.mono ?_
    rintro e w2 ⟨v2, rfl, o2, b2⟩
    have G2 := Lib.hid (G1.out.below b2)
    have B2 := Lib.hid (B1.out.trans (b2.mono s01))
    obtain ⟨a2, c2, rfl, _, _, _, _⟩ := o2.slice
    obtain ⟨z, hz⟩ : ∃ z, z = l.length := ⟨_, rfl⟩
    rw [iv_length, ← hz] at o2 ⊢
    have O2 := Lib.hid o2
    have HZ := Lib.hid hz
    have hz256 : z ≤ 256 := by omega
    have s12 := b2.size
    have CS := Lib.hid (specSpansOf_any n rows _ RV w2 G2 s12 hrl)
    rw [← HLE.out] at CS
    clear b2 o2 hz CI
    go_wp2_with fail
    refine CS.out.mono ?_
    rintro e w3 ⟨v3, rfl, o3, b3⟩
    have G3 := Lib.hid (G2.out.below (b3.mono s12))
    have B3 := Lib.hid (B2.out.trans (b3.mono (by omega)))
    have O23 := Lib.hid (O2.out.below b3)
    have O3 := Lib.hid o3
    have s23 := b3.size
    clear b3 o3 G2 B2 O2 CS
    go_wp2_with fail
    refine (equalInts_yes l _ v3 w3 O23 O3 (by omega)).mono ?_
    rintro e w4 ⟨rfl, t4⟩
    have z4 : w4.heap.size = w3.heap.size := by rw [t4.1]
    have G4 := Lib.hid (G3.out.same t4.1)
    have B4 := Lib.hid (B3.out.trans (t4.below _))
    have O4 := Lib.hid (O23.out.same t4.1)
    have s14 : w1.heap.size ≤ w4.heap.size := by omega
    have s24 : w2.heap.size ≤ w4.heap.size := by omega
    have CV := Lib.hid (HV.out n rows _ RV w4 _ _ G4 s14 hrl HRS.out hwf)
    clear t4 z4 G3 B3 O3 O23
    go_wp2_with fail
    refine CV.out.mono ?_
    rintro e w5 ⟨rfl, b5⟩
    have G5 := Lib.hid (G4.out.below (b5.mono s14))
    have B5 := Lib.hid (B4.out.trans (b5.mono (by omega)))
    have O5 := Lib.hid (O4.out.below (b5.mono s24))
    have s15 : w1.heap.size ≤ w5.heap.size := by have := b5.size; omega
    have s25 : w2.heap.size ≤ w5.heap.size := by have := b5.size; omega
    clear b5 G4 B4 O4 CV
    cases ht : webB n rows with
    | false =>
      have CS := Lib.hid (specSpansOf_any n rows _ RV w5 G5 s15 hrl)
      rw [← HLE.out] at CS
      clear ht
      go_wp2_with fail
      refine CS.out.mono ?_
      rintro e w6 ⟨v6, rfl, o6, b6⟩
      have B6 := Lib.hid (B5.out.trans (b6.mono (by omega)))
      have O6 := Lib.hid (O5.out.below (b6.mono s25))
      have O66 := Lib.hid o6
      clear b6 o6 CS
      go_wp2_with fail
      refine (equalInts_yes l _ v6 w6 O6 O66 (by omega)).mono ?_
      rintro e w7 ⟨rfl, t7⟩
      have B7 := Lib.hid (B6.out.trans (t7.below _))
      clear t7
      go_wp2
      go_ret
      exact ⟨rfl, B7.out⟩
    | true =>
      obtain ⟨N, hnN, h1, h5, hr, hE, h8, hlr⟩ := web_rows ht
      have hL : l = (spansN N (edgesR rows)).map fun (k : Nat) => (k : Int) := by
        rw [HLE.out, spansL, if_pos ht, hnN, Int.toNat_natCast]
      have hC : spanC n rows = ((spansN N (edgesR rows)).length : Int) := by
        rw [spanC, if_pos ht, hnN, Int.toNat_natCast]
      obtain ⟨L, hL0⟩ : ∃ L, L = spansN N (edgesR rows) := ⟨_, rfl⟩
      have HB8 : Hid (∀ s ∈ L, sumTo (bitD s) 8 + 1 = N ∧ s < 2 ^ 8) := fun s hs => by rw [hL0] at hs; exact spans_bits8 h8 hs
      have HAS : Hid (L.Pairwise (· < ·)) := by rw [hL0]; exact (List.pairwise_lt_range).filter _
      rw [← hL0] at hL hC
      have hzL : z = L.length := by rw [HZ.out, hL, List.length_map]
      have HZL := Lib.hid hzL
      have O6 : Hid (Own w5 w1.heap.size w2.heap.size 3 (.slice a2 z c2) (ints L)) := by
        have := O5.out
        rwa [hL, ← ints_iv2] at this
      have CR := fun (w' : World) (hG : Hid (Grid w' w.heap.size w1.heap.size (.slice av m cv) RV rows)) hH => HR.out n rows _ RV w' _ _ hG hH hrl HRS.out hwf
      rw [hC] at CR
      have CR := Lib.hid CR
      subst hnN
      have ewn : IntKind.i64.wrap ((N : Int) - 1) = (N : Int) - 1 := by rw [IntKind.wrap_i64]; omega
      have HL0 := Lib.hid hL0
      clear ht hr hE h8 hlr hL hC hL0 hzL O5
      go_wp2
      go_loop [6] (fun ii => ∃ i : Nat, i ≤ z ∧ ii = .int .i64 (i : Int)) (fun ii => z - (intOf ii).toNat)
      case atStart => exact ⟨0, Nat.zero_le _, rfl⟩
      case round =>
        obtain ⟨i, hi, rfl⟩ := hrel
        by_cases hlt : i < z
        · have b1 : (i : Int) < (z : Int) := by omega
          have hiL : i < L.length := by rw [← HZL.out]; exact hlt
          obtain ⟨g, rfl, _, _, c1, _⟩ := O6.out.at_ i (by rw [ints_length]; exact hiL)
          have d1 := c1.trans (ints_get L i (List.getElem?_eq_getElem hiL))
          obtain ⟨hb8, hs8⟩ := HB8.out _ (List.getElem_mem hiL)
          obtain ⟨s, hs⟩ : ∃ s, s = L[i] := ⟨_, rfl⟩
          rw [← hs] at d1 hb8 hs8
          have CB := Lib.hid (bitsOf_any s 8 w5 hs8 (Nat.le_refl _))
          obtain ⟨u, hu⟩ : ∃ u, u = sumTo (bitD s) 8 := ⟨_, rfl⟩
          rw [← hu] at CB hb8
          have q1 : ((u : Int) == (N : Int) - 1) = true := by rw [beq_iff_eq]; omega
          have q2 : ((u : Int) != (N : Int) - 1) = false := by rw [bne, q1]; rfl
          clear c1 hs hs8 hu hb8
          go_wp2_with fail
          refine CB.out.mono ?_
          rintro e w6 ⟨rfl, rfl⟩
          clear CB
          go_wp2
          go_round
          case rel => exact ⟨i + 1, by omega, by go_num⟩
          case measure => simp [intOf]; omega
        · obtain rfl : i = z := by omega
          have O7 : Hid (Own w5 w1.heap.size w2.heap.size 3 (.slice a2 L.length c2) (ints L)) := by have := O6.out; rwa [HZL.out] at this
          have CA := ascends_any L _ w5 O7 (by rw [← HZL.out]; omega) HAS
          rw [← HZL.out] at CA
          have CA := Lib.hid CA
          clear O7
          go_wp2_with fail
          refine CA.out.mono ?_
          rintro e w6 ⟨rfl, hq⟩
          have hb6 : Below w5.heap.size w5 w6 := by
            obtain ⟨q, rfl⟩ := hq
            exact ⟨rfl, rfl, rfl, Nat.le_refl _, fun _ _ => rfl⟩
          have G6 := Lib.hid (G5.out.below (hb6.mono s15))
          have B6 := Lib.hid (B5.out.trans (hb6.mono (by omega)))
          have s16 : w1.heap.size ≤ w6.heap.size := by have := hb6.size; omega
          have CRR := Lib.hid (CR.out w6 G6 s16)
          rw [← HZL.out] at CRR
          clear hq hb6 CA G5 B5
          have q1 : ((i : Int) == (i : Int)) = true := by simp
          go_wp2_with fail
          refine CRR.out.mono ?_
          rintro e w7 ⟨rfl, b7⟩
          have B7 := Lib.hid (B6.out.trans (b7.mono (by omega)))
          clear b7
          go_wp2
          go_ret
          exact ⟨rfl, B7.out⟩
end Go.Proofs.Ytgboecnfghhooaa
