/-
  The walk of the law that least numbers stand on top, with the program's ValidRow and HeapWord as premises.
-/
import Derived.Test.YtooplolalbcmjaaZS
import Derived.Test.YtooplolalbcmjaaZDR
import Derived.Test.YtooplolalbcmjaaCPlace
import Derived.Test.YtooplolalbcmjaaCFamI
import Derived.Test.YtooplolalbcmjaaZB
import Derived.Test.YtooplolalbcmjaaCStackI
import Derived.Test.YtooplolalbcmjaaZW
namespace Go.Proofs.Ytooplolalbcmjaa
open Go.RowKit

theorem place_ino (t : Tw) (k : Nat) (hk : k < t.size) : placeL ((Tw.ino t 0).map fun (i : Nat) => (i : Int)) (k : Int) = (Tw.pos t 0 k : Nat) := by
  have hp := Tw.pos_lt t 0 k (Nat.zero_le _) (by omega)
  have hv := Tw.ino_pos t 0 k (Nat.zero_le _) (by omega)
  have hl := Tw.ino_length t 0
  have hn := Tw.ino_nodup t 0
  have hpi : Tw.pos t 0 k < (Tw.ino t 0).length := by rw [hl]; exact hp
  rw [List.getElem?_eq_getElem hpi] at hv
  have hv' := Option.some.inj hv
  refine placeL_hit (by rw [List.length_map]; exact hpi) (by rw [List.getElem_map, hv']) ?_
  intro j hj hjp e
  rw [List.length_map] at hj
  rw [List.getElem_map] at e
  rw [List.Nodup, List.pairwise_iff_getElem] at hn
  exact hn j _ hj hpi hjp (by rw [hv']; omega)
theorem bin_row {l : List Int} (h : rowB l = true) : binOut (hwO l).data.toList = Tw.arms (Tw.row l) 0 ∧ stackOut (hwO l).data.toList = (Tw.ino (Tw.row l) 0).map (fun (i : Nat) => (i : Int)) ∧ valid (hwO l).data.toList = true ∧ (hwO l).size = 2 * l.length := by
  have h8 := ((rowB_iff l).mp h).1
  have e : (hwO l).data.toList = (Tw.row l).lst := by rw [hwO, if_pos h]; rfl
  have hl := Tw.lst_length (Tw.row l)
  rw [Tw.row_size] at hl
  have hs := Tw.lst_scan (Tw.row l)
  have hv := of_scan hs (by omega)
  refine ⟨?_, ?_, by rw [e]; exact hv, by rw [hwO, if_pos h, hwS_size]⟩
  · rw [e, binOut, if_pos hv, Tw.binL_lst _ _ _ (by omega)]
  · rw [e, stackOut, if_pos hv, stackL_btw _ hs, Tw.btwP_lst _ _ _ (Nat.le_refl _)]
/-- what the law asks of a node and an arm -/
theorem top_row {l : List Int} (h : rowB l = true) (k j x : Nat) (hk : k < l.length) (hj : j < 2) (hx : ((Tw.arms (Tw.row l) 0).getD k []).getD j 0 = (x : Int)) :
    ∃ p q : Nat, p < l.length ∧ q < l.length ∧ placeL ((Tw.ino (Tw.row l) 0).map fun (i : Nat) => (i : Int)) (x : Int) = (p : Int) ∧ placeL ((Tw.ino (Tw.row l) 0).map fun (i : Nat) => (i : Int)) (k : Int) = (q : Int) ∧ l.getD q 0 < l.getD p 0 := by
  have hn := ((rowB_iff l).mp h).2.2
  have hs := Tw.row_size l
  obtain ⟨_, h2, h3⟩ := Tw.heap_top l.length l (Nat.le_refl _) hn 0 k j x (Nat.zero_le _) (by omega) hj (by rw [Nat.sub_zero]; exact hx)
  have px := Tw.pos_lt (Tw.row l) 0 x (Nat.zero_le _) (by omega)
  have pk := Tw.pos_lt (Tw.row l) 0 k (Nat.zero_le _) (by omega)
  exact ⟨_, _, by omega, by omega, place_ino _ x (by omega), place_ino _ k (by omega), h3⟩
theorem arms_two : ∀ (t : Tw) (m : Nat), ∀ r ∈ Tw.arms t m, r.length = 2
  | .e, _, r, h => by cases h
  | .n a b, m, r, h => by
    rw [Tw.arms] at h
    rcases List.mem_cons.mp h with h | h
    · subst h; rfl
    · rcases List.mem_append.mp h with h | h
      · exact arms_two a _ r h
      · exact arms_two b _ r h

set_option maxRecDepth 100000 in
set_option maxHeartbeats 3200000 in
theorem fnHeapWord_law (PV : RowFn 15 (vB rowB)) (PW : RowFn 22 (vT hwO)) (a : Option Addr) (len cap : Nat) (zs : List Int) (w : World) (hr0 : IsRow .u8 w a len cap zs) :
    Calls Try.prog 5 #[.slice a len cap] w fun e w' => e = .returned (.bool true) ∧ Below w.heap.size w w' := by
  have hr := Lib.hid hr0
  clear hr0
  by_cases hbig : (1048576 : Int) < (len : Int)
  · go_enter Try.func5, Try.ntmps5
    go_wp2
    go_ret
    exact ⟨rfl, Below.refl _ _⟩
  · go_enter Try.func5, Try.ntmps5
    go_wp2_with fail
    refine (drawHeapWord a len cap zs w hr (by omega)).mono ?_
    rintro e w1 ⟨v, l, rfl, o, hl9, hb⟩
    obtain ⟨av, cv, rfl, _, hcv, _, _⟩ := o.slice
    rw [iv_length] at o hcv ⊢
    have B1 := Lib.hid hb
    have R1 := Lib.hid (own_rd o)
    have CP := Lib.hid (fun (w : World) (H : Nat) (h1 : Hid (RdI w H av l)) h2 => PW l av cv w H h1 h2 (by omega) hcv)
    have CV := Lib.hid (fun (w : World) (H : Nat) (h1 : Hid (RdI w H av l)) h2 => PV l av cv w H h1 h2 (by omega) hcv)
    have CS := Lib.hid (fun (w : World) (H : Nat) (h1 : Hid (RdI w H av l)) h2 => specHeapWord_fn l av cv w H h1 h2 (by omega) hcv)
    simp only [vB, vT] at CP CS CV
    cases hrb : rowB l with
    | false =>
      rw [hrb] at CV
      obtain ⟨T, hT⟩ : ∃ T, T = hwO l := ⟨_, rfl⟩
      rw [← hT] at CP CS
      have q1 : (T.toList == T.toList) = true := beq_self_eq_true _
      clear o hb hr hl9 hcv PV PW hrb hT
      go_wp2_with fail
      refine (CP.out w1 _ R1 (Nat.le_refl _)).mono ?_
      rintro e w2 ⟨rfl, b2⟩
      have B2 := Lib.hid b2
      clear b2
      go_wp2_with fail
      refine (CS.out w2 _ (Lib.hid (R1.out.below B2.out)) B2.out.size).mono ?_
      rintro e w3 ⟨rfl, b3⟩
      have B3 := Lib.hid (B2.out.trans (b3.mono B2.out.size))
      clear b3
      go_wp2_with fail
      refine (CV.out w3 _ (Lib.hid (R1.out.below B3.out)) B3.out.size).mono ?_
      rintro e w4 ⟨rfl, b4⟩
      have B4 := Lib.hid (B3.out.trans (b4.mono B3.out.size))
      clear b4
      go_wp2_with fail
      refine (CS.out w4 _ (Lib.hid (R1.out.below B4.out)) B4.out.size).mono ?_
      rintro e w5 ⟨rfl, b5⟩
      have B5 := Lib.hid (B4.out.trans (b5.mono B4.out.size))
      go_wp2
      go_ret
      exact ⟨rfl, B1.out.trans (B5.out.mono B1.out.size)⟩
    | true =>
      rw [hrb] at CV
      obtain ⟨e1, e2, e3, e4⟩ := bin_row hrb
      have HTOP := Lib.hid (fun k j x hk hj hx => top_row hrb k j x hk hj hx)
      have H2 := Lib.hid (arms_two (Tw.row l) 0)
      have hal := Tw.arms_length (Tw.row l) 0
      rw [Tw.row_size] at hal
      obtain ⟨T, hT⟩ : ∃ T, T = hwO l := ⟨_, rfl⟩
      rw [← hT] at CP CS e1 e2 e3 e4
      have hsm : T.size ≤ maxLen := by unfold maxLen; omega
      have CB := Lib.hid (fun w => implBinOf_any T w hsm)
      have CO := Lib.hid (fun w => implBetweenOf_any T w hsm)
      rw [e1] at CB
      rw [e2] at CO
      obtain ⟨L, hL⟩ : ∃ L, L = Tw.arms (Tw.row l) 0 := ⟨_, rfl⟩
      obtain ⟨O, hO⟩ : ∃ O, O = (Tw.ino (Tw.row l) 0).map (fun (i : Nat) => (i : Int)) := ⟨_, rfl⟩
      have hol : O.length = l.length := by rw [hO, List.length_map, Tw.ino_length, Tw.row_size]
      rw [← hL] at CB hal HTOP H2
      rw [← hO] at CO HTOP
      have HVT := Lib.hid e3
      have q1 : (T.toList == T.toList) = true := beq_self_eq_true _
      obtain ⟨n, hn⟩ : ∃ n, n = l.length := ⟨_, rfl⟩
      have HN := Lib.hid hn
      rw [← hn] at CP CS CV hal HTOP e4 hol hcv hl9 ⊢
      have HAL := Lib.hid hal
      have HOL := Lib.hid hol
      have hn10 : n ≤ 10 := hl9
      have ew : IntKind.i64.wrap (2 * (n : Int)) = (T.size : Int) := by rw [IntKind.wrap_i64]; omega
      have q5 : ((T.size : Int) == (T.size : Int)) = true := beq_self_eq_true _
      clear o hb hr PV PW hrb hT hL hO hn e1 e2 e3 e4 hal hol hl9 hcv
      go_wp2_with fail
      refine (CP.out w1 _ R1 (Nat.le_refl _)).mono ?_
      rintro e w2 ⟨rfl, b2⟩
      have B2 := Lib.hid b2
      clear b2
      go_wp2_with fail
      refine (CS.out w2 _ (Lib.hid (R1.out.below B2.out)) B2.out.size).mono ?_
      rintro e w3 ⟨rfl, b3⟩
      have B3 := Lib.hid (B2.out.trans (b3.mono B2.out.size))
      clear b3
      go_wp2_with fail
      refine (CV.out w3 _ (Lib.hid (R1.out.below B3.out)) B3.out.size).mono ?_
      rintro e w4 ⟨rfl, b4⟩
      have B4 := Lib.hid (B3.out.trans (b4.mono B3.out.size))
      clear b4 CP CS CV
      go_wp2_with fail
      refine (CB.out w4).mono ?_
      rintro e w5 ⟨vr, RV, rfl, g, b5⟩
      have B5 := Lib.hid (B4.out.trans (b5.mono B4.out.size))
      have G5 := Lib.hid g.grid
      clear g b5 CB
      go_wp2_with fail
      refine (CO.out w5).mono ?_
      rintro e w6 ⟨vo, rfl, oo, b6⟩
      have B6 := Lib.hid (B5.out.trans (b6.mono B5.out.size))
      have G6 := Lib.hid (G5.out.below b6)
      have z6 := Lib.hid b6.size
      have O6 := Lib.hid oo
      clear oo b6 CO G5
      obtain ⟨ar, cr, rfl⟩ := grid_val G6.out
      rw [HAL.out] at G6 ⊢
      have K0 : Hid (Below w6.heap.size w6 w6) := Below.refl _ _
      go_wp2
      go_loopw [7] (fun i wr => ∃ K : Nat, K ≤ n ∧ i = .int .i64 K ∧ Hid (Below w6.heap.size w6 wr)) (fun i _ => n - (intOf i).toNat)
      case atStart => exact ⟨0, Nat.zero_le _, rfl, K0⟩
      case round =>
        clear K0
        obtain ⟨K, hK, rfl, HW⟩ := hrel
        by_cases hlt : K < n
        · have b1 : (K : Int) < (n : Int) := by omega
          go_wp2
          go_loopw [8] (fun j wr => ∃ J : Nat, J ≤ 2 ∧ j = .int .i64 J ∧ Hid (Below w6.heap.size w6 wr)) (fun j _ => 2 - (intOf j).toNat)
          case atStart => exact ⟨0, Nat.zero_le _, rfl, HW⟩
          case round =>
            clear HW
            obtain ⟨J, hJ, rfl, HW⟩ := hrel
            by_cases hj2 : J < 2
            · have b2 : (J : Int) < 2 := by omega
              have hKL : K < L.length := by rw [HAL.out]; exact hlt
              have h2 : (L.getD K []).length = 2 := by
                rw [List.getD_eq_getElem?_getD, List.getElem?_eq_getElem hKL]
                exact H2.out _ (List.getElem_mem hKL)
              have g6 := G6.out.below (HW.out.mono z6.out)
              rw [← HAL.out] at g6
              obtain ⟨g1, cap1, g2, c2, hv, h1, h3, h4⟩ := grid_row g6 K hKL h2
              obtain ⟨x, hx⟩ : ∃ x, (L.getD K [])[J]? = some x := ⟨_, List.getElem?_eq_getElem (by rw [h2]; exact hj2)⟩
              have hxd : (L.getD K []).getD J 0 = x := by rw [List.getD_eq_getElem?_getD, hx]; rfl
              have hcell : wr.cell? ⟨g2, J, none⟩ = some (.int .i64 x) := by
                have e : J = 0 ∨ J = 1 := by omega
                rcases e with rfl | rfl
                · rw [h3, armA, List.getD_eq_getElem?_getD, hx]; rfl
                · rw [h4, armB, List.getD_eq_getElem?_getD, hx]; rfl
              have HT := Lib.hid (fun y => HTOP.out K J y hlt hj2)
              rw [hxd] at HT
              simp only [Value.slice.injEq] at hv
              obtain ⟨rfl, _, rfl⟩ := hv
              clear g6 h3 h4 hx hxd h2 hKL
              by_cases hx0 : 0 ≤ x
              · obtain ⟨y, rfl⟩ : ∃ y : Nat, x = (y : Int) := ⟨x.toNat, by omega⟩
                obtain ⟨P, Q, hP, hQ, eP, eQ, hPQ⟩ := HT.out y rfl
                have HR := Lib.hid (R1.out.below (B6.out.trans (HW.out.mono B6.out.size)))
                obtain ⟨b, off, rfl, _, gP⟩ := HR.out P (by have := HN.out; omega)
                have gQ := rd_at HR.out Q (by have := HN.out; omega)
                rw [getD_at _ _ (by have := HN.out; omega), getD_at _ _ (by have := HN.out; omega)] at hPQ
                obtain ⟨u, hu⟩ : ∃ u, u = l[P]'(by have := HN.out; omega) := ⟨_, rfl⟩
                obtain ⟨z, hz⟩ : ∃ z, z = l[Q]'(by have := HN.out; omega) := ⟨_, rfl⟩
                rw [← hu] at gP hPQ
                rw [← hz] at gQ hPQ
                have m1 : decide (u ≤ z) = false := decide_eq_false (by omega)
                have d0 : decide ((0 : Int) ≤ (y : Int)) = true := decide_eq_true (by omega)
                have p1 : (P : Int) < (n : Int) := by omega
                have p2 : (Q : Int) < (n : Int) := by omega
                have CP1 : Hid (∀ q, Calls Try.prog 26 #[vo, .int .i64 (y : Int)] (wr.drewN q) fun e w' => e = .returned (.int .i64 (P : Int)) ∧ ∃ m, w' = (wr.drewN q).drewN m) := fun q => by
                  have := placeOf_any O vo (y : Int) (wr.drewN q) (Lib.hid (O6.out.below (HW.out.trans (below_drew _ _ q)))) (by rw [HOL.out]; omega)
                  rw [eP] at this
                  exact this.mono fun e w' h => ⟨h.1, 0, h.2.symm⟩
                have CP2 : Hid (∀ q, Calls Try.prog 26 #[vo, .int .i64 (K : Int)] (wr.drewN q) fun e w' => e = .returned (.int .i64 (Q : Int)) ∧ ∃ m, w' = (wr.drewN q).drewN m) := fun q => by
                  have := placeOf_any O vo (K : Int) (wr.drewN q) (Lib.hid (O6.out.below (HW.out.trans (below_drew _ _ q)))) (by rw [HOL.out]; omega)
                  rw [eQ] at this
                  exact this.mono fun e w' h => ⟨h.1, 0, h.2.symm⟩
                have HBW : Hid (∀ q, Below w6.heap.size w6 (wr.drewN q)) := fun q => HW.out.trans (below_drew _ _ q)
                clear eP eQ hu hz hPQ HT HW HR hx0 hP hQ
                go_wp2_with fail
                go_quiet (first
                  | (go_at_call_of 26 y; exact Calls.quiet_of (CP1.out _))
                  | (go_at_call_of 26 K; exact Calls.quiet_of (CP2.out _)))
                go_wp2
                go_roundw
                case rel => exact ⟨J + 1, by omega, by go_num, HBW.out _⟩
                case measure => simp [intOf]; omega
              · have d0 : decide (0 ≤ x) = false := decide_eq_false hx0
                have HBW : Hid (∀ q, Below w6.heap.size w6 (wr.drewN q)) := fun q => HW.out.trans (below_drew _ _ q)
                clear HT HW
                go_wp2_with fail
                go_quiet (fail)
                go_wp2
                go_roundw
                case rel => exact ⟨J + 1, by omega, by go_num, HBW.out _⟩
                case measure => simp [intOf]; omega
            · obtain rfl : J = 2 := by omega
              go_wp2
              go_roundw
              case rel => exact ⟨K + 1, by omega, by go_num, HW⟩
              case measure => simp [intOf]; omega
        · obtain rfl : K = n := by omega
          have b1 : ¬ (K : Int) < (K : Int) := by omega
          have CVW := Lib.hid (implValid_is true T wr hsm HVT)
          go_wp2_with fail
          refine CVW.out.mono ?_
          rintro e w7 ⟨rfl, b7⟩
          have B7 := Lib.hid (HW.out.trans (b7.mono HW.out.size))
          clear b7
          go_wp2
          go_ret
          exact ⟨rfl, B1.out.trans ((B6.out.trans (B7.out.mono B6.out.size)).mono B1.out.size)⟩
end Go.Proofs.Ytooplolalbcmjaa
