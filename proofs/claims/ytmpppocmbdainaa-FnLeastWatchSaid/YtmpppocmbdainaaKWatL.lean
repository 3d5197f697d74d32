/-
  The walk of the law of watchers, with the program's functions as premises.
-/
import Derived.Test.YtmpppocmbdainaaKWgtL
import Derived.Test.YtmpppocmbdainaaCCntE
namespace Go.Proofs.Ytmpppocmbdainaa
open Go.RowKit

theorem max_there : ∀ {L : List Nat}, L ≠ [] → ∃ K, K ∈ L ∧ ∀ x ∈ L, x ≤ K
  | [], h => absurd rfl h
  | [a], _ => ⟨a, by simp, fun x hx => by simp at hx; omega⟩
  | a :: b :: r, _ => by
    obtain ⟨K, h1, h2⟩ := max_there (L := b :: r) (by simp)
    by_cases h : a ≤ K
    · exact ⟨K, List.mem_cons_of_mem _ h1, fun x hx => by
        rcases List.mem_cons.1 hx with e | hx
        · omega
        · exact h2 x hx⟩
    · exact ⟨a, List.mem_cons_self .., fun x hx => by
        rcases List.mem_cons.1 hx with e | hx
        · omega
        · have := h2 x hx; omega⟩
set_option maxHeartbeats 3200000 in
set_option maxRecDepth 100000 in
theorem fnLeastWatch_law (PF : TreeFn 23 (treeV leastN)) (PP : TreeFn 13 (treeV pairsN)) (a : Option Addr) (len cap : Nat) (zs : List Int) (w : World) (hr0 : IsRow .u8 w a len cap zs) :
    Calls Try.prog 6 #[.slice a len cap] w fun e w' => e = .returned (.bool true) ∧ Below w.heap.size w w' := by
  have hr := Lib.hid hr0
  clear hr0
  by_cases hbig : (1048576 : Int) < (len : Int)
  · go_enter Try.func6, Try.ntmps6
    go_wp2
    go_ret
    exact ⟨rfl, Below.refl _ _⟩
  · go_enter Try.func6, Try.ntmps6
    go_wp2_with fail
    refine (drawLeastWatch a len cap zs w hr (by omega)).mono ?_
    rintro e w1 ⟨n, rows, v, RV, rfl, g1, hn, hl, hr2, b1⟩
    have hwf : (Lit.int .i64 n).wf = true := wf_smallC n (by omega)
    have G1 := Lib.hid g1
    have B1 := Lib.hid b1
    have hrs : ∀ r ∈ rows, r.length ≤ 1048576 := fun r h => by rw [hr2 r h]; decide
    have hrl : rows.length ≤ 1048576 := by omega
    have CF := PF.at_ hrl hrs hwf
    have CS := specLeastWatch_any.at_ hrl hrs hwf
    have CE := PP.at_ hrl hrs hwf
    have CD := Lib.hid (fun (v : Value) (RV : List Value) (w : World) (B0 H0 : Nat) (hG : Hid (Grid w B0 H0 v RV rows)) hH => degreesOf_p n rows v RV w B0 H0 hG hH hrl hrs hwf)
    obtain ⟨av, cv, rfl, _, _, _, _⟩ := g1.1.slice
    have s01 := b1.size
    have r0 : Hid (w1.heap.size ≤ w1.heap.size) := Nat.le_refl _
    rcases treeV_or n rows with hno | ⟨N, rfl, hT, hre, hyes⟩
    · simp only [hno] at CF CS
      clear g1 b1 hr hrs hl hr2 hn hwf hno PF PP CE CD
      go_wp2_with fail
      refine (CF.out _ RV w1 _ _ G1 r0.out).mono ?_
      rintro e w2 ⟨rfl, b2⟩
      have G2 := Lib.hid (G1.out.below b2)
      have B2 := Lib.hid (B1.out.trans (b2.mono s01))
      have S12 := Lib.hid b2.size
      clear b2 CF
      go_wp2_with fail
      refine (CS.out _ RV w2 _ _ G2 S12.out).mono ?_
      rintro e w3 ⟨rfl, b3⟩
      have G3 := Lib.hid (G2.out.below (b3.mono S12.out))
      have B3 := Lib.hid (B2.out.trans (b3.mono (Nat.le_trans s01 S12.out)))
      have S13 := Lib.hid (Nat.le_trans S12.out b3.size)
      clear b3 G2 B2 S12
      go_wp2_with fail
      refine (CS.out _ RV w3 _ _ G3 S13.out).mono ?_
      rintro e w6 ⟨rfl, b6⟩
      have B6 := Lib.hid (B3.out.trans (b6.mono (Nat.le_trans s01 S13.out)))
      clear b6
      go_wp2
      go_ret
      exact ⟨rfl, B6.out⟩
    · simp only [hyes] at CF CS CE
      have h7 := hT.h7
      have h1 : 0 < N := by have := hT.v.len; omega
      have htb : treeB (N : Int) rows = true := by
        cases ht : treeB (N : Int) rows with
        | true => rfl
        | false =>
          have := hyes fun _ _ => 0
          rw [treeV, if_neg (by rw [ht]; decide)] at this
          simp at this
      have hdeg : degOut (N : Int) rows = ((List.range N).map (deg (edgesR rows))).map fun (k : Nat) => (k : Int) := by rw [degOut, if_pos htb, Int.toNat_natCast]
      obtain ⟨K, hK1, hK2⟩ := max_there (L := (List.range N).map (deg (edgesR rows))) (by intro e; have := congrArg List.length e; simp at this; omega)
      have hfac := least_facts hT.v hT.h7 (D := K) fun v hv => hK2 _ (List.mem_map.2 ⟨v, List.mem_range.2 hv, rfl⟩)
      have hk6 : K ≤ 12 := by
        obtain ⟨v, _, hv⟩ := List.mem_map.1 hK1
        have := hT.nb12 v
        rw [nb_deg hT.ord] at this
        omega
      have HKA : Hid (∀ x ∈ degOut (N : Int) rows, 0 ≤ x ∧ x ≤ (K : Int)) := fun x hx => by
        rw [hdeg] at hx
        obtain ⟨y, hy, rfl⟩ := List.mem_map.1 hx
        have := hK2 y hy
        omega
      have HKB : Hid ((K : Int) ∈ degOut (N : Int) rows) := by
        show _ ∈ _
        rw [hdeg]; exact List.mem_map.2 ⟨K, hK1, rfl⟩
      have hdl : (degOut (N : Int) rows).length ≤ 64 := degOut_le _ _
      have hz7 : leastN N (edgesR rows) ≤ N := lst_le N (edgesR rows) _
      obtain ⟨p, hp⟩ : ∃ p, p = pairsN N (edgesR rows) := ⟨_, rfl⟩
      rw [← hp] at CE
      have hpe : pairsN N (edgesR rows) = (pairF (edgesR rows) 14 0 (-1)).1 := rfl
      rw [← hpe, ← hp] at hfac
      obtain ⟨dl, hdl2⟩ : ∃ dl, dl = degOut (N : Int) rows := ⟨_, rfl⟩
      rw [← hdl2] at HKA HKB hdl
      simp only [← hdl2] at CD
      clear hpe hdl2
      obtain ⟨z, hz⟩ : ∃ z, z = leastN N (edgesR rows) := ⟨_, rfl⟩
      rw [← hz] at CF CS hfac hz7
      obtain ⟨k1, k2, k3⟩ := hfac
      have hm : z * (K + 1) ≤ 7 * 13 := Nat.mul_le_mul (by omega) (by omega)
      obtain ⟨q, hq⟩ : ∃ q, q = z * (K + 1) := ⟨_, rfl⟩
      rw [← hq] at k2 hm
      have e1 : IntKind.i64.wrap ((K : Int) + 1) = (K : Int) + 1 := by rw [IntKind.wrap_i64]; omega
      have e2 : IntKind.i64.wrap ((z : Int) * ((K : Int) + 1)) = (q : Int) := by
        have : (z : Int) * ((K : Int) + 1) = (q : Int) := by rw [hq]; push_cast; rfl
        rw [this, IntKind.wrap_i64]; omega
      have f3 : (1 : Int) ≤ (z : Int) := by omega
      have f4 : (N : Int) ≤ (q : Int) := by omega
      clear hq
      have f1 : ((z : Int) == (z : Int)) = true := beq_self_eq_true _
      have f2 : ¬ (z : Int) < 0 := by omega
      clear g1 b1 hr hrs hl hr2 hn hwf hyes hT hre hz PF PP hp hdeg hK1 hK2 htb
      go_wp2_with fail
      refine (CF.out _ RV w1 _ _ G1 r0.out).mono ?_
      rintro e w2 ⟨rfl, b2⟩
      have G2 := Lib.hid (G1.out.below b2)
      have B2 := Lib.hid (B1.out.trans (b2.mono s01))
      have S12 := Lib.hid b2.size
      clear b2 CF
      go_wp2_with fail
      refine (CS.out _ RV w2 _ _ G2 S12.out).mono ?_
      rintro e w3 ⟨rfl, b3⟩
      have G3 := Lib.hid (G2.out.below (b3.mono S12.out))
      have B3 := Lib.hid (B2.out.trans (b3.mono (Nat.le_trans s01 S12.out)))
      have S13 := Lib.hid (Nat.le_trans S12.out b3.size)
      clear b3 G2 B2 S12 CS
      go_wp2_with fail
      refine (CD.out _ RV w3 _ _ G3 S13.out).mono ?_
      rintro e w4 ⟨y, rfl, hy, b4⟩
      have HY := Lib.hid hy
      have G4 := Lib.hid (G3.out.below (b4.mono S13.out))
      have B4 := Lib.hid (B3.out.trans (b4.mono (Nat.le_trans s01 S13.out)))
      have S14 := Lib.hid (Nat.le_trans S13.out b4.size)
      clear hy b4 CD G3 B3 S13
      go_wp2_with fail
      refine (greatest_any dl K y w4 HY hdl HKA HKB).mono ?_
      rintro e wx ⟨rfl, rfl⟩
      clear HY HKA HKB
      by_cases h2 : N < 2
      · have f5 : (N : Int) < 2 := by omega
        clear k1 k2 k3
        go_wp2
        go_ret
        exact ⟨(by first | rfl | (simp [f4, f5]; done)), B4.out⟩
      · have f5 : ¬ (N : Int) < 2 := by omega
        have f6 : (z : Int) ≤ (p : Int) := by have := k3 (by omega); omega
        clear k1 k2 k3
        go_wp2_with fail
        refine (CE.out _ RV w4 _ _ G4 S14.out).mono ?_
        rintro e w5 ⟨rfl, b5⟩
        have B5 := Lib.hid (B4.out.trans (b5.mono (Nat.le_trans s01 S14.out)))
        clear b5
        go_wp2
        go_ret
        exact ⟨(by first | rfl | (simp [f4, f6]; done)), B5.out⟩
end Go.Proofs.Ytmpppocmbdainaa
