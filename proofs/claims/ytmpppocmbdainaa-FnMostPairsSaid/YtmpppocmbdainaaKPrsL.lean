/-
  The walk of the law that pairs are found one by one, with the program's functions as premises.
-/
import Derived.Test.YtmpppocmbdainaaKCntL
import Derived.Test.YtmpppocmbdainaaCPlace
namespace Go.Proofs.Ytmpppocmbdainaa
open Go.RowKit

theorem diffK_le1 (l : List Int) (k : Nat) : diffK l (k + 1) ≤ diffK l k + 1 := by rw [diffK]; split <;> omega
theorem diffK_all (l : List Int) : ∀ k, k ≤ l.length → diffK l k = k → (l.take k).Nodup := by
  intro k
  induction k with
  | zero => intro _ _; simp
  | succ k ih =>
    intro hk h
    have h1 := diffK_le l k
    rw [diffK] at h
    by_cases hm : l.getD k 0 ∈ l.take k
    · rw [if_pos hm] at h; omega
    · rw [if_neg hm] at h
      have h2 := ih (by omega) (by omega)
      have hkl : k < l.length := by omega
      rw [List.take_succ_eq_append_getElem hkl, List.nodup_append]
      refine ⟨h2, by simp, fun a ha b hb e => ?_⟩
      simp only [List.mem_singleton] at hb
      subst hb
      rw [List.getD_eq_getElem?_getD, List.getElem?_eq_getElem hkl] at hm
      exact hm (by rw [← e]; exact ha)
def natL (L : List Nat) : List Int := L.map fun (x : Nat) => (x : Int)
theorem natL_ints (L : List Nat) : iv (natL L) = ints L := by simp [iv, natL, ints]
theorem natL_len (L : List Nat) : (natL L).length = L.length := by simp [natL]
theorem natL_nodup (L : List Nat) : (natL L).Nodup ↔ L.Nodup := by
  unfold natL
  constructor
  · exact fun h => List.Pairwise.of_map (fun (x : Nat) => (x : Int)) (fun a b q e => q (by rw [e])) h
  · intro h
    rw [List.Nodup, List.pairwise_map]
    exact h.imp fun q e => q (by omega)
/-- are all numbers of a list different -/
def diffB (L : List Nat) : Bool := decide (diffK (natL L) (natL L).length = L.length)
theorem diffB_iff (L : List Nat) : diffB L = true ↔ L.Nodup := by
  unfold diffB
  rw [decide_eq_true_eq, ← natL_nodup]
  constructor
  · intro h
    have := diffK_all (natL L) (natL L).length (Nat.le_refl _) (by rw [h, natL_len])
    rwa [List.take_length] at this
  · intro h
    rw [diffK_nodup _ h _ (Nat.le_refl _), natL_len]
def pairB (E : Edges) (s : Nat) : Bool := diffB (ends (pckE E s E.length))
theorem ends_snoc (M : Edges) (e : Nat × Nat) : ends (M ++ [e]) = ends M ++ [e.1, e.2] := by simp [ends]
theorem cell_two_new (w : World) (x y : Value) (t : TypeId) : ∀ j u, [x, y][j]? = some u → (w.alloc (.cells #[x, y] t)).cell? ((⟨w.heap.size, 0, none⟩ : Addr).add j) = some u := by
  intro j u hj
  match j, hj with
  | 0, hj => simp at hj; subst hj; simp [Addr.add]
  | 1, hj => simp at hj; subst hj; simp [Addr.add]
theorem one_two (a b : Int) : ∀ u ∈ [Value.int .i64 a, Value.int .i64 b], u.oneCell' = true := by
  intro u hu
  simp only [List.mem_cons, List.not_mem_nil, or_false] at hu
  rcases hu with rfl | rfl <;> rfl
theorem Ils.app2 {w0 w w1 : World} {B g m c g5 c5 x y : Nat} {L : List Nat} (h : Ils w0 w B g m c L) (hB : B ≤ w.heap.size)
    (hv : w1.ownsRow B 3 1 (.slice (some ⟨g5, 0, none⟩) (m + 2) c5) (m + 2) (ints L ++ [.int .i64 (x : Int), .int .i64 (y : Int)])) (hg : (w.alloc (.cells #[.int .i64 (x : Int), .int .i64 (y : Int)] 3)).grownBy w1 (Value.slice (some ⟨g, 0, none⟩) m c).ownBlock) :
    Ils w0 w1 B g5 (m + 2) c5 (L ++ [x, y]) := by
  refine ⟨by rw [List.length_append, h.len]; rfl, ?_, (h.below.alloc hB _).grown hg (by simp; omega) (fun q hq => (h.own.lt q hq.symm.symm).1)⟩
  have e : ints (L ++ [x, y]) = ints L ++ [.int .i64 (x : Int), .int .i64 (y : Int)] := by simp [ints]
  rw [e]
  exact hv
theorem pck_le (E : Edges) (s k : Nat) : (ends (pckE E s k)).length ≤ 2 * k := by
  rw [ends_length]
  unfold pckE
  rw [List.length_map]
  have := pop_le s k
  rw [pop_len] at this
  omega
set_option maxHeartbeats 3200000 in
set_option maxRecDepth 100000 in
theorem fnMostPairs_law (PF : TreeFn 13 (treeV pairsN)) (a : Option Addr) (len cap : Nat) (zs : List Int) (w : World) (hr0 : IsRow .u8 w a len cap zs) :
    Calls Try.prog 5 #[.slice a len cap] w fun e w' => e = .returned (.bool true) ∧ Below w.heap.size w w' := by
  have hr := Lib.hid hr0
  clear hr0
  by_cases hbig : (1048576 : Int) < (len : Int)
  · go_enter Try.func5, Try.ntmps5
    go_wp2
    go_ret
    exact ⟨rfl, Below.refl _ _⟩
  · go_enter Try.func5, Try.ntmps5
    go_wp2_with fail
    refine (drawMostPairs a len cap zs w hr (by omega)).mono ?_
    rintro e w1 ⟨n, rows, v, RV, rfl, g1, hn, hl, hr2, b1⟩
    have hwf : (Lit.int .i64 n).wf = true := wf_smallC n (by omega)
    have G1 := Lib.hid g1
    have B1 := Lib.hid b1
    have hrs : ∀ r ∈ rows, r.length ≤ 1048576 := fun r h => by rw [hr2 r h]; decide
    have hrl : rows.length ≤ 1048576 := by omega
    have CF := PF.at_ hrl hrs hwf
    have CS := specMostPairs_any.at_ hrl hrs hwf
    obtain ⟨av, cv, rfl, _, _, _, _⟩ := g1.1.slice
    have s01 := b1.size
    have r0 : Hid (w1.heap.size ≤ w1.heap.size) := Nat.le_refl _
    rcases treeV_or n rows with hno | ⟨N, rfl, hT, hre, hyes⟩
    · simp only [hno] at CF CS
      clear g1 b1 hr hrs hl hr2 hn hwf hno PF
      go_wp2_with fail
      refine (CF.out _ RV w1 _ _ G1 r0.out).mono ?_
      rintro e w2 ⟨rfl, b2⟩
      have G2 := Lib.hid (G1.out.below b2)
      have B2 := Lib.hid (B1.out.trans (b2.mono s01))
      have S12 := Lib.hid b2.size
      clear b2 CF
      go_wp2_with fail
      refine (CS.out _ RV w2 _ _ G2 S12.out).mono ?_
      rintro e w3 ⟨rfl, b3⟩
      have G3 := Lib.hid (G2.out.below (b3.mono S12.out))
      have B3 := Lib.hid (B2.out.trans (b3.mono (Nat.le_trans s01 S12.out)))
      have S13 := Lib.hid (Nat.le_trans S12.out b3.size)
      clear b3 G2 B2 S12
      go_wp2_with fail
      refine (CS.out _ RV w3 _ _ G3 S13.out).mono ?_
      rintro e w6 ⟨rfl, b6⟩
      have B6 := Lib.hid (B3.out.trans (b6.mono (Nat.le_trans s01 S13.out)))
      clear b6
      go_wp2
      go_ret
      exact ⟨rfl, B6.out⟩
    · simp only [hyes] at CF CS
      have h7 := hT.h7
      have h1 : 0 < N := by have := hT.v.len; omega
      have hel := hT.len
      have hmx : mxF (pairB (edgesR rows)) (fun s => popN s (edgesR rows).length) (2 ^ (edgesR rows).length) = pairsN N (edgesR rows) := by
        obtain ⟨m1, s, m2, m3, m4⟩ := pairs_bits hT.v hT.h7
        refine mxF_is (fun s _ hs => ?_) ⟨s, m2, (diffB_iff _).2 m3, by rw [pop_len]; exact m4⟩
        rw [pop_len]
        exact m1 s ((diffB_iff _).1 hs)
      have HMX := Lib.hid hmx
      have h2n : 2 * pairsN N (edgesR rows) ≤ N := (aln_facts hT.v hT.h7).2
      obtain ⟨E, hE⟩ : ∃ E, E = edgesR rows := ⟨_, rfl⟩
      have HRE : Hid (rows = rowsE E) := by show _ = _; rw [hE]; exact hre
      have HRV : Hid (RV.length = E.length) := by show _ = _; rw [g1.2.1, HRE.out, rowsE_len]
      rw [← hE] at HMX hel h2n CF CS
      clear hmx
      obtain ⟨z, hz⟩ : ∃ z, z = pairsN N E := ⟨_, rfl⟩
      rw [← hz] at CF CS HMX h2n
      have f1 : ((z : Int) == (z : Int)) = true := beq_self_eq_true _
      have f2 : ¬ (z : Int) < 0 := by omega
      clear g1 b1 hr hrs hl hr2 hn hwf hyes hT hre hz PF hE
      go_wp2_with fail
      refine (CF.out _ RV w1 _ _ G1 r0.out).mono ?_
      rintro e w2 ⟨rfl, b2⟩
      have G2 := Lib.hid (G1.out.below b2)
      have B2 := Lib.hid (B1.out.trans (b2.mono s01))
      have S12 := Lib.hid b2.size
      clear b2 CF
      go_wp2_with fail
      refine (CS.out _ RV w2 _ _ G2 S12.out).mono ?_
      rintro e w3 ⟨rfl, b3⟩
      have G3 := Lib.hid (G2.out.below (b3.mono S12.out))
      have B3 := Lib.hid (B2.out.trans (b3.mono (Nat.le_trans s01 S12.out)))
      have S13 := Lib.hid (Nat.le_trans S12.out b3.size)
      clear b3 G2 B2 S12 CS
      have hp8 : 2 ^ E.length ≤ 64 := Nat.pow_le_pow_right (by decide) hel
      have CP := Lib.hid (fun W => pow2L_any E.length W (by omega))
      have CB := Lib.hid (fun (s : Nat) W (hs : s < 2 ^ E.length) => bitsOfP_any s E.length W hs (by omega))
      have DIF := Lib.hid (fun (L : List Nat) (hL : L.length ≤ 64) (v : Value) (W : World) (B H : Nat) (hv : Hid (Own W B H 3 v (iv (natL L)))) => different_any (natL L) v W hv (by rw [natL_len]; omega))
      have G3e := Lib.hid G3.out
      rw [HRE.out] at G3e
      have HED : Hid (∀ (W : World), Below w3.heap.size w3 W → ∀ (i : Nat) (hi : i < E.length), ∃ ga gr cr, av = some ⟨ga, 0, none⟩ ∧ W.cell? ⟨ga, i, none⟩ = some (.slice (some ⟨gr, 0, none⟩) 2 cr) ∧ W.cell? ⟨gr, 0, none⟩ = some (.int .i64 (E[i].1 : Int)) ∧ W.cell? ⟨gr, 1, none⟩ = some (.int .i64 (E[i].2 : Int))) := fun W hW i hi => by
        obtain ⟨ga, c', gr, cr, e1, _, _, _, _, _, q1, q2, q3⟩ := edge_at (G3e.out.below (hW.mono S13.out)) hi
        simp only [Value.slice.injEq] at e1
        exact ⟨ga, gr, cr, e1.1, q1, q2, q3⟩
      have HB3 : Hid (Below w.heap.size w w3) := B3.out
      have S03 : Hid (w.heap.size ≤ w3.heap.size) := Nat.le_trans s01 S13.out
      have PK := Lib.hid (fun (s k : Nat) (hk : k < E.length) => pck_next (s := s) hk)
      have hrvm : RV.length = E.length := HRV.out
      rw [hrvm]
      have PB : Hid (∀ s, pairB E s = diffB (ends (pckE E s E.length))) := fun _ => rfl
      obtain ⟨M, hM⟩ : ∃ M, M = E.length := ⟨_, rfl⟩
      have HM := Lib.hid hM
      rw [← hM] at CP CB hp8 hel HMX PB ⊢
      obtain ⟨T, hT2⟩ : ∃ T, T = 2 ^ M := ⟨_, rfl⟩
      rw [← hT2] at CP CB hp8 HMX
      obtain ⟨i0, hI0, hz0, hz1, hz2⟩ := info_parts Try.infoIntR
      clear G3e hM hrvm G1 B1 hT2 G3 S13
      go_wp2_with fail
      go_loopw [6, 7, 8, 9] (fun mm ss uu ii wr => ∃ s m : Nat, s ≤ T ∧ ss = .int .i64 (s : Int) ∧ mm = .int .i64 (m : Int) ∧ Hid (m = mxF (pairB E) (fun s => popN s M) s) ∧ Hid (Below w3.heap.size w3 wr)) (fun _ ss _ _ _ => T - (intOf ss).toNat)
      case atStart => exact ⟨0, 0, Nat.zero_le _, rfl, rfl, rfl, Below.refl _ _⟩
      case round =>
        obtain ⟨s, m, hs, rfl, rfl, HKm, HW⟩ := hrel
        go_wp2_with fail
        refine (CP.out _).mono ?_
        rintro e wx ⟨rfl, rfl⟩
        by_cases hlt : s < T
        · have b1 : (s : Int) < (T : Int) := by omega
          have hm7 : m ≤ M := by rw [HKm.out]; exact mxF_le s fun s _ _ => pop_le s M
          have hlit := World.ownsRow_lit (base := wr.heap.size) (e := 3) (size := 1) wr #[] 0 (Nat.le_refl _) (by unfold maxLen; omega) rfl
          obtain ⟨B, hB⟩ : ∃ B, B = wr.heap.size := ⟨_, rfl⟩
          have I0 : Hid (Ils wr (wr.alloc (.cells #[] 3)) B wr.heap.size 0 0 (ends (pckE E s 0))) := ⟨rfl, by rw [hB]; exact hlit, (Below.refl _ _).alloc (by omega) _⟩
          rw [← hB] at I0
          have SB : Hid (B = wr.heap.size) := hB
          clear hlit
          go_wp2_with fail
          rw [← hB]
          clear hB
          obtain ⟨wo, hwo⟩ : ∃ wo, wo = wr := ⟨_, rfl⟩
          subst hwo
          go_loopw [8, 9] (fun uu ii wr => ∃ (i g m c : Nat), i ≤ M ∧ ii = .int .i64 (i : Int) ∧ uu = .slice (some ⟨g, 0, none⟩) m c ∧ Hid (Ils wo wr B g m c (ends (pckE E s i)))) (fun _ ii _ => M - (intOf ii).toNat)
          case atStart => exact ⟨0, B, 0, 0, Nat.zero_le _, rfl, rfl, I0⟩
          case round =>
            clear I0
            obtain ⟨i, g, q, c, hi, rfl, rfl, HI⟩ := hrel
            have WI : Hid (Below w3.heap.size w3 wr) := HW.out.trans (HI.out.below.mono (by have := HW.out.size; have := SB.out; omega))
            have SI : Hid (B ≤ wr.heap.size) := by have := HI.out.below.size; show B ≤ _; rw [SB.out]; exact this
            have hq2 := pck_le E s i
            rw [HI.out.len] at hq2
            by_cases hiM : i < M
            · have b2 : (i : Int) < (M : Int) := by omega
              have hiE : i < E.length := by rw [← HM.out]; exact hiM
              obtain ⟨ga, gr, cr, rfl, c0, c1, c2⟩ := HED.out wr WI.out i hiE
              have PN := PK.out s i hiE
              obtain ⟨e, he⟩ : ∃ e, e = E[i] := ⟨_, rfl⟩
              rw [← he] at c1 c2 PN
              obtain ⟨p1, d1, hp1, hq1, hr1, hd1, hdd1, hb1⟩ := bit_ask s i (by omega) (by omega)
              have CP1 := Lib.hid (fun W => pow2L_any i W (by omega))
              rw [← hp1] at CP1
              have z1 : ((p1 : Int) == 0) = false := by rw [beq_eq_false_iff_ne]; omega
              clear he hiE
              by_cases hbit : s / 2 ^ i % 2 = 1
              · rw [if_pos hbit] at PN
                have hbt : bitT s i = true := decide_eq_true hbit
                rw [hbt] at hb1
                have EN : Hid (ends (pckE E s (i + 1)) = ends (pckE E s i) ++ [e.1, e.2]) := by show _ = _; rw [PN, ends_snoc]
                have hgo := Lib.hid HI.out.own
                have y1 : q + 2 ≤ maxLen := by unfold maxLen; omega
                have y2 : (q + 2) * 8 ≤ 140737488355328 := by omega
                clear PN hbit hbt hp1
                go_wp2_with fail
                refine (CP1.out _).mono ?_
                rintro e wx ⟨rfl, rfl⟩
                clear CP1
                have ILN := Lib.hid (fun k => HI.out.drewN k)
                have CTN := Lib.hid (cell_two_new wr (.int .i64 (e.1 : Int)) (.int .i64 (e.2 : Int)) 3)
                have ONE2 := Lib.hid (one_two (e.1 : Int) (e.2 : Int))
                clear HI
                go_wp2_with fail
                go_region_law (first
                  | (refine step_append_lies _ ?gd (.tmp 55) (.tmp 68) 29 ?ho B 3 i0 (.int .i64 0) 1 8 Try.underlying29 hI0 hz0 hz1 hz2 rfl (Nat.lt_succ_self 0) (.slice (some ⟨g, 0, none⟩) q c) q (ints (ends (pckE E s i))) ?hs ?own ⟨wr.heap.size, 0, none⟩ 2 2 [.int .i64 (e.1 : Int), .int .i64 (e.2 : Int)] ?hx rfl ?news ONE2.out (Nat.succ_pos 1) y1 y2 ?base (wr.heap.size + 1) ?hh ?_
                     case gd => rfl
                     case ho => rfl
                     case hs => rfl
                     case hx => rfl
                     case own => exact own_of_blocks (hgo.out.alloc _) (fun _ _ => rfl)
                     case news => exact CTN.out
                     case base => (show B ≤ (wr.alloc _).heap.size; rw [World.size_alloc]; exact Nat.le_succ_of_le SI.out)
                     case hh => exact World.size_alloc _ _
                     intro g5 c5 w5 hv5 hg5 _ _
                     have I5 := Lib.hid (Ils.app2 (ILN.out _) SI.out hv5 hg5)
                     rw [← EN.out] at I5
                     clear hv5 hg5))
                all_goals
                  go_wp2
                  go_roundw
                  case rel => exact ⟨i + 1, g5, q + 2, c5, by omega, by go_num, rfl, I5⟩
                  case measure => simp [intOf]; omega
              · rw [if_neg hbit] at PN
                have hbt : bitT s i = false := decide_eq_false hbit
                rw [hbt] at hb1
                have EN : Hid (ends (pckE E s (i + 1)) = ends (pckE E s i)) := by show _ = _; rw [PN]
                have HI2 := HI.out
                rw [← EN.out] at HI2
                have HI3 := Lib.hid HI2
                clear PN hbit hbt hp1 HI2 EN
                go_wp2_with fail
                refine (CP1.out _).mono ?_
                rintro e wx ⟨rfl, rfl⟩
                clear CP1
                go_wp2
                go_roundw
                case rel => exact ⟨i + 1, g, q, c, by omega, by go_num, rfl, HI3⟩
                case measure => simp [intOf]; omega
            · obtain rfl : i = M := by omega
              have hL64 : (ends (pckE E s i)).length ≤ 64 := by rw [HI.out.len]; omega
              have PBs := PB.out s
              obtain ⟨L, hL⟩ : ∃ L, L = ends (pckE E s i) := ⟨_, rfl⟩
              rw [← hL] at HI hL64 PBs
              have OW : Hid (Own wr B wr.heap.size 3 (.slice (some ⟨g, 0, none⟩) q c) (iv (natL L))) := by
                refine Own.of_own ?_
                rw [natL_ints, show (ints L).length = L.length by simp [ints], HI.out.len]
                exact HI.out.own
              have C1 := Lib.hid (DIF.out L hL64 _ wr _ _ OW)
              have hdk := diffK_le (natL L) (natL L).length
              rw [natL_len] at hdk
              have hdB : diffB L = decide (diffK (natL L) (natL L).length = L.length) := rfl
              rw [HI.out.len] at hdB hdk
              have hql : (natL L).length = q := by rw [natL_len]; exact HI.out.len
              rw [hql] at C1 hdB
              obtain ⟨y, hy⟩ : ∃ y, y = diffK (natL L) q := ⟨_, rfl⟩
              rw [← hy] at C1 hdB hdk
              have FS : Hid (pairB E s = decide (y = q)) := by show _ = _; rw [PBs, hdB]
              clear hL hy hdB PBs OW hql
              go_wp2_with fail
              refine C1.out.mono ?_
              rintro e w4 ⟨rfl, nq, rfl⟩
              have W4 : Hid (Below w3.heap.size w3 (wr.drewN nq)) := WI.out.trans ⟨rfl, rfl, rfl, Nat.le_refl _, fun _ _ => rfl⟩
              clear C1 HI WI
              by_cases hyq : y = q
              · have f5 : ((y : Int) == (q : Int)) = true := by rw [hyq]; simp
                have hp : pairB E s = true := by rw [FS.out, decide_eq_true hyq]
                have hM9 : mxF (pairB E) (fun s => popN s i) (s + 1) = max m (popN s i) := by rw [mxF, if_pos hp, HKm.out]
                have CB1 := Lib.hid (fun W => CB.out s W hlt)
                have hpl := pop_le s i
                obtain ⟨c, hc⟩ : ∃ c, c = popN s i := ⟨_, rfl⟩
                rw [← hc] at hM9 CB1 hpl
                have H9 := Lib.hid hM9
                clear FS HKm hM9 hc hp hyq
                go_wp2_with fail
                refine (CB1.out _).mono ?_
                rintro e wx ⟨rfl, rfl⟩
                clear CB1
                rcases Nat.lt_trichotomy m c with hz | hz | hz
                · have hz' : (m : Int) < (c : Int) := by omega
                  have M2 : Hid (c = mxF (pairB E) (fun s => popN s i) (s + 1)) := by show _ = _; rw [H9.out]; omega
                  have e9 : Hid (max (m : Int) (c : Int) = (c : Int)) := by show _ = _; omega
                  clear H9
                  go_wp2
                  go_roundw
                  case rel => exact ⟨s + 1, c, by omega, by go_num, by first | rfl | rw [e9.out], M2, W4⟩
                  case measure => simp [intOf]; omega
                · subst hz
                  have M2 : Hid (m = mxF (pairB E) (fun s => popN s i) (s + 1)) := by show _ = _; rw [H9.out]; omega
                  have e9 : Hid (max (m : Int) (m : Int) = (m : Int)) := by show _ = _; omega
                  clear H9
                  go_wp2
                  go_roundw
                  case rel => exact ⟨s + 1, m, by omega, by go_num, by first | rfl | rw [e9.out], M2, W4⟩
                  case measure => simp [intOf]; omega
                · have hz' : (c : Int) < (m : Int) := by omega
                  have M2 : Hid (m = mxF (pairB E) (fun s => popN s i) (s + 1)) := by show _ = _; rw [H9.out]; omega
                  have e9 : Hid (max (m : Int) (c : Int) = (m : Int)) := by show _ = _; omega
                  clear H9
                  go_wp2
                  go_roundw
                  case rel => exact ⟨s + 1, m, by omega, by go_num, by first | rfl | rw [e9.out], M2, W4⟩
                  case measure => simp [intOf]; omega
              · have f5 : ((y : Int) == (q : Int)) = false := by rw [beq_eq_false_iff_ne]; omega
                have M2 : Hid (m = mxF (pairB E) (fun s => popN s i) (s + 1)) := by show _ = _; rw [mxF, if_neg (by rw [FS.out, decide_eq_false hyq]; decide), HKm.out]
                clear FS HKm
                go_wp2
                go_roundw
                case rel => exact ⟨s + 1, m, by omega, by go_num, rfl, M2, W4⟩
                case measure => simp [intOf]; omega
        · obtain rfl : s = T := by omega
          have hmz : m = z := by rw [HKm.out, HMX.out]
          subst hmz
          have f9 : 2 * (m : Int) ≤ (N : Int) := by omega
          have e2 : IntKind.i64.wrap (2 * (m : Int)) = 2 * (m : Int) := by rw [IntKind.wrap_i64]; omega
          have B9 : Hid (Below w.heap.size w wr) := HB3.out.trans (HW.out.mono S03.out)
          clear HKm HMX
          go_wp2
          go_ret
          exact ⟨(by first | rfl | (simp [f9]; done)), B9.out⟩
end Go.Proofs.Ytmpppocmbdainaa
