/-
  The walk of the law that sets of nodes alone are counted one by one, with the program's functions as premises.
-/
import Derived.Test.YtmpppocmbdainaaKWgtL
namespace Go.Proofs.Ytmpppocmbdainaa
open Go.RowKit

/-- the greatest of what is told of the numbers that fit, and how many fit -/
def mxF (P : Nat → Bool) (f : Nat → Nat) : Nat → Nat
  | 0 => 0
  | k + 1 => if P k = true then max (mxF P f k) (f k) else mxF P f k
def ctF (P : Nat → Bool) : Nat → Nat
  | 0 => 0
  | k + 1 => if P k = true then ctF P k + 1 else ctF P k
theorem ctF_count (P : Nat → Bool) : ∀ k, ctF P k = (List.range k).countP P
  | 0 => rfl
  | k + 1 => by
    rw [ctF, ctF_count P k, List.range_succ, List.countP_append]
    by_cases h : P k = true
    · rw [if_pos h, List.countP_cons, h]; rfl
    · rw [if_neg h, List.countP_cons, if_neg h]; rfl
theorem ctF_le (P : Nat → Bool) : ∀ k, ctF P k ≤ k
  | 0 => Nat.le_refl _
  | k + 1 => by rw [ctF]; have := ctF_le P k; split <;> omega
theorem mxF_le {P : Nat → Bool} {f : Nat → Nat} {M : Nat} : ∀ k, (∀ s, s < k → P s = true → f s ≤ M) → mxF P f k ≤ M
  | 0, _ => Nat.zero_le _
  | k + 1, h => by
    rw [mxF]
    have h1 := mxF_le k fun s hs => h s (by omega)
    split
    · next hp => have := h k (by omega) hp; omega
    · exact h1
theorem mxF_ge {P : Nat → Bool} {f : Nat → Nat} {s : Nat} (hp : P s = true) : ∀ k, s < k → f s ≤ mxF P f k
  | 0, h => by omega
  | k + 1, h => by
    rw [mxF]
    by_cases e : s = k
    · subst e; rw [if_pos hp]; omega
    · have := mxF_ge (f := f) hp k (by omega)
      split <;> omega
theorem mxF_is {P : Nat → Bool} {f : Nat → Nat} {M k : Nat} (h1 : ∀ s, s < k → P s = true → f s ≤ M) (h2 : ∃ s, s < k ∧ P s = true ∧ f s = M) : mxF P f k = M := by
  obtain ⟨s, hs, hp, he⟩ := h2
  have a := mxF_le k h1
  have b := mxF_ge (f := f) hp k hs
  omega
/-- no edge within, as the law asks it -/
def fineB (E : Edges) (s : Nat) : Bool := E.all fun e => !bitT s e.1 || !bitT s e.2
def fineK (E : Edges) (s k : Nat) : Bool := (E.take k).all fun e => !bitT s e.1 || !bitT s e.2
theorem fineK_next {E : Edges} {s k : Nat} (hk : k < E.length) : fineK E s (k + 1) = (fineK E s k && (!bitT s E[k].1 || !bitT s E[k].2)) := by
  unfold fineK
  rw [List.take_succ_eq_append_getElem hk, List.all_append]; simp
theorem fineK_all (E : Edges) (s : Nat) : fineK E s E.length = fineB E s := by unfold fineK fineB; rw [List.take_length]
theorem fine_alone {n : Nat} {E : Edges} (hE : ∀ e ∈ E, e.1 < n ∧ e.2 < n) (s : Nat) : fineB E s = aloneB E (setsB n s) := by
  unfold fineB aloneB
  have key : ∀ L : Edges, (∀ e ∈ L, e ∈ E) → (L.all fun e => !bitT s e.1 || !bitT s e.2) = L.all fun e => !(decide (e.1 ∈ setsB n s) && decide (e.2 ∈ setsB n s)) := by
    intro L
    induction L with
    | nil => intro _; rfl
    | cons e r ih =>
      intro hL
      rw [List.all_cons, List.all_cons, ih fun x hx => hL x (List.mem_cons_of_mem _ hx)]
      obtain ⟨h1, h2⟩ := hE e (hL e (List.mem_cons_self ..))
      have e1 : decide (e.1 ∈ setsB n s) = bitT s e.1 := by
        unfold bitT; rw [decide_eq_decide, setsB_mem]; exact ⟨fun q => q.2, fun q => ⟨h1, q⟩⟩
      have e2 : decide (e.2 ∈ setsB n s) = bitT s e.2 := by
        unfold bitT; rw [decide_eq_decide, setsB_mem]; exact ⟨fun q => q.2, fun q => ⟨h2, q⟩⟩
      rw [e1, e2]
      cases bitT s e.1 <;> cases bitT s e.2 <;> rfl
  exact key E fun e he => he
theorem bit_ask0 (s i : Nat) (hs : s ≤ 256) (hi : i ≤ 8) : ∃ p d : Nat, p = 2 ^ i ∧ 0 < p ∧ p ≤ 256 ∧ IntKind.i64.wrap ((s : Int) / (p : Int)) = (d : Int) ∧ d ≤ 256 ∧ ((d : Int) % 2 == 0) = !bitT s i := by
  obtain ⟨p, d, h1, h2, h3, h4, h5, h6⟩ := bit_ask s i hs hi
  refine ⟨p, d, h1, h2, h3, h4, h5, ?_⟩
  rw [← h6]
  by_cases h : (d : Int) % 2 = 1
  · rw [h]; rfl
  · have : (d : Int) % 2 = 0 := by omega
    rw [this]; rfl
set_option maxHeartbeats 3200000 in
set_option maxRecDepth 100000 in
theorem fnCountAlone_law (PF : TreeFn 15 (treeV countN)) (PA : TreeFn 11 (treeV aloneN)) (a : Option Addr) (len cap : Nat) (zs : List Int) (w : World) (hr0 : IsRow .u8 w a len cap zs) :
    Calls Try.prog 4 #[.slice a len cap] w fun e w' => e = .returned (.bool true) ∧ Below w.heap.size w w' := by
  have hr := Lib.hid hr0
  clear hr0
  by_cases hbig : (1048576 : Int) < (len : Int)
  · go_enter Try.func4, Try.ntmps4
    go_wp2
    go_ret
    exact ⟨rfl, Below.refl _ _⟩
  · go_enter Try.func4, Try.ntmps4
    go_wp2_with fail
    refine (drawCountAlone a len cap zs w hr (by omega)).mono ?_
    rintro e w1 ⟨n, rows, v, RV, rfl, g1, hn, hl, hr2, b1⟩
    have hwf : (Lit.int .i64 n).wf = true := wf_smallC n (by omega)
    have G1 := Lib.hid g1
    have B1 := Lib.hid b1
    have hrs : ∀ r ∈ rows, r.length ≤ 1048576 := fun r h => by rw [hr2 r h]; decide
    have hrl : rows.length ≤ 1048576 := by omega
    have CF := PF.at_ hrl hrs hwf
    have CS := specCountAlone_any.at_ hrl hrs hwf
    have CE := PA.at_ hrl hrs hwf
    obtain ⟨av, cv, rfl, _, _, _, _⟩ := g1.1.slice
    have s01 := b1.size
    have r0 : Hid (w1.heap.size ≤ w1.heap.size) := Nat.le_refl _
    rcases treeV_or n rows with hno | ⟨N, rfl, hT, hre, hyes⟩
    · simp only [hno] at CF CS
      clear g1 b1 hr hrs hl hr2 hn hwf hno PF PA CE
      go_wp2_with fail
      refine (CF.out _ RV w1 _ _ G1 r0.out).mono ?_
      rintro e w2 ⟨rfl, b2⟩
      have G2 := Lib.hid (G1.out.below b2)
      have B2 := Lib.hid (B1.out.trans (b2.mono s01))
      have S12 := Lib.hid b2.size
      clear b2 CF
      go_wp2_with fail
      refine (CS.out _ RV w2 _ _ G2 S12.out).mono ?_
      rintro e w3 ⟨rfl, b3⟩
      have G3 := Lib.hid (G2.out.below (b3.mono S12.out))
      have B3 := Lib.hid (B2.out.trans (b3.mono (Nat.le_trans s01 S12.out)))
      have S13 := Lib.hid (Nat.le_trans S12.out b3.size)
      clear b3 G2 B2 S12
      go_wp2_with fail
      refine (CS.out _ RV w3 _ _ G3 S13.out).mono ?_
      rintro e w6 ⟨rfl, b6⟩
      have B6 := Lib.hid (B3.out.trans (b6.mono (Nat.le_trans s01 S13.out)))
      clear b6
      go_wp2
      go_ret
      exact ⟨rfl, B6.out⟩
    · simp only [hyes] at CF CS CE
      have h7 := hT.h7
      have h1 : 0 < N := by have := hT.v.len; omega
      have hord : ∀ e ∈ edgesR rows, e.1 < N ∧ e.2 < N := fun e he => by have := hT.v.ord e he; omega
      have hel := hT.len
      have HCT : Hid (ctF (fineB (edgesR rows)) (2 ^ N) = countN N (edgesR rows)) := by
        show _ = _
        rw [ctF_count, List.countP_congr fun s _ => by rw [fine_alone hord s], sets_all hT.v hT.h7]; rfl
      have hmx : mxF (fineB (edgesR rows)) (fun s => popN s N) (2 ^ N) = aloneN N (edgesR rows) := by
        obtain ⟨m1, s, m2, m3, m4⟩ := sets_most hT.v hT.h7
        refine mxF_is (fun s _ hs => ?_) ⟨s, m2, by rw [fine_alone hord s]; exact m3, by rw [pop_len]; exact m4⟩
        rw [pop_len]
        exact m1 s (by rw [← fine_alone hord s]; exact hs)
      obtain ⟨p, hp⟩ : ∃ p, p = aloneN N (edgesR rows) := ⟨_, rfl⟩
      rw [← hp] at CE hmx
      have HMX := Lib.hid hmx
      have HORD := Lib.hid hord
      have hz128 : countN N (edgesR rows) ≤ 128 := (start_le hT).2.2.2
      obtain ⟨E, hE⟩ : ∃ E, E = edgesR rows := ⟨_, rfl⟩
      have HRE : Hid (rows = rowsE E) := by show _ = _; rw [hE]; exact hre
      have HRV : Hid (RV.length = E.length) := by show _ = _; rw [g1.2.1, HRE.out, rowsE_len]
      rw [← hE] at HCT HMX HORD hel hz128 CF CS
      have hp8 : 2 ^ N ≤ 128 := Nat.pow_le_pow_right (by decide) h7
      have CP := Lib.hid (fun W => pow2L_any N W (by omega))
      have CB := Lib.hid (fun (s : Nat) W (hs : s < 2 ^ N) => bitsOfP_any s N W hs (by omega))
      obtain ⟨T, hT2⟩ : ∃ T, T = 2 ^ N := ⟨_, rfl⟩
      rw [← hT2] at CP CB hp8 HCT HMX
      clear hmx hT2
      obtain ⟨z, hz⟩ : ∃ z, z = countN N E := ⟨_, rfl⟩
      rw [← hz] at CF CS HCT hz128
      have f1 : ((z : Int) == (z : Int)) = true := beq_self_eq_true _
      have f2 : ¬ (z : Int) < 0 := by omega
      clear g1 b1 hr hrs hl hr2 hn hwf hyes hT hre hz PF PA hp hord hE
      go_wp2_with fail
      refine (CF.out _ RV w1 _ _ G1 r0.out).mono ?_
      rintro e w2 ⟨rfl, b2⟩
      have G2 := Lib.hid (G1.out.below b2)
      have B2 := Lib.hid (B1.out.trans (b2.mono s01))
      have S12 := Lib.hid b2.size
      clear b2 CF
      go_wp2_with fail
      refine (CS.out _ RV w2 _ _ G2 S12.out).mono ?_
      rintro e w3 ⟨rfl, b3⟩
      have G3 := Lib.hid (G2.out.below (b3.mono S12.out))
      have B3 := Lib.hid (B2.out.trans (b3.mono (Nat.le_trans s01 S12.out)))
      have S13 := Lib.hid (Nat.le_trans S12.out b3.size)
      clear b3 G2 B2 S12 CS
      have G3e := Lib.hid G3.out
      rw [HRE.out] at G3e
      obtain ⟨M, hM⟩ : ∃ M, M = E.length := ⟨_, rfl⟩
      have HM := Lib.hid hM
      have hrvm : RV.length = M := by rw [HRV.out, hM]
      rw [hrvm] at G3 ⊢
      rw [← hM] at hel
      have HED : Hid (∀ (i : Nat) (hi : i < E.length), ∃ ga gr cr, av = some ⟨ga, 0, none⟩ ∧ w3.cell? ⟨ga, i, none⟩ = some (.slice (some ⟨gr, 0, none⟩) 2 cr) ∧ w3.cell? ⟨gr, 0, none⟩ = some (.int .i64 (E[i].1 : Int)) ∧ w3.cell? ⟨gr, 1, none⟩ = some (.int .i64 (E[i].2 : Int))) := fun i hi => by
        obtain ⟨ga, c', gr, cr, e1, _, _, _, _, _, q1, q2, q3⟩ := edge_at G3e.out hi
        simp only [Value.slice.injEq] at e1
        exact ⟨ga, gr, cr, e1.1, q1, q2, q3⟩
      clear G3e hM hrvm G1 B1
      go_wp2_with fail
      go_loopw [6, 7, 8, 9, 10] (fun kk mm ss ff ii wr => ∃ s k m : Nat, s ≤ T ∧ ss = .int .i64 (s : Int) ∧ kk = .int .i64 (k : Int) ∧ mm = .int .i64 (m : Int) ∧ Hid (k = ctF (fineB E) s) ∧ Hid (m = mxF (fineB E) (fun s => popN s N) s) ∧ Hid (wr = w3)) (fun _ _ ss _ _ _ => T - (intOf ss).toNat)
      case atStart => exact ⟨0, 0, 0, Nat.zero_le _, rfl, rfl, rfl, rfl, rfl, rfl⟩
      case round =>
        obtain ⟨s, k, m, hs, rfl, rfl, rfl, HKk, HKm, HW⟩ := hrel
        go_wp2_with fail
        refine (CP.out _).mono ?_
        rintro e wx ⟨rfl, rfl⟩
        by_cases hlt : s < T
        · have b1 : (s : Int) < (T : Int) := by omega
          have FA := Lib.hid (fineK_all E s)
          have F0 : Hid (true = fineK E s 0) := rfl
          have hk128 : k ≤ s := by rw [HKk.out]; exact ctF_le _ _
          have hm7 : m ≤ N := by rw [HKm.out]; exact mxF_le s fun s _ _ => pop_le s N
          rw [← HM.out] at FA
          go_wp2_with fail
          go_loopw [9, 10] (fun ff ii wi => ∃ (i : Nat) (t : Bool), i ≤ M ∧ ii = .int .i64 (i : Int) ∧ ff = .bool t ∧ Hid (t = fineK E s i) ∧ Hid (wi = w3)) (fun _ ii _ => M - (intOf ii).toNat)
          case atStart => exact ⟨0, true, Nat.zero_le _, rfl, rfl, F0, HW⟩
          case round =>
            clear F0
            obtain ⟨i, t, hi, rfl, rfl, HT, HWi⟩ := hrel
            by_cases hiM : i < M
            · have b2 : (i : Int) < (M : Int) := by omega
              have hiE : i < E.length := by rw [← HM.out]; exact hiM
              obtain ⟨ga, gr, cr, rfl, c0, c1, c2⟩ := HED.out i hiE
              have FN := fineK_next (s := s) hiE
              obtain ⟨h1e, h2e⟩ := HORD.out _ (List.getElem_mem hiE)
              obtain ⟨e, he⟩ : ∃ e, e = E[i] := ⟨_, rfl⟩
              rw [← he] at c1 c2 FN h1e h2e
              rw [← HWi.out] at c0 c1 c2
              obtain ⟨p1, d1, hp1, hq1, hr1, hd1, hdd1, hb1⟩ := bit_ask0 s e.1 (by omega) (by omega)
              obtain ⟨p2, d2, hp2, hq2, hr2, hd2, hdd2, hb2⟩ := bit_ask0 s e.2 (by omega) (by omega)
              have CP1 := Lib.hid (fun W => pow2L_any e.1 W (by omega))
              have CP2 := Lib.hid (fun W => pow2L_any e.2 W (by omega))
              rw [← hp1] at CP1
              rw [← hp2] at CP2
              have z1 : ((p1 : Int) == 0) = false := by rw [beq_eq_false_iff_ne]; omega
              have z2 : ((p2 : Int) == 0) = false := by rw [beq_eq_false_iff_ne]; omega
              obtain ⟨t1, ht1⟩ : ∃ t, t = bitT s e.1 := ⟨_, rfl⟩
              obtain ⟨t2, ht2⟩ : ∃ t, t = bitT s e.2 := ⟨_, rfl⟩
              rw [← ht1] at hb1 FN
              rw [← ht2] at hb2 FN
              rw [← HT.out] at FN
              clear he hp1 hp2 ht1 ht2 HT hiE
              cases t with
              | false =>
                have HT2 : Hid (false = fineK E s (i + 1)) := by show _ = _; rw [FN]; rfl
                clear FN CP1 CP2 hb1 hb2 c0 c1 c2
                go_wp2
                go_roundw
                case rel => exact ⟨i + 1, false, by omega, by go_num, rfl, HT2, HWi⟩
                case measure => simp [intOf]; omega
              | true =>
                cases t1 with
                | false =>
                  have HT2 : Hid (true = fineK E s (i + 1)) := by show _ = _; rw [FN]; rfl
                  rw [Bool.not_false] at hb1
                  clear FN CP2 hb2
                  go_wp2_with fail
                  refine (CP1.out _).mono ?_
                  rintro e wx ⟨rfl, rfl⟩
                  clear CP1
                  go_wp2
                  go_roundw
                  case rel => exact ⟨i + 1, true, by omega, by go_num, by first | rfl | rw [hb1], HT2, HWi⟩
                  case measure => simp [intOf]; omega
                | true =>
                  have HT2 : Hid ((!t2) = fineK E s (i + 1)) := by show _ = _; rw [FN]; cases t2 <;> rfl
                  rw [Bool.not_true] at hb1
                  clear FN
                  go_wp2_with fail
                  refine (CP1.out _).mono ?_
                  rintro e wx ⟨rfl, rfl⟩
                  clear CP1
                  go_wp2_with fail
                  refine (CP2.out _).mono ?_
                  rintro e wx ⟨rfl, rfl⟩
                  clear CP2
                  go_wp2
                  go_roundw
                  case rel => exact ⟨i + 1, !t2, by omega, by go_num, by first | rfl | rw [hb2], HT2, HWi⟩
                  case measure => simp [intOf]; omega
            · obtain rfl : i = M := by omega
              have HF : Hid (t = fineB E s) := by show _ = _; rw [HT.out, FA.out]
              clear HT FA
              cases t with
              | false =>
                have K2 : Hid (k = ctF (fineB E) (s + 1)) := by show _ = _; rw [ctF, ← HF.out, HKk.out]; rfl
                have M2 : Hid (m = mxF (fineB E) (fun s => popN s N) (s + 1)) := by show _ = _; rw [mxF, ← HF.out, HKm.out]; rfl
                clear HF HKk HKm
                go_wp2
                go_roundw
                case rel => exact ⟨s + 1, k, m, by omega, by go_num, rfl, rfl, K2, M2, HWi⟩
                case measure => simp [intOf]; omega
              | true =>
                have K2 : Hid (k + 1 = ctF (fineB E) (s + 1)) := by show _ = _; rw [ctF, ← HF.out, if_pos rfl, HKk.out]
                have hM9 : mxF (fineB E) (fun s => popN s N) (s + 1) = max m (popN s N) := by rw [mxF, ← HF.out, if_pos rfl, HKm.out]
                have CB1 := Lib.hid (fun W => CB.out s W hlt)
                have hpl := pop_le s N
                obtain ⟨c, hc⟩ : ∃ c, c = popN s N := ⟨_, rfl⟩
                rw [← hc] at hM9 CB1 hpl
                have H9 := Lib.hid hM9
                clear HF HKk HKm hM9 hc
                go_wp2_with fail
                refine (CB1.out _).mono ?_
                rintro e wx ⟨rfl, rfl⟩
                clear CB1
                rcases Nat.lt_trichotomy m c with hz | hz | hz
                · have hz' : (m : Int) < (c : Int) := by omega
                  have M2 : Hid (c = mxF (fineB E) (fun s => popN s N) (s + 1)) := by show _ = _; rw [H9.out]; omega
                  have e9 : Hid (max (m : Int) (c : Int) = (c : Int)) := by show _ = _; omega
                  clear H9
                  go_wp2
                  go_roundw
                  case rel => exact ⟨s + 1, k + 1, c, by omega, by go_num, by go_num, by first | rfl | rw [e9.out], K2, M2, HWi⟩
                  case measure => simp [intOf]; omega
                · subst hz
                  have M2 : Hid (m = mxF (fineB E) (fun s => popN s N) (s + 1)) := by show _ = _; rw [H9.out]; omega
                  have e9 : Hid (max (m : Int) (m : Int) = (m : Int)) := by show _ = _; omega
                  clear H9
                  go_wp2
                  go_roundw
                  case rel => exact ⟨s + 1, k + 1, m, by omega, by go_num, by go_num, by first | rfl | rw [e9.out], K2, M2, HWi⟩
                  case measure => simp [intOf]; omega
                · have hz' : (c : Int) < (m : Int) := by omega
                  have M2 : Hid (m = mxF (fineB E) (fun s => popN s N) (s + 1)) := by show _ = _; rw [H9.out]; omega
                  have e9 : Hid (max (m : Int) (c : Int) = (m : Int)) := by show _ = _; omega
                  clear H9
                  go_wp2
                  go_roundw
                  case rel => exact ⟨s + 1, k + 1, m, by omega, by go_num, by go_num, by first | rfl | rw [e9.out], K2, M2, HWi⟩
                  case measure => simp [intOf]; omega
        · obtain rfl : s = T := by omega
          have hkz : k = z := by rw [HKk.out, HCT.out]
          have hmp : m = p := by rw [HKm.out, HMX.out]
          subst hkz
          subst hmp
          have f9 : ((m : Int) == (m : Int)) = true := beq_self_eq_true _
          have G9 : Hid (Grid wr w.heap.size w1.heap.size (.slice av M cv) RV rows) := by rw [HW.out]; exact G3
          have S9 : Hid (w1.heap.size ≤ wr.heap.size) := by rw [HW.out]; exact S13
          have B9 : Hid (Below w.heap.size w wr) := by rw [HW.out]; exact B3
          clear HKk HKm HCT HMX
          go_wp2_with fail
          refine (CE.out _ RV wr _ _ G9 S9.out).mono ?_
          rintro e w5 ⟨rfl, b5⟩
          have B5 := Lib.hid (B9.out.trans (b5.mono (Nat.le_trans s01 S9.out)))
          clear b5
          go_wp2
          go_ret
          exact ⟨(by first | rfl | (simp; done)), B5.out⟩
end Go.Proofs.Ytmpppocmbdainaa
