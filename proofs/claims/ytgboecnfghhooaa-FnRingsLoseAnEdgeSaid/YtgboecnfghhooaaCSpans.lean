/-
  The contract of the model's list of spans.
-/
import Derived.Test.YtgboecnfghhooaaCCodeE
import Derived.Test.YtgboecnfghhooaaCPow
import Derived.Test.YtgboecnfghhooaaZW
namespace Go.Proofs.Ytgboecnfghhooaa
open Go.RowKit

theorem pow2_le : ∀ k, k ≤ 8 → 2 ^ k ≤ 256 := by
  intro k hk
  have h2 : 2 ^ k ≤ 2 ^ 8 := Nat.pow_le_pow_right (by omega) hk
  have h3 : (2 : Nat) ^ 8 = 256 := by decide
  omega
set_option maxHeartbeats 800000 in
theorem pow2_any (n : Nat) (w : World) (hn : n ≤ 8) :
    Calls Try.prog 41 #[.int .i64 2, .int .i64 (n : Int)] w fun e w' => e = .returned (.int .i64 ((2 ^ n : Nat) : Int)) ∧ w = w' := by
  obtain ⟨r, hr⟩ : ∃ r : Nat, r = 2 ^ n := ⟨_, rfl⟩
  rw [← hr]
  have HR := Lib.hid hr
  clear hr
  go_enter Try.func41, Try.ntmps41
  go_wp2
  go_loop [1, 5] (fun i out => ∃ k p : Nat, k ≤ n ∧ i = .int .i64 ((n - k : Nat) : Int) ∧ out = .int .i64 (p : Int) ∧ Hid (p = 2 ^ k)) (fun i _ => (intOf i).toNat)
  case atStart => exact ⟨0, 1, Nat.zero_le _, rfl, rfl, rfl⟩
  case round =>
    obtain ⟨k, p, hk, rfl, rfl, HP⟩ := hrel
    by_cases hlt : k < n
    · have b1 : (0 : Int) < ((n - k : Nat) : Int) := by omega
      have hp := pow2_le k (by omega)
      rw [← HP.out] at hp
      have e1 : IntKind.i64.wrap ((p : Int) * 2) = ((p * 2 : Nat) : Int) := by rw [IntKind.wrap_i64]; omega
      have e2 : IntKind.i64.wrap (((n - k : Nat) : Int) - 1) = ((n - (k + 1) : Nat) : Int) := by rw [IntKind.wrap_i64]; omega
      have HP2 : Hid (p * 2 = 2 ^ (k + 1)) := by show _ = _; rw [Nat.pow_succ, ← HP.out]
      clear hp HP
      go_wp2
      go_round
      case rel => exact ⟨k + 1, p * 2, by omega, by first | rfl | rw [e2], by first | rfl | rw [e1], HP2⟩
      case measure => first | (rw [e2]; simp [intOf]; omega) | (simp [intOf]; omega)
    · obtain rfl : k = n := by omega
      have b1 : ¬ (0 : Int) < ((k - k : Nat) : Int) := by omega
      go_wp2
      go_ret
      exact ⟨by rw [HR.out, HP.out]; rfl, rfl⟩
theorem pick_snoc : ∀ (A : Edges) (x : Nat × Nat) (s : Nat), pickE (A ++ [x]) s = if s / 2 ^ A.length % 2 = 1 then pickE A s ++ [x] else pickE A s
  | [], x, s => by
    rw [List.nil_append, pickE, List.length_nil, Nat.pow_zero, Nat.div_one]
    rfl
  | e :: r, x, s => by
    have e2 : s / 2 / 2 ^ r.length = s / 2 ^ (r.length + 1) := by rw [Nat.div_div_eq_div_mul, Nat.pow_succ, Nat.mul_comm]
    rw [List.cons_append, pickE, pick_snoc r x (s / 2), e2, List.length_cons, pickE]
    split <;> split <;> rfl
theorem pick_take (E : Edges) (k s : Nat) (h : k < E.length) : pickE (E.take (k + 1)) s = if s / 2 ^ k % 2 = 1 then pickE (E.take k) s ++ [E[k]] else pickE (E.take k) s := by
  rw [List.take_succ_eq_append_getElem h, pick_snoc, List.length_take, Nat.min_eq_left (by omega)]
theorem pick_len : ∀ (E : Edges) (s : Nat), (pickE E s).length ≤ E.length
  | [], _ => Nat.le_refl _
  | e :: r, s => by
    rw [pickE]
    have := pick_len r (s / 2)
    split <;> simp only [List.length_cons] <;> omega

set_option maxHeartbeats 6400000 in
set_option maxRecDepth 100000 in
theorem spans_any (n : Nat) (E : Edges) (v : Value) (RV : List Value) (w : World) {B0 H0 : Nat} (hG : Hid (Grid w B0 H0 v RV (rowsE E))) (hH : H0 ≤ w.heap.size) (hE : Hid (∀ e ∈ E, e.1 < n ∧ e.2 < n)) (hn : 1 ≤ n ∧ n ≤ 5) (hel : E.length ≤ 8) :
    Calls Try.prog 56 #[.int .i64 (n : Int), v] w fun e w' => ∃ g m c, e = .returned (.slice (some ⟨g, 0, none⟩) m c) ∧ Ils w w' w.heap.size g m c (spansN n E) := by
  obtain ⟨i0, hi, hz0, hz1, hz2⟩ := info_parts Try.infoIntR
  obtain ⟨j0, hj, hy0, hy1, hy2⟩ := info_parts Try.infoRowR
  obtain ⟨av, cv, rfl, _, hcv, hcm, _⟩ := hG.out.1.slice
  have hgl : RV.length = E.length := by rw [hG.out.2.1, rowsE_length]
  rw [hgl] at hG hcv ⊢
  obtain ⟨M, hM⟩ : ∃ M, M = E.length := ⟨_, rfl⟩
  have HM := Lib.hid hM
  rw [← hM] at hG hcv hel ⊢
  have P2 := Lib.hid (fun W => pow2_any M W hel)
  have PW := Lib.hid (pow2_le M hel)
  obtain ⟨T, hT⟩ : ∃ T, T = 2 ^ M := ⟨_, rfl⟩
  have HT := Lib.hid hT
  rw [← hT] at P2 PW
  have hT256 : T ≤ 256 := PW.out
  have hst := World.ownsRow_lit (base := w.heap.size) (e := 3) (size := 1) w #[] 0 (Nat.le_refl _) (by decide) rfl
  have I0 : Hid (Ils w (w.alloc (.cells #[] 3)) w.heap.size w.heap.size 0 0 []) := ⟨rfl, hst, (Below.refl _ _).alloc (Nat.le_refl _) _⟩
  clear hM hT hst hgl
  go_enter Try.func56, Try.ntmps56
  go_wp2_with fail
  obtain ⟨w3, hw3⟩ : ∃ w3, w3 = w.alloc (.cells #[] 3) := ⟨_, rfl⟩
  obtain ⟨B, hB⟩ : ∃ B, B = w.heap.size := ⟨_, rfl⟩
  rw [← hw3] at I0 ⊢
  rw [← hB] at I0 ⊢
  have HB := Lib.hid hB
  have hHB : H0 ≤ B := by omega
  clear hw3 hB
  go_loopw [5, 6] (fun out ss wr => ∃ (q g m c : Nat), q ≤ T ∧ out = .slice (some ⟨g, 0, none⟩) m c ∧ ss = .int .i64 (q : Int) ∧ m ≤ q ∧ Hid (Ils w wr B g m c ((List.range q).filter fun s => spanB n (pickE E s)))) (fun _ ss _ => T - (intOf ss).toNat)
  case atStart => exact ⟨0, B, 0, 0, Nat.zero_le _, rfl, rfl, Nat.le_refl _, I0⟩
  case round =>
    clear I0
    obtain ⟨q, g, m, c, hq, rfl, rfl, hmq, I⟩ := hrel
    have hBw : B ≤ wr.heap.size := by have := I.out.below.size; rw [← HB.out] at this; exact this
    go_wp2_with fail
    refine (P2.out _).mono ?_
    rintro e wx ⟨rfl, rfl⟩
    by_cases hlt : q < T
    · have b1 : (q : Int) < (T : Int) := by omega
      have hst6 := World.ownsRow_lit (base := wr.heap.size) (e := 32) (size := 1) wr #[] 0 (Nat.le_refl _) (by decide) rfl
      have L6 : Hid (Lft (wr.alloc (.cells #[] 32)) wr.heap.size (wr.alloc (.cells #[] 32)).heap.size B0 H0 wr.heap.size 0 0 [] []) := ⟨⟨hst6, fun z hz => (hst6.lt z hz).2⟩, RowsI.nil, rfl⟩
      have B6 : Hid (Below wr.heap.size wr (wr.alloc (.cells #[] 32))) := (Below.refl _ _).alloc (Nat.le_refl _) _
      obtain ⟨w4, hw4⟩ : ∃ w4, w4 = wr := ⟨_, rfl⟩
      subst hw4
      clear hst6
      go_wp2
      obtain ⟨w5, hw5⟩ : ∃ w5, w5 = w4.alloc (.cells #[] 32) := ⟨_, rfl⟩
      obtain ⟨R0, hR0⟩ : ∃ R0, R0 = w4.heap.size := ⟨_, rfl⟩
      rw [← hw5] at L6 B6 ⊢
      rw [← hR0] at L6 B6 hBw ⊢
      have HR0 := Lib.hid hR0
      clear hw5 hR0
      go_loopw [7, 8] (fun so kk wi => ∃ (k mr cr gr : Nat) (LR : List Value), k ≤ M ∧ so = .slice (some ⟨gr, 0, none⟩) mr cr ∧ kk = .int .i64 (k : Int) ∧ mr ≤ k ∧ Hid (Lft wi R0 wi.heap.size B0 H0 gr mr cr LR (pickE (E.take k) q)) ∧ Hid (Below R0 w4 wi)) (fun _ kk _ => M - (intOf kk).toNat)
      case atStart => exact ⟨0, 0, 0, R0, [], Nat.zero_le _, rfl, rfl, Nat.le_refl _, by rw [List.take_zero]; exact L6, B6⟩
      case round =>
        clear L6 B6
        obtain ⟨k, mr, cr, gr, LR, hk, rfl, rfl, hmr, L, BL⟩ := hrel
        have hRw : R0 ≤ wr.heap.size := by have := BL.out.size; rw [← HR0.out] at this; exact this
        by_cases hkm : k < M
        · have k1 : (k : Int) < (M : Int) := by omega
          have hkE : k < E.length := by rw [← HM.out]; exact hkm
          have PT := pick_take E k q hkE
          have P3 := Lib.hid (fun W => pow2_any k W (by omega))
          obtain ⟨p, hp⟩ : ∃ p, p = 2 ^ k := ⟨_, rfl⟩
          have hp0 : 0 < p := by rw [hp]; exact Nat.two_pow_pos k
          have hp8 : p ≤ 256 := by rw [hp]; exact pow2_le k (by omega)
          rw [← hp] at PT P3
          have p0 : ((p : Int) == 0) = false := by rw [beq_eq_false_iff_ne]; omega
          clear hp
          obtain ⟨d, hd⟩ : ∃ d, d = q / p := ⟨_, rfl⟩
          have ewd : IntKind.i64.wrap ((q : Int) / (p : Int)) = (d : Int) := by
            have h1 : d ≤ q := by rw [hd]; exact Nat.div_le_self _ _
            rw [← Int.natCast_ediv, ← hd, IntKind.wrap_i64]; omega
          rw [← hd] at PT
          have hLF := L.out.len
          have hGo : Own w B0 H0 32 (.slice av RV.length cv) RV := by have := hG.out.1; rwa [show RV.length = M by rw [hG.out.2.1, rowsE_length]; exact HM.out.symm]
          obtain ⟨ga, rfl, hga1, hga2, hc0, _⟩ := hGo.at_ k (by rw [hG.out.2.1, rowsE_length]; exact hkE)
          obtain ⟨u, hu, ho⟩ := hG.out.2.at_ k (by rw [rowsE_length]; exact hkE)
          have er : (rowsE E)[k]'(by rw [rowsE_length]; exact hkE) = [(E[k].1 : Int), (E[k].2 : Int)] := by simp [rowsE]
          rw [er] at ho
          have hbw : Below H0 w wr := (I.out.below.mono hHB).trans (BL.out.mono (by omega))
          have HO := Lib.hid (ho.below hbw)
          obtain ⟨au, cu, rfl, _, _, _, _⟩ := ho.slice
          rw [iv_length] at HO hu
          rw [hu] at hc0
          have d1 := (hbw.cell (p := ⟨ga, k, none⟩) (by show ga < H0; omega)).trans hc0
          clear hd hc0 hu ho er hbw hGo
          by_cases hbit : d % 2 = 1
          · rw [if_pos hbit] at PT
            have PT := Lib.hid PT
            have hI : ((d : Int).tmod 2 == 1) = true := by
              rw [Int.tmod_eq_emod_of_nonneg (by omega), beq_iff_eq]; omega
            have hI2 : ((d : Int) % 2 == 1) = true := by rw [beq_iff_eq]; omega
            have OL := L.out.own.1
            rw [L.out.vlen] at OL
            have OL := Lib.hid OL
            have y1 : mr + 1 ≤ maxLen := by unfold maxLen; omega
            have y2 : (mr + 1) * 24 ≤ 140737488355328 := by omega
            have Y3 := Lib.hid (show ∀ o : Obj, R0 ≤ (wr.alloc o).heap.size by intro o; simp; omega)
            have hH0R : H0 ≤ R0 := by omega
            clear hbit hLF
            go_wp2_with fail
            refine (P3.out _).mono ?_
            rintro e wx ⟨rfl, rfl⟩
            go_wp2_with (at_builtin; refine wpList_append_lies _ rfl (.tmp 30) (.tmp 35) 26 rfl R0 32 j0 (.slice none 0 0) 1 24 Try.underlying26 hj hy0 hy1 hy2 rfl (by decide) _ mr LR rfl (OL.out.alloc _) ⟨wr.heap.size, 0, none⟩ 1 1 [_] rfl rfl (cell_one_new _ _ _) (one_rowR _ _ _ _ rfl) (by decide) y1 y2 (Y3.out _) _ rfl ?_)
            intro g7 c7 w7 hv7 hg7 _ _
            have hb1 : Below R0 wr w7 := ((Below.refl _ _).alloc hRw _).grown hg7 (Y3.out _) (fun z hz => (OL.out.lt z hz).1)
            have L7 := Lib.hid (L.out.add hH0R hRw HO.out hv7 hg7)
            have B7 := Lib.hid (BL.out.trans hb1)
            rw [← PT.out] at L7
            clear hv7 hg7 hb1 L BL OL Y3 HO
            go_wp2
            go_roundw
            case rel => exact ⟨k + 1, mr + 1, c7, g7, _, by omega, rfl, by go_num, by omega, L7, B7⟩
            case measure => simp [intOf]; omega
          · rw [if_neg hbit] at PT
            have PT := Lib.hid PT
            have hI : ((d : Int).tmod 2 == 1) = false := by
              rw [Int.tmod_eq_emod_of_nonneg (by omega), beq_eq_false_iff_ne]; omega
            have hI2 : ((d : Int) % 2 == 1) = false := by rw [beq_eq_false_iff_ne]; omega
            clear hbit hLF
            go_wp2_with fail
            refine (P3.out _).mono ?_
            rintro e wx ⟨rfl, rfl⟩
            go_wp2
            go_roundw
            case rel => exact ⟨k + 1, mr, cr, gr, LR, by omega, rfl, by go_num, by omega, by rw [PT.out]; exact L, BL⟩
            case measure => simp [intOf]; omega
        · obtain rfl : k = M := by omega
          have htk : E.take k = E := List.take_of_length_le (by rw [HM.out]; exact Nat.le_refl _)
          rw [htk] at L
          have hF : ∀ x ∈ pickE E q, x.1 < n ∧ x.2 < n := fun x hx => hE.out x (pickE_mem _ _ _ hx)
          have hlm := L.out.len
          have ewn : IntKind.i64.wrap ((n : Int) - 1) = (n : Int) - 1 := by rw [IntKind.wrap_i64]; omega
          have RS : (List.range (q + 1)).filter (fun s => spanB n (pickE E s)) = if spanB n (pickE E q) = true then ((List.range q).filter fun s => spanB n (pickE E s)) ++ [q] else (List.range q).filter fun s => spanB n (pickE E s) := by
            rw [List.range_succ, List.filter_append]
            by_cases h : spanB n (pickE E q) = true
            · rw [if_pos h]; simp [h]
            · rw [if_neg h]; simp [h]
          have I4 := Lib.hid (show Ils w wr B g m c ((List.range q).filter fun s => spanB n (pickE E s)) from ⟨I.out.len, own_of_blocks I.out.own fun z hz => BL.out.block z (by have := (I.out.own.lt z hz).2; rw [← HR0.out] at this; exact this), I.out.below.trans (BL.out.mono hBw)⟩)
          by_cases hm1 : mr + 1 = n
          · have q1 : ((mr : Int) == (n : Int) - 1) = true := by rw [beq_iff_eq]; omega
            have CR := Lib.hid (reached_any n (pickE E q) (.slice (some ⟨gr, 0, none⟩) mr cr) LR wr (Lib.hid (L.out.grid (by omega))) (Nat.le_refl _) (Lib.hid hF) (by omega) (by have := pick_len E q; have := HM.out; omega))
            obtain ⟨z, hz⟩ : ∃ z, z = (reachedN n (pickE E q)).length := ⟨_, rfl⟩
            rw [← hz] at CR
            by_cases hzn : z = n
            · have q2 : ((z : Int) == (n : Int)) = true := by rw [beq_iff_eq]; omega
              rw [if_pos (by unfold spanB; rw [hlm, ← hz, decide_eq_true hm1, decide_eq_true hzn]; rfl)] at RS
              have RS := Lib.hid RS
              have y1 : m + 1 ≤ maxLen := by unfold maxLen; omega
              have y2 : (m + 1) * 8 ≤ 140737488355328 := by omega
              clear hzn hm1 hz hlm L
              go_wp2_with fail
              refine CR.out.mono ?_
              rintro e w6 ⟨g6, c6, rfl, hR⟩
              have s6 := hR.below.size
              have I6 := Lib.hid (show Ils w w6 B g m c ((List.range q).filter fun s => spanB n (pickE E s)) from ⟨I4.out.len, own_of_blocks I4.out.own fun z hz => hR.below.block z (I4.out.own.lt z hz).2, I4.out.below.trans (hR.below.mono (by omega))⟩)
              have hB6 : B ≤ w6.heap.size := by omega
              have Y3 := Lib.hid (show ∀ o : Obj, B ≤ (w6.alloc o).heap.size by intro o; simp; omega)
              clear hR CR I4
              go_wp2_with (at_builtin; refine wpList_append_lies _ rfl (.tmp 50) (.tmp 52) 32 rfl B 3 i0 (.int .i64 0) 1 8 Try.underlying32 hi hz0 hz1 hz2 rfl (by decide) _ m (ints ((List.range q).filter fun s => spanB n (pickE E s))) rfl (I6.out.own.alloc _) ⟨w6.heap.size, 0, none⟩ 1 1 [_] rfl rfl (cell_one_new _ _ _) (one_intR _) (by decide) y1 y2 (Y3.out _) _ rfl ?_)
              intro g7 c7 w7 hv7 hg7 _ _
              have I7 := Lib.hid (I6.out.app hB6 hv7 hg7)
              rw [← RS.out] at I7
              clear hv7 hg7 I6 Y3
              go_wp2
              go_roundw
              case rel => exact ⟨q + 1, g7, m + 1, c7, by omega, rfl, by go_num, by omega, I7⟩
              case measure => simp [intOf]; omega
            · have q2 : ((z : Int) == (n : Int)) = false := by rw [beq_eq_false_iff_ne]; omega
              rw [if_neg (by unfold spanB; rw [hlm, ← hz, decide_eq_false hzn]; simp)] at RS
              have RS := Lib.hid RS
              clear hzn hm1 hz hlm L
              go_wp2_with fail
              refine CR.out.mono ?_
              rintro e w6 ⟨g6, c6, rfl, hR⟩
              have I6 := Lib.hid (show Ils w w6 B g m c ((List.range q).filter fun s => spanB n (pickE E s)) from ⟨I4.out.len, own_of_blocks I4.out.own fun z hz => hR.below.block z (I4.out.own.lt z hz).2, I4.out.below.trans (hR.below.mono (by omega))⟩)
              rw [← RS.out] at I6
              clear hR CR I4
              go_wp2
              go_roundw
              case rel => exact ⟨q + 1, g, m, c, by omega, rfl, by go_num, by omega, I6⟩
              case measure => simp [intOf]; omega
          · have q1 : ((mr : Int) == (n : Int) - 1) = false := by rw [beq_eq_false_iff_ne]; omega
            rw [if_neg (by unfold spanB; rw [hlm, decide_eq_false hm1]; simp)] at RS
            rw [← RS] at I4
            clear hm1 hlm L RS
            go_wp2
            go_roundw
            case rel => exact ⟨q + 1, g, m, c, by omega, rfl, by go_num, by omega, I4⟩
            case measure => simp [intOf]; omega
    · obtain rfl : q = T := by omega
      have hsp : (List.range q).filter (fun s => spanB n (pickE E s)) = spansN n E := by rw [spansN, ← HM.out, ← HT.out]
      rw [hsp] at I
      clear hsp
      go_wp2
      go_ret
      rw [← HB.out]
      exact ⟨g, m, c, rfl, I.out⟩
end Go.Proofs.Ytgboecnfghhooaa
