/-
  The contract of the model's BesideCost.
-/
import Derived.Test.YtakpbnkncjddeaaZLS
import Derived.Test.YtakpbnkncjddeaaCMatT
import Derived.Test.YtakpbnkncjddeaaZL
namespace Go.Proofs.Ytakpbnkncjddeaa
open Go.RowKit

set_option maxHeartbeats 6400000 in
set_option maxRecDepth 100000 in
theorem besideCost_any (L : List Nat) (a : Option Addr) (cv : Nat) (w : World) {H : Nat} (hR : Hid (RdI w H a (ldI L))) (hH : H ≤ w.heap.size) (h7 : L.length ≤ 7) (hcv : L.length ≤ cv) (h20 : Hid (∀ x ∈ L, x ≤ 20)) :
    Calls Try.prog 46 #[.slice a L.length cv] w fun e w' => e = .returned (.int .i64 (bsC L : Int)) ∧ Below w.heap.size w w' := by
  obtain ⟨i0, hi, hz0, hz1, hz2⟩ := info_parts Try.infoIntR
  obtain ⟨j0, hj, hy0, hy1, hy2⟩ := info_parts Try.infoRowT
  obtain ⟨n, hn⟩ : ∃ n, n = L.length := ⟨_, rfl⟩
  have HN := Lib.hid hn
  rw [← hn] at h7 hcv ⊢
  obtain ⟨K, hK⟩ : ∃ K, K = n + 1 := ⟨_, rfl⟩
  have HK := Lib.hid hK
  obtain ⟨B, hB⟩ : ∃ B, B = w.heap.size := ⟨_, rfl⟩
  have HB0 := Lib.hid hB
  have ewn : IntKind.i64.wrap ((n : Int) + 1) = (K : Int) := by rw [IntKind.wrap_i64]; omega
  have G0 : Hid (GridT (w.alloc (.cells #[] 23)) B (.slice (some ⟨w.heap.size, 0, none⟩) 0 0) [] (gridT 0 K fun _ _ => 0)) := GridT.nil0 (by omega)
  have BA : Hid (Below B w (w.alloc (.cells #[] 23))) := by show Below _ _ _; rw [hB]; exact (Below.refl _ w).alloc (Nat.le_refl _) _
  have sA : Hid (B ≤ (w.alloc (.cells #[] 23)).heap.size) := by show _ ≤ _; rw [World.size_alloc]; omega
  have RW : Hid (∀ W, Below B w W → RdI W H a (ldI L)) := fun W hW => hR.out.below (by rw [HB0.out] at hW; exact hW.mono hH)
  have CM : Hid (∀ i j, bsC (segL L i j) ≤ 980) := seg_cost (fun w => bsC_most w.length w (Nat.le_refl _)) (by rw [← hn]; exact h7) h20.out
  have hK8 : K ≤ 8 := by omega
  have hKn : n < K := by omega
  clear hn hB hK hR
  go_enter Try.func46, Try.ntmps46
  go_wp2_with fail
  go_loopw [4, 5] (fun e4 e5 wr => ∃ (k G c : Nat) (RV : List Value), k ≤ K ∧ e5 = .int .i64 (k : Int) ∧ e4 = .slice (some ⟨G, 0, none⟩) k c ∧ Hid (GridT wr B (.slice (some ⟨G, 0, none⟩) k c) RV (gridT k K fun _ _ => 0)) ∧ Hid (Below B w wr) ∧ Hid (B ≤ wr.heap.size)) (fun _ e5 _ => K - (intOf e5).toNat)
  case atStart => exact ⟨0, _, 0, [], Nat.zero_le _, rfl, rfl, G0, BA, sA⟩
  case round =>
    clear G0 BA sA
    obtain ⟨k, G, c, RV, hk, rfl, rfl, HG, HB, sB⟩ := hrel
    by_cases hlt2 : k < K
    · have b1 : (k : Int) ≤ (n : Int) := by have := HK.out; omega
      have hRVl : RV.length = k := by have := HG.out.grid.2.1; rwa [gridT_length] at this
      have hOW : wr.ownsRow B 23 1 (.slice (some ⟨G, 0, none⟩) k c) k RV := by have := HG.out.grid.1.1; rwa [hRVl] at this
      have z1 : k + 1 ≤ maxLen := by unfold maxLen; omega
      have z2 : (k + 1) * 24 ≤ 140737488355328 := by omega
      go_wp2_with (at_make; refine wpList_make_full _ rfl _ _ 23 rfl wr.heap.size 3 i0 (.int .i64 0) 1 Try.underlying23 hi hz0 hz1 _ _ _ _ K rfl rfl rfl rfl ?b2 ?b3 (Nat.le_refl _) ?_)
      case b2 => rw [hz2]; omega
      case b3 => unfold maxLen; omega
      intro w2 hown hgrow
      have hb2 : Below wr.heap.size wr w2 := (Below.refl _ _).grown hgrow (Nat.le_refl _) (fun k hk => by cases hk)
      rw [show (madeCells #[Value.int .i64 0] K).toList = List.replicate K (Value.int .i64 0) from toList_madeCells_one _ _] at hown
      obtain ⟨gk, hgk⟩ : ∃ gk, gk = wr.heap.size := ⟨_, rfl⟩
      have hO2 : Own w2 wr.heap.size w2.heap.size 3 (.slice (some ⟨gk, 0, none⟩) K K) (iv (List.replicate K 0)) := by
        have e : iv (List.replicate K 0) = List.replicate K (Value.int .i64 0) := by simp [iv]
        rw [e]
        refine own_lo (B := wr.heap.size) (Own.of_own ?_) (Nat.le_refl _)
        rw [List.length_replicate, hgk]
        exact hown
      have HOW : Hid (w2.ownsRow B 23 1 (.slice (some ⟨G, 0, none⟩) k c) k RV) := own_of_blocks hOW fun q hq => hb2.block q (hOW.lt q hq).2
      have HO2 := Lib.hid hO2
      have HB2 := Lib.hid hb2
      rw [← hgk]
      clear hown hgrow hb2 hO2 hgk hOW
      go_wp2_with (at_builtin; refine wpList_append_lies _ rfl (.tmp 19) (.tmp 23) 32 rfl B 23 j0 (.slice none 0 0) 1 24 Try.underlying32 hj hy0 hy1 hy2 rfl (Nat.lt_succ_self 0) _ k RV rfl (HOW.out.alloc _) ⟨w2.heap.size, 0, none⟩ 1 1 [.slice (some ⟨gk, 0, none⟩) K K] rfl rfl (cell_one_new _ _ _) (one_rowT _ _ _ _ rfl) (Nat.lt_succ_self 0) z1 z2 (by have := HB2.out.size; have := sB.out; rw [World.size_alloc]; omega) _ rfl ?_)
      intro g2 c2 w3 hv3 hg3 _ _
      obtain ⟨hGA, hBA⟩ := HG.out.add (gridT_length _ _ _) HB2.out HO2.out sB.out hv3 hg3
      rw [← zero_rowT K, ← gridT_snoc k K fun _ _ => 0] at hGA
      have GA2 := Lib.hid hGA
      have BA2 := Lib.hid (HB.out.trans hBA)
      have SA2 : Hid (B ≤ w3.heap.size) := Nat.le_trans sB.out hBA.size
      clear hGA hBA hv3 hg3 HOW HO2 HB2 HG HB sB
      go_wp2
      go_roundw
      case rel => exact ⟨k + 1, g2, c2, _, by omega, by go_num, rfl, GA2, BA2, SA2⟩
      case measure => simp [intOf]; omega
    · obtain rfl : k = K := by omega
      have b1 : ¬ (k : Int) ≤ (n : Int) := by omega
      have MS : Hid (MatT w wr B G c k RV (cosM bsC L 2 0)) := by
        rw [cosM_zero fun w hw => bsC_small hw]
        exact ⟨HG.out, HB.out, sB.out⟩
      clear HG HB sB
      go_wp2
      clear hi hj hz0 hz1 hz2 hy0 hy1 hy2 i0 j0 b1
      go_loopw [6] (fun e6 W => ∃ s : Nat, 2 ≤ s ∧ s ≤ k + 1 ∧ e6 = .int .i64 (s : Int) ∧ Hid (MatT w W B G c k RV (cosM bsC L s 0))) (fun e6 _ => k + 1 - (intOf e6).toNat)
      case atStart => exact ⟨2, Nat.le_refl _, by omega, rfl, MS⟩
      case round =>
        clear MS
        obtain ⟨s, hs2, hsk, rfl, MS⟩ := hrel
        by_cases hsn : s ≤ n
        · have b1 : (s : Int) ≤ (n : Int) := by omega
          go_wp2
          go_loopw [7] (fun e7 W => ∃ i : Nat, i + s ≤ k ∧ e7 = .int .i64 (i : Int) ∧ Hid (MatT w W B G c k RV (cosM bsC L s i))) (fun e7 _ => k - (intOf e7).toNat)
          case atStart => exact ⟨0, by omega, rfl, MS⟩
          case round =>
            clear MS
            obtain ⟨i, hik, rfl, MS⟩ := hrel
            have ew1 : IntKind.i64.wrap ((i : Int) + (s : Int)) = ((i + s : Nat) : Int) := by rw [IntKind.wrap_i64]; omega
            obtain ⟨z, hz⟩ : ∃ z, z = i + s := ⟨_, rfl⟩
            rw [← hz] at ew1
            have HZ := Lib.hid hz
            clear hz
            by_cases hin : z ≤ n
            · have b2 : (z : Int) ≤ (n : Int) := by omega
              have LH : Hid (∀ m, -1 ≤ leastI ((List.range m).map (besQ (segL L i (i + s)))) ∧ leastI ((List.range m).map (besQ (segL L i (i + s)))) ≤ 1960) := fun m => ⟨least_low _, least_high (b := 1960) fun x hx => by
                obtain ⟨q, _, rfl⟩ := List.mem_map.1 hx
                have t1 := CM.out
                have g1 : ∀ (W : List Nat) (a b : Nat), bsC ((segL L i (i + s)).take a) ≤ 980 ∧ bsC ((segL L i (i + s)).drop b) ≤ 980 := fun _ a b => by
                  constructor
                  · rcases Nat.le_total (i + a) (i + s) with h | h
                    · rw [segL_take h]; exact t1 _ _
                    · rw [List.take_of_length_le (by rw [segL, List.length_take]; omega)]; exact t1 _ _
                  · rw [segL_drop]; exact t1 _ _
                unfold besQ
                have := g1 [] (q + 1) (q + 1)
                omega⟩
              go_wp2
              have ek : IntKind.i64.wrap ((i : Int) + 1) = ((i + 1 + 0 : Nat) : Int) := by rw [IntKind.wrap_i64]; omega
              go_loopw [8, 9] (fun e8 e9 W => ∃ m p : Nat, m ≤ s - 1 ∧ p = i + 1 + m ∧ e9 = .int .i64 (p : Int) ∧ e8 = .int .i64 (leastI ((List.range m).map (besQ (segL L i (i + s))))) ∧ Hid (MatT w W B G c k RV (cosM bsC L s i))) (fun _ e9 _ => z - (intOf e9).toNat)
              case atStart => exact ⟨0, _, Nat.zero_le _, rfl, by first | rfl | go_num, rfl, MS⟩
              case round =>
                clear MS
                obtain ⟨m, p, hm, hp, rfl, rfl, MS⟩ := hrel
                have LH1 := LH.out m
                have hz := HZ.out
                have HP := Lib.hid hp
                by_cases hmM : m < s - 1
                · have b3 : (p : Int) < (z : Int) := by omega
                  
                  
                  obtain ⟨gi, ci, ri⟩ := MS.out.row (i := i) (by omega)
                  obtain ⟨_, hBi, c1, c2, _⟩ := MS.out.at2 (i := i) (j := p) (by omega) (by omega) ri
                  obtain ⟨gk, ck, rk⟩ := MS.out.row (i := p) (by omega)
                  obtain ⟨_, hBk, c3, c4, _⟩ := MS.out.at2 (i := p) (j := z) (by omega) (by omega) rk
                  rw [cosM_at (by omega) (by rw [← HN.out]; omega) (by omega)] at c2 c4
                  rw [hz] at c4
                  have UP := least_up (besQ (segL L i (i + s))) m
                  have EQ : (besQ (segL L i (i + s)) m : Int) = (bsC (segL L i p) : Int) + (bsC (segL L p (i + s)) : Int) := by
                    have t1 := segL_take (L := L) (i := i) (j := i + s) (q := m + 1) (by omega)
                    have t2 := segL_drop (L := L) (i := i) (j := i + s) (q := m + 1)
                    unfold besQ
                    rw [t1, t2, Int.natCast_add, show i + (m + 1) = p by omega]
                  have y1 := CM.out i p
                  have y2 := CM.out p (i + s)
                  rw [EQ] at UP
                  obtain ⟨x1, hx1⟩ : ∃ x1, x1 = bsC (segL L i p) := ⟨_, rfl⟩
                  obtain ⟨x2, hx2⟩ : ∃ x2, x2 = bsC (segL L p (i + s)) := ⟨_, rfl⟩
                  obtain ⟨lo, hlo⟩ : ∃ lo, lo = leastI ((List.range m).map (besQ (segL L i (i + s)))) := ⟨_, rfl⟩
                  rw [← hx1] at c2 y1 UP
                  rw [← hx2] at c4 y2 UP
                  rw [← hlo] at UP LH1 ⊢
                  rw [← hz] at c4
                  have ex1 : IntKind.i64.wrap ((x1 : Int) + (x2 : Int)) = (x1 : Int) + (x2 : Int) := by rw [IntKind.wrap_i64]; omega
                  obtain ⟨p3, hp3⟩ : ∃ p3, p3 = p + 1 := ⟨_, rfl⟩
                  have HP2 := Lib.hid hp3
                  have eu1 : IntKind.i64.wrap ((p : Int) + 1) = (p3 : Int) := by rw [IntKind.wrap_i64]; omega
                  have q1 : (i : Int) < (k : Int) := by omega
                  have q2 : (p : Int) < (k : Int) := by omega
                  have q3 : (p : Int) < (k : Int) := by omega
                  have q4 : (z : Int) < (k : Int) := by omega
                  clear hx1 hx2 hlo EQ hz hp hp3
                  by_cases h1 : lo < 0
                  · have UP2 := Lib.hid (UP.trans (if_pos (.inl h1)))
                    clear UP
                    go_wp2
                    go_quiet (fail)
                    go_wp2
                    go_roundw
                    case rel =>
                      have hp := HP.out
                      have hp2 := HP2.out
                      exact ⟨m + 1, p3, by omega, by omega, rfl, by rw [UP2.out], Lib.hid (MS.out.drewN nq)⟩
                    case measure =>
                      have hp := HP.out
                      have hp2 := HP2.out
                      have hz := HZ.out
                      simp [intOf]; omega
                  · by_cases h2 : (x1 : Int) + (x2 : Int) < lo
                    · have UP2 := Lib.hid (UP.trans (if_pos (.inr h2)))
                      clear UP
                      go_wp2
                      go_quiet (fail)
                      go_wp2
                      go_roundw
                      case rel =>
                        have hp := HP.out
                        have hp2 := HP2.out
                        exact ⟨m + 1, p3, by omega, by omega, rfl, by rw [UP2.out], Lib.hid (MS.out.drewN nq)⟩
                      case measure =>
                        have hp := HP.out
                        have hp2 := HP2.out
                        have hz := HZ.out
                        simp [intOf]; omega
                    · have UP2 := Lib.hid (UP.trans (if_neg (fun q => q.elim h1 h2)))
                      clear UP
                      go_wp2
                      go_quiet (fail)
                      go_wp2
                      go_roundw
                      case rel =>
                        have hp := HP.out
                        have hp2 := HP2.out
                        exact ⟨m + 1, p3, by omega, by omega, rfl, by rw [UP2.out], Lib.hid (MS.out.drewN nq)⟩
                      case measure =>
                        have hp := HP.out
                        have hp2 := HP2.out
                        have hz := HZ.out
                        simp [intOf]; omega
                · obtain rfl : s - 1 = m := by omega
                  obtain rfl : z = p := by omega
                  clear hp
                  obtain ⟨b, off, rfl, hbH, hx⟩ := (RW.out wr MS.out.below) 0 (by rw [ldI_len, ← HN.out]; omega)
                  have RL := (rd_drop2 (RW.out wr MS.out.below) i).take s
                  rw [ldI_drop, ldI_take, show s = z - i by omega] at RL
                  have RL : RdI wr H (some ⟨b, off + i, none⟩) (ldI (segL L i z)) := RL
                  have sl : (segL L i z).length = z - i := segL_len (by rw [← HN.out]; omega)
                  have sb : (segL L i z).sum ≤ 20 * (segL L i z).length := sum_bd fun x hx => h20.out x (segL_mem hx)
                  obtain ⟨ce, rfl⟩ : ∃ ce, cv = i + (ce + 1) := ⟨cv - i - 1, by omega⟩
                  have CS := sumM_any (segL L i z) (some ⟨b, off + i, none⟩) (ce + 1) wr.drew (Lib.hid (RL.drew 1)) (by omega) (Lib.hid fun x hx => Nat.le_trans (h20.out x (segL_mem hx)) (by omega))
                  have VQ := bsC_byQ (w := segL L i z) (by omega)
                  rw [sl] at CS sb VQ
                  have VQ : (bsC (segL L i z) : Int) = leastI ((List.range (s - 1)).map (besQ (segL L i (i + s)))) + ((segL L i z).sum : Int) := by
                    rw [VQ, hz, show i + s - i = s by omega]
                  have CX := CM.out i z
                  have LX := LH.out (s - 1)
                  obtain ⟨S, hS⟩ : ∃ S, S = (segL L i z).sum := ⟨_, rfl⟩
                  obtain ⟨x, hx2⟩ : ∃ x, x = bsC (segL L i z) := ⟨_, rfl⟩
                  obtain ⟨lo, hlo⟩ : ∃ lo, lo = leastI ((List.range (s - 1)).map (besQ (segL L i (i + s)))) := ⟨_, rfl⟩
                  obtain ⟨gi, ci, ri⟩ := MS.out.row (i := i) (by omega)
                  obtain ⟨_, hBi, c1, c2, f2⟩ := MS.out.at2 (i := i) (j := z) (by omega) (by omega) ri
                  have M2 := MS.out.drew.set (j := z) (x := (x : Int)) ri (by omega) hBi
                  have MP : setT (cosM bsC L s i) i z (x : Int) = cosM bsC L s (i + 1) := by
                    rw [← cosM_put (C := bsC) (L := L) (s := s) (i0 := i) (by rw [← HN.out]; omega), hx2, hz]
                    rfl
                  rw [MP] at M2
                  rw [← hS] at CS VQ sb
                  rw [← hx2] at VQ CX
                  rw [← hlo] at VQ LX ⊢
                  have ex1 : IntKind.i64.wrap (lo + (S : Int)) = (x : Int) := by rw [IntKind.wrap_i64]; omega
                  have q1 : (i : Int) < (k : Int) := by omega
                  have q4 : (z : Int) < (k : Int) := by omega
                  have q5 : (i : Int) ≤ (z : Int) := by omega
                  have q6 : (z : Int) ≤ (i : Int) + ((ce : Int) + 1) := by omega
                  have q7 : i ≤ z := by omega
                  have CS := Lib.hid (CS.mono fun e w' h => (show e = .returned (.int .i64 (S : Int)) ∧ w' = wr.drew from ⟨h.1, h.2.symm⟩))
                  have M2 := Lib.hid M2
                  have ei : IntKind.i64.wrap ((i : Int) + 1) = ((i + 1 : Nat) : Int) := by rw [IntKind.wrap_i64]; omega
                  clear hx hz hS hx2 hlo VQ MP RL sl sb hbH MS
                  go_wp2_with fail
                  go_still_tail 16, (by kernel_rfl)
                  still_call CS.out
                  repeat still_step
                  refine wpStill_nil ?_
                  change wpList _ _ _ _ _ wr.drew
                  go_wp2_with fail
                  have hw : (wr.setCell ⟨gi, z, none⟩ (.int .i64 (x : Int))).drew = wr.drew.setCell ⟨gi, z, none⟩ (.int .i64 (x : Int)) := rfl
                  have hz := HZ.out
                  refine ⟨⟨i + 1, by omega, by first | rfl | go_num, ?_⟩, by simp [intOf]; omega⟩
                  rw [hw]
                  exact M2
            · have b2 : ¬ (z : Int) ≤ (n : Int) := by omega
              have eu : IntKind.i64.wrap ((s : Int) + 1) = ((s + 1 : Nat) : Int) := by rw [IntKind.wrap_i64]; omega
              rw [cosM_next (by rw [← HN.out]; have := HZ.out; omega)] at MS
              go_wp2
              go_roundw
              case rel => exact ⟨s + 1, by omega, by omega, by first | rfl | go_num, MS⟩
              case measure => simp [intOf]; omega
        · have b1 : ¬ (s : Int) ≤ (n : Int) := by omega
          obtain ⟨gi, ci, ri⟩ := MS.out.row (i := 0) (by omega)
          obtain ⟨_, hBi, c1, c2, _⟩ := MS.out.at2 (i := 0) (j := n) (by omega) (by omega) ri
          rw [cosM_at (Nat.zero_le _) (by rw [← HN.out]; exact Nat.le_refl _) (by omega), HN.out, segL_all, ← HN.out] at c2
          have q1 : (0 : Int) < (k : Int) := by omega
          have q2 : (n : Int) < (k : Int) := by omega
          obtain ⟨x, hx⟩ : ∃ x, x = bsC L := ⟨_, rfl⟩
          rw [← hx] at c2
          have HX := Lib.hid hx
          clear hx
          go_wp2_with fail
          go_ret
          exact ⟨by rw [← HX.out]; rfl, by rw [← HB0.out]; exact MS.out.below⟩

set_option maxHeartbeats 1600000 in
theorem specBesideCost_any (l : List Int) (a : Option Addr) (cv : Nat) (w : World) {H : Nat} (hR : Hid (RdI w H a l)) (hH : H ≤ w.heap.size) (hl : l.length ≤ 1048576) (hcv : l.length ≤ cv) :
    Calls Try.prog 24 #[.slice a l.length cv] w fun e w' => e = .returned (.int .i64 (bcI l)) ∧ Below w.heap.size w w' := by
  have CV := Lib.hid (validLoadsM_any l a cv w hR hl)
  cases hw : loadB l
  · rw [hw] at CV
    have E := Lib.hid (show bcI l = -1 by rw [bcI, hw]; rfl)
    clear hw
    go_enter Try.func24, Try.ntmps24
    go_wp2_with fail
    refine CV.out.mono ?_
    rintro e w1 ⟨rfl, rfl⟩
    go_wp2
    go_ret
    exact ⟨by rw [E.out]; rfl, Below.refl _ _⟩
  · rw [hw] at CV
    obtain ⟨L, rfl, eL, h7, h20⟩ := loadB_nats hw
    have E := Lib.hid (show bcI (ldI L) = (bsC L : Int) by rw [bcI, hw, natsL_ldI]; rfl)
    have CS := besideCost_any L a cv w hR hH h7 (by rw [ldI_len] at hcv; exact hcv) (Lib.hid h20)
    rw [show L.length = (ldI L).length from (ldI_len L).symm] at CS
    have CS := Lib.hid CS
    clear hw eL
    go_enter Try.func24, Try.ntmps24
    go_wp2_with fail
    refine CV.out.mono ?_
    rintro e w1 ⟨rfl, rfl⟩
    clear CV
    go_wp2_with fail
    refine CS.out.mono ?_
    rintro e w1 ⟨rfl, B1⟩
    go_wp2
    go_ret
    exact ⟨by rw [E.out]; rfl, B1⟩
end Go.Proofs.Ytakpbnkncjddeaa
