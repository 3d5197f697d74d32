/-
  The contract of the model's JoinTried.
-/
import Derived.Test.YtakpbnkncjddeaaZLS
import Derived.Test.YtakpbnkncjddeaaZL
import Derived.Deep.RegionLaw
import Derived.StillTailTactics
namespace Go.Proofs.Ytakpbnkncjddeaa
open Go.RowKit

theorem ldI_getD {L : List Nat} {i : Nat} (h : i < L.length) : (ldI L)[i]'(by rw [ldI_len]; exact h) = ((L.getD i 0 : Nat) : Int) := by
  rw [ldI_get L i h]; simp [List.getElem?_eq_getElem h]

theorem own_someJ {w : World} {B n : Nat} {t : TypeId} {v : Value} {xs : List Value} (h : w.ownsRow B t 1 v n xs) (hv : v ≠ .slice none 0 0) : ∃ g cap, v = .slice (some ⟨g, 0, none⟩) n cap := by
  rcases h.2 with ⟨h0, _⟩ | ⟨g, cap, cur, h1, _⟩
  · exact absurd h0 hv
  · exact ⟨g, cap, h1⟩
set_option maxHeartbeats 6400000 in
set_option maxRecDepth 100000 in
theorem joinFrom_any : ∀ (m : Nat), m ≤ 5 → ∀ (L : List Nat) (a : Option Addr) (cv : Nat) (w : World) (H : Nat), L.length = m → L.sum ≤ 200 → H ≤ w.heap.size → Hid (RdI w H a (ldI L)) →
    Calls Try.prog 45 #[.slice a m cv] w fun e w' => e = .returned (.int .i64 (joinC L : Int)) ∧ Below w.heap.size w w' := by
  intro m
  induction m with
  | zero =>
    intro _ L a cv w H hl _ _ _
    rw [joinC_small (L := L) (by omega)]
    clear hl
    go_enter Try.func45, Try.ntmps45
    go_wp2
    go_ret
    exact ⟨rfl, Below.refl _ _⟩
  | succ m ih =>
    intro hm5 L a cv w H hl hs hH hR
    obtain ⟨N, hN⟩ : ∃ N, N = m + 1 := ⟨_, rfl⟩
    rw [← hN] at hl hm5 ⊢
    by_cases h1 : N < 2
    · rw [joinC_small (L := L) (by omega)]
      have b1 : (N : Int) < 2 := by omega
      clear hl hN ih
      go_enter Try.func45, Try.ntmps45
      go_wp2
      go_ret
      exact ⟨rfl, Below.refl _ _⟩
    · have HIH := Lib.hid (ih (by omega))
      have PL := Lib.hid (pairs_least (L := L) (by omega))
      rw [hl] at PL
      obtain ⟨b, off, rfl, hbH, hx0⟩ := hR.out 0 (by rw [ldI_len]; omega)
      obtain ⟨B, hB⟩ : ∃ B, B = w.heap.size := ⟨_, rfl⟩
      have HB0 := Lib.hid hB
      have CE : Hid (∀ W, Below B w W → ∀ i, i < N → W.cell? ⟨b, off + i, none⟩ = some (.int .i64 ((L.getD i 0 : Nat) : Int))) := fun W hW i hi => by
        have h := (hR.out.below (hW.mono (by omega))) i (by rw [ldI_len, hl]; exact hi)
        obtain ⟨b', o', e, _, h3⟩ := h
        simp only [Option.some.injEq, Addr.mk.injEq] at e
        obtain ⟨rfl, rfl, _⟩ := e
        rw [h3, ldI_getD (by rw [hl]; exact hi)]
      have BD := Lib.hid (fun (i k : Nat) (hi : i < N) (hk : k < N) (hne : k ≠ i) => pj_bd (L := L) (by omega) hs (by rw [hl]; exact hi) (by rw [hl]; exact hk) hne)
      have RN := Lib.hid (fun (i k : Nat) (hi : i < N) (hk : k < N) (hne : k ≠ i) => rst_len (L := L) (by rw [hl]; exact hi) (by rw [hl]; exact hk) hne)
      have RS := Lib.hid (fun (i k : Nat) (hi : i < N) (hk : k < N) (hne : k ≠ i) => rst_sum (L := L) (by rw [hl]; exact hi) (by rw [hl]; exact hk) hne)
      have LH : Hid (∀ i k, i < N → k ≤ i → -1 ≤ leastI (prP L i k) ∧ leastI (prP L i k) ≤ 1200) := fun i k hi hk => ⟨least_low _, least_high fun x hx => by
        unfold prP at hx
        rcases List.mem_append.1 hx with h | h
        · obtain ⟨q, hq, h2⟩ := List.mem_flatMap.1 h
          obtain ⟨t, ht, rfl⟩ := List.mem_map.1 h2
          have := List.mem_range.1 hq
          have := List.mem_range.1 ht
          exact (BD.out q t (by omega) (by omega) (by omega)).1
        · obtain ⟨t, ht, rfl⟩ := List.mem_map.1 h
          have := List.mem_range.1 ht
          exact (BD.out i t (by omega) (by omega) (by omega)).1⟩
      have HM := Lib.hid hN
      have HL := Lib.hid hl
      have hs200 := Lib.hid hs
      have b1 : ¬ (N : Int) < 2 := by omega
      have B0 : Hid (Below B w w) := Below.refl _ _
      clear hx0
      clear hl hN ih hR hB hs h1
      go_enter Try.func45, Try.ntmps45
      go_wp2
      go_loopw [3, 4] (fun e3 e4 wr => ∃ i : Nat, i ≤ N ∧ e4 = .int .i64 (i : Int) ∧ e3 = .int .i64 (leastI (prP L i 0)) ∧ Hid (Below B w wr)) (fun _ e4 _ => N - (intOf e4).toNat)
      case atStart => exact ⟨0, Nat.zero_le _, rfl, rfl, B0⟩
      case round =>
        clear B0
        obtain ⟨i, hi, rfl, rfl, BW⟩ := hrel
        by_cases hiN : i < N
        · have c1 : (i : Int) < (N : Int) := by omega
          go_wp2
          go_loopw [3, 5] (fun e3 e5 wr => ∃ k : Nat, k ≤ i ∧ e5 = .int .i64 (k : Int) ∧ e3 = .int .i64 (leastI (prP L i k)) ∧ Hid (Below B w wr)) (fun _ e5 _ => i - (intOf e5).toNat)
          case atStart => exact ⟨0, Nat.zero_le _, rfl, rfl, BW⟩
          case round =>
            clear BW
            obtain ⟨k, hk, rfl, rfl, BW⟩ := hrel
            by_cases hki : k < i
            · have c2 : (k : Int) < (i : Int) := by omega
              have c3 : (k : Int) < (N : Int) := by omega
              have x1 := CE.out _ BW.out i hiN
              have y1 := CE.out _ BW.out k (by omega)
              have bd := BD.out i k hiN (by omega) (by omega)
              have CX := Lib.hid (fun W (h : Below B w W) => CE.out W h i hiN)
              have CY := Lib.hid (fun W (h : Below B w W) => CE.out W h k (by omega))
              have UP := Lib.hid (prP_up L i k)
              have lo_ := LH.out i k hiN (by omega)
              have PQ : Hid (pjQ L i k = L.getD i 0 + L.getD k 0 + joinC ((L.getD i 0 + L.getD k 0) :: rstN L i k)) := rfl
              have RSX := RS.out i k hiN (by omega) (by omega)
              obtain ⟨x, hx⟩ : ∃ x, x = L.getD i 0 := ⟨_, rfl⟩
              obtain ⟨y, hy⟩ : ∃ y, y = L.getD k 0 := ⟨_, rfl⟩
              rw [← hx] at x1 bd CX PQ RSX
              rw [← hy] at y1 bd CY PQ RSX
              have RSX := Lib.hid RSX
              have e1 : IntKind.i64.wrap ((x : Int) + (y : Int)) = (x : Int) + (y : Int) := by rw [IntKind.wrap_i64]; omega
              clear hx hy
              have hBs : B ≤ wr.heap.size := by rw [HB0.out]; exact BW.out.size
              have XY : ((x + y : Nat) : Int) = (x : Int) + (y : Int) := by omega
              have OL : Hid ((wr.drew.alloc (.cells #[.int .i64 ((x : Int) + (y : Int))] 3)).ownsRow B 3 1 (.slice (some ⟨wr.heap.size, 0, none⟩) 1 1) 1 (iv (ldI ((x + y) :: rstM L i k 0)))) := by
                have h := World.ownsRow_lit (base := B) (e := 3) (size := 1) wr.drew #[.int .i64 ((x : Int) + (y : Int))] 1 hBs (by unfold maxLen; omega) rfl
                have e : iv (ldI ((x + y) :: rstM L i k 0)) = [Value.int .i64 ((x : Int) + (y : Int))] := by
                  show [Value.int .i64 ((x + y : Nat) : Int)] = _
                  rw [XY]
                show World.ownsRow _ _ _ _ _ _ _
                rw [e]
                exact h
              have BL : Hid (Below B w (wr.drew.alloc (.cells #[.int .i64 ((x : Int) + (y : Int))] 3))) := (Below.drew BW.out).alloc hBs _
              have XY := Lib.hid XY
              go_wp2_with fail
              go_still_tail 9, (by kernel_rfl)
              change wpList _ _ _ _ _ wr.drew
              go_wp2_with fail
              go_loopw [6, 7] (fun e6 e7 wr => ∃ (j M g c : Nat), j ≤ N ∧ e7 = .int .i64 (j : Int) ∧ e6 = .slice (some ⟨g, 0, none⟩) M c ∧ Hid (M = (rstM L i k j).length + 1 ∧ M ≤ j + 1) ∧ Hid (wr.ownsRow B 3 1 (.slice (some ⟨g, 0, none⟩) M c) M (iv (ldI ((x + y) :: rstM L i k j)))) ∧ Hid (Below B w wr)) (fun _ e7 _ => N - (intOf e7).toNat)
              case atStart => exact ⟨0, 1, _, 1, Nat.zero_le _, rfl, rfl, ⟨rfl, by omega⟩, OL, BL⟩
              case round =>
                clear OL BL x1 y1 BW hBs
                obtain ⟨j, M, g, c, hj, rfl, rfl, ⟨hM, hMj⟩, OW, BW⟩ := hrel
                by_cases hjN : j < N
                · have c4 : (j : Int) < (N : Int) := by omega
                  by_cases hji : j = i
                  · subst hji
                    rw [← rstM_skip (L := L) (i := j) (k := k) (j := j) (.inl rfl)] at OW hM
                    have q1 : ((j : Int) != (j : Int)) = false := by simp
                    have hM := Lib.hid hM
                    go_wp2
                    go_roundw
                    case rel => exact ⟨j + 1, M, g, c, by omega, by go_num, rfl, ⟨hM.out, by omega⟩, OW, BW⟩
                    case measure => simp [intOf]; omega
                  · have q1 : ((j : Int) != (i : Int)) = true := by simp; omega
                    by_cases hjk : j = k
                    · subst hjk
                      rw [← rstM_skip (L := L) (i := i) (k := j) (j := j) (.inr rfl)] at OW hM
                      have q2 : ((j : Int) != (j : Int)) = false := by simp
                      have hM := Lib.hid hM
                      go_wp2
                      go_roundw
                      case rel => exact ⟨j + 1, M, g, c, by omega, by go_num, rfl, ⟨hM.out, by omega⟩, OW, BW⟩
                      case measure => simp [intOf]; omega
                    · have q2 : ((j : Int) != (k : Int)) = true := by simp; omega
                      have cj := CE.out _ BW.out j hjN
                      have TK := rstM_take (L := L) (i := i) (k := k) (j := j) hji hjk
                      obtain ⟨z, hz⟩ : ∃ z, z = L.getD j 0 := ⟨_, rfl⟩
                      rw [← hz] at cj TK
                      have hBs : B ≤ wr.heap.size := by rw [HB0.out]; exact BW.out.size
                      have HJ := Lib.hid (And.intro hM hMj)
                      have TK := Lib.hid TK
                      clear hz hM hMj
                      obtain ⟨i0, hi0, hz0, hz1, hz2⟩ := info_parts Try.infoIntR
                      go_wp2_with (at_builtin; refine wpList_append_own _ rfl _ _ 23 rfl B 3 i0 (.int .i64 0) 1 8 Try.underlying23 hi0 hz0 hz1 hz2 rfl (by decide) _ _ _ rfl (OW.out.alloc _) ⟨wr.heap.size, 0, none⟩ 1 1 [.int .i64 (z : Int)] rfl rfl ?c1 ?c2 ?c3 ?c4 ?c5 ?_)
                      case c1 => exact cell_one_new _ _ _
                      case c2 => intro u hu; simp at hu; subst hu; rfl
                      case c3 => have := HJ.out.2; unfold maxLen; omega
                      case c4 => have := HJ.out.2; omega
                      case c5 => simp; omega
                      intro v' w7 hown7 hg7 hn7
                      obtain ⟨g7, c7, rfl⟩ := own_someJ hown7 hn7
                      have e7 : iv (ldI ((x + y) :: rstM L i k j)) ++ [.int .i64 (z : Int)] = iv (ldI ((x + y) :: rstM L i k (j + 1))) := by
                        rw [TK.out]; simp [iv, ldI]
                      rw [e7] at hown7
                      have OW2 := Lib.hid hown7
                      have BW2 := Lib.hid ((BW.out.alloc hBs (.cells #[.int .i64 (z : Int)] 3)).grown hg7 (by simp; omega) (fun r hr => (OW.out.lt r hr).1))
                      have HJ2 : Hid (M + 1 = (rstM L i k (j + 1)).length + 1 ∧ M + 1 ≤ j + 1 + 1) := by
                        refine ⟨?_, by have := HJ.out.2; omega⟩
                        rw [TK.out, List.length_append]; have := HJ.out.1; simp; omega
                      clear hown7 hg7 hn7 e7 OW BW HJ TK cj
                      go_wp2
                      go_roundw
                      case rel => exact ⟨j + 1, M + 1, g7, c7, by omega, by go_num, rfl, HJ2, OW2, BW2⟩
                      case measure => simp [intOf]; omega
                · obtain rfl : N = j := by omega
                  have rn := RN.out i k hiN (by omega) (by omega)
                  have er : rstM L i k N = rstN L i k := by unfold rstN; rw [HL.out]
                  rw [er] at OW hM
                  have hL := HL.out
                  obtain rfl : m = M := by have := HM.out; omega
                  have lr : ((x + y) :: rstN L i k).length = m := by rw [List.length_cons]; omega
                  have OO : Own wr B wr.heap.size 3 (.slice (some ⟨g, 0, none⟩) (ldI ((x + y) :: rstN L i k)).length c) (iv (ldI ((x + y) :: rstN L i k))) := by
                    refine Own.of_own ?_
                    rw [iv_length, ldI_len, lr]
                    exact OW.out
                  have RR := own_rd OO
                  have hBs : B ≤ wr.heap.size := by rw [HB0.out]; exact BW.out.size
                  have CD : Hid (∀ W, Below wr.heap.size wr W → Calls Try.prog 45 #[.slice (some ⟨g, 0, none⟩) m c] W fun e w' => e = .returned (.int .i64 (joinC ((x + y) :: rstN L i k) : Int)) ∧ Below W.heap.size W w') := fun W hW =>
                    HIH.out ((x + y) :: rstN L i k) _ c W wr.heap.size lr (by rw [RSX.out]; exact hs200.out) hW.size (Lib.hid (RR.below hW))
                  obtain ⟨d, hd⟩ : ∃ d, d = joinC ((x + y) :: rstN L i k) := ⟨_, rfl⟩
                  rw [← hd] at bd PQ
                  simp only [← hd] at CD
                  have HQ : Hid ((pjQ L i k : Int) = (x : Int) + (y : Int) + (d : Int)) := by show _ = _; rw [PQ.out, Int.natCast_add, Int.natCast_add]
                  obtain ⟨lo, hlo⟩ : ∃ lo, lo = leastI (prP L i k) := ⟨_, rfl⟩
                  rw [← hlo] at UP lo_ ⊢
                  have x2 := CX.out _ BW.out
                  have y2 := CY.out _ BW.out
                  have e2 : IntKind.i64.wrap ((x : Int) + (y : Int) + (d : Int)) = (x : Int) + (y : Int) + (d : Int) := by rw [IntKind.wrap_i64]; omega
                  have BDr : Hid (Below wr.heap.size wr wr.drew) := Below.drew (Below.refl _ wr)
                  have HLO := Lib.hid lo_
                  clear OW hM hMj hL rn er lr OO RR hd hlo PQ lo_
                  go_wp2_with fail
                  go_region_law (first
                    | ((try go_simp); go_at_call 45; refine (CD.out _ BDr.out).mono ?_
                       rintro e w6 ⟨rfl, hb6⟩
                       have B2 := Lib.hid (BW.out.trans ((BDr.out.trans hb6).mono hBs))
                       have x3 := CX.out _ B2.out
                       have y3 := CY.out _ B2.out
                       clear hb6))
                  all_goals
                    clear x3 y3
                    have HLO := HLO.out
                    by_cases h1 : lo < 0
                    · have UP2 := Lib.hid (UP.out.trans (if_pos (.inl h1)))
                      rw [HQ.out] at UP2
                      go_simp
                      go_wp2
                      go_roundw
                      case rel => exact ⟨k + 1, by omega, by go_num, by rw [UP2.out], B2⟩
                      case measure => simp [intOf]; omega
                    · by_cases h2 : (x : Int) + (y : Int) + (d : Int) < lo
                      · have UP2 := Lib.hid (UP.out.trans (if_pos (.inr (by rw [HQ.out]; exact h2))))
                        rw [HQ.out] at UP2
                        go_simp
                        go_wp2
                        go_roundw
                        case rel => exact ⟨k + 1, by omega, by go_num, by rw [UP2.out], B2⟩
                        case measure => simp [intOf]; omega
                      · have UP2 := Lib.hid (UP.out.trans (if_neg (fun q => q.elim h1 (by rw [HQ.out]; exact h2))))
                        go_simp
                        go_wp2
                        go_roundw
                        case rel => exact ⟨k + 1, by omega, by go_num, by rw [UP2.out], B2⟩
                        case measure => simp [intOf]; omega
            · obtain rfl : i = k := by omega
              rw [← prP_next]
              go_wp2
              go_roundw
              case rel => exact ⟨i + 1, by omega, by go_num, rfl, BW⟩
              case measure => simp [intOf]; omega
        · obtain rfl : N = i := by omega
          rw [PL.out]
          go_wp2
          go_ret
          exact ⟨rfl, by rw [← HB0.out]; exact BW.out⟩

set_option maxHeartbeats 1600000 in
theorem specJoinTried_any (l : List Int) (a : Option Addr) (cv : Nat) (w : World) {H : Nat} (hR : Hid (RdI w H a l)) (hH : H ≤ w.heap.size) (hl : l.length ≤ 1048576) :
    Calls Try.prog 22 #[.slice a l.length cv] w fun e w' => e = .returned (.int .i64 (jtI l)) ∧ Below w.heap.size w w' := by
  have CV := Lib.hid (validLoadsM_any l a cv w hR hl)
  cases hw : loadB l
  · rw [hw] at CV
    have E := Lib.hid (show jtI l = -1 by rw [jtI, hw]; rfl)
    clear hw
    go_enter Try.func22, Try.ntmps22
    go_wp2_with fail
    refine CV.out.mono ?_
    rintro e w1 ⟨rfl, rfl⟩
    go_wp2
    go_ret
    exact ⟨by rw [E.out]; rfl, Below.refl _ _⟩
  · rw [hw] at CV
    by_cases h5 : l.length ≤ 5
    · obtain ⟨L, rfl, eL, h7, h20⟩ := loadB_nats hw
      have E := Lib.hid (show jtI (ldI L) = (joinC L : Int) by rw [jtI, hw, decide_eq_true h5, natsL_ldI]; rfl)
      have SB := sum_bd h20
      have h5' : L.length ≤ 5 := by rw [ldI_len] at h5; exact h5
      have CS := joinFrom_any L.length h5' L a cv w H rfl (by omega) hH hR
      rw [show L.length = (ldI L).length from (ldI_len L).symm] at CS
      have CS := Lib.hid CS
      have b5 : ¬ (5 : Int) < ((ldI L).length : Int) := by omega
      clear hw eL SB h5 h5'
      go_enter Try.func22, Try.ntmps22
      go_wp2_with fail
      refine CV.out.mono ?_
      rintro e w1 ⟨rfl, rfl⟩
      clear CV
      go_wp2_with fail
      refine CS.out.mono ?_
      rintro e w1 ⟨rfl, B1⟩
      go_wp2
      go_ret
      exact ⟨by rw [E.out]; rfl, B1⟩
    · have E := Lib.hid (show jtI l = -1 by rw [jtI, hw, decide_eq_false h5]; rfl)
      have b5 : (5 : Int) < (l.length : Int) := by omega
      clear hw h5
      go_enter Try.func22, Try.ntmps22
      go_wp2_with fail
      refine CV.out.mono ?_
      rintro e w1 ⟨rfl, rfl⟩
      go_wp2
      go_ret
      exact ⟨by rw [E.out]; rfl, Below.refl _ _⟩
end Go.Proofs.Ytakpbnkncjddeaa
