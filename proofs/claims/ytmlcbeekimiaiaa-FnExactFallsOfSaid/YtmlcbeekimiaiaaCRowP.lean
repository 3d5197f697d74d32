/-
  The contracts of the program's ValidRow, HeapWord and FallsOf, of numbers that can be read.
-/
import Derived.Test.YtmlcbeekimiaiaaCHeapS
import Derived.Test.YtmlcbeekimiaiaaWRowP
import Derived.Test.YtmlcbeekimiaiaaShelf
namespace Go.Proofs.Ytmlcbeekimiaiaa
open Go.RowKit

theorem rd_cells {w : World} {H : Nat} {b off : Nat} {l : List Int} (h : RdI w H (some ⟨b, off, none⟩) l) : ∀ j, j < l.length → w.cell? ⟨b, off + j, none⟩ = some (.int .i64 (l.getD j 0)) := fun j hj => by
  rw [rd_at h j hj, getD_at l j hj]
theorem containsR_p (l : List Int) (a : Option Addr) (cv : Nat) (x : Int) (w : World) {H : Nat} (hR : Hid (RdI w H a l)) (hl : l.length ≤ 1048576) :
    Calls Try.prog 24 #[.slice a l.length cv, .int .i64 x] w fun e w' => e = .returned (.bool (decide (x ∈ l))) ∧ w' = w := by
  by_cases h0 : l.length = 0
  · obtain rfl : l = [] := List.eq_nil_of_length_eq_zero h0
    exact Try.slices_Contains_int_empty a cv x w
  · obtain ⟨b, off, rfl, _, _⟩ := hR.out 0 (by omega)
    refine (Try.slices_Contains_int b off l.length cv l x w (Nat.le_refl _) (by omega) (rd_cells hR.out)).mono ?_
    rintro e w' ⟨rfl, rfl⟩
    refine ⟨?_, rfl⟩
    rw [List.take_length, show decide (x ∈ l) = l.contains x from by rw [Bool.eq_iff_iff, decide_eq_true_eq, List.contains_iff_mem]]
theorem leastR_p (l : List Int) (a : Option Addr) (cv : Nat) (w : World) {H : Nat} (hR : Hid (RdI w H a l)) (hl : l.length ≤ 1048576) (h0 : 0 < l.length) :
    Calls Try.prog 44 #[.slice a l.length cv] w fun e w' => e = .returned (.int .i64 (Lib.minOf l)) ∧ w' = w := by
  obtain ⟨b, off, rfl, _, _⟩ := hR.out 0 h0
  refine (Try.slices_Min_int b off l.length cv l w h0 (Nat.le_refl _) (by omega) (rd_cells hR.out)).mono ?_
  rintro e w' ⟨rfl, rfl⟩
  rw [List.take_length]
  exact ⟨rfl, rfl⟩
theorem placeR_p (l : List Int) (a : Option Addr) (cv : Nat) (w : World) {H : Nat} (hR : Hid (RdI w H a l)) (hl : l.length ≤ 1048576) (h0 : 0 < l.length) :
    Calls Try.prog 43 #[.slice a l.length cv, .int .i64 (Lib.minOf l)] w fun e w' => e = .returned (.int .i64 (leastA l : Nat)) ∧ w' = w := by
  obtain ⟨b, off, rfl, _, _⟩ := hR.out 0 h0
  refine (Try.slices_Index_int b off l.length cv l (Lib.minOf l) w (Nat.le_refl _) (by omega) (rd_cells hR.out)).mono ?_
  rintro e w' ⟨rfl, rfl⟩
  rw [List.take_length, idx_least (List.length_pos_iff.mp h0)]
  exact ⟨rfl, rfl⟩

set_option maxRecDepth 100000 in
set_option maxHeartbeats 1600000 in
theorem implValidRow_any (l : List Int) (a : Option Addr) (cv : Nat) (w : World) {H : Nat} (hR : Hid (RdI w H a l)) (hl : l.length ≤ 1048576) :
    Calls Try.prog 11 #[.slice a l.length cv] w fun e w' => e = .returned (.bool (rowB l)) ∧ w' = w := by
  by_cases h8 : l.length ≤ 8
  · have b0 : ¬ (8 : Int) < (l.length : Int) := by omega
    have CC := Lib.hid (fun x => containsR_p l a cv x w hR hl)
    have HA := Lib.hid (row_all h8)
    obtain ⟨R, hRR⟩ : ∃ R, R = rowB l := ⟨_, rfl⟩
    rw [← hRR] at HA ⊢
    have HL : Hid (∀ j : Nat, j < l.length → (j : Int) ∉ l → R = false) := fun j hj h => by rw [hRR]; exact row_lacks hj h
    clear hRR
    obtain ⟨n, hn⟩ : ∃ n, n = l.length := ⟨_, rfl⟩
    have HN := Lib.hid hn
    rw [← hn] at CC HA HL b0 h8 ⊢
    clear hn hR hl
    go_enter Try.func11, Try.ntmps11
    go_wp2
    go_loop [3, 9] (fun _ i => ∃ k : Nat, k ≤ n ∧ i = .int .i64 k ∧ Hid (∀ j : Nat, j < k → (j : Int) ∈ l)) (fun _ i => n - (intOf i).toNat)
    case atStart => exact ⟨0, Nat.zero_le _, rfl, fun j h => absurd h (Nat.not_lt_zero _)⟩
    case round =>
      obtain ⟨k, hk, rfl, HK⟩ := hrel
      by_cases hlt : k < n
      · have b1 : (k : Int) < (n : Int) := by omega
        have C1 := Lib.hid (CC.out (k : Int))
        by_cases hm : (k : Int) ∈ l
        · rw [decide_eq_true hm] at C1
          have HK2 : Hid (∀ j : Nat, j < k + 1 → (j : Int) ∈ l) := fun j hj => by
            by_cases e : j = k
            · subst e; exact hm
            · exact HK.out j (by omega)
          clear hm CC
          go_wp2_with fail
          refine C1.out.mono ?_
          rintro e w1 ⟨rfl, rfl⟩
          go_wp2
          go_round
          case rel => exact ⟨k + 1, by omega, by go_num, HK2⟩
          case measure => simp [intOf]; omega
        · rw [decide_eq_false hm] at C1
          have HF := Lib.hid (HL.out k hlt hm)
          clear hm CC
          go_wp2_with fail
          refine C1.out.mono ?_
          rintro e w1 ⟨rfl, rfl⟩
          go_wp2
          go_ret
          exact ⟨by rw [HF.out]; rfl, rfl⟩
      · obtain rfl : k = n := by omega
        have HT := Lib.hid (HA.out HK.out)
        go_wp2
        go_ret
        exact ⟨by rw [HT.out]; rfl, rfl⟩
  · rw [row_long h8]
    have b0 : (8 : Int) < (l.length : Int) := by omega
    go_enter Try.func11, Try.ntmps11
    go_wp2
    go_ret
    exact ⟨rfl, rfl⟩

set_option maxRecDepth 100000 in
set_option maxHeartbeats 3200000 in
theorem wordByLeast_any : ∀ (f : Nat), f ≤ 10 → ∀ (a : Option Addr) (l : List Int) (n cv : Nat) (w : World) (H : Nat), Hid (RdL w H a l n cv f) →
    Calls Try.prog 26 #[.slice a n cv] w fun e w' => e = .returned (.string (hwS l)) ∧ ∃ q, w' = w.drewN q := by
  intro f
  induction f with
  | zero =>
    intro _ a l n cv w H hL
    obtain ⟨_, h1, h2, h3⟩ := hL.out
    obtain rfl : n = 0 := by omega
    obtain rfl : l = [] := List.eq_nil_of_length_eq_zero h1
    rw [hwS_nil]
    clear h1 h2 h3
    go_enter Try.func26, Try.ntmps26
    go_wp2
    go_ret
    exact ⟨rfl, 0, rfl⟩
  | succ f ih =>
    intro hf a l n cv w H hL
    obtain ⟨hR0, h1, h2, h3⟩ := hL.out
    by_cases hn : n = 0
    · subst hn
      obtain rfl : l = [] := List.eq_nil_of_length_eq_zero h1
      rw [hwS_nil]
      clear h1 h2 h3
      go_enter Try.func26, Try.ntmps26
      go_wp2
      go_ret
      exact ⟨rfl, 0, rfl⟩
    · have hR := Lib.hid hR0
      have hne : l ≠ [] := by intro e; subst e; exact hn h1.symm
      have hml := Tw.leastA_lt hne
      have CM := Lib.hid (leastR_p l a cv w hR (by omega) (by omega))
      have CI := Lib.hid (placeR_p l a cv w hR (by omega) (by omega))
      rw [h1] at hml CM CI
      rw [hwS_cons hne]
      have HSA := hwS_size (l.take (leastA l))
      have HSB := hwS_size (l.drop (leastA l + 1))
      rw [List.length_take, h1] at HSA
      rw [List.length_drop, h1] at HSB
      obtain ⟨m, hm⟩ : ∃ m, m = leastA l := ⟨_, rfl⟩
      rw [← hm] at hml CI HSA HSB ⊢
      obtain ⟨y, hy⟩ : ∃ y, y = Lib.minOf l := ⟨_, rfl⟩
      rw [← hy] at CM CI
      obtain ⟨TA, hTA⟩ : ∃ TA, TA = l.take m := ⟨_, rfl⟩
      obtain ⟨TB, hTB⟩ : ∃ TB, TB = l.drop (m + 1) := ⟨_, rfl⟩
      have HTA := Lib.hid hTA
      have HTB := Lib.hid hTB
      rw [← hTA] at HSA ⊢
      rw [← hTB] at HSB ⊢
      have z1 : (hwS TA).size ≤ 100 := by omega
      have z2 : (hwS TB).size ≤ 100 := by omega
      obtain ⟨b, off, rfl, hx0⟩ := hR.out 0 (by omega)
      clear hx0
      have HIH := Lib.hid (ih (by omega))
      have q1 : ((n : Int) == 0) = false := beq_false_of_ne (by omega)
      have LA : Hid (RdL w H (some ⟨b, off, none⟩) TA m cv f) := by show _ ∧ _; rw [HTA.out]; exact ⟨hR.out.take m, by rw [List.length_take]; omega, by omega, by omega⟩
      have LB : Hid (RdL w H (if cv = m + 1 then some ⟨b, off, none⟩ else some ⟨b, off + (m + 1), none⟩) TB (n - (m + 1)) (cv - (m + 1)) f) := by
        show _ ∧ _
        rw [HTB.out]
        refine ⟨?_, by rw [List.length_drop]; omega, by omega, by omega⟩
        split
        · exact RdI.none_of (by rw [List.length_drop]; omega)
        · exact hR.out.drop
      have I2 : Hid (∀ (q : Nat) (a' : Option Addr) (l' : List Int) (n' c' : Nat), Hid (RdL w H a' l' n' c' f) → Calls Try.prog 26 #[.slice a' n' c'] (w.drewN q) fun e w' => e = .returned (.string (hwS l')) ∧ ∃ m, w' = (w.drewN q).drewN m) :=
        fun q a' l' n' c' hy => HIH.out a' l' n' c' (w.drewN q) H (Lib.hid ⟨hy.out.1.drew q, hy.out.2⟩)
      have j1 : (m : Int) ≤ (cv : Int) := by omega
      have j2 : m ≤ cv := by omega
      have j3 : (m : Int) + 1 ≤ (n : Int) := by omega
      have j4 : m + 1 ≤ n := by omega
      have j5 : (0 : Int) ≤ (m : Int) + 1 := by omega
      have j6 : (0 : Int) ≤ (m : Int) := by omega
      have ewc : IntKind.i64.wrap ((m : Int) + 1) = (m : Int) + 1 := by rw [IntKind.wrap_i64]; omega
      clear hm hTA hTB hL hR0 ih HSA HSB hne h1 hy HIH hR
      go_enter Try.func26, Try.ntmps26
      go_wp2_with fail
      refine CM.out.mono ?_
      rintro e w1 ⟨rfl, rfl⟩
      go_wp2_with fail
      refine CI.out.mono ?_
      rintro e w1 ⟨rfl, rfl⟩
      clear CM CI
      go_wp2_with fail
      go_quiet ((go_at_call 26; exact Calls.quiet_of (I2.out _ _ _ _ _ (by assumption))))
      all_goals go_wp2
      all_goals go_ret
      all_goals exact ⟨rfl, nq, rfl⟩

set_option maxHeartbeats 800000 in
theorem implHeapWord_any (l : List Int) (a : Option Addr) (cv : Nat) (w : World) {H : Nat} (hR : Hid (RdI w H a l)) (hl : l.length ≤ 1048576) (hcv : l.length ≤ cv) :
    Calls Try.prog 14 #[.slice a l.length cv] w fun e w' => e = .returned (.string (hwO l)) ∧ ∃ q, w' = w.drewN q := by
  have CV := Lib.hid (implValidRow_any l a cv w hR hl)
  rw [hwO]
  cases hr : rowB l
  · rw [hr] at CV
    go_enter Try.func14, Try.ntmps14
    go_wp2_with fail
    refine CV.out.mono ?_
    rintro e w1 ⟨rfl, rfl⟩
    go_wp2
    go_ret
    exact ⟨rfl, 0, rfl⟩
  · rw [hr] at CV
    have h8 := ((rowB_iff l).mp hr).1
    have CF := Lib.hid (wordByLeast_any 10 (Nat.le_refl _) a l l.length cv w H (Lib.hid ⟨hR.out, rfl, hcv, by omega⟩))
    go_enter Try.func14, Try.ntmps14
    go_wp2_with fail
    refine CV.out.mono ?_
    rintro e w1 ⟨rfl, rfl⟩
    go_wp2_with fail
    refine CF.out.mono ?_
    rintro e w1 ⟨rfl, q2, rfl⟩
    go_wp2
    go_ret
    exact ⟨rfl, q2, rfl⟩

set_option maxRecDepth 100000 in
set_option maxHeartbeats 1600000 in
theorem implFallsOf_any (l : List Int) (a : Option Addr) (cv : Nat) (w : World) {H : Nat} (hR : Hid (RdI w H a l)) (hl : l.length ≤ 1048576) :
    Calls Try.prog 22 #[.slice a l.length cv] w fun e w' => e = .returned (.int .i64 (fallsO l)) ∧ ∃ q, w' = w.drewN q := by
  have CV := Lib.hid (implValidRow_any l a cv w hR hl)
  rw [fallsO]
  cases hr : rowB l
  · rw [hr] at CV
    go_enter Try.func22, Try.ntmps22
    go_wp2_with fail
    refine CV.out.mono ?_
    rintro e w1 ⟨rfl, rfl⟩
    go_wp2
    go_ret
    exact ⟨rfl, 0, rfl⟩
  · rw [hr] at CV
    have h8 := ((rowB_iff l).mp hr).1
    rw [if_pos rfl]
    obtain ⟨R, hRR⟩ : ∃ R, R = fallsL l := ⟨_, rfl⟩
    rw [← hRR]
    have HRR := Lib.hid hRR
    clear hRR hr
    go_enter Try.func22, Try.ntmps22
    go_wp2_with fail
    refine CV.out.mono ?_
    rintro e w1 ⟨rfl, hw1⟩
    subst hw1
    clear CV
    go_wp2
    go_loopw [3, 4] (fun c i wr => ∃ K n : Nat, 1 ≤ K ∧ (K = 1 ∨ K ≤ l.length) ∧ i = .int .i64 K ∧ c = .int .i64 n ∧ n < K ∧ Hid (n = sumK (fallB l) (K - 1)) ∧ Hid (∃ q, wr = w1.drewN q)) (fun _ i _ => l.length + 1 - (intOf i).toNat)
    case atStart => exact ⟨1, 0, Nat.le_refl _, Or.inl rfl, rfl, rfl, Nat.zero_lt_one, rfl, 0, rfl⟩
    case round =>
      obtain ⟨K, n, hK1, hK, rfl, rfl, hnK, HN, HS0⟩ := hrel
      have hRr : Hid (RdI wr H a l) := by obtain ⟨q, hq⟩ := HS0.out; rw [hq]; exact hR.out.drew q
      by_cases hlt : K < l.length
      · obtain ⟨J, hJ⟩ : ∃ J : Nat, J = K - 1 := ⟨_, rfl⟩
        obtain ⟨b, off, rfl, _, h1⟩ := hRr.out K hlt
        have h0 := rd_at hRr.out J (by omega)
        have b1 : (K : Int) < (l.length : Int) := by omega
        have b2 : (J : Int) < (l.length : Int) := by omega
        have hJK : J + 1 = K := by omega
        have HF : Hid (fallB l J = if l[K] < l[J] then 1 else 0) := by show _ = _; rw [fallB, hJK, getD_at _ _ hlt, getD_at _ _ (by omega)]
        obtain ⟨y, hy⟩ : ∃ y, y = l[K] := ⟨_, rfl⟩
        obtain ⟨x, hx⟩ : ∃ x, x = l[J] := ⟨_, rfl⟩
        rw [← hy] at h1 HF
        rw [← hx] at h0 HF
        clear hy hx
        have ew : IntKind.i64.wrap ((K : Int) - 1) = (J : Int) := by rw [IntKind.wrap_i64]; omega
        have HS : Hid (sumK (fallB l) (K + 1 - 1) = n + fallB l J) := by show _ = _; rw [HN.out, Nat.add_sub_cancel, ← hJK, sumK, Nat.add_sub_cancel]
        clear hJ hJK
        by_cases hyx : y < x
        · have HN2 : Hid (n + 1 = sumK (fallB l) (K + 1 - 1)) := by show _ = _; rw [HS.out, HF.out, if_pos hyx]
          clear hRr
          go_wp2_with fail
          go_quiet (fail)
          go_wp2
          go_roundw
          case rel => exact ⟨K + 1, n + 1, by omega, Or.inr (by omega), by go_num, by go_num, by omega, HN2, by obtain ⟨q, hq⟩ := HS0.out; exact ⟨q + nq, by rw [hq, World.drewN_drewN]⟩⟩
          case measure => simp [intOf]; omega
        · have HN2 : Hid (n = sumK (fallB l) (K + 1 - 1)) := by show _ = _; rw [HS.out, HF.out, if_neg hyx]; rfl
          clear hRr
          go_wp2_with fail
          go_quiet (fail)
          go_wp2
          go_roundw
          case rel => exact ⟨K + 1, n, by omega, Or.inr (by omega), by go_num, rfl, by omega, HN2, by obtain ⟨q, hq⟩ := HS0.out; exact ⟨q + nq, by rw [hq, World.drewN_drewN]⟩⟩
          case measure => simp [intOf]; omega
      · have b1 : ¬ (K : Int) < (l.length : Int) := by omega
        have hkl : K - 1 = l.length - 1 := by omega
        have hy : Hid (n = R) := by show _ = _; rw [HRR.out, HN.out, fallsL, hkl]
        clear hkl
        go_wp2
        go_ret
        exact ⟨(by rw [hy.out]; rfl), HS0.out⟩
end Go.Proofs.Ytmlcbeekimiaiaa
