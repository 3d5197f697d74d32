/-
  The contracts of the program's ValidRow, HeapWord and FallsOf, of numbers that can be read.
  The contracts of the program's numbersBetween, product and choices.
  The contracts of the program's HeapsOf and HeapsByHooks.
  The contract of the program's HeapsTried.
  The contracts of the program's functions of rows and of texts, in one form.
-/
import Derived.Test.YtooplolalbcmjaaZS
import Derived.Test.YtooplolalbcmjaaWRowP
import Derived.Test.YtooplolalbcmjaaShelf
import Derived.Test.YtooplolalbcmjaaCWrap
import Derived.Test.YtooplolalbcmjaaZNN
import Derived.Deep.RegionHeld3
namespace Go.Proofs.Ytooplolalbcmjaa
open Go.RowKit

theorem rd_cells {w : World} {H : Nat} {b off : Nat} {l : List Int} (h : RdI w H (some ⟨b, off, none⟩) l) : ∀ j, j < l.length → w.cell? ⟨b, off + j, none⟩ = some (.int .i64 (l.getD j 0)) := fun j hj => by
  rw [rd_at h j hj, getD_at l j hj]
theorem containsR_p (l : List Int) (a : Option Addr) (cv : Nat) (x : Int) (w : World) {H : Nat} (hR : Hid (RdI w H a l)) (hl : l.length ≤ 1048576) :
    Calls Try.prog 55 #[.slice a l.length cv, .int .i64 x] w fun e w' => e = .returned (.bool (decide (x ∈ l))) ∧ w' = w := by
  by_cases h0 : l.length = 0
  · obtain rfl : l = [] := List.eq_nil_of_length_eq_zero h0
    exact Try.slices_Contains_int_empty a cv x w
  · obtain ⟨b, off, rfl, _, _⟩ := hR.out 0 (by omega)
    refine (Try.slices_Contains_int b off l.length cv l x w (Nat.le_refl _) (by omega) (rd_cells hR.out)).mono ?_
    rintro e w' ⟨rfl, rfl⟩
    refine ⟨?_, rfl⟩
    rw [List.take_length, show decide (x ∈ l) = l.contains x from by rw [Bool.eq_iff_iff, decide_eq_true_eq, List.contains_iff_mem]]
theorem leastR_p (l : List Int) (a : Option Addr) (cv : Nat) (w : World) {H : Nat} (hR : Hid (RdI w H a l)) (hl : l.length ≤ 1048576) (h0 : 0 < l.length) :
    Calls Try.prog 84 #[.slice a l.length cv] w fun e w' => e = .returned (.int .i64 (Lib.minOf l)) ∧ w' = w := by
  obtain ⟨b, off, rfl, _, _⟩ := hR.out 0 h0
  refine (Try.slices_Min_int b off l.length cv l w h0 (Nat.le_refl _) (by omega) (rd_cells hR.out)).mono ?_
  rintro e w' ⟨rfl, rfl⟩
  rw [List.take_length]
  exact ⟨rfl, rfl⟩
theorem placeR_p (l : List Int) (a : Option Addr) (cv : Nat) (w : World) {H : Nat} (hR : Hid (RdI w H a l)) (hl : l.length ≤ 1048576) (h0 : 0 < l.length) :
    Calls Try.prog 82 #[.slice a l.length cv, .int .i64 (Lib.minOf l)] w fun e w' => e = .returned (.int .i64 (leastA l : Nat)) ∧ w' = w := by
  obtain ⟨b, off, rfl, _, _⟩ := hR.out 0 h0
  refine (Try.slices_Index_int b off l.length cv l (Lib.minOf l) w (Nat.le_refl _) (by omega) (rd_cells hR.out)).mono ?_
  rintro e w' ⟨rfl, rfl⟩
  rw [List.take_length, idx_least (List.length_pos_iff.mp h0)]
  exact ⟨rfl, rfl⟩

set_option maxRecDepth 100000 in
set_option maxHeartbeats 1600000 in
theorem implValidRow_any (l : List Int) (a : Option Addr) (cv : Nat) (w : World) {H : Nat} (hR : Hid (RdI w H a l)) (hl : l.length ≤ 1048576) :
    Calls Try.prog 15 #[.slice a l.length cv] w fun e w' => e = .returned (.bool (rowB l)) ∧ w' = w := by
  by_cases h8 : l.length ≤ 8
  · have b0 : ¬ (8 : Int) < (l.length : Int) := by omega
    have CC := Lib.hid (fun x => containsR_p l a cv x w hR hl)
    have HA := Lib.hid (row_all h8)
    obtain ⟨R, hRR⟩ : ∃ R, R = rowB l := ⟨_, rfl⟩
    rw [← hRR] at HA ⊢
    have HL : Hid (∀ j : Nat, j < l.length → (j : Int) ∉ l → R = false) := fun j hj h => by rw [hRR]; exact row_lacks hj h
    clear hRR
    obtain ⟨n, hn⟩ : ∃ n, n = l.length := ⟨_, rfl⟩
    have HN := Lib.hid hn
    rw [← hn] at CC HA HL b0 h8 ⊢
    clear hn hR hl
    go_enter Try.func15, Try.ntmps15
    go_wp2
    go_loop [3, 9] (fun _ i => ∃ k : Nat, k ≤ n ∧ i = .int .i64 k ∧ Hid (∀ j : Nat, j < k → (j : Int) ∈ l)) (fun _ i => n - (intOf i).toNat)
    case atStart => exact ⟨0, Nat.zero_le _, rfl, fun j h => absurd h (Nat.not_lt_zero _)⟩
    case round =>
      obtain ⟨k, hk, rfl, HK⟩ := hrel
      by_cases hlt : k < n
      · have b1 : (k : Int) < (n : Int) := by omega
        have C1 := Lib.hid (CC.out (k : Int))
        by_cases hm : (k : Int) ∈ l
        · rw [decide_eq_true hm] at C1
          have HK2 : Hid (∀ j : Nat, j < k + 1 → (j : Int) ∈ l) := fun j hj => by
            by_cases e : j = k
            · subst e; exact hm
            · exact HK.out j (by omega)
          clear hm CC
          go_wp2_with fail
          refine C1.out.mono ?_
          rintro e w1 ⟨rfl, rfl⟩
          go_wp2
          go_round
          case rel => exact ⟨k + 1, by omega, by go_num, HK2⟩
          case measure => simp [intOf]; omega
        · rw [decide_eq_false hm] at C1
          have HF := Lib.hid (HL.out k hlt hm)
          clear hm CC
          go_wp2_with fail
          refine C1.out.mono ?_
          rintro e w1 ⟨rfl, rfl⟩
          go_wp2
          go_ret
          exact ⟨by rw [HF.out]; rfl, rfl⟩
      · obtain rfl : k = n := by omega
        have HT := Lib.hid (HA.out HK.out)
        go_wp2
        go_ret
        exact ⟨by rw [HT.out]; rfl, rfl⟩
  · rw [row_long h8]
    have b0 : (8 : Int) < (l.length : Int) := by omega
    go_enter Try.func15, Try.ntmps15
    go_wp2
    go_ret
    exact ⟨rfl, rfl⟩

set_option maxRecDepth 100000 in
set_option maxHeartbeats 3200000 in
theorem wordByLeast_any : ∀ (f : Nat), f ≤ 10 → ∀ (a : Option Addr) (l : List Int) (n cv : Nat) (w : World) (H : Nat), Hid (RdL w H a l n cv f) →
    Calls Try.prog 57 #[.slice a n cv] w fun e w' => e = .returned (.string (hwS l)) ∧ ∃ q, w' = w.drewN q := by
  intro f
  induction f with
  | zero =>
    intro _ a l n cv w H hL
    obtain ⟨_, h1, h2, h3⟩ := hL.out
    obtain rfl : n = 0 := by omega
    obtain rfl : l = [] := List.eq_nil_of_length_eq_zero h1
    rw [hwS_nil]
    clear h1 h2 h3
    go_enter Try.func57, Try.ntmps57
    go_wp2
    go_ret
    exact ⟨rfl, 0, rfl⟩
  | succ f ih =>
    intro hf a l n cv w H hL
    obtain ⟨hR0, h1, h2, h3⟩ := hL.out
    by_cases hn : n = 0
    · subst hn
      obtain rfl : l = [] := List.eq_nil_of_length_eq_zero h1
      rw [hwS_nil]
      clear h1 h2 h3
      go_enter Try.func57, Try.ntmps57
      go_wp2
      go_ret
      exact ⟨rfl, 0, rfl⟩
    · have hR := Lib.hid hR0
      have hne : l ≠ [] := by intro e; subst e; exact hn h1.symm
      have hml := Tw.leastA_lt hne
      have CM := Lib.hid (leastR_p l a cv w hR (by omega) (by omega))
      have CI := Lib.hid (placeR_p l a cv w hR (by omega) (by omega))
      rw [h1] at hml CM CI
      rw [hwS_cons hne]
      have HSA := hwS_size (l.take (leastA l))
      have HSB := hwS_size (l.drop (leastA l + 1))
      rw [List.length_take, h1] at HSA
      rw [List.length_drop, h1] at HSB
      obtain ⟨m, hm⟩ : ∃ m, m = leastA l := ⟨_, rfl⟩
      rw [← hm] at hml CI HSA HSB ⊢
      obtain ⟨y, hy⟩ : ∃ y, y = Lib.minOf l := ⟨_, rfl⟩
      rw [← hy] at CM CI
      obtain ⟨TA, hTA⟩ : ∃ TA, TA = l.take m := ⟨_, rfl⟩
      obtain ⟨TB, hTB⟩ : ∃ TB, TB = l.drop (m + 1) := ⟨_, rfl⟩
      have HTA := Lib.hid hTA
      have HTB := Lib.hid hTB
      rw [← hTA] at HSA ⊢
      rw [← hTB] at HSB ⊢
      have z1 : (hwS TA).size ≤ 100 := by omega
      have z2 : (hwS TB).size ≤ 100 := by omega
      obtain ⟨b, off, rfl, hx0⟩ := hR.out 0 (by omega)
      clear hx0
      have HIH := Lib.hid (ih (by omega))
      have q1 : ((n : Int) == 0) = false := beq_false_of_ne (by omega)
      have LA : Hid (RdL w H (some ⟨b, off, none⟩) TA m cv f) := by show _ ∧ _; rw [HTA.out]; exact ⟨hR.out.take m, by rw [List.length_take]; omega, by omega, by omega⟩
      have LB : Hid (RdL w H (if cv = m + 1 then some ⟨b, off, none⟩ else some ⟨b, off + (m + 1), none⟩) TB (n - (m + 1)) (cv - (m + 1)) f) := by
        show _ ∧ _
        rw [HTB.out]
        refine ⟨?_, by rw [List.length_drop]; omega, by omega, by omega⟩
        split
        · exact RdI.none_of (by rw [List.length_drop]; omega)
        · exact hR.out.drop
      have I2 : Hid (∀ (q : Nat) (a' : Option Addr) (l' : List Int) (n' c' : Nat), Hid (RdL w H a' l' n' c' f) → Calls Try.prog 57 #[.slice a' n' c'] (w.drewN q) fun e w' => e = .returned (.string (hwS l')) ∧ ∃ m, w' = (w.drewN q).drewN m) :=
        fun q a' l' n' c' hy => HIH.out a' l' n' c' (w.drewN q) H (Lib.hid ⟨hy.out.1.drew q, hy.out.2⟩)
      have j1 : (m : Int) ≤ (cv : Int) := by omega
      have j2 : m ≤ cv := by omega
      have j3 : (m : Int) + 1 ≤ (n : Int) := by omega
      have j4 : m + 1 ≤ n := by omega
      have j5 : (0 : Int) ≤ (m : Int) + 1 := by omega
      have j6 : (0 : Int) ≤ (m : Int) := by omega
      have ewc : IntKind.i64.wrap ((m : Int) + 1) = (m : Int) + 1 := by rw [IntKind.wrap_i64]; omega
      clear hm hTA hTB hL hR0 ih HSA HSB hne h1 hy HIH hR
      go_enter Try.func57, Try.ntmps57
      go_wp2_with fail
      refine CM.out.mono ?_
      rintro e w1 ⟨rfl, rfl⟩
      go_wp2_with fail
      refine CI.out.mono ?_
      rintro e w1 ⟨rfl, rfl⟩
      clear CM CI
      go_wp2_with fail
      go_quiet ((go_at_call 57; exact Calls.quiet_of (I2.out _ _ _ _ _ (by assumption))))
      all_goals go_wp2
      all_goals go_ret
      all_goals exact ⟨rfl, nq, rfl⟩

set_option maxHeartbeats 800000 in
theorem implHeapWord_any (l : List Int) (a : Option Addr) (cv : Nat) (w : World) {H : Nat} (hR : Hid (RdI w H a l)) (hl : l.length ≤ 1048576) (hcv : l.length ≤ cv) :
    Calls Try.prog 22 #[.slice a l.length cv] w fun e w' => e = .returned (.string (hwO l)) ∧ ∃ q, w' = w.drewN q := by
  have CV := Lib.hid (implValidRow_any l a cv w hR hl)
  rw [hwO]
  cases hr : rowB l
  · rw [hr] at CV
    go_enter Try.func22, Try.ntmps22
    go_wp2_with fail
    refine CV.out.mono ?_
    rintro e w1 ⟨rfl, rfl⟩
    go_wp2
    go_ret
    exact ⟨rfl, 0, rfl⟩
  · rw [hr] at CV
    have h8 := ((rowB_iff l).mp hr).1
    have CF := Lib.hid (wordByLeast_any 10 (Nat.le_refl _) a l l.length cv w H (Lib.hid ⟨hR.out, rfl, hcv, by omega⟩))
    go_enter Try.func22, Try.ntmps22
    go_wp2_with fail
    refine CV.out.mono ?_
    rintro e w1 ⟨rfl, rfl⟩
    go_wp2_with fail
    refine CF.out.mono ?_
    rintro e w1 ⟨rfl, q2, rfl⟩
    go_wp2
    go_ret
    exact ⟨rfl, q2, rfl⟩

set_option maxRecDepth 100000 in
set_option maxHeartbeats 1600000 in
theorem implFallsOf_any (l : List Int) (a : Option Addr) (cv : Nat) (w : World) {H : Nat} (hR : Hid (RdI w H a l)) (hl : l.length ≤ 1048576) :
    Calls Try.prog 40 #[.slice a l.length cv] w fun e w' => e = .returned (.int .i64 (fallsO l)) ∧ ∃ q, w' = w.drewN q := by
  have CV := Lib.hid (implValidRow_any l a cv w hR hl)
  rw [fallsO]
  cases hr : rowB l
  · rw [hr] at CV
    go_enter Try.func40, Try.ntmps40
    go_wp2_with fail
    refine CV.out.mono ?_
    rintro e w1 ⟨rfl, rfl⟩
    go_wp2
    go_ret
    exact ⟨rfl, 0, rfl⟩
  · rw [hr] at CV
    have h8 := ((rowB_iff l).mp hr).1
    rw [if_pos rfl]
    obtain ⟨R, hRR⟩ : ∃ R, R = fallsL l := ⟨_, rfl⟩
    rw [← hRR]
    have HRR := Lib.hid hRR
    clear hRR hr
    go_enter Try.func40, Try.ntmps40
    go_wp2_with fail
    refine CV.out.mono ?_
    rintro e w1 ⟨rfl, hw1⟩
    subst hw1
    clear CV
    go_wp2
    go_loopw [3, 4] (fun c i wr => ∃ K n : Nat, 1 ≤ K ∧ (K = 1 ∨ K ≤ l.length) ∧ i = .int .i64 K ∧ c = .int .i64 n ∧ n < K ∧ Hid (n = sumK (fallB l) (K - 1)) ∧ Hid (∃ q, wr = w1.drewN q)) (fun _ i _ => l.length + 1 - (intOf i).toNat)
    case atStart => exact ⟨1, 0, Nat.le_refl _, Or.inl rfl, rfl, rfl, Nat.zero_lt_one, rfl, 0, rfl⟩
    case round =>
      obtain ⟨K, n, hK1, hK, rfl, rfl, hnK, HN, HS0⟩ := hrel
      have hRr : Hid (RdI wr H a l) := by obtain ⟨q, hq⟩ := HS0.out; rw [hq]; exact hR.out.drew q
      by_cases hlt : K < l.length
      · obtain ⟨J, hJ⟩ : ∃ J : Nat, J = K - 1 := ⟨_, rfl⟩
        obtain ⟨b, off, rfl, _, h1⟩ := hRr.out K hlt
        have h0 := rd_at hRr.out J (by omega)
        have b1 : (K : Int) < (l.length : Int) := by omega
        have b2 : (J : Int) < (l.length : Int) := by omega
        have hJK : J + 1 = K := by omega
        have HF : Hid (fallB l J = if l[K] < l[J] then 1 else 0) := by show _ = _; rw [fallB, hJK, getD_at _ _ hlt, getD_at _ _ (by omega)]
        obtain ⟨y, hy⟩ : ∃ y, y = l[K] := ⟨_, rfl⟩
        obtain ⟨x, hx⟩ : ∃ x, x = l[J] := ⟨_, rfl⟩
        rw [← hy] at h1 HF
        rw [← hx] at h0 HF
        clear hy hx
        have ew : IntKind.i64.wrap ((K : Int) - 1) = (J : Int) := by rw [IntKind.wrap_i64]; omega
        have HS : Hid (sumK (fallB l) (K + 1 - 1) = n + fallB l J) := by show _ = _; rw [HN.out, Nat.add_sub_cancel, ← hJK, sumK, Nat.add_sub_cancel]
        clear hJ hJK
        by_cases hyx : y < x
        · have HN2 : Hid (n + 1 = sumK (fallB l) (K + 1 - 1)) := by show _ = _; rw [HS.out, HF.out, if_pos hyx]
          clear hRr
          go_wp2_with fail
          go_quiet (fail)
          go_wp2
          go_roundw
          case rel => exact ⟨K + 1, n + 1, by omega, Or.inr (by omega), by go_num, by go_num, by omega, HN2, by obtain ⟨q, hq⟩ := HS0.out; exact ⟨q + nq, by rw [hq, World.drewN_drewN]⟩⟩
          case measure => simp [intOf]; omega
        · have HN2 : Hid (n = sumK (fallB l) (K + 1 - 1)) := by show _ = _; rw [HS.out, HF.out, if_neg hyx]; rfl
          clear hRr
          go_wp2_with fail
          go_quiet (fail)
          go_wp2
          go_roundw
          case rel => exact ⟨K + 1, n, by omega, Or.inr (by omega), by go_num, rfl, by omega, HN2, by obtain ⟨q, hq⟩ := HS0.out; exact ⟨q + nq, by rw [hq, World.drewN_drewN]⟩⟩
          case measure => simp [intOf]; omega
      · have b1 : ¬ (K : Int) < (l.length : Int) := by omega
        have hkl : K - 1 = l.length - 1 := by omega
        have hy : Hid (n = R) := by show _ = _; rw [HRR.out, HN.out, fallsL, hkl]
        clear hkl
        go_wp2
        go_ret
        exact ⟨(by rw [hy.out]; rfl), HS0.out⟩
end Go.Proofs.Ytooplolalbcmjaa

namespace Go.Proofs.Ytooplolalbcmjaa
open Go.RowKit

def natI (l : List Nat) : List Int := l.map fun (x : Nat) => (x : Int)
theorem natI_length (l : List Nat) : (natI l).length = l.length := by simp [natI]
theorem natI_at (l : List Nat) (j : Nat) (h : j < (natI l).length) : (natI l)[j] = ((l[j]'(by rwa [natI_length] at h) : Nat) : Int) := by simp [natI]
theorem natI_snoc (l : List Nat) (x : Nat) : iv (natI (l ++ [x])) = iv (natI l) ++ [.int .i64 (x : Int)] := by simp [iv, natI]

set_option maxRecDepth 100000 in
set_option maxHeartbeats 1600000 in
theorem numbersBetween_any (lo n : Nat) (hi_ : Int) (w : World) (hlo : lo ≤ 20) (hn : n ≤ 20) (hh : hi_ + 1 = (lo : Int) + (n : Int)) :
    Calls Try.prog 70 #[.int .i64 (lo : Int), .int .i64 hi_] w fun e w' => ∃ u, e = .returned u ∧ Own w' w.heap.size w'.heap.size 3 u (iv (natI (betN lo n))) ∧ Below w.heap.size w w' := by
  obtain ⟨i0, hi, hz0, hz1, hz2⟩ := info_parts Try.infoIntR
  have S0 : Hid (Own w w.heap.size w.heap.size 3 (.slice none 0 0) (iv (natI (betN lo 0))) ∧ Below w.heap.size w w) := ⟨⟨World.ownsRow_nil _ _ _ _, fun q hq => by simp [Value.ownBlock] at hq⟩, Below.refl _ _⟩
  go_enter Try.func70, Try.ntmps70
  go_wp2
  go_loopw [5, 6] (fun v x wr => ∃ (k : Nat) (a : Option Addr) (m c : Nat), k ≤ n ∧ x = .int .i64 ((lo : Int) + (k : Int)) ∧ v = .slice a m c ∧ m = k ∧ Hid (Own wr w.heap.size wr.heap.size 3 (.slice a m c) (iv (natI (betN lo k))) ∧ Below w.heap.size w wr)) (fun _ x _ => lo + n - (intOf x).toNat)
  case atStart => exact ⟨0, none, 0, 0, Nat.zero_le _, by simp, rfl, rfl, S0⟩
  case round =>
    clear S0
    obtain ⟨k, a, m, c, hk, rfl, rfl, rfl, HS⟩ := hrel
    by_cases hlt : m < n
    · have b1 : (lo : Int) + (m : Int) ≤ hi_ := by omega
      have hlen : (iv (natI (betN lo m))).length = m := by rw [iv_length, natI_length, betN_length]
      have OQ : Hid (wr.ownsRow w.heap.size 3 1 (.slice a m c) m (iv (natI (betN lo m)))) := by have := HS.out.1.1; rwa [hlen] at this
      have IS : Hid (iv (natI (betN lo (m + 1))) = iv (natI (betN lo m)) ++ [.int .i64 ((lo : Int) + (m : Int))]) := by show _ = _; rw [betN_next, natI_snoc]; simp
      have HB : Hid (Below w.heap.size w wr) := HS.out.2
      have Y3 : Hid (∀ o : Obj, w.heap.size ≤ (wr.alloc o).heap.size) := fun o => by have := HB.out.size; rw [World.size_alloc]; omega
      have S3 : Hid (w.heap.size ≤ wr.heap.size) := HB.out.size
      have z1 : m + 1 ≤ maxLen := by unfold maxLen; omega
      have z2 : (m + 1) * 8 ≤ 140737488355328 := by omega
      clear HS hlen
      go_wp2_with (at_builtin; refine wpList_append_lies _ rfl (.tmp 13) (.tmp 15) 23 rfl w.heap.size 3 i0 (.int .i64 0) 1 8 Try.underlying23 hi hz0 hz1 hz2 rfl (Nat.succ_pos 0) (.slice a m c) m (iv (natI (betN lo m))) rfl (OQ.out.alloc _) ⟨wr.heap.size, 0, none⟩ 1 1 [.int .i64 ((lo : Int) + (m : Int))] rfl rfl (cell_one_new _ _ _) (one_intR _) (Nat.succ_pos 0) z1 z2 (Y3.out _) _ rfl ?_)
      intro g5 c5 w5 hv5 hg5 _ hgs5
      rw [← IS.out] at hv5
      have B5 : Hid (Below w.heap.size w w5) := (HB.out.alloc S3.out _).grown hg5 (Y3.out _) (fun q hq => (OQ.out.lt q hq).1)
      have O5 : Hid (Own w5 w.heap.size w5.heap.size 3 (.slice (some ⟨g5, 0, none⟩) (m + 1) c5) (iv (natI (betN lo (m + 1))))) := by
        refine Own.of_own ?_
        have e : (iv (natI (betN lo (m + 1)))).length = m + 1 := by rw [iv_length, natI_length, betN_length]
        rw [e]; exact hv5
      clear hv5 hg5 hgs5 OQ Y3 S3 HB
      go_wp2
      go_roundw
      case rel => exact ⟨m + 1, _, _, _, by omega, by go_num, rfl, rfl, O5.out, B5.out⟩
      case measure => simp [intOf]; omega
    · obtain rfl : m = n := by omega
      have b1 : ¬ (lo : Int) + (m : Int) ≤ hi_ := by omega
      go_wp2
      go_ret
      exact ⟨_, rfl, HS.out⟩

theorem wrap_mulR (a b : Int) (hb : IntKind.i64.wrap b = b) : IntKind.i64.wrap (IntKind.i64.wrap a * b) = IntKind.i64.wrap (a * b) := by
  have := wrap_mul a b
  rwa [hb] at this
set_option maxRecDepth 100000 in
set_option maxHeartbeats 1600000 in
theorem product_any (l : List Nat) (a : Option Addr) (n cv : Nat) (w : World) {H : Nat} (hR : Hid (RdI w H a (natI l))) (hn : l.length = n) (hl : n ≤ 1000) (hb : ∀ x ∈ l, x ≤ 1000000) :
    Calls Try.prog 69 #[.slice a n cv] w fun e w' => e = .returned (.int .i64 (IntKind.i64.wrap (prodN l : Nat))) ∧ w' = w := by
  have HN := Lib.hid hn
  have HB := Lib.hid hb
  have S0 : Hid ((1 : Int) = IntKind.i64.wrap ((prodN (l.take 0) : Nat) : Int)) := rfl
  clear hn hb
  go_enter Try.func69, Try.ntmps69
  go_wp2
  go_loop [3, 5, 9] (fun z _ i => ∃ (k : Nat) (y : Int), k ≤ n ∧ i = .int .i64 k ∧ z = .int .i64 y ∧ Hid (y = IntKind.i64.wrap ((prodN (l.take k) : Nat) : Int))) (fun _ _ i => n - (intOf i).toNat)
  case atStart => exact ⟨0, 1, Nat.zero_le _, rfl, rfl, S0⟩
  case round =>
    clear S0
    obtain ⟨k, y, hk, rfl, rfl, HY⟩ := hrel
    by_cases hlt : k < n
    · have hkl : k < l.length := by rw [HN.out]; exact hlt
      obtain ⟨b, off, rfl, _, h1⟩ := hR.out k (by rw [natI_length]; exact hkl)
      rw [natI_at] at h1
      have hx := HB.out l[k] (List.getElem_mem hkl)
      have ht : prodN (l.take (k + 1)) = prodN (l.take k) * l[k] := by
        rw [List.take_succ_eq_append_getElem hkl, prodN_append, prodN, prodN, Nat.mul_one]
      have HT := Lib.hid ht
      obtain ⟨x, hxx⟩ : ∃ x, x = l[k] := ⟨_, rfl⟩
      rw [← hxx] at h1 hx HT
      have b1 : (k : Int) < (n : Int) := by omega
      have HY2 : Hid (IntKind.i64.wrap (y * (x : Int)) = IntKind.i64.wrap ((prodN (l.take (k + 1)) : Nat) : Int)) := by
        show _ = _
        rw [HY.out, HT.out, wrap_mulR _ _ (by rw [IntKind.wrap_i64]; omega)]
        push_cast
        rfl
      have HY3 : Hid (wrap64 (y * (x : Int)) = IntKind.i64.wrap ((prodN (l.take (k + 1)) : Nat) : Int)) := by show _ = _; rw [← HY2.out, Go.IntWalk.i64_left]
      clear hxx HT ht HY
      go_wp2
      go_round
      case rel => exact ⟨k + 1, _, by omega, by go_num, rfl, by first | exact HY2 | exact HY3⟩
      case measure => simp [intOf]; omega
    · obtain rfl : k = n := by omega
      have HF : Hid (y = IntKind.i64.wrap ((prodN l : Nat) : Int)) := by show _ = _; rw [HY.out, ← HN.out, List.take_length]
      clear HY
      go_wp2
      go_ret
      exact ⟨(by rw [HF.out]; rfl), rfl⟩

theorem betN_le (lo n : Nat) : ∀ x ∈ betN lo n, x ≤ lo + n := by
  intro x hx
  rw [betN, List.mem_map] at hx
  obtain ⟨i, hi, rfl⟩ := hx
  have := List.mem_range.mp hi
  omega
theorem product_own (l : List Nat) (u : Value) (w : World) {B H : Nat} (ho : Hid (Own w B H 3 u (iv (natI l)))) (hl : l.length ≤ 1000) (hb : ∀ x ∈ l, x ≤ 1000000) (hp : prodN l ≤ 1000000) :
    Calls Try.prog 69 #[u] w fun e w' => e = .returned (.int .i64 (prodN l : Nat)) ∧ w' = w := by
  obtain ⟨av, cv, rfl, _⟩ := ho.out.slice
  rw [iv_length, natI_length] at ho ⊢
  have hR := own_rd (l := natI l) (c := cv) (a := av) (by rw [natI_length]; exact ho.out)
  refine (product_any l av l.length cv w hR rfl hl hb).mono ?_
  rintro e w' ⟨rfl, rfl⟩
  have e : IntKind.i64.wrap ((prodN l : Nat) : Int) = ((prodN l : Nat) : Int) := by rw [IntKind.wrap_i64]; omega
  rw [e]
  exact ⟨rfl, rfl⟩

set_option maxRecDepth 100000 in
set_option maxHeartbeats 1600000 in
theorem choices_any (n k : Nat) (w : World) (hn : n ≤ 7) (hk : k ≤ n) :
    Calls Try.prog 91 #[.int .i64 (n : Int), .int .i64 (k : Int)] w fun e w' => e = .returned (.int .i64 ((chs n k : Nat) : Int)) ∧ Below w.heap.size w w' := by
  have C1 := Lib.hid (fun W => numbersBetween_any (n - k + 1) k (n : Int) W (by omega) (by omega) (by omega))
  have C2 := Lib.hid (fun W => numbersBetween_any 1 k (k : Int) W (by omega) (by omega) (by omega))
  have P1 := Lib.hid (fun u W B H (ho : Hid (Own W B H 3 u (iv (natI (betN (n - k + 1) k))))) => product_own (betN (n - k + 1) k) u W ho (by rw [betN_length]; omega) (fun x hx => by have := betN_le _ _ x hx; omega) (by have := prod_small n (by omega) k hk; omega))
  have P2 := Lib.hid (fun u W B H (ho : Hid (Own W B H 3 u (iv (natI (betN 1 k))))) => product_own (betN 1 k) u W ho (by rw [betN_length]; omega) (fun x hx => by have := betN_le _ _ x hx; omega) (by have := prod_pos k (by omega); omega))
  have hq := prod_chs n hn k hk
  have h1 := prod_small n (by omega) k hk
  have h2 := prod_pos k (by omega)
  obtain ⟨x, hx⟩ : ∃ x, x = prodN (betN (n - k + 1) k) := ⟨_, rfl⟩
  obtain ⟨y, hy⟩ : ∃ y, y = prodN (betN 1 k) := ⟨_, rfl⟩
  rw [← hx] at P1 hq h1
  rw [← hy] at P2 hq h2
  obtain ⟨h2, h3⟩ := h2
  have e1 : IntKind.i64.wrap ((n : Int) - (k : Int)) = (n : Int) - (k : Int) := by rw [IntKind.wrap_i64]; omega
  have e2 : IntKind.i64.wrap ((n : Int) - (k : Int) + 1) = ((n - k + 1 : Nat) : Int) := by rw [IntKind.wrap_i64]; omega
  have ne : ((y : Int) == 0) = false := beq_false_of_ne (by omega)
  have hq2 : Int.tdiv (x : Int) (y : Int) = ((chs n k : Nat) : Int) := by
    rw [Int.tdiv_eq_ediv_of_nonneg (by omega), ← hq]; rfl
  have hq3 : IntKind.i64.wrap (Int.tdiv (x : Int) (y : Int)) = ((chs n k : Nat) : Int) := by
    rw [hq2, IntKind.wrap_i64]
    have : chs n k ≤ x := by rw [← hq]; exact Nat.div_le_self _ _
    omega
  have hq4 : wrap64 ((x : Int) / (y : Int)) = ((chs n k : Nat) : Int) := by
    rw [← Int.tdiv_eq_ediv_of_nonneg (by omega), ← Go.IntWalk.i64_left]; exact hq3
  obtain ⟨R, hR⟩ : ∃ R, R = chs n k := ⟨_, rfl⟩
  rw [← hR] at hq4 ⊢
  obtain ⟨lo, hlo⟩ : ∃ lo, lo = n - k + 1 := ⟨_, rfl⟩
  rw [← hlo] at C1 P1 e2
  have HQ4 := Lib.hid hq4
  clear hx hy hq h1 hR hlo hq2 hq3 hq4
  go_enter Try.func91, Try.ntmps91
  go_wp2_with fail
  refine (C1.out _).mono ?_
  rintro e w1 ⟨u1, rfl, ho1, hb1⟩
  have O1 := Lib.hid ho1
  have B1 := Lib.hid hb1
  clear ho1 hb1
  go_wp2_with fail
  refine (P1.out _ _ _ _ O1).mono ?_
  rintro e w2 ⟨rfl, rfl⟩
  go_wp2_with fail
  refine (C2.out _).mono ?_
  rintro e w3 ⟨u2, rfl, ho2, hb2⟩
  have O2 := Lib.hid ho2
  have B2 := Lib.hid (B1.out.trans (hb2.mono B1.out.size))
  clear ho2 hb2 O1 C1 C2 P1
  go_wp2_with fail
  refine (P2.out _ _ _ _ O2).mono ?_
  rintro e w4 ⟨rfl, rfl⟩
  clear P2 O2 B1
  go_wp2
  go_ret
  exact ⟨(by rw [HQ4.out]; rfl), B2.out⟩
end Go.Proofs.Ytooplolalbcmjaa

namespace Go.Proofs.Ytooplolalbcmjaa
open Go.RowKit

theorem implWordUp_any (k : Nat) (s : ByteArray) (w : World) (hs : s.size ≤ maxLen) (hk : k ≤ 100) :
    Calls Try.prog 63 #[.int .i64 (k : Int), .string s] w fun e w' => e = .returned (.bool (decide (valid s.data.toList = true ∧ s.data.toList.length ≤ 2 * k))) ∧ Below w.heap.size w w' := by
  have e1 : IntKind.i64.wrap (2 * (k : Int)) = 2 * (k : Int) := by rw [IntKind.wrap_i64]; omega
  cases hv : valid s.data.toList with
  | false =>
    rw [decide_eq_false (fun h => by exact absurd h.1 (by decide))]
    have HV := Lib.hid hv
    clear hv
    go_enter Try.func63, Try.ntmps63
    go_wp2_with fail
    refine (implValid_is false _ _ hs HV).mono ?_
    rintro e w1 ⟨rfl, hb⟩
    have HB := Lib.hid hb
    clear hb
    go_wp2
    go_ret
    exact ⟨rfl, HB.out⟩
  | true =>
    have HV := Lib.hid hv
    have hd : decide (true = true ∧ s.data.toList.length ≤ 2 * k) = decide (s.size ≤ 2 * k) := by rw [size_list]; simp
    rw [hd]
    clear hv hd
    by_cases hl : s.size ≤ 2 * k
    · have b1 : (s.size : Int) ≤ 2 * (k : Int) := by omega
      rw [decide_eq_true hl]
      clear hl
      go_enter Try.func63, Try.ntmps63
      go_wp2_with fail
      refine (implValid_is true _ _ hs HV).mono ?_
      rintro e w1 ⟨rfl, hb⟩
      have HB := Lib.hid hb
      clear hb
      go_wp2
      go_ret
      exact ⟨(by first | rfl | (simp [b1]; done) | (rw [decide_eq_true b1]; rfl) | (rw [decide_eq_false b1]; rfl)), HB.out⟩
    · have b1 : ¬ (s.size : Int) ≤ 2 * (k : Int) := by omega
      rw [decide_eq_false hl]
      clear hl
      go_enter Try.func63, Try.ntmps63
      go_wp2_with fail
      refine (implValid_is true _ _ hs HV).mono ?_
      rintro e w1 ⟨rfl, hb⟩
      have HB := Lib.hid hb
      clear hb
      go_wp2
      go_ret
      exact ⟨(by first | rfl | (simp [b1]; done) | (rw [decide_eq_true b1]; rfl) | (rw [decide_eq_false b1]; rfl)), HB.out⟩

/-- the tree in memory, told by the tree -/
theorem ta_tree {w : World} {B H f n : Nat} {p : Option Addr} {a b : Tw} (h : TA w B H f (Tw.n a b).lst n p) (hf : 1 ≤ f) : ∃ g k l r, p = some ⟨k, 0, none⟩ ∧ f = g + 1 ∧ k < H ∧ w.cell? ⟨k, 1, none⟩ = some (.pointer l) ∧ w.cell? ⟨k, 2, none⟩ = some (.pointer r) ∧ TA w B H g a.lst (n + 1) l ∧ TA w B H g b.lst (n + 1 + a.size) r := by
  cases f with
  | zero => omega
  | succ f =>
    rcases h with ⟨h0, _⟩ | ⟨_, k, l, r, h1, _, h3, _, h5, h6, h7, h8⟩
    · exact absurd h0 (Tw.lst_ne a b)
    · rw [Tw.fst_lst] at h7 h8
      rw [Tw.rst_lst, Tw.half_lst] at h8
      exact ⟨f, k, l, r, h1, rfl, h3, h5, h6, h7, h8⟩
theorem lit3 (A B C : Nat) (W : World) : RdI (W.alloc (.cells #[.int .i64 (A : Int), .int .i64 (B : Int), .int .i64 (C : Int)] 3)) (W.heap.size + 1) (some ⟨W.heap.size, 0, none⟩) (natI [A, B, C]) := fun j hj => by
  refine ⟨_, _, rfl, by omega, ?_⟩
  rw [Nat.zero_add, World.cell?_alloc_new]
  simp only [natI_length, List.length_cons, List.length_nil] at hj
  match j, hj with
  | 0, _ => rfl
  | 1, _ => rfl
  | 2, _ => rfl
set_option maxRecDepth 100000 in
set_option maxHeartbeats 3200000 in
theorem heapsFrom_any {B H : Nat} : ∀ (t : Tw), t.size ≤ 8 → ∀ (f n : Nat) (p : Option Addr) (w : World), Hid (TA w B H f t.lst n p) → t.lst.length ≤ f → f ≤ 18 → H ≤ w.heap.size →
    Calls Try.prog 64 #[.pointer p] w fun e w' => e = .returned (.int .i64 ((t.heaps : Nat) : Int)) ∧ Below w.heap.size w w' := by
  intro t
  induction t with
  | e =>
    intro _ f n p w hT _ _ _
    obtain rfl := hT.out.nil
    go_enter Try.func64, Try.ntmps64
    go_wp2
    go_ret
    exact ⟨rfl, Below.refl _ _⟩
  | n a b iha ihb =>
    intro h8 f n p w hT hf h18 hH
    have hab : a.size + 1 + b.size ≤ 8 := h8
    have hl0 := Tw.lst_length (Tw.n a b)
    have hla := Tw.lst_length a
    have hlb := Tw.lst_length b
    have hsz : (Tw.n a b).size = a.size + 1 + b.size := rfl
    obtain ⟨g, k, l, r, rfl, rfl, hk, c1, c2, hTa, hTb⟩ := ta_tree hT.out (by omega)
    have K1 := Lib.hid (fun m => countNodes_any g a.lst (n + 1) l (w.drewN m) (Lib.hid (hTa.drewN m)) (Lib.hid ⟨Tw.lst_scan a, by omega⟩) (by omega))
    have K2 := Lib.hid (fun m => countNodes_any g b.lst (n + 1 + a.size) r (w.drewN m) (Lib.hid (hTb.drewN m)) (Lib.hid ⟨Tw.lst_scan b, by omega⟩) (by omega))
    rw [Tw.half_lst] at K1 K2
    have I1 : Hid (∀ W, Below w.heap.size w W → Calls Try.prog 64 #[.pointer l] W fun e w' => e = .returned (.int .i64 ((a.heaps : Nat) : Int)) ∧ Below W.heap.size W w') :=
      fun W hW => iha (by omega) g (n + 1) l W (Lib.hid (TA.below (hW.mono hH) g _ _ _ hTa)) (by omega) (by omega) (Nat.le_trans hH hW.size)
    have I2 : Hid (∀ W, Below w.heap.size w W → Calls Try.prog 64 #[.pointer r] W fun e w' => e = .returned (.int .i64 ((b.heaps : Nat) : Int)) ∧ Below W.heap.size W w') :=
      fun W hW => ihb (by omega) g (n + 1 + a.size) r W (Lib.hid (TA.below (hW.mono hH) g _ _ _ hTb)) (by omega) (by omega) (Nat.le_trans hH hW.size)
    have I3 : Hid (∀ W : World, Calls Try.prog 91 #[.int .i64 ((a.size + b.size : Nat) : Int), .int .i64 ((a.size : Nat) : Int)] W fun e w' => e = .returned (.int .i64 ((chs (a.size + b.size) a.size : Nat) : Int)) ∧ Below W.heap.size W w') :=
      fun W => choices_any (a.size + b.size) a.size W (by omega) (by omega)
    have hle := Tw.heaps_le h8
    have h40 := fct_le8 _ h8
    have hpa := Tw.heaps_pos (t := a) (by omega)
    have hpb := Tw.heaps_pos (t := b) (by omega)
    have hpc : 1 ≤ chs (a.size + b.size) a.size := by
      have h1 := chs_fac (a.size + b.size) (by omega) a.size (by omega)
      have h2 := fct_pos (a.size + b.size)
      rcases Nat.eq_zero_or_pos (chs (a.size + b.size) a.size) with e | e
      · rw [e, Nat.zero_mul, Nat.zero_mul] at h1; omega
      · exact e
    rw [Tw.heaps] at hle ⊢
    obtain ⟨A, hA⟩ : ∃ A, A = a.heaps := ⟨_, rfl⟩
    obtain ⟨D, hD⟩ : ∃ D, D = b.heaps := ⟨_, rfl⟩
    obtain ⟨C, hC⟩ : ∃ C, C = chs (a.size + b.size) a.size := ⟨_, rfl⟩
    rw [← hA] at I1 hle hpa ⊢
    rw [← hD] at I2 hle hpb ⊢
    rw [← hC] at I3 hle hpc ⊢
    have hR : prodN [A, D, C] = C * A * D := by simp only [prodN, Nat.mul_one]; ac_rfl
    have hca : C * A ≤ 40320 := Nat.le_trans (Nat.le_mul_of_pos_right _ hpb) (Nat.le_trans hle h40)
    have bA : A ≤ 40320 := Nat.le_trans (Nat.le_mul_of_pos_left _ hpc) hca
    have bC : C ≤ 40320 := Nat.le_trans (Nat.le_mul_of_pos_right _ hpa) hca
    have bD : D ≤ 40320 := Nat.le_trans (Nat.le_mul_of_pos_left _ (Nat.mul_pos hpc hpa)) (Nat.le_trans hle h40)
    have bR : C * A * D ≤ 40320 := Nat.le_trans hle h40
    obtain ⟨R, hRR⟩ : ∃ R, R = C * A * D := ⟨_, rfl⟩
    rw [← hRR] at hR bR ⊢
    have eR : IntKind.i64.wrap (R : Int) = (R : Int) := by rw [IntKind.wrap_i64]; omega
    have I4 : Hid (∀ W : World, Calls Try.prog 69 #[.slice (some ⟨W.heap.size, 0, none⟩) 3 3] (W.alloc (.cells #[.int .i64 (A : Int), .int .i64 (D : Int), .int .i64 (C : Int)] 3)) fun e w' => e = .returned (.int .i64 (R : Int)) ∧ w' = W.alloc (.cells #[.int .i64 (A : Int), .int .i64 (D : Int), .int .i64 (C : Int)] 3)) := fun W => by
      refine (product_any [A, D, C] (some ⟨W.heap.size, 0, none⟩) 3 3 _ (Lib.hid (lit3 A D C W)) rfl (by omega) (fun x hx => ?_)).mono ?_
      · simp only [List.mem_cons, List.not_mem_nil, or_false] at hx
        rcases hx with rfl | rfl | rfl <;> omega
      · rintro e w' ⟨rfl, rfl⟩
        refine ⟨?_, rfl⟩
        rw [hR, eR]
    obtain ⟨x, hx⟩ : ∃ x, x = a.size := ⟨_, rfl⟩
    obtain ⟨y, hy⟩ : ∃ y, y = b.size := ⟨_, rfl⟩
    obtain ⟨z, hz⟩ : ∃ z, z = a.size + b.size := ⟨_, rfl⟩
    rw [← hz, ← hx] at I3
    rw [← hx] at K1
    rw [← hy] at K2
    have ez : IntKind.i64.wrap ((x : Int) + (y : Int)) = (z : Int) := by rw [IntKind.wrap_i64]; omega
    have hkw : k < w.heap.size := by omega
    have KS : Hid (∀ W, Below w.heap.size w W → (Below w.heap.size w W ∧ W.cell? ⟨k, 1, none⟩ = some (.pointer l) ∧ W.cell? ⟨k, 2, none⟩ = some (.pointer r))) := fun W h => ⟨h, (h.cell (p := ⟨k, 1, none⟩) hkw).trans c1, (h.cell (p := ⟨k, 2, none⟩) hkw).trans c2⟩
    have z7 : z ≤ 7 := by omega
    have bx : x ≤ 7 := by omega
    have by_ : y ≤ 7 := by omega
    clear iha ihb hT hTa hTb hle h40 hpa hpb hpc hA hD hC hR hca bR hRR hx hy hz hkw hl0 hla hlb hsz hab h8 hf h18 hk hH
    go_enter Try.func64, Try.ntmps64
    go_wp2_with fail
    go_quiet (first | (go_at_call_of 90 l; exact Calls.quiet_of (K1.out _)) | (go_at_call_of 90 r; exact Calls.quiet_of (K2.out _)))
    have hB0 : Below w.heap.size w (w.drewN nq) := ⟨rfl, rfl, rfl, Nat.le_refl _, fun _ _ => rfl⟩
    obtain ⟨wq, hwq⟩ : ∃ wq, wq = w.drewN nq := ⟨_, rfl⟩
    rw [← hwq] at hB0 ⊢
    obtain ⟨_, d1, d2⟩ := KS.out wq hB0
    clear hwq K1 K2 c1 c2
    go_wp2_with fail
    go_region_held3 (fun w' => Below w.heap.size w w' ∧ w'.cell? ⟨k, 1, none⟩ = some (.pointer l) ∧ w'.cell? ⟨k, 2, none⟩ = some (.pointer r))
      (first
        | exact KS.out _ (by assumption)
        | exact KS.out _ (Below.drew (by assumption))
        | exact KS.out _ (hB6.alloc hB6.size _)
        | exact KS.out _ (hB5.alloc hB5.size _)
        | exact KS.out _ (hB4.alloc hB4.size _))
      (first
        | (go_at_call 69; have mk3 := mk2; have mk4 := mk1; have mk6 := mk5; refine (I4.out _).mono ?_; rintro e w9 ⟨rfl, hw9⟩)
        | (go_at_call_of 64 r; have mk2 : True := trivial; go_split_ands; refine (I2.out _ (by assumption)).mono ?_; rintro e w5 ⟨rfl, hb5⟩
           have hB5 : Below w.heap.size w w5 := by
             refine Below.trans (B := w.heap.size) ?_ (hb5.mono (Below.size (B := w.heap.size) ?_)) <;> assumption)
        | (go_at_call_of 64 l; have mk1 : True := trivial; go_split_ands; refine (I1.out _ (by assumption)).mono ?_; rintro e w4 ⟨rfl, hb4⟩
           have hB4 : Below w.heap.size w w4 := by
             refine Below.trans (B := w.heap.size) ?_ (hb4.mono (Below.size (B := w.heap.size) ?_)) <;> assumption)
        | (go_at_call 91; have mk5 : True := trivial; go_split_ands; refine (I3.out _).mono ?_; rintro e w6 ⟨rfl, hb6⟩
           have hB6 : Below w.heap.size w w6 := by
             refine Below.trans (B := w.heap.size) ?_ (hb6.mono (Below.size (B := w.heap.size) ?_)) <;> assumption))
    have hF := Lib.hid (hB6.alloc hB6.size (.cells #[.int .i64 (A : Int), .int .i64 (D : Int), .int .i64 (C : Int)] 3))
    clear hw9 hB4 hB5 hb4 hb5 hb6 hB6 KS I1 I2 I3 I4
    go_wp2
    go_ret
    exact ⟨rfl, hF.out⟩

theorem ints_nat (l : List Nat) : iv (natI l) = ints l := by simp [iv, natI, ints]
set_option maxRecDepth 100000 in
set_option maxHeartbeats 1600000 in
theorem appendHooks_any {B H : Nat} : ∀ (t : Tw), t.size ≤ 8 → ∀ (f n : Nat) (p : Option Addr) (v : Value) (xs : List Nat) (w : World), Hid (TA w B H f t.lst n p) → t.lst.length ≤ f → f ≤ 18 → Hid (w.ownsRow H 3 1 v xs.length (ints xs)) → Hid (H ≤ w.heap.size) → xs.length + t.size ≤ 60 →
    Calls Try.prog 68 #[v, .pointer p] w (RowFrom H (xs ++ Tw.hkl t) w) := by
  obtain ⟨i0, hi, hz0, hz1, hz2⟩ := info_parts Try.infoIntS
  intro t
  induction t with
  | e =>
    intro _ f n p v xs w hT _ _ hR _ _
    obtain rfl := hT.out.nil
    rw [Tw.hkl, List.append_nil]
    go_enter Try.func68, Try.ntmps68
    go_wp2
    go_ret
    exact ⟨_, rfl, hR.out, Below.refl _ _⟩
  | n a b iha ihb =>
    intro h8 f n p v xs w hT hf h18 hR hH hl
    have hab : a.size + 1 + b.size ≤ 8 := h8
    have hl0 := Tw.lst_length (Tw.n a b)
    have hla := Tw.lst_length a
    have hlb := Tw.lst_length b
    have hsz : (Tw.n a b).size = a.size + 1 + b.size := rfl
    have CN := countNodes_any f (Tw.n a b).lst n p w hT (Lib.hid ⟨Tw.lst_scan _, hf⟩) h18
    rw [Tw.half_lst, hsz] at CN
    obtain ⟨g, k, l, r, rfl, rfl, hk, c1, c2, hTa, hTb⟩ := ta_tree hT.out (by omega)
    have CN := Lib.hid CN
    have HA := Lib.hid hTa
    have HB := Lib.hid hTb
    have I1 := Lib.hid (fun v' xs' w' (hT' : TA w' B H g a.lst (n + 1) l) hR' hH' hl' => iha (by omega) g (n + 1) l v' xs' w' (Lib.hid hT') (by omega) (by omega) hR' hH' hl')
    have I2 := Lib.hid (fun v' xs' w' (hT' : TA w' B H g b.lst (n + 1 + a.size) r) hR' hH' hl' => ihb (by omega) g (n + 1 + a.size) r v' xs' w' (Lib.hid hT') (by omega) (by omega) hR' hH' hl')
    rw [Tw.hkl]
    have LX := Tw.hkl_length a
    obtain ⟨X, hX⟩ : ∃ X, X = Tw.hkl a := ⟨_, rfl⟩
    obtain ⟨Y, hY⟩ : ∃ Y, Y = Tw.hkl b := ⟨_, rfl⟩
    rw [← hX] at I1 LX ⊢
    rw [← hY] at I2 ⊢
    obtain ⟨z, hz⟩ : ∃ z, z = a.size + 1 + b.size := ⟨_, rfl⟩
    rw [← hz] at CN ⊢
    rw [hsz] at hl
    obtain ⟨x, hx⟩ : ∃ x, x = a.size := ⟨_, rfl⟩
    obtain ⟨y, hy⟩ : ∃ y, y = b.size := ⟨_, rfl⟩
    rw [← hx] at I1 I2 LX HB
    rw [← hy] at I2
    have b1 : xs.length + (x + 1 + y) ≤ 60 := by omega
    obtain ⟨L, hL⟩ : ∃ L, L = xs.length := ⟨_, rfl⟩
    have HL := Lib.hid hL
    have LX := Lib.hid LX
    obtain ⟨a1, cap1, rfl, _, _⟩ := own_shape hR.out
    rw [← hL] at hR b1 ⊢
    have hbk := hk
    have y1 : L + 1 ≤ maxLen := by unfold maxLen; omega
    have y2 : (L + 1) * 8 ≤ 140737488355328 := by omega
    have Y3 := Lib.hid (show ∀ (q : Nat) (o : Obj), H ≤ ((w.drewN q).alloc o).heap.size by intro q o; have := hH.out; rw [World.size_alloc]; exact Nat.le_succ_of_le this)
    have C1 := Lib.hid c1
    have C2 := Lib.hid c2
    clear iha ihb hT hTa hTb hX hY hz hx hy hL hl0 hla hlb hsz hab h8 hf h18 hl c1 c2
    go_enter Try.func68, Try.ntmps68
    go_wp2_with fail
    refine CN.out.mono ?_
    rintro e w0 ⟨rfl, q, rfl⟩
    clear CN
    have R0 : Hid ((w.drewN q).ownsRow H 3 1 (.slice a1 L cap1) L (ints xs)) := hR.out
    go_wp2_with (at_builtin; refine wpList_append_own _ rfl (.tmp 8) (.tmp 11) 23 rfl H 3 i0 (.int .i64 0) 1 8 Try.underlying23 hi hz0 hz1 hz2 rfl (by decide) _ L (ints xs) rfl (R0.out.alloc _) ⟨(w.drewN q).heap.size, 0, none⟩ 1 1 [.int .i64 z] rfl rfl (cell_one_new _ _ _) (one_int2 _) y1 y2 (Y3.out q _) ?_)
    intro v2 w2 hv2 hg2 hn2
    obtain ⟨g2, c2, rfl⟩ := own_some3 hv2 hn2
    have hb2 : Below H w w2 := by
      have h0 : Below H w (w.drewN q) := ⟨rfl, rfl, rfl, Nat.le_refl _, fun _ _ => rfl⟩
      exact (h0.alloc (by have := hH.out; exact this) _).grown hg2 (Y3.out q _) (fun j hj => (R0.out.lt j hj).1)
    have e3 : ints xs ++ [.int .i64 (z : Int)] = ints (xs ++ [z]) := by rw [ints_snoc]
    rw [e3] at hv2
    have lX2 : (xs ++ [z]).length = L + 1 := by rw [List.length_append, HL.out]; rfl
    have D1 := (hb2.cell (p := ⟨k, 1, none⟩) hbk).trans C1.out
    have J1 := Lib.hid (I1.out (.slice (some ⟨g2, 0, none⟩) (L + 1) c2) (xs ++ [z]) w2 (TA.below hb2 g _ _ _ HA.out) (Lib.hid (by rw [lX2]; exact hv2)) (Lib.hid (Nat.le_trans hH.out hb2.size)) (by rw [lX2]; omega))
    have HB2 := Lib.hid hb2
    clear hv2 hg2 hn2 hb2 e3 R0 Y3 hR I1
    go_wp2_with (go_at_call_of 68 l; refine J1.out.mono ?_)
    rintro e w3 ⟨v3, rfl, hv3, hb3⟩
    have HB3 := Lib.hid (HB2.out.trans hb3)
    have lX3 : (xs ++ [z] ++ X).length = L + 1 + x := by rw [List.length_append, lX2, LX.out]
    rw [lX3] at hv3
    obtain ⟨a3, cap3, rfl, _, _⟩ := own_shape hv3
    have D2 := (HB3.out.cell (p := ⟨k, 2, none⟩) hbk).trans C2.out
    have J2 := Lib.hid (I2.out (.slice a3 (L + 1 + x) cap3) (xs ++ [z] ++ X) w3 (TA.below HB3.out g _ _ _ HB.out) (Lib.hid (by rw [lX3]; exact hv3)) (Lib.hid (Nat.le_trans hH.out HB3.out.size)) (by rw [lX3]; omega))
    clear hv3 hb3 J1 I2 D1 lX3 lX2 HB2
    go_wp2_with (go_at_call_of 68 r; refine J2.out.mono ?_)
    rintro e w4 ⟨v4, rfl, hv4, hb4⟩
    have HV4 := Lib.hid hv4
    have HB4 := Lib.hid (HB3.out.trans hb4)
    clear hv4 hb4 J2 D2
    go_wp2
    go_ret
    refine ⟨_, rfl, ?_, HB4.out⟩
    have e4 : xs ++ z :: (X ++ Y) = xs ++ [z] ++ X ++ Y := by simp
    rw [e4]
    exact HV4.out

set_option maxRecDepth 100000 in
set_option maxHeartbeats 800000 in
theorem implHeapsOf_any (s : ByteArray) (w : World) (hs : s.size ≤ maxLen) :
    Calls Try.prog 29 #[.string s] w fun e w' => e = .returned (.int .i64 (heapsO s.data.toList)) ∧ Below w.heap.size w w' := by
  have CV := Lib.hid (implWordUp_any 8 s w hs (by omega))
  by_cases h : valid s.data.toList = true ∧ s.data.toList.length ≤ 2 * 8
  · rw [decide_eq_true h] at CV
    obtain ⟨t, ht, ht8⟩ := tree_of h.1 h.2
    have CF := Lib.hid (fun W => firstNode_any s W (Lib.hid h.1))
    have hlen : t.lst.length ≤ 18 := by rw [ht]; omega
    rw [← ht, heapsO_lst ht8]
    rw [← ht] at CF
    have CH : Hid (∀ (B H n : Nat) (p : Option Addr) (W : World), Hid (TA W B H 18 t.lst n p) → H ≤ W.heap.size → Calls Try.prog 64 #[.pointer p] W fun e w' => e = .returned (.int .i64 ((t.heaps : Nat) : Int)) ∧ Below W.heap.size W w') :=
      fun B H n p W h1 h2 => heapsFrom_any t ht8 18 n p W h1 hlen (Nat.le_refl _) h2
    obtain ⟨R, hR⟩ : ∃ R, R = t.heaps := ⟨_, rfl⟩
    rw [← hR] at CH ⊢
    clear h hR ht ht8 hlen
    go_enter Try.func29, Try.ntmps29
    go_wp2_with fail
    refine CV.out.mono ?_
    rintro e w1 ⟨rfl, hb1⟩
    have B1 := Lib.hid hb1
    clear hb1 CV
    go_wp2_with fail
    refine (CF.out w1).mono ?_
    rintro e w2 ⟨p, rfl, hT, hb2⟩
    have T2 := Lib.hid hT
    have B2 := Lib.hid (B1.out.trans (hb2.mono B1.out.size))
    clear hb2 hT CF
    go_wp2_with fail
    refine (CH.out _ _ _ _ _ T2 (Nat.le_refl _)).mono ?_
    rintro e w3 ⟨rfl, hb3⟩
    have B3 := Lib.hid (B2.out.trans (hb3.mono B2.out.size))
    clear hb3 CH T2
    go_wp2
    go_ret
    exact ⟨rfl, B3.out⟩
  · rw [decide_eq_false h] at CV
    rw [heapsO, if_neg (fun hh => h ⟨hh.1, by omega⟩)]
    clear h
    go_enter Try.func29, Try.ntmps29
    go_wp2_with fail
    refine CV.out.mono ?_
    rintro e w1 ⟨rfl, hb1⟩
    have B1 := Lib.hid hb1
    clear hb1 CV
    go_wp2
    go_ret
    exact ⟨rfl, B1.out⟩

set_option maxRecDepth 100000 in
set_option maxHeartbeats 1600000 in
theorem implHeapsByHooks_any (s : ByteArray) (w : World) (hs : s.size ≤ maxLen) :
    Calls Try.prog 32 #[.string s] w fun e w' => e = .returned (.int .i64 (heapsO s.data.toList)) ∧ Below w.heap.size w w' := by
  have CV := Lib.hid (implWordUp_any 8 s w hs (by omega))
  by_cases h : valid s.data.toList = true ∧ s.data.toList.length ≤ 2 * 8
  · rw [decide_eq_true h] at CV
    obtain ⟨t, ht, ht8⟩ := tree_of h.1 h.2
    have CF := Lib.hid (fun W => firstNode_any s W (Lib.hid h.1))
    have hlen : t.lst.length ≤ 18 := by rw [ht]; omega
    rw [← ht, heapsO_lst ht8]
    rw [← ht] at CF
    have CH : Hid (∀ (B H n : Nat) (p : Option Addr) (W : World), Hid (TA W B H 18 t.lst n p) → Hid (W.ownsRow H 3 1 (.slice none 0 0) ([] : List Nat).length (ints [])) → Hid (H ≤ W.heap.size) → Calls Try.prog 68 #[.slice none 0 0, .pointer p] W (RowFrom H ([] ++ Tw.hkl t) W)) :=
      fun B H n p W h1 h2 h3 => appendHooks_any t ht8 18 n p (.slice none 0 0) [] W h1 hlen (Nat.le_refl _) h2 h3 (by simp; omega)
    rw [List.nil_append] at CH
    have hkl := Tw.hkl_length t
    have hkp := Tw.hkl_prod t
    have hkb : ∀ x ∈ Tw.hkl t, x ≤ 1000000 := by
      have key : ∀ u : Tw, ∀ x ∈ Tw.hkl u, x ≤ u.size := by
        intro u
        induction u with
        | e => intro x hx; cases hx
        | n a b iha ihb =>
          intro x hx
          rw [Tw.hkl] at hx
          rw [Tw.size]
          rcases List.mem_cons.mp hx with hx | hx
          · omega
          · rcases List.mem_append.mp hx with hx | hx
            · have := iha x hx; omega
            · have := ihb x hx; omega
      intro x hx
      have := key t x hx
      omega
    have hhk := Tw.hooks_le ht8
    have hhp := Tw.hooks_pos t
    have h40 := fct_le8 _ ht8
    have C1 := Lib.hid (fun W => numbersBetween_any 1 t.size ((t.size : Nat) : Int) W (by omega) (by omega) (by omega))
    have hpf := prod_fct t.size ht8
    have P1 := Lib.hid (fun u W B H (ho : Hid (Own W B H 3 u (iv (natI (betN 1 t.size))))) => product_own (betN 1 t.size) u W ho (by rw [betN_length]; omega) (fun x hx => by have := betN_le _ _ x hx; omega) (by rw [hpf]; omega))
    have P2 := Lib.hid (fun u W B H (ho : Hid (Own W B H 3 u (iv (natI (Tw.hkl t))))) => product_own (Tw.hkl t) u W ho (by omega) hkb (by rw [hkp]; omega))
    rw [hpf] at P1
    rw [hkp] at P2
    have hd := Tw.heaps_div ht8
    obtain ⟨R, hR⟩ : ∃ R, R = t.heaps := ⟨_, rfl⟩
    rw [← hR] at hd ⊢
    obtain ⟨F, hF⟩ : ∃ F, F = fct t.size := ⟨_, rfl⟩
    rw [← hF] at hd P1 h40 hhk
    obtain ⟨G, hG⟩ : ∃ G, G = t.hooks := ⟨_, rfl⟩
    rw [← hG] at hd P2 hhp hhk
    obtain ⟨z, hz⟩ : ∃ z, z = t.size := ⟨_, rfl⟩
    rw [← hz] at C1 P1 hkl
    obtain ⟨K, hK⟩ : ∃ K, K = Tw.hkl t := ⟨_, rfl⟩
    rw [← hK] at CH P2 hkl
    have HKL := Lib.hid hkl
    have bG : G ≤ 40320 := by omega
    have ne : ((G : Int) == 0) = false := beq_false_of_ne (by omega)
    have HQ4 : Hid (wrap64 ((F : Int) / (G : Int)) = (R : Int)) := by
      show _ = _
      have : R ≤ F := by rw [← hd]; exact Nat.div_le_self _ _
      have e : (F : Int) / (G : Int) = (R : Int) := by rw [← hd]; rfl
      rw [e]; unfold wrap64; omega
    clear h hR ht ht8 hlen hkb hhk hkp hkl hpf hd hF hG hz hK
    go_enter Try.func32, Try.ntmps32
    go_wp2_with fail
    refine CV.out.mono ?_
    rintro e w1 ⟨rfl, hb1⟩
    have B1 := Lib.hid hb1
    clear hb1 CV
    go_wp2_with fail
    refine (CF.out w1).mono ?_
    rintro e w2 ⟨p, rfl, hT, hb2⟩
    have T2 := Lib.hid hT
    have B2 := Lib.hid (B1.out.trans (hb2.mono B1.out.size))
    clear hb2 hT CF
    go_wp2_with fail
    refine (CH.out _ _ _ _ _ T2 (Lib.hid (World.ownsRow_nil _ _ _ _)) (Lib.hid (Nat.le_refl _))).mono ?_
    rintro e w3 ⟨v, rfl, hv, hb3⟩
    have B3 := Lib.hid (B2.out.trans (hb3.mono B2.out.size))
    have O3 : Hid (Own w3 w2.heap.size w3.heap.size 3 v (iv (natI K))) := by
      refine Own.of_own ?_
      rw [ints_nat, show (ints K).length = K.length by simp [ints]]
      exact hv
    obtain ⟨av, cv, rfl, _⟩ := O3.out.slice
    have hkl2 : (iv (natI K)).length = z := by rw [iv_length, natI_length]; exact HKL.out
    rw [hkl2] at O3 ⊢
    clear hb3 hv CH T2 hkl2
    go_wp2_with fail
    refine (C1.out _).mono ?_
    rintro e w4 ⟨u4, rfl, ho4, hb4⟩
    have O4 := Lib.hid ho4
    have O3b := Lib.hid (O3.out.below hb4)
    have B4 := Lib.hid (B3.out.trans (hb4.mono B3.out.size))
    clear ho4 hb4 O3 C1
    go_wp2_with fail
    refine (P1.out _ _ _ _ O4).mono ?_
    rintro e w5 ⟨rfl, rfl⟩
    clear P1 O4
    go_wp2_with fail
    refine (P2.out _ _ _ _ O3b).mono ?_
    rintro e w6 ⟨rfl, rfl⟩
    clear P2 O3b
    go_wp2
    go_ret
    exact ⟨(by rw [HQ4.out]; rfl), B4.out⟩
  · rw [decide_eq_false h] at CV
    rw [heapsO, if_neg (fun hh => h ⟨hh.1, by omega⟩)]
    clear h
    go_enter Try.func32, Try.ntmps32
    go_wp2_with fail
    refine CV.out.mono ?_
    rintro e w1 ⟨rfl, hb1⟩
    have B1 := Lib.hid hb1
    clear hb1 CV
    go_wp2
    go_ret
    exact ⟨rfl, B1.out⟩
end Go.Proofs.Ytooplolalbcmjaa

namespace Go.Proofs.Ytooplolalbcmjaa
open Go.RowKit

theorem clone9_p (xs : List Int) (v : Value) (w : World) {B H : Nat} (hv : Hid (Own w B H 3 v (iv xs))) (hl : xs.length ≤ 64) :
    Calls Try.prog 94 #[v] w fun e w' => ∃ u, e = .returned u ∧ Own w' w.heap.size w'.heap.size 3 u (iv xs) ∧ Below w.heap.size w w' := by
  obtain ⟨av, cv, rfl, h0, _, _, h1⟩ := hv.out.slice
  rw [iv_length] at hv h0 ⊢
  cases av with
  | none =>
    obtain ⟨e0, rfl⟩ := h0 rfl
    have : xs = [] := List.eq_nil_of_length_eq_zero e0
    subst this
    refine (Try.slices_Clone_int_nil 0 0 w).mono ?_
    rintro e w' ⟨rfl, rfl⟩
    exact ⟨_, rfl, ⟨World.ownsRow_nil _ _ _ _, fun q hq => by simp [Value.ownBlock] at hq⟩, Below.refl _ _⟩
  | some a =>
    obtain ⟨g, rfl, _, _⟩ := h1 a rfl
    by_cases hx : xs.length = 0
    · have : xs = [] := List.eq_nil_of_length_eq_zero hx
      subst this
      refine (Try.slices_Clone_int_zero _ cv w).mono ?_
      rintro e w' ⟨u, rfl, h, _, hb⟩
      exact ⟨u, rfl, Own.of_own h, hb⟩
    · refine (Try.slices_Clone_int g 0 xs.length cv xs w (Nat.le_refl _) (by omega) (fun j hj => ?_)).mono ?_
      · have hr := own_rd hv.out
        rw [rd_at hr j hj, getD_at xs j hj]
      · rintro e w' ⟨u, rfl, h, _, hb⟩
        rw [List.take_length] at h
        exact ⟨u, rfl, Own.of_own (by rw [iv_length]; exact h), hb⟩
/-- numbers that a row begins with -/
def Begun (n : Nat) (l : List Int) : Prop := (∀ x ∈ l, 0 ≤ x ∧ x < (n : Int)) ∧ l.Nodup
theorem begun_row {n : Nat} {l : List Int} (h : Begun n l) (hl : l.length = n) (h5 : n ≤ 5) : rowB l = true := (rowB_iff l).mpr ⟨by omega, fun x hx => by have := h.1 x hx; rw [hl]; exact this, h.2⟩
theorem begun_next {n : Nat} {l : List Int} (h : Begun n l) {k : Nat} (hk : k < n) (hc : (k : Int) ∉ l) : Begun n (l ++ [(k : Int)]) := by
  refine ⟨fun x hx => ?_, ?_⟩
  · rcases List.mem_append.mp hx with hx | hx
    · exact h.1 x hx
    · simp only [List.mem_singleton] at hx; omega
  · rw [List.nodup_append]
    refine ⟨h.2, by simp, fun a ha b hb => ?_⟩
    simp only [List.mem_singleton] at hb
    subst hb
    intro e
    subst e
    exact hc ha

set_option maxRecDepth 100000 in
set_option maxHeartbeats 3200000 in
theorem tryRows_any (n : Nat) (hn : n ≤ 5) (s : ByteArray) (hs : s.size = 2 * n) : ∀ (m : Nat) (head : List Int) (v : Value) (w : World) {B H : Nat}, head.length + m = n → Hid (Begun n head) → Hid (Own w B H 3 v (iv head)) → H ≤ w.heap.size →
    Calls Try.prog 67 #[.string s, v] w fun e w' => e = .returned (.int .i64 ((rowsN m n head s.data.toList : Nat) : Int)) ∧ Below w.heap.size w w' := by
  obtain ⟨i0, hi, hz0, hz1, hz2⟩ := info_parts Try.infoIntR
  have e2 : Int.tdiv (s.size : Int) 2 = (n : Int) := by rw [Int.tdiv_eq_ediv_of_nonneg (by omega)]; omega
  have e2w : IntKind.i64.wrap (Int.tdiv (s.size : Int) 2) = (n : Int) := by rw [e2, IntKind.wrap_i64]; omega
  have e3 : (s.size : Int) / 2 = (n : Int) := by omega
  have e3w : wrap64 ((s.size : Int) / 2) = (n : Int) := by rw [e3]; unfold wrap64; omega
  intro m
  induction m with
  | zero =>
    intro head v w B H hm hg hv hH
    obtain ⟨av, cv, rfl, _, hcv, _, _⟩ := hv.out.slice
    rw [iv_length] at hv hcv ⊢
    have hR := own_rd hv.out
    have hl : head.length = n := by omega
    have CW := implHeapWord_any head av cv w (Lib.hid hR) (by omega) hcv
    rw [hwO, if_pos (begun_row hg.out hl hn)] at CW
    rw [hl] at hv hcv CW ⊢
    have CW := Lib.hid CW
    have q1 : ((n : Int) == (n : Int)) = true := beq_self_eq_true _
    rw [rowsN_zero]
    by_cases he : (Tw.row head).lst = s.data.toList
    · rw [if_pos he]
      have hse : hwS head = s := bytes_ext he
      have q2 : ((hwS head).toList == s.toList) = true := by rw [hse]; exact beq_self_eq_true _
      obtain ⟨T, hT⟩ : ∃ T, T = hwS head := ⟨_, rfl⟩
      rw [← hT] at CW q2
      clear he hR hl hT hse hm hg
      go_enter Try.func67, Try.ntmps67
      go_wp2_with fail
      refine CW.out.mono ?_
      rintro e w1 ⟨rfl, q, rfl⟩
      go_wp2
      go_ret
      exact ⟨rfl, ⟨rfl, rfl, rfl, Nat.le_refl _, fun _ _ => rfl⟩⟩
    · rw [if_neg he]
      have hne : (hwS head).toList ≠ s.toList := fun e => he (by rw [ByteArray.toList_eq, ByteArray.toList_eq] at e; exact e)
      obtain ⟨T, hT⟩ : ∃ T, T = hwS head := ⟨_, rfl⟩
      rw [← hT] at CW hne
      have q2 : (T.toList == s.toList) = false := beq_false_of_ne hne
      clear he hR hl hT hm hg
      go_enter Try.func67, Try.ntmps67
      go_wp2_with fail
      refine CW.out.mono ?_
      rintro e w1 ⟨rfl, q, rfl⟩
      go_wp2
      go_ret
      exact ⟨rfl, ⟨rfl, rfl, rfl, Nat.le_refl _, fun _ _ => rfl⟩⟩
  | succ m ih =>
    intro head v w B H hm hg hv hH
    have HV : Hid (∀ W, Below w.heap.size w W → Own W B H 3 v (iv head)) := fun W hW => hv.out.below (hW.mono hH)
    have CL := Lib.hid (fun (W : World) (hW : Below w.heap.size w W) => clone9_p head v W (Lib.hid (HV.out W hW)) (by omega))
    obtain ⟨av, cv, rfl, _, hcv, _, hav⟩ := hv.out.slice
    rw [iv_length] at hv hcv CL ⊢
    have hR := own_rd hv.out
    have hlt0 : head.length < n := by omega
    have q1 : ((head.length : Int) == (n : Int)) = false := beq_false_of_ne (by omega)
    have CH : Hid (∀ (x : Int) W, Below w.heap.size w W → Calls Try.prog 55 #[.slice av head.length cv, .int .i64 x] W fun e w' => e = .returned (.bool (head.contains x)) ∧ w' = W) := fun x W hW => by
      have := containsR_p head av cv x W (Lib.hid ((hR.below (hW.mono hH)).more hH)) (by omega)
      rw [show decide (x ∈ head) = head.contains x from by rw [Bool.eq_iff_iff, decide_eq_true_eq, List.contains_iff_mem]] at this
      exact this
    have CT : Hid (∀ (x : Nat) (v' : Value) (W : World) (B' H' : Nat), x < n → (x : Int) ∉ head → Hid (Own W B' H' 3 v' (iv (head ++ [(x : Int)]))) → H' ≤ W.heap.size → Calls Try.prog 67 #[.string s, v'] W fun e w' => e = .returned (.int .i64 ((rowsN m n (head ++ [(x : Int)]) s.data.toList : Nat) : Int)) ∧ Below W.heap.size W w') :=
      fun x v' W B' H' hx hc ho hh => ih (head ++ [(x : Int)]) v' W (by rw [List.length_append, List.length_singleton]; omega) (Lib.hid (begun_next hg.out hx hc)) ho hh
    have HF : Hid (rowsN (m + 1) n head s.data.toList = rowsK m n head s.data.toList n) := rowsN_succ m n head _
    have hp : n ^ m ≤ 5 ^ 5 := Nat.le_trans (Nat.pow_le_pow_left hn m) (Nat.pow_le_pow_right (by decide) (by omega))
    have HKB : Hid (∀ x : Nat, rowsN m n (head ++ [(x : Int)]) s.data.toList ≤ 3125) := fun x => Nat.le_trans (rowsN_le n _ m _) hp
    have HKK : Hid (∀ k, k ≤ n → rowsK m n head s.data.toList k ≤ 5 * 3125) := fun k hk => Nat.le_trans (rowsK_le m n head _ 3125 HKB.out k) (Nat.mul_le_mul_right _ (by omega))
    have HSTEP : Hid (∀ k : Nat, rowsK m n head s.data.toList (k + 1) = rowsK m n head s.data.toList k + if head.contains (k : Int) then 0 else rowsN m n (head ++ [(k : Int)]) s.data.toList) := fun k => rfl
    rw [HF.out]
    have HNC : Hid (∀ x : Int, head.contains x = false → x ∉ head) := fun x h1 h2 => by rw [List.contains_iff_mem.mpr h2] at h1; cases h1
    obtain ⟨l, hl⟩ : ∃ l, l = head.length := ⟨_, rfl⟩
    have HLL := Lib.hid hl
    rw [← hl] at CH CL q1 hlt0 hcv ⊢
    have hl5 : l ≤ 5 := by omega
    clear hv hR hm hp hav ih hl hg HV
    go_enter Try.func67, Try.ntmps67
    go_wp2
    go_loopw [6, 7, 20] (fun o y x wr => ∃ k z : Nat, k ≤ n ∧ x = .int .i64 k ∧ o = .int .i64 z ∧ Hid (z = rowsK m n head s.data.toList k) ∧ Hid (Below w.heap.size w wr)) (fun _ _ x _ => n - (intOf x).toNat)
    case atStart => exact ⟨0, 0, Nat.zero_le _, rfl, rfl, rfl, Below.refl _ _⟩
    case round =>
      obtain ⟨k, z, hk, rfl, rfl, HZ, HB⟩ := hrel
      by_cases hlt : k < n
      · have b1 : (k : Int) < (n : Int) := by omega
        have CH1 := Lib.hid (CH.out k wr HB.out)
        have HS := Lib.hid (HSTEP.out k)
        have HNK := Lib.hid (HNC.out k)
        obtain ⟨c, hc⟩ : ∃ c, c = head.contains (k : Int) := ⟨_, rfl⟩
        rw [← hc] at CH1 HS HNK
        clear hc
        cases c with
        | true =>
          have HZ2 : Hid (z = rowsK m n head s.data.toList (k + 1)) := by show _ = _; rw [HS.out, HZ.out]; rfl
          clear HS HZ HNK
          go_wp2_with fail
          refine CH1.out.mono ?_
          rintro e w1 ⟨rfl, rfl⟩
          go_wp2
          go_roundw
          case rel => exact ⟨k + 1, z, by omega, by go_num, rfl, HZ2, HB⟩
          case measure => simp [intOf]; omega
        | false =>
          have CT1 := fun v' W B' H' h1 h2 => CT.out k v' W B' H' hlt (HNK.out rfl) h1 h2
          have CL1 := Lib.hid (CL.out wr HB.out)
          have hz := HKK.out k hk
          have hy := HKB.out k
          have HS2 := HS.out
          rw [← HZ.out] at hz
          obtain ⟨y, hyy⟩ : ∃ y, y = rowsN m n (head ++ [(k : Int)]) s.data.toList := ⟨_, rfl⟩
          rw [← hyy] at CT1 hy HS2
          have CT1 := Lib.hid CT1
          have HZ2 : Hid (z + y = rowsK m n head s.data.toList (k + 1)) := by show _ = _; rw [HS2, HZ.out]; rfl
          have ew : IntKind.i64.wrap ((z : Int) + (y : Int)) = ((z + y : Nat) : Int) := by rw [IntKind.wrap_i64]; omega
          have z1 : l + 1 ≤ maxLen := by unfold maxLen; omega
          have z2 : (l + 1) * 8 ≤ 140737488355328 := by omega
          have IVS : Hid (iv (head ++ [(k : Int)]) = iv head ++ [.int .i64 (k : Int)]) := iv_app _ _
          have HIL : Hid ((iv head).length = l) := by show _ = _; rw [iv_length]; exact HLL.out.symm
          clear HS HZ HS2 hyy CT CH CL HNK HNC
          go_wp2_with fail
          refine CH1.out.mono ?_
          rintro e w1 ⟨rfl, rfl⟩
          clear CH1
          go_wp2_with fail
          refine CL1.out.mono ?_
          rintro e w3 ⟨q, rfl, hq, hb3⟩
          obtain ⟨aq, cq, rfl, _⟩ := hq.slice
          rw [HIL.out] at hq ⊢
          have OQ : Hid (w3.ownsRow w1.heap.size 3 1 (.slice aq l cq) l (iv head)) := by have := hq.1; rwa [HIL.out] at this
          have Y3 : Hid (∀ o : Obj, w1.heap.size ≤ (w3.alloc o).heap.size) := fun o => by have := hb3.size; rw [World.size_alloc]; omega
          have S3 : Hid (w1.heap.size ≤ w3.heap.size) := hb3.size
          have SR : Hid (w.heap.size ≤ w1.heap.size) := HB.out.size
          have B3 : Hid (Below w1.heap.size w1 w3) := hb3
          clear hq hb3 CL1
          go_wp2_with (at_builtin; refine wpList_append_lies _ rfl (.tmp 30) (.tmp 32) 23 rfl w1.heap.size 3 i0 (.int .i64 0) 1 8 Try.underlying23 hi hz0 hz1 hz2 rfl (Nat.succ_pos 0) (.slice aq l cq) l (iv head) rfl (OQ.out.alloc _) ⟨w3.heap.size, 0, none⟩ 1 1 [.int .i64 (k : Int)] rfl rfl (cell_one_new _ _ _) (one_intR _) (Nat.succ_pos 0) z1 z2 (Y3.out _) _ rfl ?_)
          intro g5 c5 w5 hv5 hg5 _ hgs5
          rw [← IVS.out] at hv5
          have B5 : Hid (Below w1.heap.size w1 w5) := (B3.out.alloc S3.out _).grown hg5 (Y3.out _) (fun q hq => (OQ.out.lt q hq).1)
          have O5 : Hid (Own w5 w1.heap.size w5.heap.size 3 (.slice (some ⟨g5, 0, none⟩) (l + 1) c5) (iv (head ++ [(k : Int)]))) := by
            refine Own.of_own ?_
            have e : (iv (head ++ [(k : Int)])).length = l + 1 := by rw [iv_length, List.length_append, List.length_singleton, HLL.out]
            rw [e]; exact hv5
          have BW5 : Hid (Below w.heap.size w w5) := HB.out.trans (B5.out.mono SR.out)
          clear hv5 hg5 hgs5 OQ Y3 S3 B3 B5 SR HB
          go_wp2_with fail
          refine (CT1.out _ _ _ _ O5 (Nat.le_refl _)).mono ?_
          rintro e w6 ⟨rfl, hb6⟩
          have BW6 : Hid (Below w.heap.size w w6) := BW5.out.trans (hb6.mono BW5.out.size)
          clear hb6 CT1 O5 BW5
          go_wp2
          go_roundw
          case rel => exact ⟨k + 1, z + y, by omega, by go_num, by first | rfl | rw [ew], HZ2, BW6⟩
          case measure => simp [intOf]; omega
      · obtain rfl : k = n := by omega
        go_wp2
        go_ret
        exact ⟨(by rw [HZ.out]; rfl), HB.out⟩

set_option maxRecDepth 100000 in
set_option maxHeartbeats 800000 in
theorem implHeapsTried_any (s : ByteArray) (w : World) (hs : s.size ≤ maxLen) :
    Calls Try.prog 31 #[.string s] w fun e w' => e = .returned (.int .i64 (triedO s.data.toList)) ∧ Below w.heap.size w w' := by
  have CV := Lib.hid (implWordUp_any 5 s w hs (by omega))
  by_cases h : valid s.data.toList = true ∧ s.data.toList.length ≤ 2 * 5
  · rw [decide_eq_true h] at CV
    obtain ⟨t, ht, ht8⟩ := tree_of h.1 (by omega)
    have hts : s.size = 2 * t.size := by rw [← size_list, ← ht, Tw.lst_length]
    have ht5 : t.size ≤ 5 := by have := h.2; rw [size_list] at this; omega
    have HT := Tw.tried_heaps t ht5
    have CT := Lib.hid (fun W => tryRows_any t.size ht5 s hts t.size [] (.slice none 0 0) W (B := 0) (H := 0) (by simp) (show Hid (Begun t.size []) from ⟨fun x hx => absurd hx (by simp), List.nodup_nil⟩) (show Hid (Own W 0 0 3 (.slice none 0 0) (iv [])) from ⟨World.ownsRow_nil _ _ _ _, fun g hg => by simp [Value.ownBlock] at hg⟩) (Nat.zero_le _))
    rw [triedO, if_pos ⟨h.1, by have := h.2; omega⟩, ← ht, Tw.heapsL_lst 16 t (by omega), ← HT]
    rw [← ht] at CT
    obtain ⟨R, hR⟩ : ∃ R, R = rowsN t.size t.size [] t.lst := ⟨_, rfl⟩
    rw [← hR] at CT ⊢
    clear h hR ht ht8 ht5 hts HT
    go_enter Try.func31, Try.ntmps31
    go_wp2_with fail
    refine CV.out.mono ?_
    rintro e w1 ⟨rfl, hb1⟩
    have B1 := Lib.hid hb1
    clear hb1 CV
    go_wp2_with fail
    refine (CT.out w1).mono ?_
    rintro e w2 ⟨rfl, hb2⟩
    have B2 := Lib.hid (B1.out.trans (hb2.mono B1.out.size))
    clear hb2 CT
    go_wp2
    go_ret
    exact ⟨rfl, B2.out⟩
  · rw [decide_eq_false h] at CV
    rw [triedO, if_neg (fun hh => h ⟨hh.1, by omega⟩)]
    clear h
    go_enter Try.func31, Try.ntmps31
    go_wp2_with fail
    refine CV.out.mono ?_
    rintro e w1 ⟨rfl, hb1⟩
    have B1 := Lib.hid hb1
    clear hb1 CV
    go_wp2
    go_ret
    exact ⟨rfl, B1.out⟩
end Go.Proofs.Ytooplolalbcmjaa

namespace Go.Proofs.Ytooplolalbcmjaa
open Go.RowKit

theorem implValidRow_fn : RowFn 15 (vB rowB) := fun l a cv w _ h1 _ h3 _ =>
  (implValidRow_any l a cv w h1 h3).mono fun e w' h => ⟨h.1, by rw [h.2]; exact Below.refl _ _⟩
theorem implHeapWord_fn : RowFn 22 (vT hwO) := fun l a cv w _ h1 _ h3 h4 =>
  (implHeapWord_any l a cv w h1 h3 h4).mono fun e w' h => ⟨h.1, by obtain ⟨_, q, rfl⟩ := h; exact below_drew _ _ _⟩
theorem implFallsOf_fn : RowFn 40 (vI fallsO) := fun l a cv w _ h1 _ h3 _ =>
  (implFallsOf_any l a cv w h1 h3).mono fun e w' h => ⟨h.1, by obtain ⟨_, q, rfl⟩ := h; exact below_drew _ _ _⟩
theorem implHeapsOf_fn : TextFn 29 (vN heapsO) := fun s w h => implHeapsOf_any s w h
theorem implHeapsByHooks_fn : TextFn 32 (vN heapsO) := fun s w h => implHeapsByHooks_any s w h
theorem implHeapsTried_fn : TextFn 31 (vN triedO) := fun s w h => implHeapsTried_any s w h
/-- a function of rows at a row in some call's own memory -/
theorem rowFn_own {f : FuncId} {val : List Int → Value} (h : RowFn f val) (l : List Int) (v : Value) (w : World) {B H : Nat} (hv : Hid (Own w B H 3 v (iv l))) (hH : H ≤ w.heap.size) (hl : l.length ≤ 1048576) :
    Calls Try.prog f #[v] w fun e w' => e = .returned (val l) ∧ Below w.heap.size w w' := by
  obtain ⟨av, cv, rfl, _, hcv, _, _⟩ := hv.out.slice
  rw [iv_length] at hv hcv ⊢
  exact h l av cv w H (Lib.hid (own_rd hv.out)) hH hl hcv
end Go.Proofs.Ytooplolalbcmjaa
