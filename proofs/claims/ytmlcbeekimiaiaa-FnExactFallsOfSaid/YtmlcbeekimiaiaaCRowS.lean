/-
  The contracts of the model's ValidRow and FallsOf, of numbers that can be read.
-/
import Derived.Test.YtmlcbeekimiaiaaCInts
import Derived.Test.YtmlcbeekimiaiaaZV
import Derived.Test.YtmlcbeekimiaiaaCHasI
import Derived.Test.YtmlcbeekimiaiaaCAppRd
import Derived.Test.YtmlcbeekimiaiaaWFall
namespace Go.Proofs.Ytmlcbeekimiaiaa
open Go.RowKit

theorem rd_at {w : World} {H : Nat} {b off : Nat} {l : List Int} (h : RdI w H (some ⟨b, off, none⟩) l) (j : Nat) (hj : j < l.length) : w.cell? ⟨b, off + j, none⟩ = some (.int .i64 l[j]) := by
  obtain ⟨_, _, e, _, h3⟩ := h j hj
  simp only [Option.some.injEq, Addr.mk.injEq] at e
  obtain ⟨rfl, rfl, _⟩ := e
  exact h3
theorem RdI.take {w : World} {H : Nat} {a : Option Addr} {l : List Int} (h : RdI w H a l) (m : Nat) : RdI w H a (l.take m) := fun j hj => by
  rw [List.length_take] at hj
  obtain ⟨b, off, h1, h2, h3⟩ := h j (by omega)
  exact ⟨b, off, h1, h2, by rw [List.getElem_take]; exact h3⟩
theorem RdI.more {w : World} {H H' : Nat} {a : Option Addr} {l : List Int} (h : RdI w H a l) (hH : H ≤ H') : RdI w H' a l := fun j hj => by
  obtain ⟨b, off, h1, h2, h3⟩ := h j hj
  exact ⟨b, off, h1, by omega, h3⟩

theorem own_rd {w : World} {B H c : Nat} {a : Option Addr} {l : List Int} (h : Own w B H 3 (.slice a l.length c) (iv l)) : RdI w H a l := fun j hj => by
  obtain ⟨g, cap, e, _, hg, hc, _⟩ := h.cell j (by rw [iv_length]; exact hj)
  rw [iv_length] at e
  simp only [Value.slice.injEq] at e
  refine ⟨g, 0, e.1, hg, ?_⟩
  rw [Nat.zero_add, hc, iv_at l j hj]

set_option maxRecDepth 100000 in
set_option maxHeartbeats 800000 in
theorem hasIntR_any (l : List Int) (a : Option Addr) (cv : Nat) (x : Int) (w : World) {H : Nat} (hR : Hid (RdI w H a l)) (hl : l.length ≤ 1048576) :
    Calls Try.prog 42 #[.slice a l.length cv, .int .i64 x] w fun e w' => e = .returned (.bool (decide (x ∈ l))) ∧ w = w' := by
  go_enter Try.func42, Try.ntmps42
  go_wp2
  go_loop [5] (fun i => ∃ k : Nat, k ≤ l.length ∧ i = .int .i64 k ∧ Hid (∀ (j : Nat) (hj : j < l.length), j < k → l[j] ≠ x)) (fun i => l.length - (intOf i).toNat)
  case atStart => exact ⟨0, Nat.zero_le _, rfl, fun j _ h => by omega⟩
  case round =>
    obtain ⟨k, hk, rfl, HN⟩ := hrel
    by_cases hlt : k < l.length
    · obtain ⟨b, off, rfl, _, h1⟩ := hR.out k hlt
      have b1 : (k : Int) < (l.length : Int) := by omega
      obtain ⟨y, hy⟩ : ∃ y, y = l[k] := ⟨_, rfl⟩
      rw [← hy] at h1
      have HY := Lib.hid hy
      clear hy
      by_cases hyx : y = x
      · subst hyx
        have hy := Lib.hid (inI_hit hlt HY.out.symm)
        go_wp2
        go_ret
        exact ⟨by rw [hy.out]; rfl, rfl⟩
      · have q1 : (y == x) = false := beq_false_of_ne hyx
        have HN' : Hid (∀ (j : Nat) (hj : j < l.length), j < k + 1 → l[j] ≠ x) := fun j hj hjk => by
          by_cases e : j = k
          · subst e; rw [← HY.out]; exact hyx
          · exact HN.out j hj (by omega)
        clear hyx
        go_wp2
        go_round
        case rel => exact ⟨k + 1, by omega, by go_num, HN'⟩
        case measure => simp [intOf]; omega
    · obtain rfl : k = l.length := by omega
      have hy := Lib.hid (inI_miss (x := x) fun j hj => HN.out j hj hj)
      go_wp2
      go_ret
      exact ⟨by rw [hy.out]; rfl, rfl⟩

theorem RdI.drew {w : World} {H : Nat} {a : Option Addr} {l : List Int} (h : RdI w H a l) (n : Nat) : RdI (w.drewN n) H a l := fun j hj => h j hj

set_option maxRecDepth 100000 in
set_option maxHeartbeats 1600000 in
theorem validRowM_any (l : List Int) (a : Option Addr) (cv : Nat) (w : World) {H : Nat} (hR : Hid (RdI w H a l)) (hl : l.length ≤ 1048576) (hcv : l.length ≤ cv) :
    Calls Try.prog 23 #[.slice a l.length cv] w fun e w' => e = .returned (.bool (rowB l)) ∧ ∃ q, w' = w.drewN q := by
  by_cases h8 : l.length ≤ 8
  · have b8 : ¬ (8 : Int) < (l.length : Int) := by omega
    have H8 := Lib.hid h8
    go_enter Try.func23, Try.ntmps23
    go_wp2
    go_loopw [3] (fun i wr => ∃ k : Nat, k ≤ l.length ∧ i = .int .i64 k ∧ Hid (rowUp l k) ∧ Hid (∃ q, wr = w.drewN q)) (fun i _ => l.length - (intOf i).toNat)
    case atStart => exact ⟨0, Nat.zero_le _, rfl, rowUp_zero l, 0, rfl⟩
    case round =>
      obtain ⟨k, hk, rfl, HU, HS⟩ := hrel
      have hRr : Hid (RdI wr H a l) := by obtain ⟨q, hq⟩ := HS.out; rw [hq]; exact hR.out.drew q
      by_cases hlt : k < l.length
      · have hlen : (l.take k).length = k := by rw [List.length_take]; omega
        have CH := fun x (n : Nat) => hasIntR_any (l.take k) a cv x (wr.drewN n) (Lib.hid ((hRr.out.take k).drew n)) (by omega)
        rw [hlen] at CH
        clear hlen
        obtain ⟨b, off, rfl, _, h1⟩ := hRr.out k hlt
        have b1 : (k : Int) < (l.length : Int) := by omega
        have b2 : (k : Int) ≤ (cv : Int) := by omega
        have HSTEP := Lib.hid (fun (q1 : 0 ≤ l[k]) (q2 : l[k] < l.length) (q3 : l[k] ∉ l.take k) => rowUp_step HU.out hlt q1 q2 q3)
        have HOFF := Lib.hid (fun h => rowB_off (l := l) hlt h)
        have HTW := Lib.hid (fun h => rowB_twice (l := l) hlt h)
        obtain ⟨y, hy⟩ : ∃ y, y = l[k] := ⟨_, rfl⟩
        rw [← hy] at h1 HSTEP HOFF HTW
        clear hy
        have CY : Hid (∀ n, Calls Try.prog 42 #[.slice (some ⟨b, off, none⟩) k cv, .int .i64 y] (wr.drewN n) fun e w' => e = .returned (.bool (decide (y ∈ l.take k))) ∧ ∃ m, w' = (wr.drewN n).drewN m) := fun n => (CH y n).mono fun e w' h => ⟨h.1, 0, h.2.symm⟩
        clear CH
        have ew : IntKind.i64.wrap ((l.length : Int) - 1) = (l.length : Int) - 1 := by rw [IntKind.wrap_i64]; omega
        by_cases hy0 : 0 ≤ y ∧ y ≤ (l.length : Int) - 1
        · have C : Hid (∀ n, Calls Try.prog 41 #[.int .i64 y, .int .i64 0, .int .i64 ((l.length : Int) - 1)] (wr.drewN n) fun e w' => e = .returned (.bool true) ∧ ∃ m, w' = (wr.drewN n).drewN m) := fun n => (inRange_yes y 0 ((l.length : Int) - 1) _ hy0.1 hy0.2).mono fun e w' h => ⟨h.1, 0, h.2.symm⟩
          by_cases hm : y ∈ l.take k
          · have hr := Lib.hid (HTW.out hm)
            rw [show decide (y ∈ l.take k) = true from decide_eq_true hm] at CY
            clear HSTEP HOFF HTW hy0 hm hRr
            go_wp2_with fail
            go_quiet (first
              | (go_at_call 41; exact Calls.quiet_of (C.out _))
              | (go_at_call 42; exact Calls.quiet_of (CY.out _)))
            go_wp2
            go_ret
            exact ⟨(by rw [hr.out]; rfl), by obtain ⟨q, hq⟩ := HS.out; exact ⟨q + nq, by rw [hq, World.drewN_drewN]⟩⟩
          · have HU2 := Lib.hid (HSTEP.out hy0.1 (by omega) hm)
            rw [show decide (y ∈ l.take k) = false from decide_eq_false hm] at CY
            clear HSTEP HOFF HTW hy0 hm hRr
            go_wp2_with fail
            go_quiet (first
              | (go_at_call 41; exact Calls.quiet_of (C.out _))
              | (go_at_call 42; exact Calls.quiet_of (CY.out _)))
            go_wp2
            go_roundw
            case rel => exact ⟨k + 1, by omega, by go_num, HU2, by obtain ⟨q, hq⟩ := HS.out; exact ⟨q + nq, by rw [hq, World.drewN_drewN]⟩⟩
            case measure => simp [intOf]; omega
        · have C : Hid (∀ n, Calls Try.prog 41 #[.int .i64 y, .int .i64 0, .int .i64 ((l.length : Int) - 1)] (wr.drewN n) fun e w' => e = .returned (.bool false) ∧ ∃ m, w' = (wr.drewN n).drewN m) := fun n => (inRange_no y 0 ((l.length : Int) - 1) _ (by omega)).mono fun e w' h => ⟨h.1, 0, h.2.symm⟩
          have hr := Lib.hid (HOFF.out (by omega))
          clear HSTEP HOFF HTW hy0 hRr CY
          go_wp2_with fail
          go_quiet ((go_at_call 41; exact Calls.quiet_of (C.out _)))
          go_wp2
          go_ret
          exact ⟨(by rw [hr.out]; rfl), by obtain ⟨q, hq⟩ := HS.out; exact ⟨q + nq, by rw [hq, World.drewN_drewN]⟩⟩
      · obtain rfl : k = l.length := by omega
        have hy := Lib.hid (rowB_yes H8.out HU.out)
        go_wp2
        go_ret
        exact ⟨(by rw [hy.out]; rfl), HS.out⟩
  · have b8 : (8 : Int) < (l.length : Int) := by omega
    have hr := Lib.hid (rowB_long h8)
    go_enter Try.func23, Try.ntmps23
    go_wp2
    go_ret
    exact ⟨(by rw [hr.out]; rfl), 0, rfl⟩

set_option maxHeartbeats 800000 in
theorem specValidRow_any (l : List Int) (a : Option Addr) (cv : Nat) (w : World) {H : Nat} (hR : Hid (RdI w H a l)) (hl : l.length ≤ 1048576) (hcv : l.length ≤ cv) :
    Calls Try.prog 9 #[.slice a l.length cv] w fun e w' => e = .returned (.bool (rowB l)) ∧ ∃ q, w' = w.drewN q := by
  have CV := Lib.hid (validRowM_any l a cv w hR hl hcv)
  go_enter Try.func9, Try.ntmps9
  go_wp2_with fail
  refine CV.out.mono ?_
  rintro e w1 ⟨rfl, q, rfl⟩
  go_wp2
  go_ret
  exact ⟨rfl, q, rfl⟩

set_option maxRecDepth 100000 in
set_option maxHeartbeats 1600000 in
theorem fallsM_any (l : List Int) (a : Option Addr) (cv : Nat) (w : World) {H : Nat} (hR : Hid (RdI w H a l)) (hl : l.length ≤ 8) :
    Calls Try.prog 40 #[.slice a l.length cv] w fun e w' => e = .returned (.int .i64 (fallsL l : Nat)) ∧ ∃ q, w' = w.drewN q := by
  obtain ⟨R, hRR⟩ : ∃ R, R = fallsL l := ⟨_, rfl⟩
  rw [← hRR]
  have HRR := Lib.hid hRR
  clear hRR
  go_enter Try.func40, Try.ntmps40
  go_wp2
  go_loopw [3, 4] (fun c i wr => ∃ K n : Nat, 1 ≤ K ∧ (K = 1 ∨ K ≤ l.length) ∧ i = .int .i64 K ∧ c = .int .i64 n ∧ n < K ∧ Hid (n = sumK (fallB l) (K - 1)) ∧ Hid (∃ q, wr = w.drewN q)) (fun _ i _ => l.length + 1 - (intOf i).toNat)
  case atStart => exact ⟨1, 0, Nat.le_refl _, Or.inl rfl, rfl, rfl, Nat.zero_lt_one, rfl, 0, rfl⟩
  case round =>
    obtain ⟨K, n, hK1, hK, rfl, rfl, hnK, HN, HS0⟩ := hrel
    have hRr : Hid (RdI wr H a l) := by obtain ⟨q, hq⟩ := HS0.out; rw [hq]; exact hR.out.drew q
    by_cases hlt : K < l.length
    · obtain ⟨J, hJ⟩ : ∃ J : Nat, J = K - 1 := ⟨_, rfl⟩
      obtain ⟨b, off, rfl, _, h1⟩ := hRr.out K hlt
      have h0 := rd_at hRr.out J (by omega)
      have b1 : (K : Int) < (l.length : Int) := by omega
      have b2 : (J : Int) < (l.length : Int) := by omega
      have hJK : J + 1 = K := by omega
      have HF : Hid (fallB l J = if l[K] < l[J] then 1 else 0) := by show _ = _; rw [fallB, hJK, getD_at _ _ hlt, getD_at _ _ (by omega)]
      obtain ⟨y, hy⟩ : ∃ y, y = l[K] := ⟨_, rfl⟩
      obtain ⟨x, hx⟩ : ∃ x, x = l[J] := ⟨_, rfl⟩
      rw [← hy] at h1 HF
      rw [← hx] at h0 HF
      clear hy hx
      have ew : IntKind.i64.wrap ((K : Int) - 1) = (J : Int) := by rw [IntKind.wrap_i64]; omega
      have HS : Hid (sumK (fallB l) (K + 1 - 1) = n + fallB l J) := by show _ = _; rw [HN.out, Nat.add_sub_cancel, ← hJK, sumK, Nat.add_sub_cancel]
      clear hJ hJK
      by_cases hyx : y < x
      · have HN2 : Hid (n + 1 = sumK (fallB l) (K + 1 - 1)) := by show _ = _; rw [HS.out, HF.out, if_pos hyx]
        clear hRr
        go_wp2_with fail
        go_quiet (fail)
        go_wp2
        go_roundw
        case rel => exact ⟨K + 1, n + 1, by omega, Or.inr (by omega), by go_num, by go_num, by omega, HN2, by obtain ⟨q, hq⟩ := HS0.out; exact ⟨q + nq, by rw [hq, World.drewN_drewN]⟩⟩
        case measure => simp [intOf]; omega
      · have HN2 : Hid (n = sumK (fallB l) (K + 1 - 1)) := by show _ = _; rw [HS.out, HF.out, if_neg hyx]; rfl
        clear hRr
        go_wp2_with fail
        go_quiet (fail)
        go_wp2
        go_roundw
        case rel => exact ⟨K + 1, n, by omega, Or.inr (by omega), by go_num, rfl, by omega, HN2, by obtain ⟨q, hq⟩ := HS0.out; exact ⟨q + nq, by rw [hq, World.drewN_drewN]⟩⟩
        case measure => simp [intOf]; omega
    · have b1 : ¬ (K : Int) < (l.length : Int) := by omega
      have hkl : K - 1 = l.length - 1 := by omega
      have hy : Hid (n = R) := by show _ = _; rw [HRR.out, HN.out, fallsL, hkl]
      clear hkl
      go_wp2
      go_ret
      exact ⟨(by rw [hy.out]; rfl), HS0.out⟩
def fallsO (l : List Int) : Int := if rowB l = true then ((fallsL l : Nat) : Int) else -1
set_option maxHeartbeats 800000 in
theorem specFallsOf_any (l : List Int) (a : Option Addr) (cv : Nat) (w : World) {H : Nat} (hR : Hid (RdI w H a l)) (hl : l.length ≤ 1048576) (hcv : l.length ≤ cv) :
    Calls Try.prog 21 #[.slice a l.length cv] w fun e w' => e = .returned (.int .i64 (fallsO l)) ∧ ∃ q, w' = w.drewN q := by
  have CV := Lib.hid (validRowM_any l a cv w hR hl hcv)
  rw [fallsO]
  cases hr : rowB l
  · rw [hr] at CV
    go_enter Try.func21, Try.ntmps21
    go_wp2_with fail
    refine CV.out.mono ?_
    rintro e w1 ⟨rfl, q, rfl⟩
    go_wp2
    go_ret
    exact ⟨rfl, q, rfl⟩
  · rw [hr] at CV
    have h8 := ((rowB_iff l).mp hr).1
    have CF := Lib.hid (fun q => fallsM_any l a cv (w.drewN q) (Lib.hid (hR.out.drew q)) h8)
    go_enter Try.func21, Try.ntmps21
    go_wp2_with fail
    refine CV.out.mono ?_
    rintro e w1 ⟨rfl, q, rfl⟩
    go_wp2_with fail
    refine (CF.out q).mono ?_
    rintro e w1 ⟨rfl, q2, rfl⟩
    go_wp2
    go_ret
    exact ⟨rfl, q + q2, by first | rfl | rw [World.drewN_drewN]⟩
end Go.Proofs.Ytmlcbeekimiaiaa
