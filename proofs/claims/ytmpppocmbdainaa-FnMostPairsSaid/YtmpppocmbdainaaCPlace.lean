/-
  The contracts of the laws' own helpers on lists of numbers: is a number in the list, where is it, how many different ones are there.
-/
import Derived.Test.YtmpppocmbdainaaCInts
namespace Go.Proofs.Ytmpppocmbdainaa
open Go.RowKit

def placeL (l : List Int) (x : Int) : Int := if l.findIdx (· == x) < l.length then (l.findIdx (· == x) : Nat) else -1
theorem placeL_hit {l : List Int} {k : Nat} {x : Int} (hk : k < l.length) (h : l[k] = x) (hn : ∀ (j : Nat) (hj : j < l.length), j < k → l[j] ≠ x) : placeL l x = k := by
  have e : l.findIdx (· == x) = k := (List.findIdx_eq hk).2 ⟨by simp [h], fun j hj => by simpa using hn j (by omega) hj⟩
  rw [placeL, e, if_pos hk]
theorem placeL_miss {l : List Int} {x : Int} (h : ∀ (k : Nat) (hk : k < l.length), l[k] ≠ x) : placeL l x = -1 := by
  have e : l.findIdx (· == x) = l.length := List.findIdx_eq_length_of_false fun y hy => by
    obtain ⟨k, hk, rfl⟩ := List.getElem_of_mem hy
    simpa using h k hk
  rw [placeL, e, if_neg (by omega)]
theorem ret_i {a b : Int} (h : a = b) : Ending.returned (.int .i64 a) = .returned (.int .i64 b) := by rw [h]
theorem ret_d {a b : Bool} (h : a = b) : Ending.returned (.bool a) = .returned (.bool b) := by rw [h]

theorem mem_hit {l : List Int} {k : Nat} {x : Int} (hk : k < l.length) (h : l[k] = x) : decide (x ∈ l) = true := by
  simp only [decide_eq_true_eq]; rw [← h]; exact List.getElem_mem hk
theorem mem_miss {l : List Int} {x : Int} (h : ∀ (k : Nat) (hk : k < l.length), l[k] ≠ x) : decide (x ∈ l) = false := by
  simp only [decide_eq_false_iff_not]
  intro hx
  obtain ⟨k, hk, e⟩ := List.getElem_of_mem hx
  exact h k hk e
set_option maxHeartbeats 400000 in
/-- the first k numbers of a list, as a row that is read -/
theorem isIn_part (l : List Int) (n : Nat) (g c : Nat) (x : Int) (w : World) (hn : n ≤ l.length) (hc : n ≤ c) (hr : Hid (∀ (k : Nat) (hk : k < l.length), w.cell? ⟨g, k, none⟩ = some (.int .i64 l[k]))) (hl : l.length ≤ 1048576) :
    Calls Try.prog 47 #[.slice (some ⟨g, 0, none⟩) n c, .int .i64 x] w fun e w' => e = .returned (.bool (decide (x ∈ l.take n))) ∧ w = w' := by
  go_enter Try.func47, Try.ntmps47
  go_wp2
  go_loop [5] (fun i => ∃ k : Nat, k ≤ n ∧ i = .int .i64 k ∧ Hid (∀ (j : Nat) (hj : j < (l.take n).length), j < k → (l.take n)[j] ≠ x)) (fun i => n - (intOf i).toNat)
  case atStart => exact ⟨0, Nat.zero_le _, rfl, fun j _ h => by omega⟩
  case round =>
    obtain ⟨k, hk, rfl, HN⟩ := hrel
    have hlen : (l.take n).length = n := by rw [List.length_take]; omega
    have HL := Lib.hid hlen
    clear hlen
    by_cases hlt : k < n
    · have h1 := hr.out k (by omega)
      have b1 : (k : Int) < (n : Int) := by omega
      obtain ⟨y, hy⟩ : ∃ y, y = l[k]'(by omega) := ⟨_, rfl⟩
      rw [← hy] at h1
      have HY : Hid (∃ h : k < (l.take n).length, (l.take n)[k] = y) := ⟨by rw [HL.out]; exact hlt, by rw [List.getElem_take]; exact hy.symm⟩
      clear hy
      by_cases hyx : y = x
      · subst hyx
        go_wp2
        go_ret
        exact ⟨ret_d (mem_hit HY.out.1 HY.out.2).symm, rfl⟩
      · have q1 : (y == x) = false := beq_false_of_ne hyx
        have HN' : Hid (∀ (j : Nat) (hj : j < (l.take n).length), j < k + 1 → (l.take n)[j] ≠ x) := fun j hj hjk => by
          by_cases e : j = k
          · subst e; rw [HY.out.2]; exact hyx
          · exact HN.out j hj (by omega)
        clear hyx
        go_wp2
        go_round
        case rel => exact ⟨k + 1, by omega, by go_num, HN'⟩
        case measure => simp [intOf]; omega
    · obtain rfl : k = n := by omega
      go_wp2
      go_ret
      exact ⟨ret_d (mem_miss fun j hj => HN.out j hj (by have := HL.out; omega)).symm, rfl⟩

/-- how many of the first k numbers were not there before -/
def diffK (l : List Int) : Nat → Nat
  | 0 => 0
  | k + 1 => diffK l k + if l.getD k 0 ∈ l.take k then 0 else 1
theorem diffK_le (l : List Int) : ∀ k, diffK l k ≤ k := by
  intro k
  induction k with
  | zero => exact Nat.le_refl _
  | succ k ih => rw [diffK]; split <;> omega
theorem diffK_nodup (l : List Int) (h : l.Nodup) : ∀ k, k ≤ l.length → diffK l k = k := by
  intro k
  induction k with
  | zero => intro _; rfl
  | succ k ih =>
    intro hk
    rw [diffK, ih (by omega), if_neg]
    intro hm
    obtain ⟨j, hj, e⟩ := List.getElem_of_mem hm
    rw [List.getElem_take, List.getD_eq_getElem?_getD, List.getElem?_eq_getElem (by omega)] at e
    rw [List.length_take] at hj
    exact List.pairwise_iff_getElem.1 h j k (by omega) (by omega) (by omega) e

set_option maxHeartbeats 800000 in
theorem different_any (l : List Int) (v : Value) (w : World) {B H : Nat} (hv : Hid (Own w B H 3 v (iv l))) (hl : l.length ≤ 1048576) :
    Calls Try.prog 21 #[v] w fun e w' => e = .returned (.int .i64 (diffK l l.length)) ∧ ∃ m, w' = w.drewN m := by
  obtain ⟨av, cv, rfl, _, hcv, _, _⟩ := hv.out.slice
  rw [iv_length] at hv hcv ⊢
  go_enter Try.func21, Try.ntmps21
  go_wp2
  go_loopw [3, 4] (fun n i wr => ∃ k m : Nat, k ≤ l.length ∧ i = .int .i64 k ∧ m ≤ k ∧ n = .int .i64 m ∧ Hid (m = diffK l k) ∧ Hid (∃ q, wr = w.drewN q)) (fun _ i _ => l.length - (intOf i).toNat)
  case atStart => exact ⟨0, 0, Nat.zero_le _, rfl, Nat.le_refl _, rfl, rfl, 0, rfl⟩
  case round =>
    obtain ⟨k, m, hk, rfl, hm, rfl, HM, HS⟩ := hrel
    have hheap : wr.heap = w.heap := by obtain ⟨q, hq⟩ := HS.out; rw [hq]; rfl
    have HH := Lib.hid hheap
    clear hheap
    by_cases hlt : k < l.length
    · have hvr := Lib.hid (hv.out.same HH.out)
      obtain ⟨g1, rfl, _, _, h1, _⟩ := hvr.out.at_ k (by rw [iv_length]; exact hlt)
      rw [iv_at l k hlt] at h1
      have cells : ∀ (j : Nat) (hj : j < l.length), wr.cell? ⟨g1, j, none⟩ = some (.int .i64 l[j]) := fun j hj => by
        obtain ⟨g2, e2, _, _, h2, _⟩ := hvr.out.at_ j (by rw [iv_length]; exact hj)
        cases e2
        rw [h2, iv_at l j hj]
      obtain ⟨y, hy⟩ : ∃ y, y = l[k] := ⟨_, rfl⟩
      have hd : diffK l (k + 1) = diffK l k + if decide (y ∈ l.take k) = true then 0 else 1 := by
        rw [diffK, List.getD_eq_getElem?_getD, List.getElem?_eq_getElem hlt, hy]
        simp
      rw [← hy] at h1
      have C := Lib.hid (fun n => isIn_part l k g1 cv y (wr.drewN n) hk (by omega) (Lib.hid (fun j hj => cells j hj)) hl)
      have b1 : (k : Int) < (l.length : Int) := by omega
      have b2 : (k : Int) ≤ (cv : Int) := by omega
      obtain ⟨b, hb⟩ : ∃ b, b = decide (y ∈ l.take k) := ⟨_, rfl⟩
      rw [← hb] at hd C
      have HD := Lib.hid hd
      have C' : Hid (∀ n, Calls Try.prog 47 #[.slice (some ⟨g1, 0, none⟩) k cv, .int .i64 y] (wr.drewN n) fun e w' => e = .returned (.bool b) ∧ ∃ m, w' = (wr.drewN n).drewN m) := fun n => (C.out n).mono fun e w' h => ⟨h.1, 0, h.2.symm⟩
      clear hy hd hb C cells
      go_wp2
      go_quiet ((go_at_call 47; exact Calls.quiet_of (C'.out _)))
      cases b with
      | true =>
        go_wp2
        go_roundw
        case rel => exact ⟨k + 1, m, by omega, by go_num, by omega, rfl, by rw [HD.out, HM.out]; rfl, by obtain ⟨q, hq⟩ := HS.out; exact ⟨q + nq, by rw [hq, World.drewN_drewN]⟩⟩
        case measure => simp [intOf]; omega
      | false =>
        go_wp2
        go_roundw
        case rel => exact ⟨k + 1, m + 1, by omega, by go_num, by omega, by go_num, by rw [HD.out, HM.out]; rfl, by obtain ⟨q, hq⟩ := HS.out; exact ⟨q + nq, by rw [hq, World.drewN_drewN]⟩⟩
        case measure => simp [intOf]; omega
    · obtain rfl : k = l.length := by omega
      go_wp2
      go_ret
      exact ⟨by rw [HM.out]; rfl, HS.out⟩
end Go.Proofs.Ytmpppocmbdainaa
