/-
  The contracts of the laws' own helpers on lists of numbers: is a number in the list, where is it, how many different ones are there.
-/
import Derived.Test.YtchfnbcpjiiphaaCInts
namespace Go.Proofs.Ytchfnbcpjiiphaa
open Go.RowKit

def placeL (l : List Int) (x : Int) : Int := if l.findIdx (· == x) < l.length then (l.findIdx (· == x) : Nat) else -1
theorem placeL_hit {l : List Int} {k : Nat} {x : Int} (hk : k < l.length) (h : l[k] = x) (hn : ∀ (j : Nat) (hj : j < l.length), j < k → l[j] ≠ x) : placeL l x = k := by
  have e : l.findIdx (· == x) = k := (List.findIdx_eq hk).2 ⟨by simp [h], fun j hj => by simpa using hn j (by omega) hj⟩
  rw [placeL, e, if_pos hk]
theorem placeL_miss {l : List Int} {x : Int} (h : ∀ (k : Nat) (hk : k < l.length), l[k] ≠ x) : placeL l x = -1 := by
  have e : l.findIdx (· == x) = l.length := List.findIdx_eq_length_of_false fun y hy => by
    obtain ⟨k, hk, rfl⟩ := List.getElem_of_mem hy
    simpa using h k hk
  rw [placeL, e, if_neg (by omega)]
theorem ret_i {a b : Int} (h : a = b) : Ending.returned (.int .i64 a) = .returned (.int .i64 b) := by rw [h]
theorem ret_d {a b : Bool} (h : a = b) : Ending.returned (.bool a) = .returned (.bool b) := by rw [h]

theorem mem_hit {l : List Int} {k : Nat} {x : Int} (hk : k < l.length) (h : l[k] = x) : decide (x ∈ l) = true := by
  simp only [decide_eq_true_eq]; rw [← h]; exact List.getElem_mem hk
theorem mem_miss {l : List Int} {x : Int} (h : ∀ (k : Nat) (hk : k < l.length), l[k] ≠ x) : decide (x ∈ l) = false := by
  simp only [decide_eq_false_iff_not]
  intro hx
  obtain ⟨k, hk, e⟩ := List.getElem_of_mem hx
  exact h k hk e
set_option maxHeartbeats 400000 in
/-- the first k numbers of a list, as a row that is read -/
theorem isIn_part (l : List Int) (n : Nat) (g c : Nat) (x : Int) (w : World) (hn : n ≤ l.length) (hc : n ≤ c) (hr : Hid (∀ (k : Nat) (hk : k < l.length), w.cell? ⟨g, k, none⟩ = some (.int .i64 l[k]))) (hl : l.length ≤ 1048576) :
    Calls Try.prog 14 #[.slice (some ⟨g, 0, none⟩) n c, .int .i64 x] w fun e w' => e = .returned (.bool (decide (x ∈ l.take n))) ∧ w = w' := by
  go_enter Try.func14, Try.ntmps14
  go_wp2
  go_loop [5] (fun i => ∃ k : Nat, k ≤ n ∧ i = .int .i64 k ∧ Hid (∀ (j : Nat) (hj : j < (l.take n).length), j < k → (l.take n)[j] ≠ x)) (fun i => n - (intOf i).toNat)
  case atStart => exact ⟨0, Nat.zero_le _, rfl, fun j _ h => by omega⟩
  case round =>
    obtain ⟨k, hk, rfl, HN⟩ := hrel
    have hlen : (l.take n).length = n := by rw [List.length_take]; omega
    have HL := Lib.hid hlen
    clear hlen
    by_cases hlt : k < n
    · have h1 := hr.out k (by omega)
      have b1 : (k : Int) < (n : Int) := by omega
      obtain ⟨y, hy⟩ : ∃ y, y = l[k]'(by omega) := ⟨_, rfl⟩
      rw [← hy] at h1
      have HY : Hid (∃ h : k < (l.take n).length, (l.take n)[k] = y) := ⟨by rw [HL.out]; exact hlt, by rw [List.getElem_take]; exact hy.symm⟩
      clear hy
      by_cases hyx : y = x
      · subst hyx
        go_wp2
        go_ret
        exact ⟨ret_d (mem_hit HY.out.1 HY.out.2).symm, rfl⟩
      · have q1 : (y == x) = false := beq_false_of_ne hyx
        have HN' : Hid (∀ (j : Nat) (hj : j < (l.take n).length), j < k + 1 → (l.take n)[j] ≠ x) := fun j hj hjk => by
          by_cases e : j = k
          · subst e; rw [HY.out.2]; exact hyx
          · exact HN.out j hj (by omega)
        clear hyx
        go_wp2
        go_round
        case rel => exact ⟨k + 1, by omega, by go_num, HN'⟩
        case measure => simp [intOf]; omega
    · obtain rfl : k = n := by omega
      go_wp2
      go_ret
      exact ⟨ret_d (mem_miss fun j hj => HN.out j hj (by have := HL.out; omega)).symm, rfl⟩

/-- how many of the first k numbers were not there before -/
def diffK (l : List Int) : Nat → Nat
  | 0 => 0
  | k + 1 => diffK l k + if l.getD k 0 ∈ l.take k then 0 else 1
theorem diffK_le (l : List Int) : ∀ k, diffK l k ≤ k := by
  intro k
  induction k with
  | zero => exact Nat.le_refl _
  | succ k ih => rw [diffK]; split <;> omega
theorem diffK_nodup (l : List Int) (h : l.Nodup) : ∀ k, k ≤ l.length → diffK l k = k := by
  intro k
  induction k with
  | zero => intro _; rfl
  | succ k ih =>
    intro hk
    rw [diffK, ih (by omega), if_neg]
    intro hm
    obtain ⟨j, hj, e⟩ := List.getElem_of_mem hm
    rw [List.getElem_take, List.getD_eq_getElem?_getD, List.getElem?_eq_getElem (by omega)] at e
    rw [List.length_take] at hj
    exact List.pairwise_iff_getElem.1 h j k (by omega) (by omega) (by omega) e

end Go.Proofs.Ytchfnbcpjiiphaa
