/-
  The contracts of the functions that say in how many ways a word ends.
-/
import Derived.Test.YtooplolalbcmjaaCCount
import Derived.Test.YtooplolalbcmjaaZV
import Derived.Test.YtooplolalbcmjaaZGV
namespace Go.Proofs.Ytooplolalbcmjaa
open Go.RowKit

/-- the row: r rounds done, i entries of the next; T pairs open or left -/
def wayV (T r i : Nat) : List Value := (List.range (T + 1)).map fun j => .int .i64 (ee (if j < i then r + 1 else min r (T - j)) j : Nat)
theorem wayV_length (T r i : Nat) : (wayV T r i).length = T + 1 := by simp [wayV]
theorem wayV_at (T r i j : Nat) (h : j < T + 1) : (wayV T r i)[j]? = some (.int .i64 (ee (if j < i then r + 1 else min r (T - j)) j : Nat)) := by simp [wayV, h]
theorem wayV_set (T r i : Nat) (x : Nat) (hx : x = ee (r + 1) i) : (wayV T r i).set i (.int .i64 (x : Nat)) = wayV T r (i + 1) := by
  subst hx
  apply List.ext_getElem?
  intro j
  rw [List.getElem?_set]
  by_cases hj : j < T + 1
  · by_cases he : i = j
    · subst he
      rw [if_pos rfl, if_pos (by rw [wayV_length]; exact hj), wayV_at T r (i + 1) i hj, if_pos (by omega)]
    · rw [if_neg he, wayV_at T r i j hj, wayV_at T r (i + 1) j hj]
      by_cases h1 : j < i
      · rw [if_pos h1, if_pos (by omega)]
      · rw [if_neg h1, if_neg (by omega)]
  · have e1 : (wayV T r i)[j]? = none := List.getElem?_eq_none (by rw [wayV_length]; omega)
    have e2 : (wayV T r (i + 1))[j]? = none := List.getElem?_eq_none (by rw [wayV_length]; omega)
    rw [e1, e2]
    split
    · rename_i h; subst h; rw [if_neg (by rw [wayV_length]; exact hj)]
    · rfl
theorem wayV_next (T r : Nat) : wayV T r (T - r) = wayV T (r + 1) 0 := by
  unfold wayV
  apply List.map_congr_left
  intro j hj
  have hj := List.mem_range.1 hj
  congr 3
  split <;> rw [if_neg (by omega)] <;> omega

/-- the row while it is filled with ones -/
def oneV (T k : Nat) : List Value := (List.range (T + 1)).map fun j => .int .i64 (if j < k then 1 else 0)
theorem oneV_length (T k : Nat) : (oneV T k).length = T + 1 := by simp [oneV]
theorem oneV_zero (T : Nat) : List.replicate (T + 1) (Value.int .i64 0) = oneV T 0 := by
  apply List.ext_getElem?
  intro j
  by_cases hj : j < T + 1 <;> simp [oneV, hj]
theorem oneV_set (T k : Nat) : (oneV T k).set k (.int .i64 1) = oneV T (k + 1) := by
  apply List.ext_getElem?
  intro j
  rw [List.getElem?_set]
  by_cases hj : j < T + 1
  · by_cases he : k = j
    · subst he; simp [oneV, hj]
    · simp only [oneV, if_neg he, List.getElem?_map, List.getElem?_range hj, Option.map_some]
      congr 2
      by_cases h1 : j < k
      · rw [if_pos h1, if_pos (by omega)]
      · rw [if_neg h1, if_neg (by omega)]
  · have e1 : (oneV T k)[j]? = none := List.getElem?_eq_none (by rw [oneV_length]; omega)
    have e2 : (oneV T (k + 1))[j]? = none := List.getElem?_eq_none (by rw [oneV_length]; omega)
    rw [e1, e2]
    split
    · rename_i h; subst h; rw [if_neg (by rw [oneV_length]; exact hj)]
    · rfl
theorem oneV_full (T : Nat) : oneV T (T + 1) = wayV T 0 0 := by
  unfold oneV wayV
  apply List.map_congr_left
  intro j hj
  have hj := List.mem_range.1 hj
  rw [if_pos hj, if_neg (by omega), Nat.zero_min]; rfl

/-- in how many ways, for whatever numbers -/
def endsOut (a b : Int) : Int := if 0 ≤ a ∧ 0 ≤ b ∧ a + b ≤ 9 then (ee b.toNat a.toNat : Nat) else -1
theorem endsOut_in (o l : Nat) (h : o + l ≤ 9) : endsOut o l = (ee l o : Nat) := by
  unfold endsOut; rw [if_pos (by omega)]; simp

/-! ### the model's -/
theorem ee_shut (o : Nat) : ee 0 o = 1 := rfl

set_option maxHeartbeats 1600000 in
theorem specEnds_in : ∀ (f o l : Nat) (a b : Int) (w : World), 2 * l + o = f → o + l ≤ 9 → a = o → b = l →
    Calls Try.prog 98 #[.int .i64 a, .int .i64 b] w fun e w' => e = .returned (.int .i64 (ee l o : Nat)) ∧ w = w' := by
  intro f
  induction f using Nat.strongRecOn with
  | _ f ih =>
    intro o l a b w hf h9 ha hb
    subst ha; subst hb
    by_cases hl : 0 < l
    · have q0 : ((l : Int) == 0) = false := beq_false_of_ne (by omega)
      have y := ee_bd l (by omega) o (by omega)
      by_cases ho : 0 < o
      · have hst := ee_step l o hl ho
        have y1 := ee_bd (l - 1) (by omega) (o + 1) (by omega)
        have y2 := ee_bd l (by omega) (o - 1) (by omega)
        have i1 := fun w => ih (2 * (l - 1) + (o + 1)) (by omega) (o + 1) (l - 1) ((o : Int) + 1) ((l : Int) - 1) w rfl (by omega) (by omega) (by omega)
        have i2 := fun w => ih (2 * l + (o - 1)) (by omega) (o - 1) l ((o : Int) - 1) (l : Int) w rfl (by omega) (by omega) rfl
        rw [hst] at y ⊢
        obtain ⟨X, hX⟩ : ∃ X, X = ee (l - 1) (o + 1) := ⟨_, rfl⟩
        obtain ⟨Y, hY⟩ : ∃ Y, Y = ee l (o - 1) := ⟨_, rfl⟩
        rw [← hX] at i1 y y1 ⊢
        rw [← hY] at i2 y y2 ⊢
        have exy : ((X + Y : Nat) : Int) = (X : Int) + (Y : Int) := by omega
        rw [exy]
        have I1 := Lib.hid i1
        have I2 := Lib.hid i2
        have q1 : (0 : Int) < (o : Int) := by omega
        clear i1 i2 hst hX hY exy ih
        go_enter Try.func98, Try.ntmps98
        go_wp2_with fail
        refine (I1.out _).mono ?_
        rintro e w1 ⟨rfl, rfl⟩
        go_wp2_with fail
        refine (I2.out _).mono ?_
        rintro e w1 ⟨rfl, rfl⟩
        go_wp2
        go_ret
        exact ⟨rfl, rfl⟩
      · obtain rfl : o = 0 := by omega
        have i1 := fun w => ih (2 * (l - 1) + 1) (by omega) 1 (l - 1) 1 ((l : Int) - 1) w rfl (by omega) rfl (by omega)
        rw [ee_open l hl]
        have I1 := Lib.hid i1
        clear i1 ih y
        go_enter Try.func98, Try.ntmps98
        go_wp2_with fail
        refine (I1.out _).mono ?_
        rintro e w1 ⟨rfl, rfl⟩
        go_wp2
        go_ret
        exact ⟨rfl, rfl⟩
    · obtain rfl : l = 0 := by omega
      clear ih
      go_enter Try.func98, Try.ntmps98
      go_wp2
      go_ret
      exact ⟨rfl, rfl⟩

end Go.Proofs.Ytooplolalbcmjaa
