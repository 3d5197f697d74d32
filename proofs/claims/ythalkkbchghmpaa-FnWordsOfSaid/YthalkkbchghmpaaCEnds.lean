/-
  The contracts of the functions that say in how many ways a word ends.
-/
import Derived.Test.YthalkkbchghmpaaCCount
import Derived.Test.YthalkkbchghmpaaCRange
import Derived.Test.YthalkkbchghmpaaWGive
namespace Go.Proofs.Ythalkkbchghmpaa
open Go.RowKit

/-- the row: r rounds done, i entries of the next; T pairs open or left -/
def wayV (T r i : Nat) : List Value := (List.range (T + 1)).map fun j => .int .i64 (ee (if j < i then r + 1 else min r (T - j)) j : Nat)
theorem wayV_length (T r i : Nat) : (wayV T r i).length = T + 1 := by simp [wayV]
theorem wayV_at (T r i j : Nat) (h : j < T + 1) : (wayV T r i)[j]? = some (.int .i64 (ee (if j < i then r + 1 else min r (T - j)) j : Nat)) := by simp [wayV, h]
theorem wayV_set (T r i : Nat) (x : Nat) (hx : x = ee (r + 1) i) : (wayV T r i).set i (.int .i64 (x : Nat)) = wayV T r (i + 1) := by
  subst hx
  apply List.ext_getElem?
  intro j
  rw [List.getElem?_set]
  by_cases hj : j < T + 1
  · by_cases he : i = j
    · subst he
      rw [if_pos rfl, if_pos (by rw [wayV_length]; exact hj), wayV_at T r (i + 1) i hj, if_pos (by omega)]
    · rw [if_neg he, wayV_at T r i j hj, wayV_at T r (i + 1) j hj]
      by_cases h1 : j < i
      · rw [if_pos h1, if_pos (by omega)]
      · rw [if_neg h1, if_neg (by omega)]
  · have e1 : (wayV T r i)[j]? = none := List.getElem?_eq_none (by rw [wayV_length]; omega)
    have e2 : (wayV T r (i + 1))[j]? = none := List.getElem?_eq_none (by rw [wayV_length]; omega)
    rw [e1, e2]
    split
    · rename_i h; subst h; rw [if_neg (by rw [wayV_length]; exact hj)]
    · rfl
theorem wayV_next (T r : Nat) : wayV T r (T - r) = wayV T (r + 1) 0 := by
  unfold wayV
  apply List.map_congr_left
  intro j hj
  have hj := List.mem_range.1 hj
  congr 3
  split <;> rw [if_neg (by omega)] <;> omega

/-- the row while it is filled with ones -/
def oneV (T k : Nat) : List Value := (List.range (T + 1)).map fun j => .int .i64 (if j < k then 1 else 0)
theorem oneV_length (T k : Nat) : (oneV T k).length = T + 1 := by simp [oneV]
theorem oneV_zero (T : Nat) : List.replicate (T + 1) (Value.int .i64 0) = oneV T 0 := by
  apply List.ext_getElem?
  intro j
  by_cases hj : j < T + 1 <;> simp [oneV, hj]
theorem oneV_set (T k : Nat) : (oneV T k).set k (.int .i64 1) = oneV T (k + 1) := by
  apply List.ext_getElem?
  intro j
  rw [List.getElem?_set]
  by_cases hj : j < T + 1
  · by_cases he : k = j
    · subst he; simp [oneV, hj]
    · simp only [oneV, if_neg he, List.getElem?_map, List.getElem?_range hj, Option.map_some]
      congr 2
      by_cases h1 : j < k
      · rw [if_pos h1, if_pos (by omega)]
      · rw [if_neg h1, if_neg (by omega)]
  · have e1 : (oneV T k)[j]? = none := List.getElem?_eq_none (by rw [oneV_length]; omega)
    have e2 : (oneV T (k + 1))[j]? = none := List.getElem?_eq_none (by rw [oneV_length]; omega)
    rw [e1, e2]
    split
    · rename_i h; subst h; rw [if_neg (by rw [oneV_length]; exact hj)]
    · rfl
theorem oneV_full (T : Nat) : oneV T (T + 1) = wayV T 0 0 := by
  unfold oneV wayV
  apply List.map_congr_left
  intro j hj
  have hj := List.mem_range.1 hj
  rw [if_pos hj, if_neg (by omega), Nat.zero_min]; rfl

set_option maxHeartbeats 3200000 in
theorem implEnds_in (o l : Nat) (hol : o + l ≤ 9) (w : World) :
    Calls Try.prog 21 #[.int .i64 o, .int .i64 l] w fun e w' => e = .returned (.int .i64 (ee l o : Nat)) ∧ Below w.heap.size w w' := by
  obtain ⟨i0, hi, hz0, hz1, hz2⟩ := info_parts Try.infoInt
  have d1 : decide ((o : Int) < 0) = false := decide_eq_false (by omega)
  have d2 : decide ((l : Int) < 0) = false := decide_eq_false (by omega)
  have d3 : decide (9 < (o : Int)) = false := decide_eq_false (by omega)
  have d4 : (l : Int) ≤ 9 - (o : Int) := by omega
  obtain ⟨G, hG⟩ : ∃ G, G = w.heap.size := ⟨_, rfl⟩
  go_enter Try.func21, Try.ntmps21
  go_wp2_with (at_make; refine wpList_make_full _ rfl _ _ 43 rfl w.heap.size 3 i0 (.int .i64 0) 1 Try.underlying43 hi hz0 hz1 _ _ _ _ (o + l + 1) rfl rfl (by omega) (by omega) ?b2 ?b3 (Nat.le_refl _) ?_)
  case b2 => rw [hz2]; omega
  case b3 => unfold maxLen; omega
  intro w1 hown hgrow
  have hb1 : Below w.heap.size w w1 := (Below.refl _ _).grown hgrow (Nat.le_refl _) (fun k hk => by cases hk)
  rw [show (madeCells #[Value.int .i64 0] (o + l + 1)).toList = List.replicate (o + l + 1) (Value.int .i64 0) from toList_madeCells_one _ _, oneV_zero, ← hG] at hown
  rw [← hG]
  have HG := Lib.hid hG
  clear hG hgrow
  obtain ⟨T, hT⟩ : ∃ T, T = o + l := ⟨_, rfl⟩
  rw [← hT] at hown ⊢
  have hGn : w.heap.size ≤ G := by have := HG.out; omega
  have hown0 := Lib.hid hown
  have hb0 := Lib.hid hb1
  have HT := Lib.hid hT
  have hT9 : T ≤ 9 := by omega
  clear hown hb1 hT
  go_wp2
  go_loopw [32] (fun i wr => ∃ k : Nat, k ≤ T + 1 ∧ i = .int .i64 k ∧ Hid (wr.ownsRow G 3 1 (.slice (some ⟨G, 0, none⟩) (T + 1) (T + 1)) (T + 1) (oneV T k)) ∧ Hid (Below w.heap.size w wr)) (fun i _ => T + 1 - (intOf i).toNat)
  case atStart => exact ⟨0, Nat.zero_le _, rfl, hown0, hb0⟩
  case round =>
    clear hown0 hb0
    obtain ⟨k, hk, rfl, hown, hb⟩ := hrel
    by_cases hlt : k < T + 1
    · have h1 := (hown.out.cellAt k (by omega)).trans (show _ = some (Value.int .i64 0) by simp [oneV, hlt])
      have f1 := hown.out.frozenAt k
      have hown2 := (hown.out.stored k (.int .i64 1)).1
      rw [oneV_set] at hown2
      have hb3 := hb.out.setCell (p := ⟨G, k, none⟩) hGn (.int .i64 1)
      have HO := Lib.hid hown2
      have HB := Lib.hid hb3
      have b1 : (k : Int) < (T : Int) + 1 := by omega
      clear hown hb hown2 hb3
      go_wp2
      go_roundw
      case rel => exact ⟨k + 1, by omega, by go_num, HO, HB⟩
      case measure => simp [intOf]; omega
    · obtain rfl : k = T + 1 := by omega
      have HO : Hid (wr.ownsRow G 3 1 (.slice (some ⟨G, 0, none⟩) (T + 1) (T + 1)) (T + 1) (wayV T 0 0)) := by rw [← oneV_full]; exact hown
      clear hown
      go_wp2
      obtain ⟨wo, rfl⟩ : ∃ wo : World, wo = wr := ⟨_, rfl⟩
      go_loopw [40] (fun i wi => ∃ r : Nat, r ≤ l ∧ i = .int .i64 r ∧ Hid (wi.ownsRow G 3 1 (.slice (some ⟨G, 0, none⟩) (T + 1) (T + 1)) (T + 1) (wayV T r 0)) ∧ Hid (Below w.heap.size w wi)) (fun i _ => l - (intOf i).toNat)
      case atStart => exact ⟨0, Nat.zero_le _, rfl, HO, hb⟩
      case round =>
        clear HO hb
        obtain ⟨r, hr, rfl, hown, hb⟩ := hrel
        by_cases hrl : r < l
        · have hT' := HT.out
          have v1 : (if 1 < 0 then r + 1 else min r (T - 1)) = r := by rw [if_neg (by omega)]; omega
          have h1 := (hown.out.cellAt 1 (by omega)).trans ((wayV_at T r 0 1 (by omega)).trans (by rw [v1]))
          have h0 := (hown.out.cellAt 0 (by omega)).trans (wayV_at T r 0 0 (by omega))
          have f0 := hown.out.frozenAt 0
          obtain ⟨X, hX⟩ : ∃ X, X = ee r 1 := ⟨_, rfl⟩
          rw [← hX] at h1
          have hown2 := (hown.out.stored 0 (.int .i64 (X : Nat))).1
          rw [wayV_set T r 0 X (by rw [hX, ee_first])] at hown2
          have hb3 := hb.out.setCell (p := ⟨G, 0, none⟩) hGn (.int .i64 (X : Nat))
          have HO := Lib.hid hown2
          have HB := Lib.hid hb3
          have b1 : (1 : Int) < (T : Int) + 1 := by omega
          have b2 : (0 : Int) < (T : Int) + 1 := by omega
          have b3 : 1 < T + 1 := by omega
          have b4 : 0 < T + 1 := by omega
          clear hown hb hown2 hb3 hX v1 hT'
          go_wp2
          obtain ⟨wp, hwp⟩ : ∃ wp, wp = wr.setCell ⟨G, 0, none⟩ (.int .i64 (X : Nat)) := ⟨_, rfl⟩
          rw [← hwp] at HO HB ⊢
          clear hwp h0 h1 f0
          go_loopw [8] (fun i wj => ∃ j : Nat, 1 ≤ j ∧ j ≤ T - r ∧ i = .int .i64 j ∧ Hid (wj.ownsRow G 3 1 (.slice (some ⟨G, 0, none⟩) (T + 1) (T + 1)) (T + 1) (wayV T r j)) ∧ Hid (Below w.heap.size w wj)) (fun i _ => T + 1 - (intOf i).toNat)
          case atStart => exact ⟨1, by omega, by have := HT.out; omega, rfl, HO, HB⟩
          case round =>
            clear HO HB
            obtain ⟨j, hj1, hj, rfl, hown, hb⟩ := hrel
            have hT' := HT.out
            by_cases hjt : j < T - r
            · have v1 : (if j + 1 < j then r + 1 else min r (T - (j + 1))) = r := by rw [if_neg (by omega)]; omega
              have v2 : (if j - 1 < j then r + 1 else min r (T - (j - 1))) = r + 1 := by rw [if_pos (by omega)]
              have h1 := (hown.out.cellAt (j + 1) (by omega)).trans ((wayV_at T r j (j + 1) (by omega)).trans (by rw [v1]))
              have h2 := (hown.out.cellAt (j - 1) (by omega)).trans ((wayV_at T r j (j - 1) (by omega)).trans (by rw [v2]))
              have h0 := (hown.out.cellAt j (by omega)).trans (wayV_at T r j j (by omega))
              have f0 := hown.out.frozenAt j
              have y1 := ee_bd r (by omega) (j + 1) (by omega)
              have y2 := ee_bd (r + 1) (by omega) (j - 1) (by omega)
              have hst := ee_step (r + 1) j (by omega) (by omega)
              rw [Nat.add_sub_cancel] at hst
              obtain ⟨X, hX⟩ : ∃ X, X = ee r (j + 1) := ⟨_, rfl⟩
              obtain ⟨Y, hY⟩ : ∃ Y, Y = ee (r + 1) (j - 1) := ⟨_, rfl⟩
              rw [← hX] at h1 y1 hst
              rw [← hY] at h2 y2 hst
              have hown2 := (hown.out.stored j (.int .i64 ((X + Y : Nat) : Int))).1
              rw [wayV_set T r j (X + Y) hst.symm] at hown2
              have hb3 := hb.out.setCell (p := ⟨G, j, none⟩) hGn (.int .i64 ((X + Y : Nat) : Int))
              have exy : ((X + Y : Nat) : Int) = (X : Int) + (Y : Int) := by omega
              rw [exy] at hown2 hb3
              have HO := Lib.hid hown2
              have HB := Lib.hid hb3
              have w1 : IntKind.i64.wrap ((X : Int) + (Y : Int)) = (X : Int) + (Y : Int) := by rw [IntKind.wrap_i64]; omega
              have e0 : ((j : Int) - 1).toNat = j - 1 := by omega
              have e1 : ((j : Int) + 1).toNat = j + 1 := by omega
              have b1 : (0 : Int) ≤ (j : Int) - 1 := by omega
              have b2 : (j : Int) - 1 < (T : Int) + 1 := by omega
              have b3 : (j : Int) + 1 < (T : Int) + 1 := by omega
              have b4 : (j : Int) < (T : Int) + 1 := by omega
              have b5 : j - 1 < T + 1 := by omega
              have b6 : j + 1 < T + 1 := by omega
              have b7 : j < T + 1 := by omega
              have b8 : (j : Int) < (o : Int) + (l : Int) - (r : Int) := by omega
              clear hX hY hown hb hown2 hb3 hst exy hT' v1 v2
              go_wp2
              go_region
              all_goals
                go_wp2
                go_roundw
                case rel => exact ⟨j + 1, by omega, by omega, by go_num, HO.out.drew, HB.out.drew⟩
                case measure => simp [intOf]; omega
            · obtain rfl : j = T - r := by omega
              rw [wayV_next] at hown
              have b8 : (o : Int) + (l : Int) - (r : Int) ≤ ((T - r : Nat) : Int) := by omega
              clear hT'
              go_wp2
              go_roundw
              case rel => exact ⟨r + 1, by omega, by go_num, hown, hb⟩
              case measure => simp [intOf]; omega
        · obtain rfl : r = l := by omega
          have hT' := HT.out
          have v1 : (if o < 0 then r + 1 else min r (T - o)) = r := by rw [if_neg (by omega)]; omega
          have h1 := (hown.out.cellAt o (by omega)).trans ((wayV_at T r 0 o (by omega)).trans (by rw [v1]))
          have b3 : o < T + 1 := by omega
          have b4 : (o : Int) < (T : Int) + 1 := by omega
          clear hT' v1
          go_wp2
          go_ret
          exact ⟨rfl, hb⟩

/-- in how many ways, for whatever numbers -/
def endsOut (a b : Int) : Int := if 0 ≤ a ∧ 0 ≤ b ∧ a + b ≤ 9 then (ee b.toNat a.toNat : Nat) else -1
theorem endsOut_in (o l : Nat) (h : o + l ≤ 9) : endsOut o l = (ee l o : Nat) := by
  unfold endsOut; rw [if_pos (by omega)]; simp

theorem implEnds_any (a b : Int) (ha : (Lit.int .i64 a).wf = true) (hb : (Lit.int .i64 b).wf = true) (w : World) :
    Calls Try.prog 21 #[.int .i64 a, .int .i64 b] w fun e w' => e = .returned (.int .i64 (endsOut a b)) ∧ Below w.heap.size w w' := by
  by_cases h : 0 ≤ a ∧ 0 ≤ b ∧ a + b ≤ 9
  · obtain ⟨o, rfl⟩ : ∃ k : Nat, a = k := ⟨a.toNat, by omega⟩
    obtain ⟨l, rfl⟩ : ∃ k : Nat, b = k := ⟨b.toNat, by omega⟩
    rw [endsOut_in o l (by omega)]
    exact implEnds_in o l (by omega) w
  · have e : endsOut a b = -1 := by unfold endsOut; rw [if_neg h]
    rw [e]
    clear e
    by_cases h1 : a < 0
    · have d1 : decide (a < 0) = true := decide_eq_true h1
      clear h
      go_enter Try.func21, Try.ntmps21
      go_wp2
      go_ret
      exact ⟨rfl, Below.refl _ _⟩
    · have d1 : decide (a < 0) = false := decide_eq_false h1
      by_cases h2 : b < 0
      · have d2 : decide (b < 0) = true := decide_eq_true h2
        clear h h1
        go_enter Try.func21, Try.ntmps21
        go_wp2
        go_ret
        exact ⟨rfl, Below.refl _ _⟩
      · have d2 : decide (b < 0) = false := decide_eq_false h2
        by_cases h3 : 9 < a
        · have d3 : decide (9 < a) = true := decide_eq_true h3
          clear h h1 h2
          go_enter Try.func21, Try.ntmps21
          go_wp2
          go_ret
          exact ⟨rfl, Below.refl _ _⟩
        · have d3 : decide (9 < a) = false := decide_eq_false h3
          have d4 : 9 - a < b := by omega
          have z1 : 0 ≤ 9 - a := by omega
          have z2 : 9 - a ≤ 9 := by omega
          clear h
          go_enter Try.func21, Try.ntmps21
          go_wp2
          go_ret
          exact ⟨rfl, Below.refl _ _⟩

/-! ### the model's -/
theorem ee_shut (o : Nat) : ee 0 o = 1 := rfl

set_option maxHeartbeats 1600000 in
theorem specEnds_in : ∀ (f o l : Nat) (a b : Int) (w : World), 2 * l + o = f → o + l ≤ 9 → a = o → b = l →
    Calls Try.prog 43 #[.int .i64 a, .int .i64 b] w fun e w' => e = .returned (.int .i64 (ee l o : Nat)) ∧ w = w' := by
  intro f
  induction f using Nat.strongRecOn with
  | _ f ih =>
    intro o l a b w hf h9 ha hb
    subst ha; subst hb
    by_cases hl : 0 < l
    · have q0 : ((l : Int) == 0) = false := beq_false_of_ne (by omega)
      have y := ee_bd l (by omega) o (by omega)
      by_cases ho : 0 < o
      · have hst := ee_step l o hl ho
        have y1 := ee_bd (l - 1) (by omega) (o + 1) (by omega)
        have y2 := ee_bd l (by omega) (o - 1) (by omega)
        have i1 := fun w => ih (2 * (l - 1) + (o + 1)) (by omega) (o + 1) (l - 1) ((o : Int) + 1) ((l : Int) - 1) w rfl (by omega) (by omega) (by omega)
        have i2 := fun w => ih (2 * l + (o - 1)) (by omega) (o - 1) l ((o : Int) - 1) (l : Int) w rfl (by omega) (by omega) rfl
        rw [hst] at y ⊢
        obtain ⟨X, hX⟩ : ∃ X, X = ee (l - 1) (o + 1) := ⟨_, rfl⟩
        obtain ⟨Y, hY⟩ : ∃ Y, Y = ee l (o - 1) := ⟨_, rfl⟩
        rw [← hX] at i1 y y1 ⊢
        rw [← hY] at i2 y y2 ⊢
        have exy : ((X + Y : Nat) : Int) = (X : Int) + (Y : Int) := by omega
        rw [exy]
        have I1 := Lib.hid i1
        have I2 := Lib.hid i2
        have q1 : (0 : Int) < (o : Int) := by omega
        clear i1 i2 hst hX hY exy ih
        go_enter Try.func43, Try.ntmps43
        go_wp2_with fail
        refine (I1.out _).mono ?_
        rintro e w1 ⟨rfl, rfl⟩
        go_wp2_with fail
        refine (I2.out _).mono ?_
        rintro e w1 ⟨rfl, rfl⟩
        go_wp2
        go_ret
        exact ⟨rfl, rfl⟩
      · obtain rfl : o = 0 := by omega
        have i1 := fun w => ih (2 * (l - 1) + 1) (by omega) 1 (l - 1) 1 ((l : Int) - 1) w rfl (by omega) rfl (by omega)
        rw [ee_open l hl]
        have I1 := Lib.hid i1
        clear i1 ih y
        go_enter Try.func43, Try.ntmps43
        go_wp2_with fail
        refine (I1.out _).mono ?_
        rintro e w1 ⟨rfl, rfl⟩
        go_wp2
        go_ret
        exact ⟨rfl, rfl⟩
    · obtain rfl : l = 0 := by omega
      clear ih
      go_enter Try.func43, Try.ntmps43
      go_wp2
      go_ret
      exact ⟨rfl, rfl⟩

theorem specEnds_any (a b : Int) (ha : (Lit.int .i64 a).wf = true) (hb : (Lit.int .i64 b).wf = true) (w : World) :
    Calls Try.prog 22 #[.int .i64 a, .int .i64 b] w fun e w' => e = .returned (.int .i64 (endsOut a b)) ∧ w = w' := by
  by_cases h : 0 ≤ a ∧ 0 ≤ b ∧ a + b ≤ 9
  · obtain ⟨o, rfl⟩ : ∃ k : Nat, a = k := ⟨a.toNat, by omega⟩
    obtain ⟨l, rfl⟩ : ∃ k : Nat, b = k := ⟨b.toNat, by omega⟩
    rw [endsOut_in o l (by omega)]
    have H := Lib.hid h
    have z1 : (0 : Int) ≤ 9 - (o : Int) := by omega
    clear h
    go_enter Try.func22, Try.ntmps22
    go_wp2_with fail
    refine (inRange_yes _ _ _ _ (by omega) (by have := H.out; omega)).mono ?_
    rintro e w' ⟨rfl, rfl⟩
    go_wp2_with fail
    refine (inRange_yes _ _ _ _ (by omega) (by have := H.out; omega)).mono ?_
    rintro e w' ⟨rfl, rfl⟩
    go_wp2_with fail
    refine (specEnds_in _ o l _ _ _ rfl (by have := H.out; omega) rfl rfl).mono ?_
    rintro e w' ⟨rfl, rfl⟩
    go_wp2
    go_ret
    exact ⟨rfl, rfl⟩
  · have e : endsOut a b = -1 := by unfold endsOut; rw [if_neg h]
    rw [e]
    clear e
    by_cases h1 : 0 ≤ a ∧ a ≤ 9
    · have h2 : b < 0 ∨ 9 - a < b := by omega
      have H2 := Lib.hid h2
      have z1 : (0 : Int) ≤ 9 - a := by omega
      have z2 : 9 - a ≤ 9 := by omega
      have H1 := Lib.hid h1
      clear h h1 h2
      go_enter Try.func22, Try.ntmps22
      go_wp2_with fail
      refine (inRange_yes _ _ _ _ H1.out.1 H1.out.2).mono ?_
      rintro e w' ⟨rfl, rfl⟩
      go_wp2_with fail
      refine (inRange_no _ _ _ _ H2.out).mono ?_
      rintro e w' ⟨rfl, rfl⟩
      go_wp2
      go_ret
      exact ⟨rfl, rfl⟩
    · have h2 : a < 0 ∨ 9 < a := by omega
      have H2 := Lib.hid h2
      clear h h1 h2
      go_enter Try.func22, Try.ntmps22
      go_wp2_with fail
      refine (inRange_no _ _ _ _ H2.out).mono ?_
      rintro e w' ⟨rfl, rfl⟩
      go_wp2
      go_ret
      exact ⟨rfl, rfl⟩
end Go.Proofs.Ythalkkbchghmpaa
