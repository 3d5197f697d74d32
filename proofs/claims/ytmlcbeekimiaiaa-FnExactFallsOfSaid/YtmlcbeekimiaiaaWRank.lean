/-
  Plain facts on ranks of words, and on words of ranks. Nothing of the program is named here.
-/
import Derived.Test.YtmlcbeekimiaiaaWGive
namespace Go.Proofs.Ytmlcbeekimiaiaa

/-- one byte of a word: the rank so far, how many pairs are open, how many are left -/
def rstep (st : Nat × Nat × Nat) (c : UInt8) : Nat × Nat × Nat :=
  if c.toNat = 40 then (st.1, st.2.1 + 1, st.2.2 - 1) else (if 0 < st.2.2 then st.1 + ee (st.2.2 - 1) (st.2.1 + 1) else st.1, st.2.1 - 1, st.2.2)
def rankL (s : List UInt8) : Nat := (s.foldl rstep (0, 0, s.length / 2)).1

/-- behind k bytes of the word s -/
def Rk (s : List UInt8) (k r o l : Nat) : Prop := (s.take k).foldl rstep (0, 0, s.length / 2) = (r, o, l) ∧ scan (s.take k) = some o ∧ 2 * l + o + k = s.length ∧ r ≤ 4862 * k ∧ k ≤ s.length

theorem valid_scan {s : List UInt8} (h : valid s = true) : scan s = some 0 ∧ s.length ≤ 18 := by
  simp only [valid, Bool.and_eq_true, decide_eq_true_eq, beq_iff_eq] at h
  exact ⟨h.2, h.1⟩
theorem Rk.start {s : List UInt8} (h : valid s = true) : Rk s 0 0 0 (s.length / 2) := by
  have := fold_even s 0 0 (valid_scan h).1
  exact ⟨rfl, rfl, by omega, by omega, by omega⟩
theorem rest_low {s : List UInt8} {k o : Nat} (h : valid s = true) (hs : scan (s.take k) = some o) : o ≤ s.length - k := by
  have e : scan s = (s.drop k).foldl vstep (some o) := by rw [← hs, ← scan_append, List.take_append_drop]
  have := fold_low (s.drop k) o (by rw [← e]; exact (valid_scan h).1)
  simpa using this
theorem fold_take {α β : Type} (f : α → β → α) (a : α) (s : List β) (k : Nat) (h : k < s.length) : (s.take (k + 1)).foldl f a = f ((s.take k).foldl f a) s[k] := by
  rw [List.take_succ_eq_append_getElem h, List.foldl_append]; rfl
theorem Rk.opn {s : List UInt8} {k r o l : Nat} (hv : valid s = true) (h : Rk s k r o l) (hk : k < s.length) (hc : s[k].toNat = 40) : Rk s (k + 1) r (o + 1) (l - 1) ∧ 0 < l ∧ o + l ≤ 9 := by
  obtain ⟨h1, h2, h3, h4, h5⟩ := h
  have hs : scan (s.take (k + 1)) = some (o + 1) := by rw [scan_step s k hk, h2]; simp [vstep, hc]
  have := rest_low hv hs
  have := (valid_scan hv).2
  refine ⟨⟨?_, hs, by omega, by omega, by omega⟩, by omega, ?_⟩
  · rw [fold_take _ _ _ _ hk, h1]; simp [rstep, hc]
  · have := scan_le _ _ h2; simp at this; omega
theorem Rk.cls {s : List UInt8} {k r o l : Nat} (hv : valid s = true) (h : Rk s k r o l) (hk : k < s.length) (hc : s[k].toNat ≠ 40) : Rk s (k + 1) (if 0 < l then r + ee (l - 1) (o + 1) else r) (o - 1) l ∧ 0 < o ∧ o + l ≤ 9 ∧ r ≤ 90000 ∧ s[k].toNat = 41 := by
  obtain ⟨h1, h2, h3, h4, h5⟩ := h
  have h9 : o + l ≤ 9 := by have := scan_le _ _ h2; simp at this; have := (valid_scan hv).2; omega
  have hs0 : scan (s.take (k + 1)) ≠ none := fun e => by
    have := scan_take_none s (k + 1) e
    rw [(valid_scan hv).1] at this; cases this
  rw [scan_step s k hk, h2] at hs0
  simp only [vstep, if_neg hc] at hs0
  have hc1 : s[k].toNat = 41 := by
    apply Classical.byContradiction
    intro e; rw [if_neg e] at hs0; exact hs0 rfl
  rw [if_pos hc1] at hs0
  have ho : 0 < o := by
    apply Classical.byContradiction
    intro e; rw [if_pos (by omega)] at hs0; exact hs0 rfl
  have hs : scan (s.take (k + 1)) = some (o - 1) := by rw [scan_step s k hk, h2]; simp only [vstep, if_neg hc, if_pos hc1, if_neg (show ¬ o = 0 by omega)]
  have := (valid_scan hv).2
  refine ⟨⟨?_, hs, by omega, ?_, by omega⟩, ho, h9, by omega, hc1⟩
  · rw [fold_take _ _ _ _ hk, h1]; simp only [rstep, if_neg hc]
  · split
    · have := (ee_bd (l - 1) (by omega) (o + 1) (by omega)).2; omega
    · omega
theorem Rk.stop {s : List UInt8} {k r o l : Nat} (h : Rk s k r o l) (hk : k = s.length) : rankL s = r := by
  subst hk
  have := h.1
  rw [List.take_of_length_le (Nat.le_refl _)] at this
  rw [rankL, this]
theorem Rk.high {s : List UInt8} {k r o l : Nat} (hv : valid s = true) (h : Rk s k r o l) (hk : k < s.length) : s[k].toNat < 128 := by
  by_cases hc : s[k].toNat = 40
  · omega
  · have := (h.cls hv hk hc).2.2.2.2; omega

/-! ### the word of a rank -/
def wat : Nat → Nat → Nat → Nat → List UInt8
  | 0, _, _, _ => []
  | f + 1, r, o, l => if r < (if 0 < l then ee (l - 1) (o + 1) else 0) then 40 :: wat f r (o + 1) (l - 1) else 41 :: wat f (r - (if 0 < l then ee (l - 1) (o + 1) else 0)) (o - 1) l
theorem wat_opn (f r o l : Nat) (hl : 0 < l) (h : r < ee (l - 1) (o + 1)) : wat (f + 1) r o l = 40 :: wat f r (o + 1) (l - 1) := by rw [wat, if_pos hl, if_pos h]
theorem wat_cls (f r o l : Nat) (hl : 0 < l) (h : ¬ r < ee (l - 1) (o + 1)) : wat (f + 1) r o l = 41 :: wat f (r - ee (l - 1) (o + 1)) (o - 1) l := by rw [wat, if_pos hl, if_neg h]
theorem wat_end (f r o : Nat) : wat (f + 1) r o 0 = 41 :: wat f r (o - 1) 0 := by rw [wat, if_neg (Nat.lt_irrefl 0), if_neg (Nat.not_lt_zero r), Nat.sub_zero]
theorem low_open {r o l : Nat} (hl : 0 < l) (hr : r < ee l o) (h : ¬ r < ee (l - 1) (o + 1)) : 0 < o ∧ r - ee (l - 1) (o + 1) < ee l (o - 1) := by
  have ho : 0 < o := by
    apply Classical.byContradiction
    intro e
    obtain rfl : o = 0 := by omega
    rw [ee_open l hl] at hr; exact h hr
  rw [ee_step l o hl ho] at hr
  exact ⟨ho, by omega⟩

/-- beginnings ahead of a rank are cut -/
def cutAt : Nat → List UInt8 → Nat → Nat → Bool × Nat := fun a _ o l => if a < ee l o then (false, a) else (true, a - ee l o)
theorem cutAt_no {a o l : Nat} {h : List UInt8} (hr : a < ee l o) : cutAt a h o l = (false, a) := if_pos hr
theorem cutAt_yes {a o l : Nat} {h : List UInt8} (hr : ¬ a < ee l o) : cutAt a h o l = (true, a - ee l o) := if_neg hr
theorem gw_at (f : Nat) : ∀ (r : Nat) (h : List UInt8) (o l : Nat), 2 * l + o = f → r < ee l o → ∃ t, (gw cutAt f r h o l).1 = (h ++ wat f r o l) :: t := by
  induction f with
  | zero =>
    intro r h o l _ hr
    rw [gw_zero r h o l (by rw [cutAt_no hr])]
    exact ⟨[], by simp [wat]⟩
  | succ f ih =>
    intro r h o l hf hr
    have hc : (cutAt r h o l).1 = false := by rw [cutAt_no hr]
    have hs : (cutAt r h o l).2 = r := by rw [cutAt_no hr]
    by_cases hl : 0 < l
    · by_cases hk : r < ee (l - 1) (o + 1)
      · obtain ⟨t, ht⟩ := ih r (h ++ [40]) (o + 1) (l - 1) (by omega) hk
        rw [wat_opn f r o l hl hk]
        by_cases ho : 0 < o
        · rw [gw_both f r h o l hc hl ho, hs, ht]
          exact ⟨_, by rw [List.append_assoc]; rfl⟩
        · rw [gw_open f r h o l hc hl ho, hs, ht]
          exact ⟨_, by rw [List.append_assoc]; rfl⟩
      · obtain ⟨ho, hlt⟩ := low_open hl hr hk
        obtain ⟨t, ht⟩ := ih (r - ee (l - 1) (o + 1)) (h ++ [41]) (o - 1) l (by omega) hlt
        rw [wat_cls f r o l hl hk, gw_both f r h o l hc hl ho, hs, gw_cut f r (h ++ [40]) (o + 1) (l - 1) (by rw [cutAt_yes hk]), cutAt_yes hk, ht]
        exact ⟨_, by rw [List.append_assoc]; rfl⟩
    · obtain rfl : l = 0 := by omega
      obtain ⟨t, ht⟩ := ih r (h ++ [41]) (o - 1) 0 (by omega) hr
      rw [wat_end, gw_shut f r h o 0 hc hl (by omega), hs, ht]
      exact ⟨_, by rw [List.append_assoc]; rfl⟩
theorem wat_length (f : Nat) : ∀ r o l, (wat f r o l).length = f := by
  induction f with
  | zero => intros; rfl
  | succ f ih =>
    intro r o l
    rw [wat]
    by_cases h : r < (if 0 < l then ee (l - 1) (o + 1) else 0)
    · rw [if_pos h, List.length_cons, ih]
    · rw [if_neg h, List.length_cons, ih]

end Go.Proofs.Ytmlcbeekimiaiaa
