/-
  Plain facts on giving out words one by one, some beginnings cut, and on how many ways a word ends. Nothing of the program is named here.
  Plain facts on ranks of words, and on words of ranks. Nothing of the program is named here.
  Plain facts on the word behind one, and tables of in how many ways a word ends. Nothing of the program is named here.
-/
import Derived.Test.YtakpbnkncjddeaaWords
import GoSem.Op.String
namespace Go.Proofs.Ytakpbnkncjddeaa

/-- the words with a beginning, in order, but those that the cut cuts; the cut's state behind it -/
def gw {σ : Type} (cut : σ → List UInt8 → Nat → Nat → Bool × σ) : Nat → σ → List UInt8 → Nat → Nat → List (List UInt8) × σ
  | 0, s, h, o, l => if (cut s h o l).1 = true then ([], (cut s h o l).2) else ([h], (cut s h o l).2)
  | f + 1, s, h, o, l => if (cut s h o l).1 = true then ([], (cut s h o l).2) else
      ((if 0 < l then gw cut f (cut s h o l).2 (h ++ [40]) (o + 1) (l - 1) else ([], (cut s h o l).2)).1 ++
        (if 0 < o then gw cut f (if 0 < l then gw cut f (cut s h o l).2 (h ++ [40]) (o + 1) (l - 1) else ([], (cut s h o l).2)).2 (h ++ [41]) (o - 1) l
          else ([], (if 0 < l then gw cut f (cut s h o l).2 (h ++ [40]) (o + 1) (l - 1) else ([], (cut s h o l).2)).2)).1,
       (if 0 < o then gw cut f (if 0 < l then gw cut f (cut s h o l).2 (h ++ [40]) (o + 1) (l - 1) else ([], (cut s h o l).2)).2 (h ++ [41]) (o - 1) l
          else ([], (if 0 < l then gw cut f (cut s h o l).2 (h ++ [40]) (o + 1) (l - 1) else ([], (cut s h o l).2)).2)).2)

section
variable {σ : Type} {cut : σ → List UInt8 → Nat → Nat → Bool × σ}
theorem gw_cut (f : Nat) (s : σ) (h : List UInt8) (o l : Nat) (hc : (cut s h o l).1 = true) : gw cut f s h o l = ([], (cut s h o l).2) := by
  cases f <;> rw [gw, if_pos hc]
theorem gw_zero (s : σ) (h : List UInt8) (o l : Nat) (hc : (cut s h o l).1 = false) : gw cut 0 s h o l = ([h], (cut s h o l).2) := by
  rw [gw, if_neg (by rw [hc]; decide)]
theorem gw_both (f : Nat) (s : σ) (h : List UInt8) (o l : Nat) (hc : (cut s h o l).1 = false) (hl : 0 < l) (ho : 0 < o) :
    gw cut (f + 1) s h o l =
      ((gw cut f (cut s h o l).2 (h ++ [40]) (o + 1) (l - 1)).1 ++ (gw cut f (gw cut f (cut s h o l).2 (h ++ [40]) (o + 1) (l - 1)).2 (h ++ [41]) (o - 1) l).1,
       (gw cut f (gw cut f (cut s h o l).2 (h ++ [40]) (o + 1) (l - 1)).2 (h ++ [41]) (o - 1) l).2) := by
  rw [gw, if_neg (by rw [hc]; decide), if_pos hl, if_pos ho]
theorem gw_open (f : Nat) (s : σ) (h : List UInt8) (o l : Nat) (hc : (cut s h o l).1 = false) (hl : 0 < l) (ho : ¬ 0 < o) :
    gw cut (f + 1) s h o l = gw cut f (cut s h o l).2 (h ++ [40]) (o + 1) (l - 1) := by
  rw [gw, if_neg (by rw [hc]; decide), if_pos hl, if_neg ho, List.append_nil]
theorem gw_shut (f : Nat) (s : σ) (h : List UInt8) (o l : Nat) (hc : (cut s h o l).1 = false) (hl : ¬ 0 < l) (ho : 0 < o) :
    gw cut (f + 1) s h o l = gw cut f (cut s h o l).2 (h ++ [41]) (o - 1) l := by
  rw [gw, if_neg (by rw [hc]; decide), if_neg hl, if_pos ho, List.nil_append]

theorem gw_le (f : Nat) : ∀ (s : σ) (h : List UInt8) (o l : Nat), (gw cut f s h o l).1.length ≤ 2 ^ f := by
  induction f with
  | zero =>
    intro s h o l
    cases hc : (cut s h o l).1
    · rw [gw_zero s h o l hc]; simp
    · rw [gw_cut 0 s h o l hc]; simp
  | succ f ih =>
    intro s h o l
    have h1 := ih (cut s h o l).2 (h ++ [40]) (o + 1) (l - 1)
    have h2 := ih (gw cut f (cut s h o l).2 (h ++ [40]) (o + 1) (l - 1)).2 (h ++ [41]) (o - 1) l
    have h3 := ih (cut s h o l).2 (h ++ [41]) (o - 1) l
    rw [Nat.pow_succ]
    cases hc : (cut s h o l).1
    · by_cases hl : 0 < l
      · by_cases ho : 0 < o
        · rw [gw_both f s h o l hc hl ho, List.length_append]; omega
        · rw [gw_open f s h o l hc hl ho]; omega
      · by_cases ho : 0 < o
        · rw [gw_shut f s h o l hc hl ho]; omega
        · rw [gw, if_neg (by rw [hc]; decide), if_neg hl, if_neg ho]; simp
    · rw [gw_cut _ s h o l hc]; simp

/-- each word given out has so many bytes -/
theorem gw_len (f : Nat) : ∀ (s : σ) (h : List UInt8) (o l : Nat), 2 * l + o = f → ∀ x ∈ (gw cut f s h o l).1, x.length = h.length + f := by
  induction f with
  | zero =>
    intro s h o l _ x hx
    cases hc : (cut s h o l).1
    · rw [gw_zero s h o l hc] at hx; simp at hx; subst hx; rfl
    · rw [gw_cut 0 s h o l hc] at hx; simp at hx
  | succ f ih =>
    intro s h o l hf x hx
    cases hc : (cut s h o l).1
    · by_cases hl : 0 < l
      · by_cases ho : 0 < o
        · rw [gw_both f s h o l hc hl ho, List.mem_append] at hx
          rcases hx with hx | hx
          · have := ih _ _ _ _ (by omega) x hx; simp at this; omega
          · have := ih _ _ _ _ (by omega) x hx; simp at this; omega
        · rw [gw_open f s h o l hc hl ho] at hx
          have := ih _ _ _ _ (by omega) x hx; simp at this; omega
      · rw [gw_shut f s h o l hc hl (by omega)] at hx
        have := ih _ _ _ _ (by omega) x hx; simp at this; omega
    · rw [gw_cut _ s h o l hc] at hx; simp at hx

/-- each word given out is one, if what it begins with can be gone on with -/
theorem gw_scan (f : Nat) : ∀ (s : σ) (h : List UInt8) (o l : Nat), 2 * l + o = f → scan h = some o → ∀ x ∈ (gw cut f s h o l).1, scan x = some 0 := by
  induction f with
  | zero =>
    intro s h o l hf hs x hx
    cases hc : (cut s h o l).1
    · rw [gw_zero s h o l hc] at hx; simp at hx; subst hx; rw [hs]; congr 1; omega
    · rw [gw_cut 0 s h o l hc] at hx; simp at hx
  | succ f ih =>
    intro s h o l hf hs x hx
    have e1 : scan (h ++ [40]) = some (o + 1) := by rw [scan_snoc, hs]; rfl
    have e2 : 0 < o → scan (h ++ [41]) = some (o - 1) := fun ho => by rw [scan_snoc, hs]; simp [vstep]; omega
    cases hc : (cut s h o l).1
    · by_cases hl : 0 < l
      · by_cases ho : 0 < o
        · rw [gw_both f s h o l hc hl ho, List.mem_append] at hx
          rcases hx with hx | hx
          · exact ih _ _ _ _ (by omega) e1 x hx
          · exact ih _ _ _ _ (by omega) (e2 ho) x hx
        · rw [gw_open f s h o l hc hl ho] at hx
          exact ih _ _ _ _ (by omega) e1 x hx
      · rw [gw_shut f s h o l hc hl (by omega)] at hx
        exact ih _ _ _ _ (by omega) (e2 (by omega)) x hx
    · rw [gw_cut _ s h o l hc] at hx; simp at hx
end

/-- nothing is cut -/
def cutNone : Unit → List UInt8 → Nat → Nat → Bool × Unit := fun _ _ _ _ => (false, ())
theorem gw_none (f : Nat) : ∀ (s : Unit) (h : List UInt8) (o l : Nat), 2 * l + o = f → (gw cutNone f s h o l).1 = wordsL f h o l := by
  induction f with
  | zero => intro s h o l _; rw [gw_zero s h o l rfl]; rfl
  | succ f ih =>
    intro s h o l hf
    by_cases hl : 0 < l
    · by_cases ho : 0 < o
      · rw [gw_both f s h o l rfl hl ho, ih _ _ _ _ (by omega), ih _ _ _ _ (by omega), wordsL, if_pos hl, if_pos ho]
      · rw [gw_open f s h o l rfl hl ho, ih _ _ _ _ (by omega), wordsL, if_pos hl, if_neg ho, List.append_nil]
    · rw [gw_shut f s h o l rfl hl (by omega), ih _ _ _ _ (by omega), wordsL, if_neg hl, if_pos (by omega), List.nil_append]

/-! ### in how many ways a word ends -/
def ee : Nat → Nat → Nat
  | 0 => fun _ => 1
  | l + 1 => fun o => Nat.rec (motive := fun _ => Nat) (ee l 1) (fun o ih => ee l (o + 2) + ih) o
theorem ee_zero (o : Nat) : ee 0 o = 1 := rfl
theorem ee_first (l : Nat) : ee (l + 1) 0 = ee l 1 := rfl
theorem ee_next (l o : Nat) : ee (l + 1) (o + 1) = ee l (o + 2) + ee (l + 1) o := rfl
theorem ee_bd : ∀ l, l ≤ 9 → ∀ o, o ≤ 9 - l → 1 ≤ ee l o ∧ ee l o ≤ 4862 := by decide +kernel
theorem ee_step (l o : Nat) (hl : 0 < l) (ho : 0 < o) : ee l o = ee (l - 1) (o + 1) + ee l (o - 1) := by
  obtain ⟨l, rfl⟩ : ∃ k, l = k + 1 := ⟨l - 1, by omega⟩
  obtain ⟨o, rfl⟩ : ∃ k, o = k + 1 := ⟨o - 1, by omega⟩
  exact ee_next l o
theorem ee_open (l : Nat) (hl : 0 < l) : ee l 0 = ee (l - 1) 1 := by
  obtain ⟨l, rfl⟩ : ∃ k, l = k + 1 := ⟨l - 1, by omega⟩
  exact ee_first l
theorem ee_cat : ∀ n, n ≤ 9 → ee n 0 = [1, 1, 2, 5, 14, 42, 132, 429, 1430, 4862].getD n 0 := by decide +kernel

end Go.Proofs.Ytakpbnkncjddeaa

namespace Go.Proofs.Ytakpbnkncjddeaa

/-- one byte of a word: the rank so far, how many pairs are open, how many are left -/
def rstep (st : Nat × Nat × Nat) (c : UInt8) : Nat × Nat × Nat :=
  if c.toNat = 40 then (st.1, st.2.1 + 1, st.2.2 - 1) else (if 0 < st.2.2 then st.1 + ee (st.2.2 - 1) (st.2.1 + 1) else st.1, st.2.1 - 1, st.2.2)
def rankL (s : List UInt8) : Nat := (s.foldl rstep (0, 0, s.length / 2)).1

/-- behind k bytes of the word s -/
def Rk (s : List UInt8) (k r o l : Nat) : Prop := (s.take k).foldl rstep (0, 0, s.length / 2) = (r, o, l) ∧ scan (s.take k) = some o ∧ 2 * l + o + k = s.length ∧ r ≤ 4862 * k ∧ k ≤ s.length

theorem valid_scan {s : List UInt8} (h : valid s = true) : scan s = some 0 ∧ s.length ≤ 18 := by
  simp only [valid, Bool.and_eq_true, decide_eq_true_eq, beq_iff_eq] at h
  exact ⟨h.2, h.1⟩
theorem Rk.start {s : List UInt8} (h : valid s = true) : Rk s 0 0 0 (s.length / 2) := by
  have := fold_even s 0 0 (valid_scan h).1
  exact ⟨rfl, rfl, by omega, by omega, by omega⟩
theorem rest_low {s : List UInt8} {k o : Nat} (h : valid s = true) (hs : scan (s.take k) = some o) : o ≤ s.length - k := by
  have e : scan s = (s.drop k).foldl vstep (some o) := by rw [← hs, ← scan_append, List.take_append_drop]
  have := fold_low (s.drop k) o (by rw [← e]; exact (valid_scan h).1)
  simpa using this
theorem fold_take {α β : Type} (f : α → β → α) (a : α) (s : List β) (k : Nat) (h : k < s.length) : (s.take (k + 1)).foldl f a = f ((s.take k).foldl f a) s[k] := by
  rw [List.take_succ_eq_append_getElem h, List.foldl_append]; rfl
theorem Rk.opn {s : List UInt8} {k r o l : Nat} (hv : valid s = true) (h : Rk s k r o l) (hk : k < s.length) (hc : s[k].toNat = 40) : Rk s (k + 1) r (o + 1) (l - 1) ∧ 0 < l ∧ o + l ≤ 9 := by
  obtain ⟨h1, h2, h3, h4, h5⟩ := h
  have hs : scan (s.take (k + 1)) = some (o + 1) := by rw [scan_step s k hk, h2]; simp [vstep, hc]
  have := rest_low hv hs
  have := (valid_scan hv).2
  refine ⟨⟨?_, hs, by omega, by omega, by omega⟩, by omega, ?_⟩
  · rw [fold_take _ _ _ _ hk, h1]; simp [rstep, hc]
  · have := scan_le _ _ h2; simp at this; omega
theorem Rk.cls {s : List UInt8} {k r o l : Nat} (hv : valid s = true) (h : Rk s k r o l) (hk : k < s.length) (hc : s[k].toNat ≠ 40) : Rk s (k + 1) (if 0 < l then r + ee (l - 1) (o + 1) else r) (o - 1) l ∧ 0 < o ∧ o + l ≤ 9 ∧ r ≤ 90000 ∧ s[k].toNat = 41 := by
  obtain ⟨h1, h2, h3, h4, h5⟩ := h
  have h9 : o + l ≤ 9 := by have := scan_le _ _ h2; simp at this; have := (valid_scan hv).2; omega
  have hs0 : scan (s.take (k + 1)) ≠ none := fun e => by
    have := scan_take_none s (k + 1) e
    rw [(valid_scan hv).1] at this; cases this
  rw [scan_step s k hk, h2] at hs0
  simp only [vstep, if_neg hc] at hs0
  have hc1 : s[k].toNat = 41 := by
    apply Classical.byContradiction
    intro e; rw [if_neg e] at hs0; exact hs0 rfl
  rw [if_pos hc1] at hs0
  have ho : 0 < o := by
    apply Classical.byContradiction
    intro e; rw [if_pos (by omega)] at hs0; exact hs0 rfl
  have hs : scan (s.take (k + 1)) = some (o - 1) := by rw [scan_step s k hk, h2]; simp only [vstep, if_neg hc, if_pos hc1, if_neg (show ¬ o = 0 by omega)]
  have := (valid_scan hv).2
  refine ⟨⟨?_, hs, by omega, ?_, by omega⟩, ho, h9, by omega, hc1⟩
  · rw [fold_take _ _ _ _ hk, h1]; simp only [rstep, if_neg hc]
  · split
    · have := (ee_bd (l - 1) (by omega) (o + 1) (by omega)).2; omega
    · omega
theorem Rk.stop {s : List UInt8} {k r o l : Nat} (h : Rk s k r o l) (hk : k = s.length) : rankL s = r := by
  subst hk
  have := h.1
  rw [List.take_of_length_le (Nat.le_refl _)] at this
  rw [rankL, this]
theorem Rk.high {s : List UInt8} {k r o l : Nat} (hv : valid s = true) (h : Rk s k r o l) (hk : k < s.length) : s[k].toNat < 128 := by
  by_cases hc : s[k].toNat = 40
  · omega
  · have := (h.cls hv hk hc).2.2.2.2; omega

/-! ### the word of a rank -/
def wat : Nat → Nat → Nat → Nat → List UInt8
  | 0, _, _, _ => []
  | f + 1, r, o, l => if r < (if 0 < l then ee (l - 1) (o + 1) else 0) then 40 :: wat f r (o + 1) (l - 1) else 41 :: wat f (r - (if 0 < l then ee (l - 1) (o + 1) else 0)) (o - 1) l
theorem wat_opn (f r o l : Nat) (hl : 0 < l) (h : r < ee (l - 1) (o + 1)) : wat (f + 1) r o l = 40 :: wat f r (o + 1) (l - 1) := by rw [wat, if_pos hl, if_pos h]
theorem wat_cls (f r o l : Nat) (hl : 0 < l) (h : ¬ r < ee (l - 1) (o + 1)) : wat (f + 1) r o l = 41 :: wat f (r - ee (l - 1) (o + 1)) (o - 1) l := by rw [wat, if_pos hl, if_neg h]
theorem wat_end (f r o : Nat) : wat (f + 1) r o 0 = 41 :: wat f r (o - 1) 0 := by rw [wat, if_neg (Nat.lt_irrefl 0), if_neg (Nat.not_lt_zero r), Nat.sub_zero]
theorem low_open {r o l : Nat} (hl : 0 < l) (hr : r < ee l o) (h : ¬ r < ee (l - 1) (o + 1)) : 0 < o ∧ r - ee (l - 1) (o + 1) < ee l (o - 1) := by
  have ho : 0 < o := by
    apply Classical.byContradiction
    intro e
    obtain rfl : o = 0 := by omega
    rw [ee_open l hl] at hr; exact h hr
  rw [ee_step l o hl ho] at hr
  exact ⟨ho, by omega⟩

/-- beginnings ahead of a rank are cut -/
def cutAt : Nat → List UInt8 → Nat → Nat → Bool × Nat := fun a _ o l => if a < ee l o then (false, a) else (true, a - ee l o)
theorem cutAt_no {a o l : Nat} {h : List UInt8} (hr : a < ee l o) : cutAt a h o l = (false, a) := if_pos hr
theorem cutAt_yes {a o l : Nat} {h : List UInt8} (hr : ¬ a < ee l o) : cutAt a h o l = (true, a - ee l o) := if_neg hr
theorem gw_at (f : Nat) : ∀ (r : Nat) (h : List UInt8) (o l : Nat), 2 * l + o = f → r < ee l o → ∃ t, (gw cutAt f r h o l).1 = (h ++ wat f r o l) :: t := by
  induction f with
  | zero =>
    intro r h o l _ hr
    rw [gw_zero r h o l (by rw [cutAt_no hr])]
    exact ⟨[], by simp [wat]⟩
  | succ f ih =>
    intro r h o l hf hr
    have hc : (cutAt r h o l).1 = false := by rw [cutAt_no hr]
    have hs : (cutAt r h o l).2 = r := by rw [cutAt_no hr]
    by_cases hl : 0 < l
    · by_cases hk : r < ee (l - 1) (o + 1)
      · obtain ⟨t, ht⟩ := ih r (h ++ [40]) (o + 1) (l - 1) (by omega) hk
        rw [wat_opn f r o l hl hk]
        by_cases ho : 0 < o
        · rw [gw_both f r h o l hc hl ho, hs, ht]
          exact ⟨_, by rw [List.append_assoc]; rfl⟩
        · rw [gw_open f r h o l hc hl ho, hs, ht]
          exact ⟨_, by rw [List.append_assoc]; rfl⟩
      · obtain ⟨ho, hlt⟩ := low_open hl hr hk
        obtain ⟨t, ht⟩ := ih (r - ee (l - 1) (o + 1)) (h ++ [41]) (o - 1) l (by omega) hlt
        rw [wat_cls f r o l hl hk, gw_both f r h o l hc hl ho, hs, gw_cut f r (h ++ [40]) (o + 1) (l - 1) (by rw [cutAt_yes hk]), cutAt_yes hk, ht]
        exact ⟨_, by rw [List.append_assoc]; rfl⟩
    · obtain rfl : l = 0 := by omega
      obtain ⟨t, ht⟩ := ih r (h ++ [41]) (o - 1) 0 (by omega) hr
      rw [wat_end, gw_shut f r h o 0 hc hl (by omega), hs, ht]
      exact ⟨_, by rw [List.append_assoc]; rfl⟩
theorem wat_length (f : Nat) : ∀ r o l, (wat f r o l).length = f := by
  induction f with
  | zero => intros; rfl
  | succ f ih =>
    intro r o l
    rw [wat]
    by_cases h : r < (if 0 < l then ee (l - 1) (o + 1) else 0)
    · rw [if_pos h, List.length_cons, ih]
    · rw [if_neg h, List.length_cons, ih]

end Go.Proofs.Ytakpbnkncjddeaa

namespace Go.Proofs.Ytakpbnkncjddeaa

/-! ### the first word, where the cut has no state -/
def g1 (c : List UInt8 → Bool) : Nat → List UInt8 → Nat → Nat → Option (List UInt8)
  | 0, h, _, _ => if c h = true then none else some h
  | f + 1, h, o, l => if c h = true then none else (if 0 < l then g1 c f (h ++ [40]) (o + 1) (l - 1) else none).or (if 0 < o then g1 c f (h ++ [41]) (o - 1) l else none)
def cutOf (c : List UInt8 → Bool) : Unit → List UInt8 → Nat → Nat → Bool × Unit := fun _ h _ _ => (c h, ())
theorem gw_g1 (c : List UInt8 → Bool) (f : Nat) : ∀ (h : List UInt8) (o l : Nat), 2 * l + o = f → (gw (cutOf c) f () h o l).1.head? = g1 c f h o l := by
  induction f with
  | zero =>
    intro h o l _
    cases hc : c h
    · rw [gw_zero () h o l (show (cutOf c () h o l).1 = false from hc), g1, if_neg (by rw [hc]; decide)]; rfl
    · rw [gw_cut 0 () h o l (show (cutOf c () h o l).1 = true from hc), g1, if_pos hc]; rfl
  | succ f ih =>
    intro h o l hf
    cases hc : c h
    · have hc' : (cutOf c () h o l).1 = false := hc
      rw [g1, if_neg (by rw [hc]; decide)]
      by_cases hl : 0 < l
      · by_cases ho : 0 < o
        · rw [gw_both f () h o l hc' hl ho, List.head?_append, ih _ _ _ (by omega), ih _ _ _ (by omega), if_pos hl, if_pos ho]
        · rw [gw_open f () h o l hc' hl ho, ih _ _ _ (by omega), if_pos hl, if_neg ho, Option.or_none]
      · rw [gw_shut f () h o l hc' hl (by omega), ih _ _ _ (by omega), if_neg hl, if_pos (by omega), Option.none_or]
    · rw [gw_cut _ () h o l (show (cutOf c () h o l).1 = true from hc), g1, if_pos hc]; rfl

/-- is a text less, byte by byte? -/
def lessL : List UInt8 → List UInt8 → Bool
  | _, [] => false
  | [], _ :: _ => true
  | a :: x, b :: y => Nat.blt a.toNat b.toNat || (Nat.beq a.toNat b.toNat && lessL x y)
theorem less_eq : ∀ (x y : List UInt8), Op.bytesLess x y = lessL x y
  | x, [] => by cases x <;> rfl
  | [], _ :: _ => rfl
  | a :: x, b :: y => by
    rw [Op.bytesLess, lessL, less_eq x y]
    have e1 : decide (a < b) = Nat.blt a.toNat b.toNat := by
      rw [Bool.eq_iff_iff]; simp [UInt8.lt_iff_toNat_lt]
    have e2 : (a == b) = Nat.beq a.toNat b.toNat := by
      rw [Bool.eq_iff_iff]; simp [← UInt8.toNat_inj]
    rw [e1, e2]
def eqL : List UInt8 → List UInt8 → Bool
  | [], [] => true
  | a :: x, b :: y => Nat.beq a.toNat b.toNat && eqL x y
  | _, _ => false
theorem eqL_eq : ∀ (x y : List UInt8), (x == y) = eqL x y
  | [], [] => rfl
  | [], _ :: _ => rfl
  | _ :: _, [] => rfl
  | a :: x, b :: y => by
    rw [List.cons_beq_cons, eqL, eqL_eq x y]
    have e2 : (a == b) = Nat.beq a.toNat b.toNat := by
      rw [Bool.eq_iff_iff]; simp [← UInt8.toNat_inj]
    rw [e2]
/-- beginnings that are the word, or less -/
def notBehind (s h : List UInt8) : Bool := eqL h s || lessL h (s.take h.length)

/-! ### the model's -/
/-- the word behind s, where the last ( that is turned is ahead of j -/
def nextAt (s : List UInt8) : Nat → Option (List UInt8)
  | 0 => none
  | i + 1 => match s[i]?, scan (s.take i) with
    | some c, some (o + 1) => if Nat.beq c.toNat 41 then nextAt s i else some (s.take i ++ [41] ++ List.replicate ((s.length - i - 1 - o) / 2) 40 ++ List.replicate (o + (s.length - i - 1 - o) / 2) 41)
    | _, _ => nextAt s i

/-! ### tables -/
def eT (l o : Nat) : Nat := ([[1, 1, 1, 1, 1, 1, 1, 1, 1, 1], [1, 2, 3, 4, 5, 6, 7, 8, 9], [2, 5, 9, 14, 20, 27, 35, 44], [5, 14, 28, 48, 75, 110, 154], [14, 42, 90, 165, 275, 429], [42, 132, 297, 572, 1001], [132, 429, 1001, 2002], [429, 1430, 3432], [1430, 4862], [4862]].getD l []).getD o 0
theorem ee_eT : ∀ l, l ≤ 9 → ∀ o, o ≤ 9 - l → ee l o = eT l o := by decide +kernel
def rstepT (st : Nat × Nat × Nat) (c : UInt8) : Nat × Nat × Nat :=
  if Nat.beq c.toNat 40 then (st.1, st.2.1 + 1, st.2.2 - 1) else (if Nat.blt 0 st.2.2 then st.1 + eT (st.2.2 - 1) (st.2.1 + 1) else st.1, st.2.1 - 1, st.2.2)
def rankT (s : List UInt8) : Nat := (s.foldl rstepT (0, 0, s.length / 2)).1
theorem rank_fold {s : List UInt8} (hv : valid s = true) : ∀ k, k ≤ s.length → ∃ r o l, Rk s k r o l ∧ (s.take k).foldl rstepT (0, 0, s.length / 2) = (r, o, l) := by
  intro k
  induction k with
  | zero => exact fun _ => ⟨0, 0, s.length / 2, Rk.start hv, rfl⟩
  | succ k ih =>
    intro hk
    obtain ⟨r, o, l, h, e⟩ := ih (by omega)
    by_cases hc : s[k].toNat = 40
    · refine ⟨r, o + 1, l - 1, (h.opn hv (by omega) hc).1, ?_⟩
      rw [fold_take _ _ _ _ (by omega), e, rstepT, if_pos (by rw [hc]; rfl)]
    · have hs := h.cls hv (by omega) hc
      refine ⟨_, _, _, hs.1, ?_⟩
      rw [fold_take _ _ _ _ (by omega), e, rstepT, if_neg (by simpa using hc)]
      by_cases hl : 0 < l
      · rw [if_pos hl, if_pos (by simpa using hl), ee_eT (l - 1) (by omega) (o + 1) (by omega)]
      · rw [if_neg hl, if_neg (by simpa using hl)]
theorem rankL_T {s : List UInt8} (hv : valid s = true) : rankL s = rankT s := by
  obtain ⟨r, o, l, h, e⟩ := rank_fold hv s.length (Nat.le_refl _)
  rw [h.stop rfl, rankT]
  rw [List.take_of_length_le (Nat.le_refl _)] at e
  rw [e]
def watT : Nat → Nat → Nat → Nat → List UInt8
  | 0, _, _, _ => []
  | f + 1, r, o, l => if Nat.blt r (if Nat.blt 0 l then eT (l - 1) (o + 1) else 0) then 40 :: watT f r (o + 1) (l - 1) else 41 :: watT f (r - (if Nat.blt 0 l then eT (l - 1) (o + 1) else 0)) (o - 1) l
theorem wat_T (f : Nat) : ∀ r o l, o + l ≤ 9 → wat f r o l = watT f r o l := by
  induction f with
  | zero => intros; rfl
  | succ f ih =>
    intro r o l h
    by_cases hl : 0 < l
    · have hb : Nat.blt 0 l = true := by simpa using hl
      rw [wat, watT, if_pos hl, if_pos hb, ee_eT (l - 1) (by omega) (o + 1) (by omega)]
      by_cases hx : r < eT (l - 1) (o + 1)
      · rw [if_pos hx, if_pos (by simpa using hx), ih _ _ _ (by omega)]
      · rw [if_neg hx, if_neg (by simpa using hx), ih _ _ _ (by omega)]
    · have hb : ¬ Nat.blt 0 l = true := by simpa using hl
      have hr : ¬ Nat.blt r 0 = true := by simp
      rw [wat, watT, if_neg hl, if_neg hb, if_neg (Nat.not_lt_zero r), if_neg hr, ih _ _ _ (by omega)]
end Go.Proofs.Ytakpbnkncjddeaa
