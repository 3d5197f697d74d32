/-
  Plain facts on giving out words one by one, some beginnings cut, and on how many ways a word ends. Nothing of the program is named here.
  Plain facts on ranks of words, and on words of ranks. Nothing of the program is named here.
  Plain facts on the word behind one, and tables of in how many ways a word ends. Nothing of the program is named here.
  Plain facts: of the words that are not behind a word all beginnings are cut, and the first one left is the word behind. Nothing of the program is named here.
-/
import Derived.Test.YtafdlilojlmchaaWords
import GoSem.Op.String
namespace Go.Proofs.Ytafdlilojlmchaa

/-- the words with a beginning, in order, but those that the cut cuts; the cut's state behind it -/
def gw {σ : Type} (cut : σ → List UInt8 → Nat → Nat → Bool × σ) : Nat → σ → List UInt8 → Nat → Nat → List (List UInt8) × σ
  | 0, s, h, o, l => if (cut s h o l).1 = true then ([], (cut s h o l).2) else ([h], (cut s h o l).2)
  | f + 1, s, h, o, l => if (cut s h o l).1 = true then ([], (cut s h o l).2) else
      ((if 0 < l then gw cut f (cut s h o l).2 (h ++ [40]) (o + 1) (l - 1) else ([], (cut s h o l).2)).1 ++
        (if 0 < o then gw cut f (if 0 < l then gw cut f (cut s h o l).2 (h ++ [40]) (o + 1) (l - 1) else ([], (cut s h o l).2)).2 (h ++ [41]) (o - 1) l
          else ([], (if 0 < l then gw cut f (cut s h o l).2 (h ++ [40]) (o + 1) (l - 1) else ([], (cut s h o l).2)).2)).1,
       (if 0 < o then gw cut f (if 0 < l then gw cut f (cut s h o l).2 (h ++ [40]) (o + 1) (l - 1) else ([], (cut s h o l).2)).2 (h ++ [41]) (o - 1) l
          else ([], (if 0 < l then gw cut f (cut s h o l).2 (h ++ [40]) (o + 1) (l - 1) else ([], (cut s h o l).2)).2)).2)

section
variable {σ : Type} {cut : σ → List UInt8 → Nat → Nat → Bool × σ}
theorem gw_cut (f : Nat) (s : σ) (h : List UInt8) (o l : Nat) (hc : (cut s h o l).1 = true) : gw cut f s h o l = ([], (cut s h o l).2) := by
  cases f <;> rw [gw, if_pos hc]
theorem gw_zero (s : σ) (h : List UInt8) (o l : Nat) (hc : (cut s h o l).1 = false) : gw cut 0 s h o l = ([h], (cut s h o l).2) := by
  rw [gw, if_neg (by rw [hc]; decide)]
theorem gw_both (f : Nat) (s : σ) (h : List UInt8) (o l : Nat) (hc : (cut s h o l).1 = false) (hl : 0 < l) (ho : 0 < o) :
    gw cut (f + 1) s h o l =
      ((gw cut f (cut s h o l).2 (h ++ [40]) (o + 1) (l - 1)).1 ++ (gw cut f (gw cut f (cut s h o l).2 (h ++ [40]) (o + 1) (l - 1)).2 (h ++ [41]) (o - 1) l).1,
       (gw cut f (gw cut f (cut s h o l).2 (h ++ [40]) (o + 1) (l - 1)).2 (h ++ [41]) (o - 1) l).2) := by
  rw [gw, if_neg (by rw [hc]; decide), if_pos hl, if_pos ho]
theorem gw_open (f : Nat) (s : σ) (h : List UInt8) (o l : Nat) (hc : (cut s h o l).1 = false) (hl : 0 < l) (ho : ¬ 0 < o) :
    gw cut (f + 1) s h o l = gw cut f (cut s h o l).2 (h ++ [40]) (o + 1) (l - 1) := by
  rw [gw, if_neg (by rw [hc]; decide), if_pos hl, if_neg ho, List.append_nil]
theorem gw_shut (f : Nat) (s : σ) (h : List UInt8) (o l : Nat) (hc : (cut s h o l).1 = false) (hl : ¬ 0 < l) (ho : 0 < o) :
    gw cut (f + 1) s h o l = gw cut f (cut s h o l).2 (h ++ [41]) (o - 1) l := by
  rw [gw, if_neg (by rw [hc]; decide), if_neg hl, if_pos ho, List.nil_append]

theorem gw_le (f : Nat) : ∀ (s : σ) (h : List UInt8) (o l : Nat), (gw cut f s h o l).1.length ≤ 2 ^ f := by
  induction f with
  | zero =>
    intro s h o l
    cases hc : (cut s h o l).1
    · rw [gw_zero s h o l hc]; simp
    · rw [gw_cut 0 s h o l hc]; simp
  | succ f ih =>
    intro s h o l
    have h1 := ih (cut s h o l).2 (h ++ [40]) (o + 1) (l - 1)
    have h2 := ih (gw cut f (cut s h o l).2 (h ++ [40]) (o + 1) (l - 1)).2 (h ++ [41]) (o - 1) l
    have h3 := ih (cut s h o l).2 (h ++ [41]) (o - 1) l
    rw [Nat.pow_succ]
    cases hc : (cut s h o l).1
    · by_cases hl : 0 < l
      · by_cases ho : 0 < o
        · rw [gw_both f s h o l hc hl ho, List.length_append]; omega
        · rw [gw_open f s h o l hc hl ho]; omega
      · by_cases ho : 0 < o
        · rw [gw_shut f s h o l hc hl ho]; omega
        · rw [gw, if_neg (by rw [hc]; decide), if_neg hl, if_neg ho]; simp
    · rw [gw_cut _ s h o l hc]; simp

/-- each word given out has so many bytes -/
theorem gw_len (f : Nat) : ∀ (s : σ) (h : List UInt8) (o l : Nat), 2 * l + o = f → ∀ x ∈ (gw cut f s h o l).1, x.length = h.length + f := by
  induction f with
  | zero =>
    intro s h o l _ x hx
    cases hc : (cut s h o l).1
    · rw [gw_zero s h o l hc] at hx; simp at hx; subst hx; rfl
    · rw [gw_cut 0 s h o l hc] at hx; simp at hx
  | succ f ih =>
    intro s h o l hf x hx
    cases hc : (cut s h o l).1
    · by_cases hl : 0 < l
      · by_cases ho : 0 < o
        · rw [gw_both f s h o l hc hl ho, List.mem_append] at hx
          rcases hx with hx | hx
          · have := ih _ _ _ _ (by omega) x hx; simp at this; omega
          · have := ih _ _ _ _ (by omega) x hx; simp at this; omega
        · rw [gw_open f s h o l hc hl ho] at hx
          have := ih _ _ _ _ (by omega) x hx; simp at this; omega
      · rw [gw_shut f s h o l hc hl (by omega)] at hx
        have := ih _ _ _ _ (by omega) x hx; simp at this; omega
    · rw [gw_cut _ s h o l hc] at hx; simp at hx

/-- each word given out is one, if what it begins with can be gone on with -/
theorem gw_scan (f : Nat) : ∀ (s : σ) (h : List UInt8) (o l : Nat), 2 * l + o = f → scan h = some o → ∀ x ∈ (gw cut f s h o l).1, scan x = some 0 := by
  induction f with
  | zero =>
    intro s h o l hf hs x hx
    cases hc : (cut s h o l).1
    · rw [gw_zero s h o l hc] at hx; simp at hx; subst hx; rw [hs]; congr 1; omega
    · rw [gw_cut 0 s h o l hc] at hx; simp at hx
  | succ f ih =>
    intro s h o l hf hs x hx
    have e1 : scan (h ++ [40]) = some (o + 1) := by rw [scan_snoc, hs]; rfl
    have e2 : 0 < o → scan (h ++ [41]) = some (o - 1) := fun ho => by rw [scan_snoc, hs]; simp [vstep]; omega
    cases hc : (cut s h o l).1
    · by_cases hl : 0 < l
      · by_cases ho : 0 < o
        · rw [gw_both f s h o l hc hl ho, List.mem_append] at hx
          rcases hx with hx | hx
          · exact ih _ _ _ _ (by omega) e1 x hx
          · exact ih _ _ _ _ (by omega) (e2 ho) x hx
        · rw [gw_open f s h o l hc hl ho] at hx
          exact ih _ _ _ _ (by omega) e1 x hx
      · rw [gw_shut f s h o l hc hl (by omega)] at hx
        exact ih _ _ _ _ (by omega) (e2 (by omega)) x hx
    · rw [gw_cut _ s h o l hc] at hx; simp at hx
end

/-- nothing is cut -/
def cutNone : Unit → List UInt8 → Nat → Nat → Bool × Unit := fun _ _ _ _ => (false, ())
theorem gw_none (f : Nat) : ∀ (s : Unit) (h : List UInt8) (o l : Nat), 2 * l + o = f → (gw cutNone f s h o l).1 = wordsL f h o l := by
  induction f with
  | zero => intro s h o l _; rw [gw_zero s h o l rfl]; rfl
  | succ f ih =>
    intro s h o l hf
    by_cases hl : 0 < l
    · by_cases ho : 0 < o
      · rw [gw_both f s h o l rfl hl ho, ih _ _ _ _ (by omega), ih _ _ _ _ (by omega), wordsL, if_pos hl, if_pos ho]
      · rw [gw_open f s h o l rfl hl ho, ih _ _ _ _ (by omega), wordsL, if_pos hl, if_neg ho, List.append_nil]
    · rw [gw_shut f s h o l rfl hl (by omega), ih _ _ _ _ (by omega), wordsL, if_neg hl, if_pos (by omega), List.nil_append]

/-! ### in how many ways a word ends -/
def ee : Nat → Nat → Nat
  | 0 => fun _ => 1
  | l + 1 => fun o => Nat.rec (motive := fun _ => Nat) (ee l 1) (fun o ih => ee l (o + 2) + ih) o
theorem ee_zero (o : Nat) : ee 0 o = 1 := rfl
theorem ee_first (l : Nat) : ee (l + 1) 0 = ee l 1 := rfl
theorem ee_next (l o : Nat) : ee (l + 1) (o + 1) = ee l (o + 2) + ee (l + 1) o := rfl
theorem ee_bd : ∀ l, l ≤ 9 → ∀ o, o ≤ 9 - l → 1 ≤ ee l o ∧ ee l o ≤ 4862 := by decide +kernel
theorem ee_step (l o : Nat) (hl : 0 < l) (ho : 0 < o) : ee l o = ee (l - 1) (o + 1) + ee l (o - 1) := by
  obtain ⟨l, rfl⟩ : ∃ k, l = k + 1 := ⟨l - 1, by omega⟩
  obtain ⟨o, rfl⟩ : ∃ k, o = k + 1 := ⟨o - 1, by omega⟩
  exact ee_next l o
theorem ee_open (l : Nat) (hl : 0 < l) : ee l 0 = ee (l - 1) 1 := by
  obtain ⟨l, rfl⟩ : ∃ k, l = k + 1 := ⟨l - 1, by omega⟩
  exact ee_first l
theorem ee_cat : ∀ n, n ≤ 9 → ee n 0 = [1, 1, 2, 5, 14, 42, 132, 429, 1430, 4862].getD n 0 := by decide +kernel

end Go.Proofs.Ytafdlilojlmchaa

namespace Go.Proofs.Ytafdlilojlmchaa

/-- one byte of a word: the rank so far, how many pairs are open, how many are left -/
def rstep (st : Nat × Nat × Nat) (c : UInt8) : Nat × Nat × Nat :=
  if c.toNat = 40 then (st.1, st.2.1 + 1, st.2.2 - 1) else (if 0 < st.2.2 then st.1 + ee (st.2.2 - 1) (st.2.1 + 1) else st.1, st.2.1 - 1, st.2.2)
def rankL (s : List UInt8) : Nat := (s.foldl rstep (0, 0, s.length / 2)).1

/-- behind k bytes of the word s -/
def Rk (s : List UInt8) (k r o l : Nat) : Prop := (s.take k).foldl rstep (0, 0, s.length / 2) = (r, o, l) ∧ scan (s.take k) = some o ∧ 2 * l + o + k = s.length ∧ r ≤ 4862 * k ∧ k ≤ s.length

theorem valid_scan {s : List UInt8} (h : valid s = true) : scan s = some 0 ∧ s.length ≤ 18 := by
  simp only [valid, Bool.and_eq_true, decide_eq_true_eq, beq_iff_eq] at h
  exact ⟨h.2, h.1⟩
theorem Rk.start {s : List UInt8} (h : valid s = true) : Rk s 0 0 0 (s.length / 2) := by
  have := fold_even s 0 0 (valid_scan h).1
  exact ⟨rfl, rfl, by omega, by omega, by omega⟩
theorem rest_low {s : List UInt8} {k o : Nat} (h : valid s = true) (hs : scan (s.take k) = some o) : o ≤ s.length - k := by
  have e : scan s = (s.drop k).foldl vstep (some o) := by rw [← hs, ← scan_append, List.take_append_drop]
  have := fold_low (s.drop k) o (by rw [← e]; exact (valid_scan h).1)
  simpa using this
theorem fold_take {α β : Type} (f : α → β → α) (a : α) (s : List β) (k : Nat) (h : k < s.length) : (s.take (k + 1)).foldl f a = f ((s.take k).foldl f a) s[k] := by
  rw [List.take_succ_eq_append_getElem h, List.foldl_append]; rfl
theorem Rk.opn {s : List UInt8} {k r o l : Nat} (hv : valid s = true) (h : Rk s k r o l) (hk : k < s.length) (hc : s[k].toNat = 40) : Rk s (k + 1) r (o + 1) (l - 1) ∧ 0 < l ∧ o + l ≤ 9 := by
  obtain ⟨h1, h2, h3, h4, h5⟩ := h
  have hs : scan (s.take (k + 1)) = some (o + 1) := by rw [scan_step s k hk, h2]; simp [vstep, hc]
  have := rest_low hv hs
  have := (valid_scan hv).2
  refine ⟨⟨?_, hs, by omega, by omega, by omega⟩, by omega, ?_⟩
  · rw [fold_take _ _ _ _ hk, h1]; simp [rstep, hc]
  · have := scan_le _ _ h2; simp at this; omega
theorem Rk.cls {s : List UInt8} {k r o l : Nat} (hv : valid s = true) (h : Rk s k r o l) (hk : k < s.length) (hc : s[k].toNat ≠ 40) : Rk s (k + 1) (if 0 < l then r + ee (l - 1) (o + 1) else r) (o - 1) l ∧ 0 < o ∧ o + l ≤ 9 ∧ r ≤ 90000 ∧ s[k].toNat = 41 := by
  obtain ⟨h1, h2, h3, h4, h5⟩ := h
  have h9 : o + l ≤ 9 := by have := scan_le _ _ h2; simp at this; have := (valid_scan hv).2; omega
  have hs0 : scan (s.take (k + 1)) ≠ none := fun e => by
    have := scan_take_none s (k + 1) e
    rw [(valid_scan hv).1] at this; cases this
  rw [scan_step s k hk, h2] at hs0
  simp only [vstep, if_neg hc] at hs0
  have hc1 : s[k].toNat = 41 := by
    apply Classical.byContradiction
    intro e; rw [if_neg e] at hs0; exact hs0 rfl
  rw [if_pos hc1] at hs0
  have ho : 0 < o := by
    apply Classical.byContradiction
    intro e; rw [if_pos (by omega)] at hs0; exact hs0 rfl
  have hs : scan (s.take (k + 1)) = some (o - 1) := by rw [scan_step s k hk, h2]; simp only [vstep, if_neg hc, if_pos hc1, if_neg (show ¬ o = 0 by omega)]
  have := (valid_scan hv).2
  refine ⟨⟨?_, hs, by omega, ?_, by omega⟩, ho, h9, by omega, hc1⟩
  · rw [fold_take _ _ _ _ hk, h1]; simp only [rstep, if_neg hc]
  · split
    · have := (ee_bd (l - 1) (by omega) (o + 1) (by omega)).2; omega
    · omega
theorem Rk.stop {s : List UInt8} {k r o l : Nat} (h : Rk s k r o l) (hk : k = s.length) : rankL s = r := by
  subst hk
  have := h.1
  rw [List.take_of_length_le (Nat.le_refl _)] at this
  rw [rankL, this]
theorem Rk.high {s : List UInt8} {k r o l : Nat} (hv : valid s = true) (h : Rk s k r o l) (hk : k < s.length) : s[k].toNat < 128 := by
  by_cases hc : s[k].toNat = 40
  · omega
  · have := (h.cls hv hk hc).2.2.2.2; omega

/-! ### the word of a rank -/
def wat : Nat → Nat → Nat → Nat → List UInt8
  | 0, _, _, _ => []
  | f + 1, r, o, l => if r < (if 0 < l then ee (l - 1) (o + 1) else 0) then 40 :: wat f r (o + 1) (l - 1) else 41 :: wat f (r - (if 0 < l then ee (l - 1) (o + 1) else 0)) (o - 1) l
theorem wat_opn (f r o l : Nat) (hl : 0 < l) (h : r < ee (l - 1) (o + 1)) : wat (f + 1) r o l = 40 :: wat f r (o + 1) (l - 1) := by rw [wat, if_pos hl, if_pos h]
theorem wat_cls (f r o l : Nat) (hl : 0 < l) (h : ¬ r < ee (l - 1) (o + 1)) : wat (f + 1) r o l = 41 :: wat f (r - ee (l - 1) (o + 1)) (o - 1) l := by rw [wat, if_pos hl, if_neg h]
theorem wat_end (f r o : Nat) : wat (f + 1) r o 0 = 41 :: wat f r (o - 1) 0 := by rw [wat, if_neg (Nat.lt_irrefl 0), if_neg (Nat.not_lt_zero r), Nat.sub_zero]
theorem low_open {r o l : Nat} (hl : 0 < l) (hr : r < ee l o) (h : ¬ r < ee (l - 1) (o + 1)) : 0 < o ∧ r - ee (l - 1) (o + 1) < ee l (o - 1) := by
  have ho : 0 < o := by
    apply Classical.byContradiction
    intro e
    obtain rfl : o = 0 := by omega
    rw [ee_open l hl] at hr; exact h hr
  rw [ee_step l o hl ho] at hr
  exact ⟨ho, by omega⟩

/-- beginnings ahead of a rank are cut -/
def cutAt : Nat → List UInt8 → Nat → Nat → Bool × Nat := fun a _ o l => if a < ee l o then (false, a) else (true, a - ee l o)
theorem cutAt_no {a o l : Nat} {h : List UInt8} (hr : a < ee l o) : cutAt a h o l = (false, a) := if_pos hr
theorem cutAt_yes {a o l : Nat} {h : List UInt8} (hr : ¬ a < ee l o) : cutAt a h o l = (true, a - ee l o) := if_neg hr
theorem gw_at (f : Nat) : ∀ (r : Nat) (h : List UInt8) (o l : Nat), 2 * l + o = f → r < ee l o → ∃ t, (gw cutAt f r h o l).1 = (h ++ wat f r o l) :: t := by
  induction f with
  | zero =>
    intro r h o l _ hr
    rw [gw_zero r h o l (by rw [cutAt_no hr])]
    exact ⟨[], by simp [wat]⟩
  | succ f ih =>
    intro r h o l hf hr
    have hc : (cutAt r h o l).1 = false := by rw [cutAt_no hr]
    have hs : (cutAt r h o l).2 = r := by rw [cutAt_no hr]
    by_cases hl : 0 < l
    · by_cases hk : r < ee (l - 1) (o + 1)
      · obtain ⟨t, ht⟩ := ih r (h ++ [40]) (o + 1) (l - 1) (by omega) hk
        rw [wat_opn f r o l hl hk]
        by_cases ho : 0 < o
        · rw [gw_both f r h o l hc hl ho, hs, ht]
          exact ⟨_, by rw [List.append_assoc]; rfl⟩
        · rw [gw_open f r h o l hc hl ho, hs, ht]
          exact ⟨_, by rw [List.append_assoc]; rfl⟩
      · obtain ⟨ho, hlt⟩ := low_open hl hr hk
        obtain ⟨t, ht⟩ := ih (r - ee (l - 1) (o + 1)) (h ++ [41]) (o - 1) l (by omega) hlt
        rw [wat_cls f r o l hl hk, gw_both f r h o l hc hl ho, hs, gw_cut f r (h ++ [40]) (o + 1) (l - 1) (by rw [cutAt_yes hk]), cutAt_yes hk, ht]
        exact ⟨_, by rw [List.append_assoc]; rfl⟩
    · obtain rfl : l = 0 := by omega
      obtain ⟨t, ht⟩ := ih r (h ++ [41]) (o - 1) 0 (by omega) hr
      rw [wat_end, gw_shut f r h o 0 hc hl (by omega), hs, ht]
      exact ⟨_, by rw [List.append_assoc]; rfl⟩
theorem wat_length (f : Nat) : ∀ r o l, (wat f r o l).length = f := by
  induction f with
  | zero => intros; rfl
  | succ f ih =>
    intro r o l
    rw [wat]
    by_cases h : r < (if 0 < l then ee (l - 1) (o + 1) else 0)
    · rw [if_pos h, List.length_cons, ih]
    · rw [if_neg h, List.length_cons, ih]

end Go.Proofs.Ytafdlilojlmchaa

namespace Go.Proofs.Ytafdlilojlmchaa

/-! ### the first word, where the cut has no state -/
def g1 (c : List UInt8 → Bool) : Nat → List UInt8 → Nat → Nat → Option (List UInt8)
  | 0, h, _, _ => if c h = true then none else some h
  | f + 1, h, o, l => if c h = true then none else (if 0 < l then g1 c f (h ++ [40]) (o + 1) (l - 1) else none).or (if 0 < o then g1 c f (h ++ [41]) (o - 1) l else none)
def cutOf (c : List UInt8 → Bool) : Unit → List UInt8 → Nat → Nat → Bool × Unit := fun _ h _ _ => (c h, ())
theorem gw_g1 (c : List UInt8 → Bool) (f : Nat) : ∀ (h : List UInt8) (o l : Nat), 2 * l + o = f → (gw (cutOf c) f () h o l).1.head? = g1 c f h o l := by
  induction f with
  | zero =>
    intro h o l _
    cases hc : c h
    · rw [gw_zero () h o l (show (cutOf c () h o l).1 = false from hc), g1, if_neg (by rw [hc]; decide)]; rfl
    · rw [gw_cut 0 () h o l (show (cutOf c () h o l).1 = true from hc), g1, if_pos hc]; rfl
  | succ f ih =>
    intro h o l hf
    cases hc : c h
    · have hc' : (cutOf c () h o l).1 = false := hc
      rw [g1, if_neg (by rw [hc]; decide)]
      by_cases hl : 0 < l
      · by_cases ho : 0 < o
        · rw [gw_both f () h o l hc' hl ho, List.head?_append, ih _ _ _ (by omega), ih _ _ _ (by omega), if_pos hl, if_pos ho]
        · rw [gw_open f () h o l hc' hl ho, ih _ _ _ (by omega), if_pos hl, if_neg ho, Option.or_none]
      · rw [gw_shut f () h o l hc' hl (by omega), ih _ _ _ (by omega), if_neg hl, if_pos (by omega), Option.none_or]
    · rw [gw_cut _ () h o l (show (cutOf c () h o l).1 = true from hc), g1, if_pos hc]; rfl

/-- is a text less, byte by byte? -/
def lessL : List UInt8 → List UInt8 → Bool
  | _, [] => false
  | [], _ :: _ => true
  | a :: x, b :: y => Nat.blt a.toNat b.toNat || (Nat.beq a.toNat b.toNat && lessL x y)
theorem less_eq : ∀ (x y : List UInt8), Op.bytesLess x y = lessL x y
  | x, [] => by cases x <;> rfl
  | [], _ :: _ => rfl
  | a :: x, b :: y => by
    rw [Op.bytesLess, lessL, less_eq x y]
    have e1 : decide (a < b) = Nat.blt a.toNat b.toNat := by
      rw [Bool.eq_iff_iff]; simp [UInt8.lt_iff_toNat_lt]
    have e2 : (a == b) = Nat.beq a.toNat b.toNat := by
      rw [Bool.eq_iff_iff]; simp [← UInt8.toNat_inj]
    rw [e1, e2]
def eqL : List UInt8 → List UInt8 → Bool
  | [], [] => true
  | a :: x, b :: y => Nat.beq a.toNat b.toNat && eqL x y
  | _, _ => false
theorem eqL_eq : ∀ (x y : List UInt8), (x == y) = eqL x y
  | [], [] => rfl
  | [], _ :: _ => rfl
  | _ :: _, [] => rfl
  | a :: x, b :: y => by
    rw [List.cons_beq_cons, eqL, eqL_eq x y]
    have e2 : (a == b) = Nat.beq a.toNat b.toNat := by
      rw [Bool.eq_iff_iff]; simp [← UInt8.toNat_inj]
    rw [e2]
/-- beginnings that are the word, or less -/
def notBehind (s h : List UInt8) : Bool := eqL h s || lessL h (s.take h.length)

/-! ### the model's -/
/-- the word behind s, where the last ( that is turned is ahead of j -/
def nextAt (s : List UInt8) : Nat → Option (List UInt8)
  | 0 => none
  | i + 1 => match s[i]?, scan (s.take i) with
    | some c, some (o + 1) => if Nat.beq c.toNat 41 then nextAt s i else some (s.take i ++ [41] ++ List.replicate ((s.length - i - 1 - o) / 2) 40 ++ List.replicate (o + (s.length - i - 1 - o) / 2) 41)
    | _, _ => nextAt s i

/-! ### tables -/
def eT (l o : Nat) : Nat := ([[1, 1, 1, 1, 1, 1, 1, 1, 1, 1], [1, 2, 3, 4, 5, 6, 7, 8, 9], [2, 5, 9, 14, 20, 27, 35, 44], [5, 14, 28, 48, 75, 110, 154], [14, 42, 90, 165, 275, 429], [42, 132, 297, 572, 1001], [132, 429, 1001, 2002], [429, 1430, 3432], [1430, 4862], [4862]].getD l []).getD o 0
theorem ee_eT : ∀ l, l ≤ 9 → ∀ o, o ≤ 9 - l → ee l o = eT l o := by decide +kernel
def rstepT (st : Nat × Nat × Nat) (c : UInt8) : Nat × Nat × Nat :=
  if Nat.beq c.toNat 40 then (st.1, st.2.1 + 1, st.2.2 - 1) else (if Nat.blt 0 st.2.2 then st.1 + eT (st.2.2 - 1) (st.2.1 + 1) else st.1, st.2.1 - 1, st.2.2)
def rankT (s : List UInt8) : Nat := (s.foldl rstepT (0, 0, s.length / 2)).1
theorem rank_fold {s : List UInt8} (hv : valid s = true) : ∀ k, k ≤ s.length → ∃ r o l, Rk s k r o l ∧ (s.take k).foldl rstepT (0, 0, s.length / 2) = (r, o, l) := by
  intro k
  induction k with
  | zero => exact fun _ => ⟨0, 0, s.length / 2, Rk.start hv, rfl⟩
  | succ k ih =>
    intro hk
    obtain ⟨r, o, l, h, e⟩ := ih (by omega)
    by_cases hc : s[k].toNat = 40
    · refine ⟨r, o + 1, l - 1, (h.opn hv (by omega) hc).1, ?_⟩
      rw [fold_take _ _ _ _ (by omega), e, rstepT, if_pos (by rw [hc]; rfl)]
    · have hs := h.cls hv (by omega) hc
      refine ⟨_, _, _, hs.1, ?_⟩
      rw [fold_take _ _ _ _ (by omega), e, rstepT, if_neg (by simpa using hc)]
      by_cases hl : 0 < l
      · rw [if_pos hl, if_pos (by simpa using hl), ee_eT (l - 1) (by omega) (o + 1) (by omega)]
      · rw [if_neg hl, if_neg (by simpa using hl)]
theorem rankL_T {s : List UInt8} (hv : valid s = true) : rankL s = rankT s := by
  obtain ⟨r, o, l, h, e⟩ := rank_fold hv s.length (Nat.le_refl _)
  rw [h.stop rfl, rankT]
  rw [List.take_of_length_le (Nat.le_refl _)] at e
  rw [e]
def watT : Nat → Nat → Nat → Nat → List UInt8
  | 0, _, _, _ => []
  | f + 1, r, o, l => if Nat.blt r (if Nat.blt 0 l then eT (l - 1) (o + 1) else 0) then 40 :: watT f r (o + 1) (l - 1) else 41 :: watT f (r - (if Nat.blt 0 l then eT (l - 1) (o + 1) else 0)) (o - 1) l
theorem wat_T (f : Nat) : ∀ r o l, o + l ≤ 9 → wat f r o l = watT f r o l := by
  induction f with
  | zero => intros; rfl
  | succ f ih =>
    intro r o l h
    by_cases hl : 0 < l
    · have hb : Nat.blt 0 l = true := by simpa using hl
      rw [wat, watT, if_pos hl, if_pos hb, ee_eT (l - 1) (by omega) (o + 1) (by omega)]
      by_cases hx : r < eT (l - 1) (o + 1)
      · rw [if_pos hx, if_pos (by simpa using hx), ih _ _ _ (by omega)]
      · rw [if_neg hx, if_neg (by simpa using hx), ih _ _ _ (by omega)]
    · have hb : ¬ Nat.blt 0 l = true := by simpa using hl
      have hr : ¬ Nat.blt r 0 = true := by simp
      rw [wat, watT, if_neg hl, if_neg hb, if_neg (Nat.not_lt_zero r), if_neg hr, ih _ _ _ (by omega)]
end Go.Proofs.Ytafdlilojlmchaa

namespace Go.Proofs.Ytafdlilojlmchaa

theorem less_append : ∀ (p a b : List UInt8), lessL (p ++ a) (p ++ b) = lessL a b
  | [], _, _ => rfl
  | c :: p, a, b => by
    show (Nat.blt c.toNat c.toNat || (Nat.beq c.toNat c.toNat && lessL (p ++ a) (p ++ b))) = _
    rw [less_append p a b]
    simp
theorem less_self (p : List UInt8) : lessL p p = false := by
  have := less_append p [] []
  rw [List.append_nil] at this
  rw [this]; rfl
theorem eq_append : ∀ (p a b : List UInt8), eqL (p ++ a) (p ++ b) = eqL a b
  | [], _, _ => rfl
  | c :: p, a, b => by
    show (Nat.beq c.toNat c.toNat && eqL (p ++ a) (p ++ b)) = _
    rw [eq_append p a b]
    simp
theorem eq_length {a b : List UInt8} (h : a.length ≠ b.length) : eqL a b = false := by
  cases he : eqL a b
  · rfl
  · rw [← eqL_eq] at he; exact absurd (congrArg List.length (eq_of_beq he)) h

theorem split_at {s : List UInt8} {k : Nat} (hk : k < s.length) : s = s.take k ++ s[k] :: s.drop (k + 1) := by
  rw [← List.drop_eq_getElem_cons hk, List.take_append_drop]
/-- on the word's own way -/
theorem nb_path {s : List UInt8} {k : Nat} (hk : k < s.length) : notBehind s (s.take k) = false := by
  rw [notBehind, eq_length (by simp; omega), Bool.false_or, List.length_take, Nat.min_eq_left (Nat.le_of_lt hk), less_self]
/-- the word itself -/
theorem nb_self (s : List UInt8) : notBehind s s = true := by
  rw [notBehind, ← eqL_eq]; simp
/-- ahead of it -/
theorem nb_less {s : List UInt8} {k : Nat} (hk : k < s.length) (hc : s[k].toNat = 41) : notBehind s (s.take k ++ [40]) = true := by
  have e : s.take (s.take k ++ [40]).length = s.take k ++ [s[k]] := by
    rw [List.length_append, List.length_take, Nat.min_eq_left (Nat.le_of_lt hk), List.length_singleton, List.take_succ_eq_append_getElem hk]
  rw [notBehind, e, less_append]
  have : lessL [40] [s[k]] = true := by simp [lessL, hc]
  rw [this, Bool.or_true]
/-- behind it -/
theorem nb_more {s : List UInt8} {k : Nat} (hk : k < s.length) (hc : s[k].toNat = 40) (x : List UInt8) : notBehind s (s.take k ++ [41] ++ x) = false := by
  have h1 : eqL (s.take k ++ [41] ++ x) s = false := by
    have e : s = s.take k ++ s[k] :: s.drop (k + 1) := split_at hk
    have := eq_append (s.take k) (41 :: x) (s[k] :: s.drop (k + 1))
    rw [← e] at this
    rw [List.append_assoc]
    show eqL (s.take k ++ (41 :: x)) s = false
    rw [this]
    simp [eqL, hc]
  have e : s.take (s.take k ++ [41] ++ x).length = s.take k ++ (s[k] :: (s.drop (k + 1)).take x.length) := by
    rw [List.length_append, List.length_append, List.length_take, Nat.min_eq_left (Nat.le_of_lt hk), List.length_singleton]
    conv => lhs; rw [split_at hk]
    rw [List.take_append, List.length_take, Nat.min_eq_left (Nat.le_of_lt hk), List.take_of_length_le (by simp; omega), show k + 1 + x.length - k = x.length + 1 by omega, List.take_succ_cons]
  have h2 : lessL (s.take k ++ [41] ++ x) (s.take (s.take k ++ [41] ++ x).length) = false := by
    rw [e, List.append_assoc, less_append]
    show (Nat.blt 41 s[k].toNat || (Nat.beq 41 s[k].toNat && _)) = false
    rw [hc]; rfl
  rw [notBehind, h1, h2]; rfl

/-- where nothing is cut any more -/
theorem g1_free (c : List UInt8 → Bool) (f : Nat) : ∀ (h : List UInt8) (o l : Nat), 2 * l + o = f → (∀ x, c (h ++ x) = false) → g1 c f h o l = some (h ++ List.replicate l 40 ++ List.replicate (o + l) 41) := by
  induction f with
  | zero =>
    intro h o l hf hc
    obtain rfl : o = 0 := by omega
    obtain rfl : l = 0 := by omega
    have := hc []
    rw [List.append_nil] at this
    rw [g1, if_neg (by rw [this]; decide)]; simp
  | succ f ih =>
    intro h o l hf hc
    have hn := hc []
    rw [List.append_nil] at hn
    rw [g1, if_neg (by rw [hn]; decide)]
    by_cases hl : 0 < l
    · rw [if_pos hl, ih (h ++ [40]) (o + 1) (l - 1) (by omega) (fun x => by rw [List.append_assoc]; exact hc _), Option.some_or]
      obtain ⟨l, rfl⟩ : ∃ k, l = k + 1 := ⟨l - 1, by omega⟩
      rw [Nat.add_sub_cancel, List.replicate_succ, show o + 1 + l = o + (l + 1) by omega]
      simp
    · obtain rfl : l = 0 := by omega
      rw [if_neg hl, if_pos (by omega), ih (h ++ [41]) (o - 1) 0 (by omega) (fun x => by rw [List.append_assoc]; exact hc _), Option.none_or]
      obtain ⟨o, rfl⟩ : ∃ k, o = k + 1 := ⟨o - 1, by omega⟩
      simp [List.replicate_succ]

/-- what turning the ( at i gives -/
def turned (s : List UInt8) (i : Nat) : Option (List UInt8) := match s[i]?, scan (s.take i) with
  | some c, some (o + 1) => if Nat.beq c.toNat 41 then none else some (s.take i ++ [41] ++ List.replicate ((s.length - i - 1 - o) / 2) 40 ++ List.replicate (o + (s.length - i - 1 - o) / 2) 41)
  | _, _ => none
/-- the last of those from k on -/
def lastFrom (s : List UInt8) (k : Nat) : Nat → Option (List UInt8)
  | 0 => none
  | d + 1 => (turned s (k + d)).or (lastFrom s k d)
theorem next_last_from (s : List UInt8) (j : Nat) : nextAt s j = lastFrom s 0 j := by
  induction j with
  | zero => rfl
  | succ i ih =>
    rw [nextAt, lastFrom, turned, Nat.zero_add]
    cases s[i]? with
    | none => simp [ih]
    | some c =>
      cases scan (s.take i) with
      | none => simp [ih]
      | some o =>
        cases o with
        | zero => simp [ih]
        | succ o =>
          dsimp only
          by_cases hc : Nat.beq c.toNat 41 = true
          · rw [if_pos hc, if_pos hc, Option.none_or, ih]
          · rw [if_neg hc, if_neg hc, Option.some_or]
theorem last_first (s : List UInt8) (k d : Nat) : lastFrom s k (d + 1) = (lastFrom s (k + 1) d).or (turned s k) := by
  induction d with
  | zero => rw [lastFrom, lastFrom, lastFrom, Nat.add_zero, Option.or_none, Option.none_or]
  | succ d ih =>
    rw [lastFrom, ih, lastFrom, show k + 1 + d = k + (d + 1) by omega, Option.or_assoc]

theorem g1_last {s : List UInt8} (hv : valid s = true) (f : Nat) : ∀ (k o l : Nat), k + f = s.length → scan (s.take k) = some o → 2 * l + o = f → g1 (notBehind s) f (s.take k) o l = lastFrom s k f := by
  induction f with
  | zero =>
    intro k o l hk hs hf
    rw [g1, List.take_of_length_le (by omega), if_pos (nb_self s), lastFrom]
  | succ f ih =>
    intro k o l hk hs hf
    have hlt : k < s.length := by omega
    rw [g1, if_neg (by rw [nb_path hlt]; decide), last_first]
    have htk : s.take (k + 1) = s.take k ++ [s[k]] := List.take_succ_eq_append_getElem hlt
    have hsk := scan_step s k hlt
    rw [hs] at hsk
    by_cases hc : s[k].toNat = 40
    · have hc8 : s[k] = 40 := UInt8.toNat_inj.1 (by simpa using hc)
      have hs1 : scan (s.take (k + 1)) = some (o + 1) := by rw [hsk]; simp [vstep, hc]
      have hlow := rest_low hv hs1
      have hl : 0 < l := by omega
      have i1 := ih (k + 1) (o + 1) (l - 1) (by omega) hs1 (by omega)
      rw [htk, hc8] at i1
      rw [if_pos hl, i1]
      congr 1
      rw [turned, List.getElem?_eq_getElem hlt, hs]
      by_cases ho : 0 < o
      · obtain ⟨p, rfl⟩ : ∃ p, o = p + 1 := ⟨o - 1, by omega⟩
        rw [if_pos ho, Nat.add_sub_cancel, g1_free _ f _ p l (by omega) (fun x => nb_more hlt hc x)]
        show _ = (if Nat.beq s[k].toNat 41 = true then none else _)
        rw [if_neg (by rw [hc]; decide), show (s.length - k - 1 - p) / 2 = l by omega]
      · obtain rfl : o = 0 := by omega
        rw [if_neg ho]
    · have h41 : s[k].toNat = 41 ∧ 0 < o := by
        obtain ⟨r, p, q, hR, _⟩ := rank_fold hv k (Nat.le_of_lt hlt)
        have hpo : p = o := by have := hR.2.1; rw [hs] at this; exact (Option.some.inj this).symm
        have := hR.cls hv hlt hc
        exact ⟨this.2.2.2.2, by omega⟩
      have hc8 : s[k] = 41 := UInt8.toNat_inj.1 (by simpa using h41.1)
      have hs1 : scan (s.take (k + 1)) = some (o - 1) := by rw [hsk]; simp only [vstep]; rw [if_neg hc, if_pos h41.1, if_neg (by omega)]
      have i1 := ih (k + 1) (o - 1) l (by omega) hs1 (by omega)
      rw [htk, hc8] at i1
      have hz : turned s k = none := by
        rw [turned, List.getElem?_eq_getElem hlt, hs]
        obtain ⟨p, rfl⟩ : ∃ p, o = p + 1 := ⟨o - 1, by omega⟩
        show (if Nat.beq s[k].toNat 41 = true then none else _) = _
        rw [if_pos (by rw [h41.1]; rfl)]
      rw [hz, Option.or_none, if_pos h41.2, i1]
      have hfirst : (if 0 < l then g1 (notBehind s) f (s.take k ++ [40]) (o + 1) (l - 1) else none) = none := by
        split
        · have hcut := nb_less hlt h41.1
          cases f <;> rw [g1, if_pos hcut]
        · rfl
      rw [hfirst, Option.none_or]

theorem next_first {s : List UInt8} (hv : valid s = true) : (gw (cutOf (notBehind s)) (2 * (s.length / 2)) () [] 0 (s.length / 2)).1.head? = nextAt s s.length := by
  have hev := fold_even s 0 0 (valid_scan hv).1
  rw [gw_g1 _ _ _ _ _ (by omega), next_last_from]
  have e : 2 * (s.length / 2) = s.length := by omega
  have := g1_last hv s.length 0 0 (s.length / 2) (by omega) rfl (by omega)
  rw [e]
  exact this
end Go.Proofs.Ytafdlilojlmchaa
