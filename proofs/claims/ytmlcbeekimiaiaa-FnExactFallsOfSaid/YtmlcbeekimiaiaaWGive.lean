/-
  Plain facts on giving out words one by one, some beginnings cut, and on how many ways a word ends. Nothing of the program is named here.
-/
import Derived.Test.YtmlcbeekimiaiaaWords
namespace Go.Proofs.Ytmlcbeekimiaiaa

/-- the words with a beginning, in order, but those that the cut cuts; the cut's state behind it -/
def gw {σ : Type} (cut : σ → List UInt8 → Nat → Nat → Bool × σ) : Nat → σ → List UInt8 → Nat → Nat → List (List UInt8) × σ
  | 0, s, h, o, l => if (cut s h o l).1 = true then ([], (cut s h o l).2) else ([h], (cut s h o l).2)
  | f + 1, s, h, o, l => if (cut s h o l).1 = true then ([], (cut s h o l).2) else
      ((if 0 < l then gw cut f (cut s h o l).2 (h ++ [40]) (o + 1) (l - 1) else ([], (cut s h o l).2)).1 ++
        (if 0 < o then gw cut f (if 0 < l then gw cut f (cut s h o l).2 (h ++ [40]) (o + 1) (l - 1) else ([], (cut s h o l).2)).2 (h ++ [41]) (o - 1) l
          else ([], (if 0 < l then gw cut f (cut s h o l).2 (h ++ [40]) (o + 1) (l - 1) else ([], (cut s h o l).2)).2)).1,
       (if 0 < o then gw cut f (if 0 < l then gw cut f (cut s h o l).2 (h ++ [40]) (o + 1) (l - 1) else ([], (cut s h o l).2)).2 (h ++ [41]) (o - 1) l
          else ([], (if 0 < l then gw cut f (cut s h o l).2 (h ++ [40]) (o + 1) (l - 1) else ([], (cut s h o l).2)).2)).2)

section
variable {σ : Type} {cut : σ → List UInt8 → Nat → Nat → Bool × σ}
theorem gw_cut (f : Nat) (s : σ) (h : List UInt8) (o l : Nat) (hc : (cut s h o l).1 = true) : gw cut f s h o l = ([], (cut s h o l).2) := by
  cases f <;> rw [gw, if_pos hc]
theorem gw_zero (s : σ) (h : List UInt8) (o l : Nat) (hc : (cut s h o l).1 = false) : gw cut 0 s h o l = ([h], (cut s h o l).2) := by
  rw [gw, if_neg (by rw [hc]; decide)]
theorem gw_both (f : Nat) (s : σ) (h : List UInt8) (o l : Nat) (hc : (cut s h o l).1 = false) (hl : 0 < l) (ho : 0 < o) :
    gw cut (f + 1) s h o l =
      ((gw cut f (cut s h o l).2 (h ++ [40]) (o + 1) (l - 1)).1 ++ (gw cut f (gw cut f (cut s h o l).2 (h ++ [40]) (o + 1) (l - 1)).2 (h ++ [41]) (o - 1) l).1,
       (gw cut f (gw cut f (cut s h o l).2 (h ++ [40]) (o + 1) (l - 1)).2 (h ++ [41]) (o - 1) l).2) := by
  rw [gw, if_neg (by rw [hc]; decide), if_pos hl, if_pos ho]
theorem gw_open (f : Nat) (s : σ) (h : List UInt8) (o l : Nat) (hc : (cut s h o l).1 = false) (hl : 0 < l) (ho : ¬ 0 < o) :
    gw cut (f + 1) s h o l = gw cut f (cut s h o l).2 (h ++ [40]) (o + 1) (l - 1) := by
  rw [gw, if_neg (by rw [hc]; decide), if_pos hl, if_neg ho, List.append_nil]
theorem gw_shut (f : Nat) (s : σ) (h : List UInt8) (o l : Nat) (hc : (cut s h o l).1 = false) (hl : ¬ 0 < l) (ho : 0 < o) :
    gw cut (f + 1) s h o l = gw cut f (cut s h o l).2 (h ++ [41]) (o - 1) l := by
  rw [gw, if_neg (by rw [hc]; decide), if_neg hl, if_pos ho, List.nil_append]

theorem gw_le (f : Nat) : ∀ (s : σ) (h : List UInt8) (o l : Nat), (gw cut f s h o l).1.length ≤ 2 ^ f := by
  induction f with
  | zero =>
    intro s h o l
    cases hc : (cut s h o l).1
    · rw [gw_zero s h o l hc]; simp
    · rw [gw_cut 0 s h o l hc]; simp
  | succ f ih =>
    intro s h o l
    have h1 := ih (cut s h o l).2 (h ++ [40]) (o + 1) (l - 1)
    have h2 := ih (gw cut f (cut s h o l).2 (h ++ [40]) (o + 1) (l - 1)).2 (h ++ [41]) (o - 1) l
    have h3 := ih (cut s h o l).2 (h ++ [41]) (o - 1) l
    rw [Nat.pow_succ]
    cases hc : (cut s h o l).1
    · by_cases hl : 0 < l
      · by_cases ho : 0 < o
        · rw [gw_both f s h o l hc hl ho, List.length_append]; omega
        · rw [gw_open f s h o l hc hl ho]; omega
      · by_cases ho : 0 < o
        · rw [gw_shut f s h o l hc hl ho]; omega
        · rw [gw, if_neg (by rw [hc]; decide), if_neg hl, if_neg ho]; simp
    · rw [gw_cut _ s h o l hc]; simp

/-- each word given out has so many bytes -/
theorem gw_len (f : Nat) : ∀ (s : σ) (h : List UInt8) (o l : Nat), 2 * l + o = f → ∀ x ∈ (gw cut f s h o l).1, x.length = h.length + f := by
  induction f with
  | zero =>
    intro s h o l _ x hx
    cases hc : (cut s h o l).1
    · rw [gw_zero s h o l hc] at hx; simp at hx; subst hx; rfl
    · rw [gw_cut 0 s h o l hc] at hx; simp at hx
  | succ f ih =>
    intro s h o l hf x hx
    cases hc : (cut s h o l).1
    · by_cases hl : 0 < l
      · by_cases ho : 0 < o
        · rw [gw_both f s h o l hc hl ho, List.mem_append] at hx
          rcases hx with hx | hx
          · have := ih _ _ _ _ (by omega) x hx; simp at this; omega
          · have := ih _ _ _ _ (by omega) x hx; simp at this; omega
        · rw [gw_open f s h o l hc hl ho] at hx
          have := ih _ _ _ _ (by omega) x hx; simp at this; omega
      · rw [gw_shut f s h o l hc hl (by omega)] at hx
        have := ih _ _ _ _ (by omega) x hx; simp at this; omega
    · rw [gw_cut _ s h o l hc] at hx; simp at hx

/-- each word given out is one, if what it begins with can be gone on with -/
theorem gw_scan (f : Nat) : ∀ (s : σ) (h : List UInt8) (o l : Nat), 2 * l + o = f → scan h = some o → ∀ x ∈ (gw cut f s h o l).1, scan x = some 0 := by
  induction f with
  | zero =>
    intro s h o l hf hs x hx
    cases hc : (cut s h o l).1
    · rw [gw_zero s h o l hc] at hx; simp at hx; subst hx; rw [hs]; congr 1; omega
    · rw [gw_cut 0 s h o l hc] at hx; simp at hx
  | succ f ih =>
    intro s h o l hf hs x hx
    have e1 : scan (h ++ [40]) = some (o + 1) := by rw [scan_snoc, hs]; rfl
    have e2 : 0 < o → scan (h ++ [41]) = some (o - 1) := fun ho => by rw [scan_snoc, hs]; simp [vstep]; omega
    cases hc : (cut s h o l).1
    · by_cases hl : 0 < l
      · by_cases ho : 0 < o
        · rw [gw_both f s h o l hc hl ho, List.mem_append] at hx
          rcases hx with hx | hx
          · exact ih _ _ _ _ (by omega) e1 x hx
          · exact ih _ _ _ _ (by omega) (e2 ho) x hx
        · rw [gw_open f s h o l hc hl ho] at hx
          exact ih _ _ _ _ (by omega) e1 x hx
      · rw [gw_shut f s h o l hc hl (by omega)] at hx
        exact ih _ _ _ _ (by omega) (e2 (by omega)) x hx
    · rw [gw_cut _ s h o l hc] at hx; simp at hx
end

/-- nothing is cut -/
def cutNone : Unit → List UInt8 → Nat → Nat → Bool × Unit := fun _ _ _ _ => (false, ())
theorem gw_none (f : Nat) : ∀ (s : Unit) (h : List UInt8) (o l : Nat), 2 * l + o = f → (gw cutNone f s h o l).1 = wordsL f h o l := by
  induction f with
  | zero => intro s h o l _; rw [gw_zero s h o l rfl]; rfl
  | succ f ih =>
    intro s h o l hf
    by_cases hl : 0 < l
    · by_cases ho : 0 < o
      · rw [gw_both f s h o l rfl hl ho, ih _ _ _ _ (by omega), ih _ _ _ _ (by omega), wordsL, if_pos hl, if_pos ho]
      · rw [gw_open f s h o l rfl hl ho, ih _ _ _ _ (by omega), wordsL, if_pos hl, if_neg ho, List.append_nil]
    · rw [gw_shut f s h o l rfl hl (by omega), ih _ _ _ _ (by omega), wordsL, if_neg hl, if_pos (by omega), List.nil_append]

/-! ### in how many ways a word ends -/
def ee : Nat → Nat → Nat
  | 0 => fun _ => 1
  | l + 1 => fun o => Nat.rec (motive := fun _ => Nat) (ee l 1) (fun o ih => ee l (o + 2) + ih) o
theorem ee_zero (o : Nat) : ee 0 o = 1 := rfl
theorem ee_first (l : Nat) : ee (l + 1) 0 = ee l 1 := rfl
theorem ee_next (l o : Nat) : ee (l + 1) (o + 1) = ee l (o + 2) + ee (l + 1) o := rfl
theorem ee_bd : ∀ l, l ≤ 9 → ∀ o, o ≤ 9 - l → 1 ≤ ee l o ∧ ee l o ≤ 4862 := by decide +kernel
theorem ee_step (l o : Nat) (hl : 0 < l) (ho : 0 < o) : ee l o = ee (l - 1) (o + 1) + ee l (o - 1) := by
  obtain ⟨l, rfl⟩ : ∃ k, l = k + 1 := ⟨l - 1, by omega⟩
  obtain ⟨o, rfl⟩ : ∃ k, o = k + 1 := ⟨o - 1, by omega⟩
  exact ee_next l o
theorem ee_open (l : Nat) (hl : 0 < l) : ee l 0 = ee (l - 1) 1 := by
  obtain ⟨l, rfl⟩ : ∃ k, l = k + 1 := ⟨l - 1, by omega⟩
  exact ee_first l
theorem ee_cat : ∀ n, n ≤ 9 → ee n 0 = [1, 1, 2, 5, 14, 42, 132, 429, 1430, 4862].getD n 0 := by decide +kernel

end Go.Proofs.Ytmlcbeekimiaiaa
