/-
  Plain facts on lists of bytes: words of brackets, their depths, parents, leaves and mirrors. Nothing of the program is named here.
-/
import Derived.WalkKit
namespace Go.Proofs.Ytchfnbcpjiiphaa

/-- one byte of a word: how many pairs are open behind it -/
def vstep (o : Option Nat) (c : UInt8) : Option Nat :=
  match o with
  | none => none
  | some k => if c.toNat = 40 then some (k + 1) else if c.toNat = 41 then (if k = 0 then none else some (k - 1)) else none

def scan (l : List UInt8) : Option Nat := l.foldl vstep (some 0)

theorem scan_nil : scan [] = some 0 := rfl
theorem scan_snoc (l : List UInt8) (c : UInt8) : scan (l ++ [c]) = vstep (scan l) c := by simp [scan, List.foldl_append]

theorem fold_none (l : List UInt8) : l.foldl vstep none = none := by
  induction l with
  | nil => rfl
  | cons c r ih => simpa [vstep] using ih

theorem scan_append (l r : List UInt8) : scan (l ++ r) = r.foldl vstep (scan l) := by simp [scan, List.foldl_append]

theorem scan_take_none (l : List UInt8) (k : Nat) (h : scan (l.take k) = none) : scan l = none := by
  have e : l = l.take k ++ l.drop k := (List.take_append_drop k l).symm
  rw [e, scan_append, h, fold_none]

/-- is the list a word? -/
def valid (l : List UInt8) : Bool := decide (l.length ≤ 18) && (scan l == some 0)

theorem take_snoc (l : List UInt8) (k : Nat) (h : k < l.length) : l.take (k + 1) = l.take k ++ [l[k]] := by
  rw [List.take_succ_eq_append_getElem h]

theorem scan_step (l : List UInt8) (k : Nat) (h : k < l.length) : scan (l.take (k + 1)) = vstep (scan (l.take k)) l[k] := by
  rw [take_snoc l k h, scan_snoc]

theorem scan_le (l : List UInt8) : ∀ o, scan l = some o → o ≤ l.length := by
  suffices H : ∀ (l : List UInt8) (a o : Nat), l.foldl vstep (some a) = some o → o ≤ a + l.length by
    intro o h; have := H l 0 o h; omega
  intro l
  induction l with
  | nil => intro a o h; simp at h; subst h; simp
  | cons c r ih =>
    intro a o h
    simp only [List.foldl_cons] at h
    by_cases h1 : c.toNat = 40
    · rw [show vstep (some a) c = some (a + 1) by simp [vstep, h1]] at h
      have := ih _ _ h; simp; omega
    · by_cases h2 : c.toNat = 41
      · by_cases h3 : a = 0
        · rw [show vstep (some a) c = none by simp [vstep, h2, h3], fold_none] at h; simp at h
        · rw [show vstep (some a) c = some (a - 1) by simp [vstep, h2, h3]] at h
          have := ih _ _ h; simp; omega
      · rw [show vstep (some a) c = none by simp [vstep, h1, h2], fold_none] at h; simp at h

theorem fold_low : ∀ (r : List UInt8) (o : Nat), r.foldl vstep (some o) = some 0 → o ≤ r.length := by
  intro r
  induction r with
  | nil => intro o h; simp at h; omega
  | cons c r ih =>
    intro o h
    simp only [List.foldl_cons] at h
    by_cases h1 : c.toNat = 40
    · rw [show vstep (some o) c = some (o + 1) by simp [vstep, h1]] at h
      have := ih _ h; simp; omega
    · by_cases h2 : c.toNat = 41
      · by_cases h3 : o = 0
        · simp; omega
        · rw [show vstep (some o) c = some (o - 1) by simp [vstep, h2, h3]] at h
          have := ih _ h; simp; omega
      · rw [show vstep (some o) c = none by simp [vstep, h1, h2], fold_none] at h; simp at h

/-! ### mirrors, leaves -/
def flip (c : UInt8) : UInt8 := if c.toNat = 40 then 41 else 40
def mirrorL (l : List UInt8) : List UInt8 := (l.map flip).reverse

/-- how many places have a ( with a ) right behind it -/
def leavesL : List UInt8 → Nat
  | a :: b :: r => (if a.toNat = 40 ∧ b.toNat = 41 then 1 else 0) + leavesL (b :: r)
  | _ => 0

/-! ### depths, parents -/
def stepOP (st : List (List Nat) × List Nat) (c : UInt8) : List (List Nat) × List Nat :=
  if c.toNat = 41 then (st.1, st.2.dropLast) else (st.1 ++ [st.2], st.2 ++ [st.1.length])
/-- for each pair those that it is in, the outermost first; those that are open -/
def openP (l : List UInt8) : List (List Nat) × List Nat := l.foldl stepOP ([], [])
theorem openP_snoc (l : List UInt8) (c : UInt8) : openP (l ++ [c]) = stepOP (openP l) c := by simp [openP, List.foldl_append]

def lastOr (l : List Nat) : Int := match l.getLast? with | some k => k | none => -1
def depthsL (l : List UInt8) : List Int := (openP l).1.map fun r => (r.length : Int)
def parentsL (l : List UInt8) : List Int := (openP l).1.map lastOr

/-! ### words from depths -/
def stepW (st : Option (List UInt8 × Nat)) (x : Int) : Option (List UInt8 × Nat) :=
  match st with
  | none => none
  | some (w, o) => if 0 ≤ x ∧ x ≤ o then some (w ++ List.replicate (o - x.toNat) 41 ++ [40], x.toNat + 1) else none
def wodF (d : List Int) : Option (List UInt8 × Nat) := d.foldl stepW (some ([], 0))
def wod (d : List Int) : Option (List UInt8) := if d.length ≤ 9 then (wodF d).map fun p => p.1 ++ List.replicate p.2 41 else none

/-! ### all words -/
def wordsL : Nat → List UInt8 → Nat → Nat → List (List UInt8)
  | 0, h, _, _ => [h]
  | f + 1, h, o, l => (if 0 < l then wordsL f (h ++ [40]) (o + 1) (l - 1) else []) ++ (if 0 < o then wordsL f (h ++ [41]) (o - 1) l else [])

theorem wordsL_mem : ∀ (r h : List UInt8) (f o l : Nat), r.foldl vstep (some o) = some 0 → r.length = f → 2 * l + o = f → h ++ r ∈ wordsL f h o l := by
  intro r
  induction r with
  | nil => intro h f o l h1 h2 h3; simp at h2; subst h2; simp [wordsL]
  | cons c r ih =>
    intro h f o l h1 h2 h3
    obtain ⟨f, rfl⟩ : ∃ g, f = g + 1 := ⟨r.length, by simpa using h2.symm⟩
    simp only [List.length_cons] at h2
    simp only [List.foldl_cons] at h1
    rw [wordsL, List.mem_append]
    have e : h ++ c :: r = (h ++ [c]) ++ r := by simp
    by_cases h4 : c.toNat = 40
    · have hc : c = 40 := UInt8.toNat_inj.1 (by simpa using h4)
      rw [show vstep (some o) c = some (o + 1) by simp [vstep, h4]] at h1
      have hl : 0 < l := by
        rcases Nat.eq_zero_or_pos l with h0 | h0
        · exfalso
          have := fold_low r (o + 1) h1
          omega
        · exact h0
      left
      rw [if_pos hl, e, hc]
      exact ih _ _ _ _ h1 (by omega) (by omega)
    · by_cases h5 : c.toNat = 41
      · have hc : c = 41 := UInt8.toNat_inj.1 (by simpa using h5)
        by_cases h6 : o = 0
        · rw [show vstep (some o) c = none by simp [vstep, h5, h6], fold_none] at h1; simp at h1
        · rw [show vstep (some o) c = some (o - 1) by simp [vstep, h5, h6]] at h1
          right
          rw [if_pos (by omega), e, hc]
          exact ih _ _ _ _ h1 (by omega) (by omega)
      · rw [show vstep (some o) c = none by simp [vstep, h4, h5], fold_none] at h1; simp at h1

/-- the words of up to nine pairs -/
def allW : List (List UInt8) := (List.range 10).flatMap fun n => wordsL (2 * n) [] 0 n

theorem fold_even (l : List UInt8) : ∀ a o, l.foldl vstep (some a) = some o → (a + l.length) % 2 = o % 2 := by
  induction l with
  | nil => intro a o h; simp at h; subst h; simp
  | cons c r ih =>
    intro a o h
    simp only [List.foldl_cons] at h
    by_cases h1 : c.toNat = 40
    · rw [show vstep (some a) c = some (a + 1) by simp [vstep, h1]] at h
      have := ih _ _ h; simp; omega
    · by_cases h2 : c.toNat = 41
      · by_cases h3 : a = 0
        · rw [show vstep (some a) c = none by simp [vstep, h2, h3], fold_none] at h; simp at h
        · rw [show vstep (some a) c = some (a - 1) by simp [vstep, h2, h3]] at h
          have := ih _ _ h; simp; omega
      · rw [show vstep (some a) c = none by simp [vstep, h1, h2], fold_none] at h; simp at h

theorem valid_mem (l : List UInt8) (h : valid l = true) : l ∈ allW := by
  simp only [valid, Bool.and_eq_true, decide_eq_true_eq, beq_iff_eq] at h
  obtain ⟨h1, h2⟩ := h
  have he := fold_even l 0 0 h2
  refine List.mem_flatMap.2 ⟨l.length / 2, List.mem_range.2 (by omega), ?_⟩
  have := wordsL_mem l [] (2 * (l.length / 2)) 0 (l.length / 2) h2 (by omega) (by omega)
  simpa using this

/-- what is so of all listed words is so of every word -/
theorem of_all (P : List UInt8 → Bool) (h : allW.all P = true) (l : List UInt8) (hv : valid l = true) : P l = true :=
  List.all_eq_true.1 h l (valid_mem l hv)

end Go.Proofs.Ytchfnbcpjiiphaa
