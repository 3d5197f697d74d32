/-
  Words on slices that a call itself makes: where they lie, and what keeps them.
  Plain facts on giving out words one by one, some beginnings cut, and on how many ways a word ends. Nothing of the program is named here.
  Plain facts on ranks of words, and on words of ranks. Nothing of the program is named here.
  Plain facts on words as two-armed trees, as rows of a stack, as cut polygons. Nothing of the program is named here.
  Plain facts on the pairs that are open at each place of a word.
  Words on lists of numbers in the call's own memory.
  Words on lists of rows of numbers in the call's own memory.
  Plain facts on the word behind one, and tables of in how many ways a word ends. Nothing of the program is named here.
  Plain facts: of the words that are not behind a word all beginnings are cut, and the first one left is the word behind. Nothing of the program is named here.
  Plain facts on the rows of two-armed trees. Nothing of the program is named here.
  Plain facts: the rows of a word are a tree, that tree spells the word, its nodes between their arms are the word's row behind a stack. Nothing of the program is named here.
  Plain facts: rows that are a tree are the rows of the word that they spell. Nothing of the program is named here.
  Plain facts on words as trees of two arms: their texts, their turns. Nothing of the program is named here.
  Plain facts on lists of texts byte by byte, each one once. Nothing of the program is named here.
  Plain facts: how many turns two words are apart, reckoned by layers; all words of up to four pairs, and the most turns between them. Nothing of the program is named here.
  Plain facts: the words one turn away, collected bracket by bracket; a list sorted by a library. Nothing of the program is named here.
  Plain facts: how many nodes of a word are in others, told by its depths. Nothing of the program is named here.
-/
import Derived.WalkKit
import Derived.Deep.AppendLies
import Derived.Laws.CopyOwn
import Derived.Lib.OthersKept
import Derived.Test.YtcfenbienebbjaaWords
import Derived.Test.YtcfenbienebbjaaZV
import Derived.Deep.QuietTactic
import GoSem.Op.String
namespace Go.Proofs.Ytcfenbienebbjaa
open Go.RowKit

/-- a row of the call's own that lies in blocks from B on and below H -/
def Own (w : World) (B H : Nat) (t : TypeId) (v : Value) (xs : List Value) : Prop :=
  w.ownsRow B t 1 v xs.length xs ∧ ∀ g, v.ownBlock = some g → g < H

section
variable {w w' : World} {B H H' : Nat} {t t' : TypeId} {v v' : Value} {xs ys : List Value}

theorem Own.more (h : Own w B H t v xs) (hH : H ≤ H') : Own w B H' t v xs := ⟨h.1, fun g hg => Nat.lt_of_lt_of_le (h.2 g hg) hH⟩
theorem Own.of_own (h : w.ownsRow B t 1 v xs.length xs) : Own w B w.heap.size t v xs := ⟨h, fun g hg => (h.lt g hg).2⟩
theorem own_of_blocks {n : Nat} (h : w.ownsRow B t 1 v n xs) (hb : ∀ g, v.ownBlock = some g → w'.heap[g]? = w.heap[g]?) : w'.ownsRow B t 1 v n xs := by
  refine ⟨h.1, ?_⟩
  rcases h.2 with hn | ⟨g, cap, cur, rfl, h1, h2, rest⟩
  · exact .inl hn
  · exact .inr ⟨g, cap, cur, rfl, h1, by rw [hb g rfl]; exact h2, rest⟩
theorem Own.below (h : Own w B H t v xs) (hb : Below H w w') : Own w' B H t v xs :=
  ⟨own_of_blocks h.1 fun g hg => hb.block g (h.2 g hg), h.2⟩
theorem Own.grown {row : Option Nat} (h : Own w B H t v xs) (hg : w.grownBy w' row) (hne : v.ownBlock = none ∨ v.ownBlock ≠ row) : Own w' B H t v xs :=
  ⟨h.1.kept hg hne, h.2⟩
theorem Own.alloc (h : Own w B H t v xs) (o : Obj) : Own (w.alloc o) B H t v xs := ⟨h.1.alloc o, h.2⟩
/-- rows of different element types never share a block -/
theorem Own.ne {B' : Nat} (h : Own w B H t v xs) (h' : Own w B' H' t' v' ys) (ht : t ≠ t') : v.ownBlock = none ∨ v.ownBlock ≠ v'.ownBlock := by
  rcases h.1.2 with ⟨rfl, _⟩ | ⟨g, cap, cur, rfl, _, h2, _⟩
  · exact .inl rfl
  · right
    rcases h'.1.2 with ⟨rfl, _⟩ | ⟨g', cap', cur', rfl, _, h2', _⟩
    · simp [Value.ownBlock]
    · intro e
      simp only [Value.ownBlock, Option.some.injEq] at e
      subst e
      rw [h2] at h2'
      simp only [Option.some.injEq, Obj.cells.injEq] at h2'
      exact ht h2'.2.1
theorem Own.slice (h : Own w B H t v xs) : ∃ ao cap, v = .slice ao xs.length cap ∧ (ao = none → xs.length = 0 ∧ cap = 0) ∧ xs.length ≤ cap ∧ cap ≤ maxLen ∧ ∀ a, ao = some a → ∃ g, a = ⟨g, 0, none⟩ ∧ B ≤ g ∧ g < H := by
  rcases h.1.2 with ⟨rfl, h0⟩ | ⟨g, cap, cur, rfl, h1, h2, h3, h4, _⟩
  · exact ⟨none, 0, by rw [h0], fun _ => ⟨h0, rfl⟩, by omega, by simp [maxLen], fun a ha => by cases ha⟩
  · exact ⟨some ⟨g, 0, none⟩, cap, rfl, (fun e => by cases e), h3, h4, fun a ha => ⟨g, by cases ha; rfl, h1, h.2 g rfl⟩⟩
/-- a cell of it, wherever it lies -/
theorem Own.cell (h : Own w B H t v xs) (j : Nat) (hj : j < xs.length) : ∃ g cap, v = .slice (some ⟨g, 0, none⟩) xs.length cap ∧ B ≤ g ∧ g < H ∧ w.cell? ⟨g, j, none⟩ = xs[j]? ∧ w.frozen? ⟨g, j, none⟩ = false := by
  rcases h.1.2 with ⟨rfl, h0⟩ | ⟨g, cap, cur, rfl, h1, h2, h3, h4, _⟩
  · omega
  · exact ⟨g, cap, rfl, h1, h.2 g rfl, h.1.cellAt j (by omega), h.1.frozenAt j⟩
/-- its last element dropped -/
theorem Own.pop {g cap n m : Nat} (h : Own w B H t (.slice (some ⟨g, 0, none⟩) m cap) xs) (hl : xs.length = n + 1) : Own w B H t (.slice (some ⟨g, 0, none⟩) n cap) xs.dropLast := by
  obtain ⟨⟨_, h7⟩, h8⟩ := h
  rcases h7 with ⟨h0, _⟩ | ⟨g', cap', cur, hv, h1, h2, h3, h4, h5, h6⟩
  · cases h0
  · have hg : g = g' ∧ cap = cap' := by simp only [Value.slice.injEq, Option.some.injEq, Addr.mk.injEq, and_true] at hv; exact ⟨hv.1, hv.2.2⟩
    obtain ⟨rfl, rfl⟩ := hg
    have hd : xs.dropLast.length = n := by rw [List.length_dropLast, hl]; rfl
    refine ⟨⟨by rw [hd]; omega, .inr ⟨g, cap, cur, by rw [hd], h1, h2, by rw [hd]; omega, h4, h5, ?_⟩⟩, fun q hq => h8 q hq⟩
    have e : xs.dropLast = xs.take n := by rw [List.dropLast_eq_take, hl]; rfl
    rw [hd, e, ← h6, List.take_take, hl]
    congr 1
    omega
/-- a row that is full is known whole -/
theorem own_full {g n : Nat} (h : w.ownsRow B t 1 (.slice (some ⟨g, 0, none⟩) n n) n xs) : w.heap[g]? = some (.cells xs.toArray t (0, 0)) := by
  rcases h.2 with ⟨h0, _⟩ | ⟨g', cap', cur, hv, h1, h2, h3, h4, h5, h6⟩
  · cases h0
  · cases hv
    rw [h2, ← h6, List.take_of_length_le (by simp [h5])]
theorem own_of_full {g n : Nat} (hB : B ≤ g) (hn : n ≤ maxLen) (hl : xs.length = n) (h : w.heap[g]? = some (.cells xs.toArray t (0, 0))) : w.ownsRow B t 1 (.slice (some ⟨g, 0, none⟩) n n) n xs :=
  ⟨by simp [hl], .inr ⟨g, n, xs.toArray, rfl, hB, h, Nat.le_refl _, hn, by simp [hl], by simp [hl.symm]⟩⟩
end
end Go.Proofs.Ytcfenbienebbjaa

namespace Go.Proofs.Ytcfenbienebbjaa

/-- the words with a beginning, in order, but those that the cut cuts; the cut's state behind it -/
def gw {σ : Type} (cut : σ → List UInt8 → Nat → Nat → Bool × σ) : Nat → σ → List UInt8 → Nat → Nat → List (List UInt8) × σ
  | 0, s, h, o, l => if (cut s h o l).1 = true then ([], (cut s h o l).2) else ([h], (cut s h o l).2)
  | f + 1, s, h, o, l => if (cut s h o l).1 = true then ([], (cut s h o l).2) else
      ((if 0 < l then gw cut f (cut s h o l).2 (h ++ [40]) (o + 1) (l - 1) else ([], (cut s h o l).2)).1 ++
        (if 0 < o then gw cut f (if 0 < l then gw cut f (cut s h o l).2 (h ++ [40]) (o + 1) (l - 1) else ([], (cut s h o l).2)).2 (h ++ [41]) (o - 1) l
          else ([], (if 0 < l then gw cut f (cut s h o l).2 (h ++ [40]) (o + 1) (l - 1) else ([], (cut s h o l).2)).2)).1,
       (if 0 < o then gw cut f (if 0 < l then gw cut f (cut s h o l).2 (h ++ [40]) (o + 1) (l - 1) else ([], (cut s h o l).2)).2 (h ++ [41]) (o - 1) l
          else ([], (if 0 < l then gw cut f (cut s h o l).2 (h ++ [40]) (o + 1) (l - 1) else ([], (cut s h o l).2)).2)).2)

section
variable {σ : Type} {cut : σ → List UInt8 → Nat → Nat → Bool × σ}
theorem gw_cut (f : Nat) (s : σ) (h : List UInt8) (o l : Nat) (hc : (cut s h o l).1 = true) : gw cut f s h o l = ([], (cut s h o l).2) := by
  cases f <;> rw [gw, if_pos hc]
theorem gw_zero (s : σ) (h : List UInt8) (o l : Nat) (hc : (cut s h o l).1 = false) : gw cut 0 s h o l = ([h], (cut s h o l).2) := by
  rw [gw, if_neg (by rw [hc]; decide)]
theorem gw_both (f : Nat) (s : σ) (h : List UInt8) (o l : Nat) (hc : (cut s h o l).1 = false) (hl : 0 < l) (ho : 0 < o) :
    gw cut (f + 1) s h o l =
      ((gw cut f (cut s h o l).2 (h ++ [40]) (o + 1) (l - 1)).1 ++ (gw cut f (gw cut f (cut s h o l).2 (h ++ [40]) (o + 1) (l - 1)).2 (h ++ [41]) (o - 1) l).1,
       (gw cut f (gw cut f (cut s h o l).2 (h ++ [40]) (o + 1) (l - 1)).2 (h ++ [41]) (o - 1) l).2) := by
  rw [gw, if_neg (by rw [hc]; decide), if_pos hl, if_pos ho]
theorem gw_open (f : Nat) (s : σ) (h : List UInt8) (o l : Nat) (hc : (cut s h o l).1 = false) (hl : 0 < l) (ho : ¬ 0 < o) :
    gw cut (f + 1) s h o l = gw cut f (cut s h o l).2 (h ++ [40]) (o + 1) (l - 1) := by
  rw [gw, if_neg (by rw [hc]; decide), if_pos hl, if_neg ho, List.append_nil]
theorem gw_shut (f : Nat) (s : σ) (h : List UInt8) (o l : Nat) (hc : (cut s h o l).1 = false) (hl : ¬ 0 < l) (ho : 0 < o) :
    gw cut (f + 1) s h o l = gw cut f (cut s h o l).2 (h ++ [41]) (o - 1) l := by
  rw [gw, if_neg (by rw [hc]; decide), if_neg hl, if_pos ho, List.nil_append]

theorem gw_le (f : Nat) : ∀ (s : σ) (h : List UInt8) (o l : Nat), (gw cut f s h o l).1.length ≤ 2 ^ f := by
  induction f with
  | zero =>
    intro s h o l
    cases hc : (cut s h o l).1
    · rw [gw_zero s h o l hc]; simp
    · rw [gw_cut 0 s h o l hc]; simp
  | succ f ih =>
    intro s h o l
    have h1 := ih (cut s h o l).2 (h ++ [40]) (o + 1) (l - 1)
    have h2 := ih (gw cut f (cut s h o l).2 (h ++ [40]) (o + 1) (l - 1)).2 (h ++ [41]) (o - 1) l
    have h3 := ih (cut s h o l).2 (h ++ [41]) (o - 1) l
    rw [Nat.pow_succ]
    cases hc : (cut s h o l).1
    · by_cases hl : 0 < l
      · by_cases ho : 0 < o
        · rw [gw_both f s h o l hc hl ho, List.length_append]; omega
        · rw [gw_open f s h o l hc hl ho]; omega
      · by_cases ho : 0 < o
        · rw [gw_shut f s h o l hc hl ho]; omega
        · rw [gw, if_neg (by rw [hc]; decide), if_neg hl, if_neg ho]; simp
    · rw [gw_cut _ s h o l hc]; simp

/-- each word given out has so many bytes -/
theorem gw_len (f : Nat) : ∀ (s : σ) (h : List UInt8) (o l : Nat), 2 * l + o = f → ∀ x ∈ (gw cut f s h o l).1, x.length = h.length + f := by
  induction f with
  | zero =>
    intro s h o l _ x hx
    cases hc : (cut s h o l).1
    · rw [gw_zero s h o l hc] at hx; simp at hx; subst hx; rfl
    · rw [gw_cut 0 s h o l hc] at hx; simp at hx
  | succ f ih =>
    intro s h o l hf x hx
    cases hc : (cut s h o l).1
    · by_cases hl : 0 < l
      · by_cases ho : 0 < o
        · rw [gw_both f s h o l hc hl ho, List.mem_append] at hx
          rcases hx with hx | hx
          · have := ih _ _ _ _ (by omega) x hx; simp at this; omega
          · have := ih _ _ _ _ (by omega) x hx; simp at this; omega
        · rw [gw_open f s h o l hc hl ho] at hx
          have := ih _ _ _ _ (by omega) x hx; simp at this; omega
      · rw [gw_shut f s h o l hc hl (by omega)] at hx
        have := ih _ _ _ _ (by omega) x hx; simp at this; omega
    · rw [gw_cut _ s h o l hc] at hx; simp at hx

/-- each word given out is one, if what it begins with can be gone on with -/
theorem gw_scan (f : Nat) : ∀ (s : σ) (h : List UInt8) (o l : Nat), 2 * l + o = f → scan h = some o → ∀ x ∈ (gw cut f s h o l).1, scan x = some 0 := by
  induction f with
  | zero =>
    intro s h o l hf hs x hx
    cases hc : (cut s h o l).1
    · rw [gw_zero s h o l hc] at hx; simp at hx; subst hx; rw [hs]; congr 1; omega
    · rw [gw_cut 0 s h o l hc] at hx; simp at hx
  | succ f ih =>
    intro s h o l hf hs x hx
    have e1 : scan (h ++ [40]) = some (o + 1) := by rw [scan_snoc, hs]; rfl
    have e2 : 0 < o → scan (h ++ [41]) = some (o - 1) := fun ho => by rw [scan_snoc, hs]; simp [vstep]; omega
    cases hc : (cut s h o l).1
    · by_cases hl : 0 < l
      · by_cases ho : 0 < o
        · rw [gw_both f s h o l hc hl ho, List.mem_append] at hx
          rcases hx with hx | hx
          · exact ih _ _ _ _ (by omega) e1 x hx
          · exact ih _ _ _ _ (by omega) (e2 ho) x hx
        · rw [gw_open f s h o l hc hl ho] at hx
          exact ih _ _ _ _ (by omega) e1 x hx
      · rw [gw_shut f s h o l hc hl (by omega)] at hx
        exact ih _ _ _ _ (by omega) (e2 (by omega)) x hx
    · rw [gw_cut _ s h o l hc] at hx; simp at hx
end

/-- nothing is cut -/
def cutNone : Unit → List UInt8 → Nat → Nat → Bool × Unit := fun _ _ _ _ => (false, ())
theorem gw_none (f : Nat) : ∀ (s : Unit) (h : List UInt8) (o l : Nat), 2 * l + o = f → (gw cutNone f s h o l).1 = wordsL f h o l := by
  induction f with
  | zero => intro s h o l _; rw [gw_zero s h o l rfl]; rfl
  | succ f ih =>
    intro s h o l hf
    by_cases hl : 0 < l
    · by_cases ho : 0 < o
      · rw [gw_both f s h o l rfl hl ho, ih _ _ _ _ (by omega), ih _ _ _ _ (by omega), wordsL, if_pos hl, if_pos ho]
      · rw [gw_open f s h o l rfl hl ho, ih _ _ _ _ (by omega), wordsL, if_pos hl, if_neg ho, List.append_nil]
    · rw [gw_shut f s h o l rfl hl (by omega), ih _ _ _ _ (by omega), wordsL, if_neg hl, if_pos (by omega), List.nil_append]

/-! ### in how many ways a word ends -/
def ee : Nat → Nat → Nat
  | 0 => fun _ => 1
  | l + 1 => fun o => Nat.rec (motive := fun _ => Nat) (ee l 1) (fun o ih => ee l (o + 2) + ih) o
theorem ee_zero (o : Nat) : ee 0 o = 1 := rfl
theorem ee_first (l : Nat) : ee (l + 1) 0 = ee l 1 := rfl
theorem ee_next (l o : Nat) : ee (l + 1) (o + 1) = ee l (o + 2) + ee (l + 1) o := rfl
theorem ee_bd : ∀ l, l ≤ 9 → ∀ o, o ≤ 9 - l → 1 ≤ ee l o ∧ ee l o ≤ 4862 := by decide +kernel
theorem ee_step (l o : Nat) (hl : 0 < l) (ho : 0 < o) : ee l o = ee (l - 1) (o + 1) + ee l (o - 1) := by
  obtain ⟨l, rfl⟩ : ∃ k, l = k + 1 := ⟨l - 1, by omega⟩
  obtain ⟨o, rfl⟩ : ∃ k, o = k + 1 := ⟨o - 1, by omega⟩
  exact ee_next l o
theorem ee_open (l : Nat) (hl : 0 < l) : ee l 0 = ee (l - 1) 1 := by
  obtain ⟨l, rfl⟩ : ∃ k, l = k + 1 := ⟨l - 1, by omega⟩
  exact ee_first l
theorem ee_cat : ∀ n, n ≤ 9 → ee n 0 = [1, 1, 2, 5, 14, 42, 132, 429, 1430, 4862].getD n 0 := by decide +kernel

end Go.Proofs.Ytcfenbienebbjaa

namespace Go.Proofs.Ytcfenbienebbjaa

/-- one byte of a word: the rank so far, how many pairs are open, how many are left -/
def rstep (st : Nat × Nat × Nat) (c : UInt8) : Nat × Nat × Nat :=
  if c.toNat = 40 then (st.1, st.2.1 + 1, st.2.2 - 1) else (if 0 < st.2.2 then st.1 + ee (st.2.2 - 1) (st.2.1 + 1) else st.1, st.2.1 - 1, st.2.2)
def rankL (s : List UInt8) : Nat := (s.foldl rstep (0, 0, s.length / 2)).1

/-- behind k bytes of the word s -/
def Rk (s : List UInt8) (k r o l : Nat) : Prop := (s.take k).foldl rstep (0, 0, s.length / 2) = (r, o, l) ∧ scan (s.take k) = some o ∧ 2 * l + o + k = s.length ∧ r ≤ 4862 * k ∧ k ≤ s.length

theorem valid_scan {s : List UInt8} (h : valid s = true) : scan s = some 0 ∧ s.length ≤ 18 := by
  simp only [valid, Bool.and_eq_true, decide_eq_true_eq, beq_iff_eq] at h
  exact ⟨h.2, h.1⟩
theorem Rk.start {s : List UInt8} (h : valid s = true) : Rk s 0 0 0 (s.length / 2) := by
  have := fold_even s 0 0 (valid_scan h).1
  exact ⟨rfl, rfl, by omega, by omega, by omega⟩
theorem rest_low {s : List UInt8} {k o : Nat} (h : valid s = true) (hs : scan (s.take k) = some o) : o ≤ s.length - k := by
  have e : scan s = (s.drop k).foldl vstep (some o) := by rw [← hs, ← scan_append, List.take_append_drop]
  have := fold_low (s.drop k) o (by rw [← e]; exact (valid_scan h).1)
  simpa using this
theorem fold_take {α β : Type} (f : α → β → α) (a : α) (s : List β) (k : Nat) (h : k < s.length) : (s.take (k + 1)).foldl f a = f ((s.take k).foldl f a) s[k] := by
  rw [List.take_succ_eq_append_getElem h, List.foldl_append]; rfl
theorem Rk.opn {s : List UInt8} {k r o l : Nat} (hv : valid s = true) (h : Rk s k r o l) (hk : k < s.length) (hc : s[k].toNat = 40) : Rk s (k + 1) r (o + 1) (l - 1) ∧ 0 < l ∧ o + l ≤ 9 := by
  obtain ⟨h1, h2, h3, h4, h5⟩ := h
  have hs : scan (s.take (k + 1)) = some (o + 1) := by rw [scan_step s k hk, h2]; simp [vstep, hc]
  have := rest_low hv hs
  have := (valid_scan hv).2
  refine ⟨⟨?_, hs, by omega, by omega, by omega⟩, by omega, ?_⟩
  · rw [fold_take _ _ _ _ hk, h1]; simp [rstep, hc]
  · have := scan_le _ _ h2; simp at this; omega
theorem Rk.cls {s : List UInt8} {k r o l : Nat} (hv : valid s = true) (h : Rk s k r o l) (hk : k < s.length) (hc : s[k].toNat ≠ 40) : Rk s (k + 1) (if 0 < l then r + ee (l - 1) (o + 1) else r) (o - 1) l ∧ 0 < o ∧ o + l ≤ 9 ∧ r ≤ 90000 ∧ s[k].toNat = 41 := by
  obtain ⟨h1, h2, h3, h4, h5⟩ := h
  have h9 : o + l ≤ 9 := by have := scan_le _ _ h2; simp at this; have := (valid_scan hv).2; omega
  have hs0 : scan (s.take (k + 1)) ≠ none := fun e => by
    have := scan_take_none s (k + 1) e
    rw [(valid_scan hv).1] at this; cases this
  rw [scan_step s k hk, h2] at hs0
  simp only [vstep, if_neg hc] at hs0
  have hc1 : s[k].toNat = 41 := by
    apply Classical.byContradiction
    intro e; rw [if_neg e] at hs0; exact hs0 rfl
  rw [if_pos hc1] at hs0
  have ho : 0 < o := by
    apply Classical.byContradiction
    intro e; rw [if_pos (by omega)] at hs0; exact hs0 rfl
  have hs : scan (s.take (k + 1)) = some (o - 1) := by rw [scan_step s k hk, h2]; simp only [vstep, if_neg hc, if_pos hc1, if_neg (show ¬ o = 0 by omega)]
  have := (valid_scan hv).2
  refine ⟨⟨?_, hs, by omega, ?_, by omega⟩, ho, h9, by omega, hc1⟩
  · rw [fold_take _ _ _ _ hk, h1]; simp only [rstep, if_neg hc]
  · split
    · have := (ee_bd (l - 1) (by omega) (o + 1) (by omega)).2; omega
    · omega
theorem Rk.stop {s : List UInt8} {k r o l : Nat} (h : Rk s k r o l) (hk : k = s.length) : rankL s = r := by
  subst hk
  have := h.1
  rw [List.take_of_length_le (Nat.le_refl _)] at this
  rw [rankL, this]
theorem Rk.high {s : List UInt8} {k r o l : Nat} (hv : valid s = true) (h : Rk s k r o l) (hk : k < s.length) : s[k].toNat < 128 := by
  by_cases hc : s[k].toNat = 40
  · omega
  · have := (h.cls hv hk hc).2.2.2.2; omega

/-! ### the word of a rank -/
def wat : Nat → Nat → Nat → Nat → List UInt8
  | 0, _, _, _ => []
  | f + 1, r, o, l => if r < (if 0 < l then ee (l - 1) (o + 1) else 0) then 40 :: wat f r (o + 1) (l - 1) else 41 :: wat f (r - (if 0 < l then ee (l - 1) (o + 1) else 0)) (o - 1) l
theorem wat_opn (f r o l : Nat) (hl : 0 < l) (h : r < ee (l - 1) (o + 1)) : wat (f + 1) r o l = 40 :: wat f r (o + 1) (l - 1) := by rw [wat, if_pos hl, if_pos h]
theorem wat_cls (f r o l : Nat) (hl : 0 < l) (h : ¬ r < ee (l - 1) (o + 1)) : wat (f + 1) r o l = 41 :: wat f (r - ee (l - 1) (o + 1)) (o - 1) l := by rw [wat, if_pos hl, if_neg h]
theorem wat_end (f r o : Nat) : wat (f + 1) r o 0 = 41 :: wat f r (o - 1) 0 := by rw [wat, if_neg (Nat.lt_irrefl 0), if_neg (Nat.not_lt_zero r), Nat.sub_zero]
theorem low_open {r o l : Nat} (hl : 0 < l) (hr : r < ee l o) (h : ¬ r < ee (l - 1) (o + 1)) : 0 < o ∧ r - ee (l - 1) (o + 1) < ee l (o - 1) := by
  have ho : 0 < o := by
    apply Classical.byContradiction
    intro e
    obtain rfl : o = 0 := by omega
    rw [ee_open l hl] at hr; exact h hr
  rw [ee_step l o hl ho] at hr
  exact ⟨ho, by omega⟩

/-- beginnings ahead of a rank are cut -/
def cutAt : Nat → List UInt8 → Nat → Nat → Bool × Nat := fun a _ o l => if a < ee l o then (false, a) else (true, a - ee l o)
theorem cutAt_no {a o l : Nat} {h : List UInt8} (hr : a < ee l o) : cutAt a h o l = (false, a) := if_pos hr
theorem cutAt_yes {a o l : Nat} {h : List UInt8} (hr : ¬ a < ee l o) : cutAt a h o l = (true, a - ee l o) := if_neg hr
theorem gw_at (f : Nat) : ∀ (r : Nat) (h : List UInt8) (o l : Nat), 2 * l + o = f → r < ee l o → ∃ t, (gw cutAt f r h o l).1 = (h ++ wat f r o l) :: t := by
  induction f with
  | zero =>
    intro r h o l _ hr
    rw [gw_zero r h o l (by rw [cutAt_no hr])]
    exact ⟨[], by simp [wat]⟩
  | succ f ih =>
    intro r h o l hf hr
    have hc : (cutAt r h o l).1 = false := by rw [cutAt_no hr]
    have hs : (cutAt r h o l).2 = r := by rw [cutAt_no hr]
    by_cases hl : 0 < l
    · by_cases hk : r < ee (l - 1) (o + 1)
      · obtain ⟨t, ht⟩ := ih r (h ++ [40]) (o + 1) (l - 1) (by omega) hk
        rw [wat_opn f r o l hl hk]
        by_cases ho : 0 < o
        · rw [gw_both f r h o l hc hl ho, hs, ht]
          exact ⟨_, by rw [List.append_assoc]; rfl⟩
        · rw [gw_open f r h o l hc hl ho, hs, ht]
          exact ⟨_, by rw [List.append_assoc]; rfl⟩
      · obtain ⟨ho, hlt⟩ := low_open hl hr hk
        obtain ⟨t, ht⟩ := ih (r - ee (l - 1) (o + 1)) (h ++ [41]) (o - 1) l (by omega) hlt
        rw [wat_cls f r o l hl hk, gw_both f r h o l hc hl ho, hs, gw_cut f r (h ++ [40]) (o + 1) (l - 1) (by rw [cutAt_yes hk]), cutAt_yes hk, ht]
        exact ⟨_, by rw [List.append_assoc]; rfl⟩
    · obtain rfl : l = 0 := by omega
      obtain ⟨t, ht⟩ := ih r (h ++ [41]) (o - 1) 0 (by omega) hr
      rw [wat_end, gw_shut f r h o 0 hc hl (by omega), hs, ht]
      exact ⟨_, by rw [List.append_assoc]; rfl⟩
theorem wat_length (f : Nat) : ∀ r o l, (wat f r o l).length = f := by
  induction f with
  | zero => intros; rfl
  | succ f ih =>
    intro r o l
    rw [wat]
    by_cases h : r < (if 0 < l then ee (l - 1) (o + 1) else 0)
    · rw [if_pos h, List.length_cons, ih]
    · rw [if_neg h, List.length_cons, ih]

end Go.Proofs.Ytcfenbienebbjaa

namespace Go.Proofs.Ytcfenbienebbjaa

/-- how many bytes until what is open (d pairs) and what opens is closed -/
def cl : Nat → List UInt8 → Nat
  | _, [] => 0
  | d, c :: r => if c.toNat = 40 then 1 + cl (d + 1) r else if d ≤ 1 then 1 else 1 + cl (d - 1) r
theorem cl_opn (d : Nat) (c : UInt8) (r : List UInt8) (h : c.toNat = 40) : cl d (c :: r) = 1 + cl (d + 1) r := by rw [cl, if_pos h]
theorem cl_last (d : Nat) (c : UInt8) (r : List UInt8) (h : c.toNat ≠ 40) (hd : d ≤ 1) : cl d (c :: r) = 1 := by rw [cl, if_neg h, if_pos hd]
theorem cl_cls (d : Nat) (c : UInt8) (r : List UInt8) (h : c.toNat ≠ 40) (hd : ¬ d ≤ 1) : cl d (c :: r) = 1 + cl (d - 1) r := by rw [cl, if_neg h, if_neg hd]

theorem step_opn (d : Nat) {c : UInt8} (h : c.toNat = 40) : vstep (some d) c = some (d + 1) := by simp [vstep, h]
theorem step_cls {d : Nat} {c : UInt8} (h : c.toNat = 41) (hd : 0 < d) : vstep (some d) c = some (d - 1) := by simp [vstep, h]; omega
theorem step_some {d e : Nat} {c : UInt8} (h : vstep (some d) c = some e) : c.toNat = 40 ∨ (c.toNat = 41 ∧ 0 < d) := by
  by_cases h1 : c.toNat = 40
  · exact .inl h1
  · right
    by_cases h2 : c.toNat = 41
    · refine ⟨h2, ?_⟩
      apply Classical.byContradiction
      intro h0
      obtain rfl : d = 0 := by omega
      simp [vstep, h2] at h
    · simp [vstep, h1, h2] at h

theorem cl_split : ∀ (l : List UInt8) (d : Nat), 0 < d → l.foldl vstep (some d) = some 0 →
    1 ≤ cl d l ∧ cl d l ≤ l.length ∧ (l.take (cl d l - 1)).foldl vstep (some (d - 1)) = some 0 ∧ (l.drop (cl d l)).foldl vstep (some 0) = some 0 := by
  intro l
  induction l with
  | nil => intro d hd h; simp at h; omega
  | cons c r ih =>
    intro d hd h
    simp only [List.foldl_cons] at h
    have hs : ∃ e, vstep (some d) c = some e := by
      cases hv : vstep (some d) c with
      | none => rw [hv, fold_none] at h; cases h
      | some e => exact ⟨e, rfl⟩
    obtain ⟨e, he⟩ := hs
    rcases step_some he with hc | ⟨hc, _⟩
    · rw [step_opn d hc] at h
      obtain ⟨h1, h2, h3, h4⟩ := ih (d + 1) (by omega) h
      rw [cl_opn d c r hc]
      refine ⟨by omega, by simp; omega, ?_, ?_⟩
      · rw [show 1 + cl (d + 1) r - 1 = (cl (d + 1) r - 1) + 1 by omega, List.take_succ_cons, List.foldl_cons, step_opn _ hc, show d - 1 + 1 = d + 1 - 1 by omega]
        exact h3
      · rw [show 1 + cl (d + 1) r = cl (d + 1) r + 1 by omega, List.drop_succ_cons]; exact h4
    · have hn : c.toNat ≠ 40 := by omega
      rw [step_cls hc hd] at h
      by_cases h1 : d ≤ 1
      · rw [cl_last d c r hn h1]
        obtain rfl : d = 1 := by omega
        exact ⟨by omega, by simp, rfl, h⟩
      · obtain ⟨k1, k2, k3, k4⟩ := ih (d - 1) (by omega) h
        rw [cl_cls d c r hn h1]
        refine ⟨by omega, by simp; omega, ?_, ?_⟩
        · rw [show 1 + cl (d - 1) r - 1 = (cl (d - 1) r - 1) + 1 by omega, List.take_succ_cons, List.foldl_cons, step_cls hc (by omega)]
          exact k3
        · rw [show 1 + cl (d - 1) r = cl (d - 1) r + 1 by omega, List.drop_succ_cons]; exact k4

/-- what is in the first pair, and what is behind it -/
def fstL (s : List UInt8) : List UInt8 := (s.drop 1).take (cl 0 s - 2)
def rstL (s : List UInt8) : List UInt8 := s.drop (cl 0 s)
theorem parts_ok {s : List UInt8} (h : scan s = some 0) (hs : s ≠ []) : 2 ≤ cl 0 s ∧ cl 0 s ≤ s.length ∧ scan (fstL s) = some 0 ∧ scan (rstL s) = some 0 ∧ (fstL s).length = cl 0 s - 2 ∧ (fstL s).length + (rstL s).length + 2 = s.length := by
  cases s with
  | nil => exact absurd rfl hs
  | cons c r =>
    have h' : r.foldl vstep (vstep (some 0) c) = some 0 := h
    have hst : ∃ e, vstep (some 0) c = some e := by
      cases hv : vstep (some 0) c with
      | none => rw [hv, fold_none] at h'; cases h'
      | some e => exact ⟨e, rfl⟩
    obtain ⟨e, he⟩ := hst
    rcases step_some he with hc | ⟨_, h0⟩
    · rw [step_opn 0 hc] at h'
      obtain ⟨h1, h2, h3, h4⟩ := cl_split r 1 (by omega) h'
      have hk : cl 0 (c :: r) = 1 + cl 1 r := cl_opn 0 c r hc
      have hf : fstL (c :: r) = r.take (cl 1 r - 1) := by
        rw [fstL, hk, List.drop_succ_cons, List.drop_zero, show 1 + cl 1 r - 2 = cl 1 r - 1 by omega]
      have hr : rstL (c :: r) = r.drop (cl 1 r) := by
        rw [rstL, hk, show 1 + cl 1 r = cl 1 r + 1 by omega, List.drop_succ_cons]
      rw [hf, hr, hk]
      refine ⟨by omega, by simp; omega, h3, h4, by simp; omega, by simp; omega⟩
    · omega

/-- the rows of a word's nodes, numbered from one on -/
def binL : Nat → List UInt8 → Nat → List (List Int)
  | 0, _, _ => []
  | f + 1, s, at_ => if s = [] then [] else
      [if fstL s = [] then -1 else (at_ : Int) + 1, if rstL s = [] then -1 else (at_ : Int) + 1 + ((fstL s).length / 2 : Nat)] ::
        (binL f (fstL s) (at_ + 1) ++ binL f (rstL s) (at_ + 1 + (fstL s).length / 2))
theorem binL_nil (f at_ : Nat) : binL f [] at_ = [] := by cases f <;> rfl
theorem binL_cons (f at_ : Nat) (s : List UInt8) (h : s ≠ []) : binL (f + 1) s at_ = [if fstL s = [] then -1 else (at_ : Int) + 1, if rstL s = [] then -1 else (at_ : Int) + 1 + ((fstL s).length / 2 : Nat)] ::
        (binL f (fstL s) (at_ + 1) ++ binL f (rstL s) (at_ + 1 + (fstL s).length / 2)) := by rw [binL, if_neg h]
theorem binL_length (f : Nat) : ∀ (s : List UInt8) (at_ : Nat), scan s = some 0 → s.length ≤ f → (binL f s at_).length = s.length / 2 := by
  induction f with
  | zero => intro s at_ _ h; rw [List.eq_nil_of_length_eq_zero (by omega : s.length = 0)]; rfl
  | succ f ih =>
    intro s at_ hs hf
    by_cases h : s = []
    · rw [h, binL_nil]; rfl
    · obtain ⟨_, _, k3, k4, _, k6⟩ := parts_ok hs h
      have e1 := fold_even _ 0 0 k3
      have e2 := fold_even _ 0 0 k4
      rw [binL_cons _ _ _ h, List.length_cons, List.length_append, ih _ _ k3 (by omega), ih _ _ k4 (by omega)]
      omega

/-- the triangles of a word over the corners from one to another one -/
def fansL : Nat → List UInt8 → Nat → Nat → List (List Int)
  | 0, _, _, _ => []
  | f + 1, s, lo, hi => if s = [] then [] else
      [(lo : Int), ((lo + 1 + (fstL s).length / 2 : Nat) : Int), (hi : Int)] :: (fansL f (fstL s) lo (lo + 1 + (fstL s).length / 2) ++ fansL f (rstL s) (lo + 1 + (fstL s).length / 2) hi)
theorem fansL_nil (f lo hi : Nat) : fansL f [] lo hi = [] := by cases f <;> rfl
theorem fansL_cons (f lo hi : Nat) (s : List UInt8) (h : s ≠ []) : fansL (f + 1) s lo hi =
      [(lo : Int), ((lo + 1 + (fstL s).length / 2 : Nat) : Int), (hi : Int)] :: (fansL f (fstL s) lo (lo + 1 + (fstL s).length / 2) ++ fansL f (rstL s) (lo + 1 + (fstL s).length / 2) hi) := by rw [fansL, if_neg h]
theorem fansL_length (f : Nat) : ∀ (s : List UInt8) (lo hi : Nat), scan s = some 0 → s.length ≤ f → (fansL f s lo hi).length = s.length / 2 := by
  induction f with
  | zero => intro s lo hi _ h; rw [List.eq_nil_of_length_eq_zero (by omega : s.length = 0)]; rfl
  | succ f ih =>
    intro s lo hi hs hf
    by_cases h : s = []
    · rw [h, fansL_nil]; rfl
    · obtain ⟨_, _, k3, k4, _, k6⟩ := parts_ok hs h
      have e1 := fold_even _ 0 0 k3
      have e2 := fold_even _ 0 0 k4
      rw [fansL_cons _ _ _ _ h, List.length_cons, List.length_append, ih _ _ _ k3 (by omega), ih _ _ _ k4 (by omega)]
      omega

/-- numbers behind a stack -/
def stepS (st : List Nat × List Nat × Nat) (c : UInt8) : List Nat × List Nat × Nat :=
  if c.toNat = 40 then (st.1 ++ [st.2.2], st.2.1, st.2.2 + 1) else (st.1.dropLast, st.2.1 ++ [st.1.getLastD 0], st.2.2)
def stackF (s : List UInt8) : List Nat × List Nat × Nat := s.foldl stepS ([], [], 0)
def stackL (s : List UInt8) : List Int := (stackF s).2.1.map fun (k : Nat) => (k : Int)

/-- the nodes of a two-armed tree from one on, each one between its arms -/
def btwL (rows : List (List Int)) : Nat → Int → List Int
  | 0, _ => []
  | f + 1, x => if x < 0 then [] else btwL rows f ((rows.getD x.toNat []).getD 0 (-1)) ++ [x] ++ btwL rows f ((rows.getD x.toNat []).getD 1 (-1))
/-- the word of a two-armed tree from a node on -/
def wobL (rows : List (List Int)) : Nat → Int → List UInt8
  | 0, _ => []
  | f + 1, x => if x < 0 then [] else [40] ++ wobL rows f ((rows.getD x.toNat []).getD 0 (-1)) ++ [41] ++ wobL rows f ((rows.getD x.toNat []).getD 1 (-1))
end Go.Proofs.Ytcfenbienebbjaa

namespace Go.Proofs.Ytcfenbienebbjaa
open Go.RowKit

def ints (l : List Nat) : List Value := l.map fun (n : Nat) => .int .i64 n
theorem ints_length (l : List Nat) : (ints l).length = l.length := by simp [ints]
theorem ints_dropLast (l : List Nat) : (ints l).dropLast = ints l.dropLast := by simp [ints, List.map_dropLast]
theorem ints_snoc (l : List Nat) (n : Nat) : ints l ++ [.int .i64 n] = ints (l ++ [n]) := by simp [ints]
theorem ints_one (l : List Nat) : ∀ v ∈ ints l, v.oneCell' = true := by
  intro v hv
  obtain ⟨n, _, rfl⟩ := List.mem_map.1 hv
  rfl

theorem fold_open (l : List UInt8) : ∀ (a o : Nat) (R : List (List Nat)) (O : List Nat), O.length = a → l.foldl vstep (some a) = some o → (l.foldl stepOP (R, O)).2.length = o := by
  induction l with
  | nil => intro a o R O h1 h2; simp at h2; simp [h1, h2]
  | cons c r ih =>
    intro a o R O h1 h2
    simp only [List.foldl_cons] at h2 ⊢
    by_cases hc : c.toNat = 40
    · rw [show vstep (some a) c = some (a + 1) by simp [vstep, hc]] at h2
      rw [show stepOP (R, O) c = (R ++ [O], O ++ [R.length]) by simp [stepOP, hc]]
      exact ih _ _ _ _ (by simp [h1]) h2
    · by_cases hd : c.toNat = 41
      · by_cases h0 : a = 0
        · rw [show vstep (some a) c = none by simp [vstep, hd, h0], fold_none] at h2; simp at h2
        · rw [show vstep (some a) c = some (a - 1) by simp [vstep, hd, h0]] at h2
          rw [show stepOP (R, O) c = (R, O.dropLast) by simp [stepOP, hd]]
          exact ih _ _ _ _ (by simp [h1]) h2
      · rw [show vstep (some a) c = none by simp [vstep, hc, hd], fold_none] at h2; simp at h2
theorem openP_open {l : List UInt8} {o : Nat} (h : scan l = some o) : (openP l).2.length = o := fold_open l 0 o [] [] rfl h

theorem fold_rows (l : List UInt8) : ∀ (R : List (List Nat)) (O : List Nat), (l.foldl stepOP (R, O)).1.length ≤ R.length + l.length ∧ (l.foldl stepOP (R, O)).2.length ≤ O.length + l.length := by
  induction l with
  | nil => intro R O; simp
  | cons c r ih =>
    intro R O
    simp only [List.foldl_cons, List.length_cons]
    by_cases hd : c.toNat = 41
    · rw [show stepOP (R, O) c = (R, O.dropLast) by simp [stepOP, hd]]
      have := ih R O.dropLast
      simp only [List.length_dropLast] at this
      omega
    · rw [show stepOP (R, O) c = (R ++ [O], O ++ [R.length]) by simp [stepOP, hd]]
      have := ih (R ++ [O]) (O ++ [R.length])
      simp only [List.length_append, List.length_singleton] at this
      omega
theorem openP_le (l : List UInt8) : (openP l).1.length ≤ l.length ∧ (openP l).2.length ≤ l.length := by
  have := fold_rows l [] []
  simp only [List.length_nil, Nat.zero_add] at this
  exact this

theorem valid_take {s : ByteArray} (h : valid s.data.toList = true) (k : Nat) : ∃ o, scan (s.data.toList.take k) = some o := by
  cases e : scan (s.data.toList.take k) with
  | some o => exact ⟨o, rfl⟩
  | none => rw [not_valid e] at h; cases h

theorem openP_next {s : ByteArray} {k : Nat} (hk : k < s.size) : openP (s.data.toList.take (k + 1)) = stepOP (openP (s.data.toList.take k)) s[k] := by
  have e : s.data.toList.take (k + 1) = s.data.toList.take k ++ [s[k]] := take_snoc s.data.toList k hk
  rw [e, openP_snoc]
/-- at a ) something is open -/
theorem open_pos {s : ByteArray} (h : valid s.data.toList = true) {k : Nat} (hk : k < s.size) (hc : s[k].toNat = 41) : 0 < (openP (s.data.toList.take k)).2.length := by
  obtain ⟨o, ho⟩ := valid_take h k
  rw [openP_open ho]
  rcases Nat.eq_zero_or_pos o with h0 | h0
  · exfalso
    have := bad_cls hk ho (by rw [hc]; rfl) h0
    rw [this] at h; cases h
  · exact h0

/-- the rows that have been handed on -/
def Rows_ (w : World) (B H : Nat) (RV : List Value) (rows : List (List Nat)) : Prop :=
  RV.length = rows.length ∧ ∀ (i : Nat) (v : Value) (r : List Nat), RV[i]? = some v → rows[i]? = some r → Own w B H 3 v (ints r)
/-- none of them lies where v lies -/
def Apart_ (RV : List Value) (v : Value) : Prop := ∀ (i : Nat) (u : Value), RV[i]? = some u → u.ownBlock = none ∨ u.ownBlock ≠ v.ownBlock

section
variable {w w' : World} {B H H' : Nat} {RV : List Value} {rows : List (List Nat)}
theorem Rows_.more (h : Rows_ w B H RV rows) (hH : H ≤ H') : Rows_ w B H' RV rows := ⟨h.1, fun i v r h1 h2 => (h.2 i v r h1 h2).more hH⟩
theorem Rows_.below (h : Rows_ w B H RV rows) (hb : Below H w w') : Rows_ w' B H RV rows := ⟨h.1, fun i v r h1 h2 => (h.2 i v r h1 h2).below hb⟩
theorem Rows_.alloc (h : Rows_ w B H RV rows) (o : Obj) : Rows_ (w.alloc o) B H RV rows := ⟨h.1, fun i v r h1 h2 => (h.2 i v r h1 h2).alloc o⟩
theorem Rows_.nil : Rows_ w B H [] [] := ⟨rfl, fun i v r h => by simp at h⟩
theorem Rows_.snoc {v : Value} {r : List Nat} (h : Rows_ w B H RV rows) (hv : Own w B H 3 v (ints r)) : Rows_ w B H (RV ++ [v]) (rows ++ [r]) := by
  refine ⟨by simp [h.1], fun i u q h1 h2 => ?_⟩
  by_cases hi : i < RV.length
  · rw [List.getElem?_append_left hi] at h1
    rw [List.getElem?_append_left (by rw [← h.1]; exact hi)] at h2
    exact h.2 i u q h1 h2
  · have hi' : i = RV.length := by
      have := (List.getElem?_eq_some_iff.1 h1).1
      simp at this; omega
    subst hi'
    rw [List.getElem?_append_right (Nat.le_refl _), Nat.sub_self] at h1
    rw [h.1, List.getElem?_append_right (Nat.le_refl _), Nat.sub_self] at h2
    simp at h1 h2
    subst h1; subst h2
    exact hv
end
end Go.Proofs.Ytcfenbienebbjaa

namespace Go.Proofs.Ytcfenbienebbjaa
open Go.RowKit

def iv (l : List Int) : List Value := l.map (Value.int .i64)
theorem iv_length (l : List Int) : (iv l).length = l.length := by simp [iv]
theorem iv_at (l : List Int) (k : Nat) (h : k < l.length) : (iv l)[k]? = some (.int .i64 l[k]) := by simp [iv, h]
theorem iv_set (l : List Int) (k : Nat) (n : Int) : (iv l).set k (.int .i64 n) = iv (l.set k n) := by simp [iv, List.map_set]
theorem iv_snoc (l : List Int) (n : Int) : iv l ++ [.int .i64 n] = iv (l ++ [n]) := by simp [iv]

/-- nothing but draws -/
def Same (w w' : World) : Prop := w'.heap = w.heap ∧ Below w.heap.size w w'
theorem Same.refl (w : World) : Same w w := ⟨rfl, Below.refl _ _⟩
theorem Same.drewN {w w' : World} (h : Same w w') (n : Nat) : Same w (w'.drewN n) := ⟨h.1, h.2.trans ⟨rfl, rfl, rfl, Nat.le_refl _, fun _ _ => rfl⟩⟩
theorem Same.below {w w' : World} (h : Same w w') (B : Nat) : Below B w w' := ⟨h.2.os, h.2.tape, h.2.output, h.2.size, fun k _ => by rw [h.1]⟩
theorem Own.same {w w' : World} {B H : Nat} {t : TypeId} {v : Value} {xs : List Value} (h : Own w B H t v xs) (e : w'.heap = w.heap) : Own w' B H t v xs :=
  ⟨own_of_blocks h.1 fun g _ => by rw [e], h.2⟩
/-- the cell at a place, of a slice whose shape is known -/
theorem Own.at_ {w : World} {B H : Nat} {t : TypeId} {ao : Option Addr} {n c : Nat} {xs : List Value} (h : Own w B H t (.slice ao n c) xs) (k : Nat) (hk : k < xs.length) :
    ∃ g, ao = some ⟨g, 0, none⟩ ∧ B ≤ g ∧ g < H ∧ w.cell? ⟨g, k, none⟩ = xs[k]? ∧ w.frozen? ⟨g, k, none⟩ = false := by
  obtain ⟨g, cap, hv, h1, h2, h3, h4⟩ := h.cell k hk
  simp only [Value.slice.injEq] at hv
  exact ⟨g, hv.1, h1, h2, h3, h4⟩

end Go.Proofs.Ytcfenbienebbjaa

namespace Go.Proofs.Ytcfenbienebbjaa
open Go.RowKit

/-- each row holds its numbers -/
def RowsI (w : World) (B H : Nat) (RV : List Value) (rows : List (List Int)) : Prop :=
  RV.length = rows.length ∧ ∀ (i : Nat) (v : Value) (r : List Int), RV[i]? = some v → rows[i]? = some r → Own w B H 3 v (iv r)
/-- no two rows share a block -/
def Dist (RV : List Value) : Prop := ∀ (i j : Nat) (u v : Value), i < j → RV[i]? = some u → RV[j]? = some v → u.ownBlock = none ∨ u.ownBlock ≠ v.ownBlock
/-- a list of rows -/
def Grid (w : World) (B H : Nat) (v : Value) (RV : List Value) (rows : List (List Int)) : Prop := Own w B H 33 v RV ∧ RowsI w B H RV rows

section
variable {w w' : World} {B H H' : Nat} {v : Value} {RV RV' : List Value} {rows rows' : List (List Int)}
theorem RowsI.more (h : RowsI w B H RV rows) (hH : H ≤ H') : RowsI w B H' RV rows := ⟨h.1, fun i v r h1 h2 => (h.2 i v r h1 h2).more hH⟩
theorem RowsI.below (h : RowsI w B H RV rows) (hb : Below H w w') : RowsI w' B H RV rows := ⟨h.1, fun i v r h1 h2 => (h.2 i v r h1 h2).below hb⟩
theorem RowsI.same (h : RowsI w B H RV rows) (e : w'.heap = w.heap) : RowsI w' B H RV rows := ⟨h.1, fun i v r h1 h2 => (h.2 i v r h1 h2).same e⟩
theorem Grid.more (h : Grid w B H v RV rows) (hH : H ≤ H') : Grid w B H' v RV rows := ⟨h.1.more hH, h.2.more hH⟩
theorem Grid.below (h : Grid w B H v RV rows) (hb : Below H w w') : Grid w' B H v RV rows := ⟨h.1.below hb, h.2.below hb⟩
theorem Grid.same (h : Grid w B H v RV rows) (e : w'.heap = w.heap) : Grid w' B H v RV rows := ⟨h.1.same e, h.2.same e⟩
theorem own_lo {B' : Nat} {t : TypeId} {xs : List Value} (h : Own w B H t v xs) (hB : B' ≤ B) : Own w B' H t v xs :=
  ⟨⟨h.1.1, h.1.2.imp id (fun ⟨g, cap, cur, e1, hg, r⟩ => ⟨g, cap, cur, e1, by omega, r⟩)⟩, h.2⟩
theorem RowsI.lo {B' : Nat} (h : RowsI w B H RV rows) (hB : B' ≤ B) : RowsI w B' H RV rows := ⟨h.1, fun i v r h1 h2 => own_lo (h.2 i v r h1 h2) hB⟩
theorem Grid.lo {B' : Nat} (h : Grid w B H v RV rows) (hB : B' ≤ B) : Grid w B' H v RV rows := ⟨own_lo h.1 hB, h.2.lo hB⟩
theorem RowsI.nil : RowsI w B H [] [] := ⟨rfl, fun i v r h => by simp at h⟩
theorem RowsI.append (h : RowsI w B H RV rows) (h' : RowsI w B H RV' rows') : RowsI w B H (RV ++ RV') (rows ++ rows') := by
  refine ⟨by rw [List.length_append, List.length_append, h.1, h'.1], fun i u r h1 h2 => ?_⟩
  by_cases hi : i < RV.length
  · rw [List.getElem?_append_left hi] at h1
    rw [List.getElem?_append_left (by rw [← h.1]; exact hi)] at h2
    exact h.2 i u r h1 h2
  · rw [List.getElem?_append_right (by omega)] at h1
    rw [List.getElem?_append_right (by rw [← h.1]; omega)] at h2
    rw [← h.1] at h2
    exact h'.2 _ u r h1 h2
theorem RowsI.one {u : Value} {r : List Int} (h : Own w B H 3 u (iv r)) : RowsI w B H [u] [r] := by
  refine ⟨rfl, fun i x y h1 h2 => ?_⟩
  cases i with
  | zero => simp at h1 h2; subst h1; subst h2; exact h
  | succ i => simp at h1
theorem RowsI.at_ (h : RowsI w B H RV rows) (i : Nat) (hi : i < rows.length) : ∃ u, RV[i]? = some u ∧ Own w B H 3 u (iv rows[i]) := by
  have hi' : i < RV.length := by rw [h.1]; exact hi
  exact ⟨_, List.getElem?_eq_getElem hi', h.2 i _ _ (List.getElem?_eq_getElem hi') (List.getElem?_eq_getElem hi)⟩
/-- rows of numbers are no rows of rows: a change of the one leaves the other -/
theorem RowsI.grown {t : TypeId} {u : Value} {xs : List Value} {B₁ H₁ : Nat} (h : RowsI w B H RV rows) (hu : Own w B₁ H₁ t u xs) (ht : 3 ≠ t) (hg : w.grownBy w' u.ownBlock) : RowsI w' B H RV rows :=
  ⟨h.1, fun i v r h1 h2 => (h.2 i v r h1 h2).grown hg ((h.2 i v r h1 h2).ne hu ht)⟩
theorem RowsI.fresh (h : RowsI w B H RV rows) (hb : Below w.heap.size w w') (hH : H ≤ w.heap.size) : RowsI w' B H RV rows := h.below (hb.mono hH)
end
end Go.Proofs.Ytcfenbienebbjaa

namespace Go.Proofs.Ytcfenbienebbjaa

/-! ### the first word, where the cut has no state -/
def g1 (c : List UInt8 → Bool) : Nat → List UInt8 → Nat → Nat → Option (List UInt8)
  | 0, h, _, _ => if c h = true then none else some h
  | f + 1, h, o, l => if c h = true then none else (if 0 < l then g1 c f (h ++ [40]) (o + 1) (l - 1) else none).or (if 0 < o then g1 c f (h ++ [41]) (o - 1) l else none)
def cutOf (c : List UInt8 → Bool) : Unit → List UInt8 → Nat → Nat → Bool × Unit := fun _ h _ _ => (c h, ())
theorem gw_g1 (c : List UInt8 → Bool) (f : Nat) : ∀ (h : List UInt8) (o l : Nat), 2 * l + o = f → (gw (cutOf c) f () h o l).1.head? = g1 c f h o l := by
  induction f with
  | zero =>
    intro h o l _
    cases hc : c h
    · rw [gw_zero () h o l (show (cutOf c () h o l).1 = false from hc), g1, if_neg (by rw [hc]; decide)]; rfl
    · rw [gw_cut 0 () h o l (show (cutOf c () h o l).1 = true from hc), g1, if_pos hc]; rfl
  | succ f ih =>
    intro h o l hf
    cases hc : c h
    · have hc' : (cutOf c () h o l).1 = false := hc
      rw [g1, if_neg (by rw [hc]; decide)]
      by_cases hl : 0 < l
      · by_cases ho : 0 < o
        · rw [gw_both f () h o l hc' hl ho, List.head?_append, ih _ _ _ (by omega), ih _ _ _ (by omega), if_pos hl, if_pos ho]
        · rw [gw_open f () h o l hc' hl ho, ih _ _ _ (by omega), if_pos hl, if_neg ho, Option.or_none]
      · rw [gw_shut f () h o l hc' hl (by omega), ih _ _ _ (by omega), if_neg hl, if_pos (by omega), Option.none_or]
    · rw [gw_cut _ () h o l (show (cutOf c () h o l).1 = true from hc), g1, if_pos hc]; rfl

/-- is a text less, byte by byte? -/
def lessL : List UInt8 → List UInt8 → Bool
  | _, [] => false
  | [], _ :: _ => true
  | a :: x, b :: y => Nat.blt a.toNat b.toNat || (Nat.beq a.toNat b.toNat && lessL x y)
theorem less_eq : ∀ (x y : List UInt8), Op.bytesLess x y = lessL x y
  | x, [] => by cases x <;> rfl
  | [], _ :: _ => rfl
  | a :: x, b :: y => by
    rw [Op.bytesLess, lessL, less_eq x y]
    have e1 : decide (a < b) = Nat.blt a.toNat b.toNat := by
      rw [Bool.eq_iff_iff]; simp [UInt8.lt_iff_toNat_lt]
    have e2 : (a == b) = Nat.beq a.toNat b.toNat := by
      rw [Bool.eq_iff_iff]; simp [← UInt8.toNat_inj]
    rw [e1, e2]
def eqL : List UInt8 → List UInt8 → Bool
  | [], [] => true
  | a :: x, b :: y => Nat.beq a.toNat b.toNat && eqL x y
  | _, _ => false
theorem eqL_eq : ∀ (x y : List UInt8), (x == y) = eqL x y
  | [], [] => rfl
  | [], _ :: _ => rfl
  | _ :: _, [] => rfl
  | a :: x, b :: y => by
    rw [List.cons_beq_cons, eqL, eqL_eq x y]
    have e2 : (a == b) = Nat.beq a.toNat b.toNat := by
      rw [Bool.eq_iff_iff]; simp [← UInt8.toNat_inj]
    rw [e2]
/-- beginnings that are the word, or less -/
def notBehind (s h : List UInt8) : Bool := eqL h s || lessL h (s.take h.length)

/-! ### the model's -/
/-- the word behind s, where the last ( that is turned is ahead of j -/
def nextAt (s : List UInt8) : Nat → Option (List UInt8)
  | 0 => none
  | i + 1 => match s[i]?, scan (s.take i) with
    | some c, some (o + 1) => if Nat.beq c.toNat 41 then nextAt s i else some (s.take i ++ [41] ++ List.replicate ((s.length - i - 1 - o) / 2) 40 ++ List.replicate (o + (s.length - i - 1 - o) / 2) 41)
    | _, _ => nextAt s i

/-! ### tables -/
def eT (l o : Nat) : Nat := ([[1, 1, 1, 1, 1, 1, 1, 1, 1, 1], [1, 2, 3, 4, 5, 6, 7, 8, 9], [2, 5, 9, 14, 20, 27, 35, 44], [5, 14, 28, 48, 75, 110, 154], [14, 42, 90, 165, 275, 429], [42, 132, 297, 572, 1001], [132, 429, 1001, 2002], [429, 1430, 3432], [1430, 4862], [4862]].getD l []).getD o 0
theorem ee_eT : ∀ l, l ≤ 9 → ∀ o, o ≤ 9 - l → ee l o = eT l o := by decide +kernel
def rstepT (st : Nat × Nat × Nat) (c : UInt8) : Nat × Nat × Nat :=
  if Nat.beq c.toNat 40 then (st.1, st.2.1 + 1, st.2.2 - 1) else (if Nat.blt 0 st.2.2 then st.1 + eT (st.2.2 - 1) (st.2.1 + 1) else st.1, st.2.1 - 1, st.2.2)
def rankT (s : List UInt8) : Nat := (s.foldl rstepT (0, 0, s.length / 2)).1
theorem rank_fold {s : List UInt8} (hv : valid s = true) : ∀ k, k ≤ s.length → ∃ r o l, Rk s k r o l ∧ (s.take k).foldl rstepT (0, 0, s.length / 2) = (r, o, l) := by
  intro k
  induction k with
  | zero => exact fun _ => ⟨0, 0, s.length / 2, Rk.start hv, rfl⟩
  | succ k ih =>
    intro hk
    obtain ⟨r, o, l, h, e⟩ := ih (by omega)
    by_cases hc : s[k].toNat = 40
    · refine ⟨r, o + 1, l - 1, (h.opn hv (by omega) hc).1, ?_⟩
      rw [fold_take _ _ _ _ (by omega), e, rstepT, if_pos (by rw [hc]; rfl)]
    · have hs := h.cls hv (by omega) hc
      refine ⟨_, _, _, hs.1, ?_⟩
      rw [fold_take _ _ _ _ (by omega), e, rstepT, if_neg (by simpa using hc)]
      by_cases hl : 0 < l
      · rw [if_pos hl, if_pos (by simpa using hl), ee_eT (l - 1) (by omega) (o + 1) (by omega)]
      · rw [if_neg hl, if_neg (by simpa using hl)]
theorem rankL_T {s : List UInt8} (hv : valid s = true) : rankL s = rankT s := by
  obtain ⟨r, o, l, h, e⟩ := rank_fold hv s.length (Nat.le_refl _)
  rw [h.stop rfl, rankT]
  rw [List.take_of_length_le (Nat.le_refl _)] at e
  rw [e]
def watT : Nat → Nat → Nat → Nat → List UInt8
  | 0, _, _, _ => []
  | f + 1, r, o, l => if Nat.blt r (if Nat.blt 0 l then eT (l - 1) (o + 1) else 0) then 40 :: watT f r (o + 1) (l - 1) else 41 :: watT f (r - (if Nat.blt 0 l then eT (l - 1) (o + 1) else 0)) (o - 1) l
theorem wat_T (f : Nat) : ∀ r o l, o + l ≤ 9 → wat f r o l = watT f r o l := by
  induction f with
  | zero => intros; rfl
  | succ f ih =>
    intro r o l h
    by_cases hl : 0 < l
    · have hb : Nat.blt 0 l = true := by simpa using hl
      rw [wat, watT, if_pos hl, if_pos hb, ee_eT (l - 1) (by omega) (o + 1) (by omega)]
      by_cases hx : r < eT (l - 1) (o + 1)
      · rw [if_pos hx, if_pos (by simpa using hx), ih _ _ _ (by omega)]
      · rw [if_neg hx, if_neg (by simpa using hx), ih _ _ _ (by omega)]
    · have hb : ¬ Nat.blt 0 l = true := by simpa using hl
      have hr : ¬ Nat.blt r 0 = true := by simp
      rw [wat, watT, if_neg hl, if_neg hb, if_neg (Nat.not_lt_zero r), if_neg hr, ih _ _ _ (by omega)]
end Go.Proofs.Ytcfenbienebbjaa

namespace Go.Proofs.Ytcfenbienebbjaa

theorem less_append : ∀ (p a b : List UInt8), lessL (p ++ a) (p ++ b) = lessL a b
  | [], _, _ => rfl
  | c :: p, a, b => by
    show (Nat.blt c.toNat c.toNat || (Nat.beq c.toNat c.toNat && lessL (p ++ a) (p ++ b))) = _
    rw [less_append p a b]
    simp
theorem less_self (p : List UInt8) : lessL p p = false := by
  have := less_append p [] []
  rw [List.append_nil] at this
  rw [this]; rfl
theorem eq_append : ∀ (p a b : List UInt8), eqL (p ++ a) (p ++ b) = eqL a b
  | [], _, _ => rfl
  | c :: p, a, b => by
    show (Nat.beq c.toNat c.toNat && eqL (p ++ a) (p ++ b)) = _
    rw [eq_append p a b]
    simp
theorem eq_length {a b : List UInt8} (h : a.length ≠ b.length) : eqL a b = false := by
  cases he : eqL a b
  · rfl
  · rw [← eqL_eq] at he; exact absurd (congrArg List.length (eq_of_beq he)) h

theorem split_at {s : List UInt8} {k : Nat} (hk : k < s.length) : s = s.take k ++ s[k] :: s.drop (k + 1) := by
  rw [← List.drop_eq_getElem_cons hk, List.take_append_drop]
/-- on the word's own way -/
theorem nb_path {s : List UInt8} {k : Nat} (hk : k < s.length) : notBehind s (s.take k) = false := by
  rw [notBehind, eq_length (by simp; omega), Bool.false_or, List.length_take, Nat.min_eq_left (Nat.le_of_lt hk), less_self]
/-- the word itself -/
theorem nb_self (s : List UInt8) : notBehind s s = true := by
  rw [notBehind, ← eqL_eq]; simp
/-- ahead of it -/
theorem nb_less {s : List UInt8} {k : Nat} (hk : k < s.length) (hc : s[k].toNat = 41) : notBehind s (s.take k ++ [40]) = true := by
  have e : s.take (s.take k ++ [40]).length = s.take k ++ [s[k]] := by
    rw [List.length_append, List.length_take, Nat.min_eq_left (Nat.le_of_lt hk), List.length_singleton, List.take_succ_eq_append_getElem hk]
  rw [notBehind, e, less_append]
  have : lessL [40] [s[k]] = true := by simp [lessL, hc]
  rw [this, Bool.or_true]
/-- behind it -/
theorem nb_more {s : List UInt8} {k : Nat} (hk : k < s.length) (hc : s[k].toNat = 40) (x : List UInt8) : notBehind s (s.take k ++ [41] ++ x) = false := by
  have h1 : eqL (s.take k ++ [41] ++ x) s = false := by
    have e : s = s.take k ++ s[k] :: s.drop (k + 1) := split_at hk
    have := eq_append (s.take k) (41 :: x) (s[k] :: s.drop (k + 1))
    rw [← e] at this
    rw [List.append_assoc]
    show eqL (s.take k ++ (41 :: x)) s = false
    rw [this]
    simp [eqL, hc]
  have e : s.take (s.take k ++ [41] ++ x).length = s.take k ++ (s[k] :: (s.drop (k + 1)).take x.length) := by
    rw [List.length_append, List.length_append, List.length_take, Nat.min_eq_left (Nat.le_of_lt hk), List.length_singleton]
    conv => lhs; rw [split_at hk]
    rw [List.take_append, List.length_take, Nat.min_eq_left (Nat.le_of_lt hk), List.take_of_length_le (by simp; omega), show k + 1 + x.length - k = x.length + 1 by omega, List.take_succ_cons]
  have h2 : lessL (s.take k ++ [41] ++ x) (s.take (s.take k ++ [41] ++ x).length) = false := by
    rw [e, List.append_assoc, less_append]
    show (Nat.blt 41 s[k].toNat || (Nat.beq 41 s[k].toNat && _)) = false
    rw [hc]; rfl
  rw [notBehind, h1, h2]; rfl

/-- where nothing is cut any more -/
theorem g1_free (c : List UInt8 → Bool) (f : Nat) : ∀ (h : List UInt8) (o l : Nat), 2 * l + o = f → (∀ x, c (h ++ x) = false) → g1 c f h o l = some (h ++ List.replicate l 40 ++ List.replicate (o + l) 41) := by
  induction f with
  | zero =>
    intro h o l hf hc
    obtain rfl : o = 0 := by omega
    obtain rfl : l = 0 := by omega
    have := hc []
    rw [List.append_nil] at this
    rw [g1, if_neg (by rw [this]; decide)]; simp
  | succ f ih =>
    intro h o l hf hc
    have hn := hc []
    rw [List.append_nil] at hn
    rw [g1, if_neg (by rw [hn]; decide)]
    by_cases hl : 0 < l
    · rw [if_pos hl, ih (h ++ [40]) (o + 1) (l - 1) (by omega) (fun x => by rw [List.append_assoc]; exact hc _), Option.some_or]
      obtain ⟨l, rfl⟩ : ∃ k, l = k + 1 := ⟨l - 1, by omega⟩
      rw [Nat.add_sub_cancel, List.replicate_succ, show o + 1 + l = o + (l + 1) by omega]
      simp
    · obtain rfl : l = 0 := by omega
      rw [if_neg hl, if_pos (by omega), ih (h ++ [41]) (o - 1) 0 (by omega) (fun x => by rw [List.append_assoc]; exact hc _), Option.none_or]
      obtain ⟨o, rfl⟩ : ∃ k, o = k + 1 := ⟨o - 1, by omega⟩
      simp [List.replicate_succ]

/-- what turning the ( at i gives -/
def turned (s : List UInt8) (i : Nat) : Option (List UInt8) := match s[i]?, scan (s.take i) with
  | some c, some (o + 1) => if Nat.beq c.toNat 41 then none else some (s.take i ++ [41] ++ List.replicate ((s.length - i - 1 - o) / 2) 40 ++ List.replicate (o + (s.length - i - 1 - o) / 2) 41)
  | _, _ => none
/-- the last of those from k on -/
def lastFrom (s : List UInt8) (k : Nat) : Nat → Option (List UInt8)
  | 0 => none
  | d + 1 => (turned s (k + d)).or (lastFrom s k d)
theorem next_last_from (s : List UInt8) (j : Nat) : nextAt s j = lastFrom s 0 j := by
  induction j with
  | zero => rfl
  | succ i ih =>
    rw [nextAt, lastFrom, turned, Nat.zero_add]
    cases s[i]? with
    | none => simp [ih]
    | some c =>
      cases scan (s.take i) with
      | none => simp [ih]
      | some o =>
        cases o with
        | zero => simp [ih]
        | succ o =>
          dsimp only
          by_cases hc : Nat.beq c.toNat 41 = true
          · rw [if_pos hc, if_pos hc, Option.none_or, ih]
          · rw [if_neg hc, if_neg hc, Option.some_or]
theorem last_first (s : List UInt8) (k d : Nat) : lastFrom s k (d + 1) = (lastFrom s (k + 1) d).or (turned s k) := by
  induction d with
  | zero => rw [lastFrom, lastFrom, lastFrom, Nat.add_zero, Option.or_none, Option.none_or]
  | succ d ih =>
    rw [lastFrom, ih, lastFrom, show k + 1 + d = k + (d + 1) by omega, Option.or_assoc]

theorem g1_last {s : List UInt8} (hv : valid s = true) (f : Nat) : ∀ (k o l : Nat), k + f = s.length → scan (s.take k) = some o → 2 * l + o = f → g1 (notBehind s) f (s.take k) o l = lastFrom s k f := by
  induction f with
  | zero =>
    intro k o l hk hs hf
    rw [g1, List.take_of_length_le (by omega), if_pos (nb_self s), lastFrom]
  | succ f ih =>
    intro k o l hk hs hf
    have hlt : k < s.length := by omega
    rw [g1, if_neg (by rw [nb_path hlt]; decide), last_first]
    have htk : s.take (k + 1) = s.take k ++ [s[k]] := List.take_succ_eq_append_getElem hlt
    have hsk := scan_step s k hlt
    rw [hs] at hsk
    by_cases hc : s[k].toNat = 40
    · have hc8 : s[k] = 40 := UInt8.toNat_inj.1 (by simpa using hc)
      have hs1 : scan (s.take (k + 1)) = some (o + 1) := by rw [hsk]; simp [vstep, hc]
      have hlow := rest_low hv hs1
      have hl : 0 < l := by omega
      have i1 := ih (k + 1) (o + 1) (l - 1) (by omega) hs1 (by omega)
      rw [htk, hc8] at i1
      rw [if_pos hl, i1]
      congr 1
      rw [turned, List.getElem?_eq_getElem hlt, hs]
      by_cases ho : 0 < o
      · obtain ⟨p, rfl⟩ : ∃ p, o = p + 1 := ⟨o - 1, by omega⟩
        rw [if_pos ho, Nat.add_sub_cancel, g1_free _ f _ p l (by omega) (fun x => nb_more hlt hc x)]
        show _ = (if Nat.beq s[k].toNat 41 = true then none else _)
        rw [if_neg (by rw [hc]; decide), show (s.length - k - 1 - p) / 2 = l by omega]
      · obtain rfl : o = 0 := by omega
        rw [if_neg ho]
    · have h41 : s[k].toNat = 41 ∧ 0 < o := by
        obtain ⟨r, p, q, hR, _⟩ := rank_fold hv k (Nat.le_of_lt hlt)
        have hpo : p = o := by have := hR.2.1; rw [hs] at this; exact (Option.some.inj this).symm
        have := hR.cls hv hlt hc
        exact ⟨this.2.2.2.2, by omega⟩
      have hc8 : s[k] = 41 := UInt8.toNat_inj.1 (by simpa using h41.1)
      have hs1 : scan (s.take (k + 1)) = some (o - 1) := by rw [hsk]; simp only [vstep]; rw [if_neg hc, if_pos h41.1, if_neg (by omega)]
      have i1 := ih (k + 1) (o - 1) l (by omega) hs1 (by omega)
      rw [htk, hc8] at i1
      have hz : turned s k = none := by
        rw [turned, List.getElem?_eq_getElem hlt, hs]
        obtain ⟨p, rfl⟩ : ∃ p, o = p + 1 := ⟨o - 1, by omega⟩
        show (if Nat.beq s[k].toNat 41 = true then none else _) = _
        rw [if_pos (by rw [h41.1]; rfl)]
      rw [hz, Option.or_none, if_pos h41.2, i1]
      have hfirst : (if 0 < l then g1 (notBehind s) f (s.take k ++ [40]) (o + 1) (l - 1) else none) = none := by
        split
        · have hcut := nb_less hlt h41.1
          cases f <;> rw [g1, if_pos hcut]
        · rfl
      rw [hfirst, Option.none_or]

theorem next_first {s : List UInt8} (hv : valid s = true) : (gw (cutOf (notBehind s)) (2 * (s.length / 2)) () [] 0 (s.length / 2)).1.head? = nextAt s s.length := by
  have hev := fold_even s 0 0 (valid_scan hv).1
  rw [gw_g1 _ _ _ _ _ (by omega), next_last_from]
  have e : 2 * (s.length / 2) = s.length := by omega
  have := g1_last hv s.length 0 0 (s.length / 2) (by omega) rfl (by omega)
  rw [e]
  exact this
end Go.Proofs.Ytcfenbienebbjaa

namespace Go.Proofs.Ytcfenbienebbjaa

def armA (rows : List (List Int)) (k : Nat) : Int := (rows.getD k []).getD 0 (-1)
def armB (rows : List (List Int)) (k : Nat) : Int := (rows.getD k []).getD 1 (-1)
/-- from x on the rows are a tree that is not too deep -/
def okT (rows : List (List Int)) : Nat → Int → Prop
  | 0, x => x < 0
  | f + 1, x => x < 0 ∨ (x.toNat < rows.length ∧ (rows.getD x.toNat []).length = 2 ∧ okT rows f (armA rows x.toNat) ∧ okT rows f (armB rows x.toNat))
theorem okT_nat {rows : List (List Int)} {f k : Nat} (h : okT rows (f + 1) (k : Int)) : k < rows.length ∧ (rows.getD k []).length = 2 ∧ okT rows f (armA rows k) ∧ okT rows f (armB rows k) := by
  rcases h with h | h
  · omega
  · exact h
theorem okT_more (rows : List (List Int)) : ∀ (f g : Nat) (x : Int), f ≤ g → okT rows f x → okT rows g x := by
  intro f
  induction f with
  | zero => intro g x _ h; cases g with
    | zero => exact h
    | succ g => exact .inl h
  | succ f ih => intro g x hg h; cases g with
    | zero => omega
    | succ g =>
      rcases h with h | ⟨a, b, c, d⟩
      · exact .inl h
      · exact .inr ⟨a, b, ih g _ (by omega) c, ih g _ (by omega) d⟩
theorem wobL_neg (rows : List (List Int)) (f : Nat) (x : Int) (h : x < 0) : wobL rows f x = [] := by cases f with
  | zero => rfl
  | succ f => rw [wobL, if_pos h]
theorem wobL_nat (rows : List (List Int)) (f k : Nat) : wobL rows (f + 1) (k : Int) = [40] ++ wobL rows f (armA rows k) ++ [41] ++ wobL rows f (armB rows k) := by
  rw [wobL, if_neg (by omega)]; rfl
theorem btwL_neg (rows : List (List Int)) (f : Nat) (x : Int) (h : x < 0) : btwL rows f x = [] := by cases f with
  | zero => rfl
  | succ f => rw [btwL, if_pos h]
theorem btwL_nat (rows : List (List Int)) (f k : Nat) : btwL rows (f + 1) (k : Int) = btwL rows f (armA rows k) ++ [(k : Int)] ++ btwL rows f (armB rows k) := by
  rw [btwL, if_neg (by omega)]; rfl
theorem wobL_len (rows : List (List Int)) : ∀ (f : Nat) (x : Int), (wobL rows f x).length + 2 ≤ 2 ^ (f + 1) := by
  intro f
  induction f with
  | zero => intro x; simp [wobL]
  | succ f ih =>
    intro x
    rw [wobL]
    split
    · have : 0 < 2 ^ (f + 1) := Nat.pow_pos (by decide)
      simp only [List.length_nil, Nat.pow_succ] at *; omega
    · have h1 := ih ((rows.getD x.toNat []).getD 0 (-1))
      have h2 := ih ((rows.getD x.toNat []).getD 1 (-1))
      simp only [List.length_append, List.length_cons, List.length_nil]
      rw [Nat.pow_succ 2 (f + 1)]; omega
theorem btwL_len (rows : List (List Int)) : ∀ (f : Nat) (x : Int), (btwL rows f x).length + 1 ≤ 2 ^ f := by
  intro f
  induction f with
  | zero => intro x; simp [btwL]
  | succ f ih =>
    intro x
    rw [btwL]
    split
    · have : 0 < 2 ^ f := Nat.pow_pos (by decide)
      simp only [List.length_nil, Nat.pow_succ] at *; omega
    · have h1 := ih ((rows.getD x.toNat []).getD 0 (-1))
      have h2 := ih ((rows.getD x.toNat []).getD 1 (-1))
      simp only [List.length_append, List.length_cons, List.length_nil]
      rw [Nat.pow_succ 2 f]; omega
theorem pow_bound {f : Nat} (h : f ≤ 10) : 2 ^ f ≤ 1024 := Nat.pow_le_pow_right (by decide) h

/-- how many nodes from one on, -1 if the rows are no tree there -/
def armN (sz : Nat → Int) (at_ : Nat) (n x : Int) : Int := if x = -1 then n else if x ≠ at_ + n then -1 else if sz x.toNat < 0 then -1 else n + sz x.toNat
def szL (rows : List (List Int)) : Nat → Nat → Int
  | 0, _ => -1
  | f + 1, k => if rows.length ≤ k ∨ (rows.getD k []).length ≠ 2 then -1 else
      if armN (szL rows f) k 1 (armA rows k) < 0 then -1 else armN (szL rows f) k (armN (szL rows f) k 1 (armA rows k)) (armB rows k)
theorem szL_no (rows : List (List Int)) (f k : Nat) (h : rows.length ≤ k ∨ (rows.getD k []).length ≠ 2) : szL rows f k = -1 := by
  cases f with
  | zero => rfl
  | succ f => rw [szL, if_pos h]
theorem szL_yes (rows : List (List Int)) (f k : Nat) (h : k < rows.length) (h2 : (rows.getD k []).length = 2) : szL rows (f + 1) k =
    if armN (szL rows f) k 1 (armA rows k) < 0 then -1 else armN (szL rows f) k (armN (szL rows f) k 1 (armA rows k)) (armB rows k) := by
  rw [szL, if_neg (by omega)]
theorem armN_no (sz : Nat → Int) (at_ : Nat) (n : Int) : armN sz at_ n (-1) = n := if_pos rfl
theorem armN_off (sz : Nat → Int) (at_ : Nat) (n x : Int) (h : x ≠ -1) (h2 : x ≠ at_ + n) : armN sz at_ n x = -1 := by rw [armN, if_neg h, if_pos h2]
theorem armN_bad (sz : Nat → Int) (at_ : Nat) (n x : Int) (h : x ≠ -1) (h2 : x = at_ + n) (h3 : sz x.toNat < 0) : armN sz at_ n x = -1 := by rw [armN, if_neg h, if_neg (by omega), if_pos h3]
theorem armN_on (sz : Nat → Int) (at_ : Nat) (n x : Int) (h : x ≠ -1) (h2 : x = at_ + n) (h3 : ¬ sz x.toNat < 0) : armN sz at_ n x = n + sz x.toNat := by rw [armN, if_neg h, if_neg (by omega), if_neg h3]
/-- what is counted lies in the rows -/
theorem szL_le (rows : List (List Int)) : ∀ (f k : Nat), -1 ≤ szL rows f k ∧ (0 ≤ szL rows f k → 1 ≤ szL rows f k ∧ (k : Int) + szL rows f k ≤ rows.length) := by
  intro f
  induction f with
  | zero => intro k; simp [szL]
  | succ f ih =>
    intro k
    by_cases h : k < rows.length ∧ (rows.getD k []).length = 2
    · rw [szL_yes _ _ _ h.1 h.2]
      have key : ∀ (n x : Int), 1 ≤ n → (k : Int) + n ≤ rows.length → -1 ≤ armN (szL rows f) k n x ∧ (0 ≤ armN (szL rows f) k n x → 1 ≤ armN (szL rows f) k n x ∧ (k : Int) + armN (szL rows f) k n x ≤ rows.length) := by
        intro n x hn hle
        unfold armN
        split
        · omega
        · split
          · omega
          · rename_i h1 h2
            have := ih x.toNat
            split
            · omega
            · have h3 := this.2 (by omega)
              have h4 : (x.toNat : Int) = x := by omega
              omega
      have k1 := key 1 (armA rows k) (by omega) (by omega)
      split
      · omega
      · exact key _ (armB rows k) (k1.2 (by omega)).1 (k1.2 (by omega)).2
    · rw [szL_no _ _ _ (by omega)]; omega
/-- what is counted is a tree, as deep as fuel was taken -/
theorem szL_ok (rows : List (List Int)) : ∀ (f k : Nat), 0 ≤ szL rows f k → okT rows f (k : Int) := by
  intro f
  induction f with
  | zero => intro k h; simp [szL] at h
  | succ f ih =>
    intro k h
    by_cases hk : k < rows.length ∧ (rows.getD k []).length = 2
    · rw [szL_yes _ _ _ hk.1 hk.2] at h
      have key : ∀ (n x : Int), 1 ≤ n → 0 ≤ armN (szL rows f) k n x → okT rows f x := by
        intro n x hn h1
        unfold armN at h1
        split at h1
        · rename_i e; subst e; cases f with
          | zero => exact (by decide : (-1 : Int) < 0)
          | succ f => exact .inl (by decide)
        · split at h1
          · omega
          · split at h1
            · omega
            · rename_i e1 e2 e3
              have h4 : (x.toNat : Int) = x := by omega
              rw [← h4]
              exact ih _ (by omega)
      by_cases h1 : armN (szL rows f) k 1 (armA rows k) < 0
      · rw [if_pos h1] at h; omega
      · rw [if_neg h1] at h
        refine .inr ⟨hk.1, hk.2, key 1 _ (by omega) (by simp only [Int.toNat_natCast]; omega), ?_⟩
        have h2 : 1 ≤ armN (szL rows f) k 1 (armA rows k) := by
          unfold armN at h1 ⊢
          split
          · omega
          · split
            · rename_i e1 e2; rw [if_neg e1, if_pos e2] at h1; omega
            · rename_i e1 e2
              rw [if_neg e1, if_neg e2] at h1
              split
              · rename_i e3; rw [if_pos e3] at h1; omega
              · omega
        exact key _ _ h2 h
    · rw [szL_no _ _ _ (by omega)] at h; omega
theorem armN_le (rows : List (List Int)) (f k : Nat) (n x : Int) (hn : 1 ≤ n) (hle : (k : Int) + n ≤ rows.length) (h : 0 ≤ armN (szL rows f) k n x) :
    1 ≤ armN (szL rows f) k n x ∧ (k : Int) + armN (szL rows f) k n x ≤ rows.length := by
  unfold armN at h ⊢
  split
  · omega
  · rename_i h1
    rw [if_neg h1] at h
    split
    · rename_i h2; rw [if_pos h2] at h; omega
    · rename_i h2
      rw [if_neg h2] at h
      have := szL_le rows f x.toNat
      split
      · rename_i h3; rw [if_pos h3] at h; omega
      · have h3 := this.2 (by omega)
        have h4 : (x.toNat : Int) = x := by omega
        omega
/-- where the count stands behind j arms -/
def CntI (rows : List (List Int)) (f k j : Nat) (n : Int) : Prop :=
  1 ≤ n ∧ (k : Int) + n ≤ rows.length ∧ ((j = 0 ∧ n = 1) ∨ (j = 1 ∧ n = armN (szL rows f) k 1 (armA rows k)) ∨ (j = 2 ∧ n = szL rows (f + 1) k))
def armJ (rows : List (List Int)) (k j : Nat) : Int := if j = 0 then armA rows k else armB rows k
theorem CntI.bad {rows : List (List Int)} {f k j : Nat} {n : Int} (hk : k < rows.length) (h2 : (rows.getD k []).length = 2) (h : CntI rows f k j n) (hj : j < 2) (hn : armN (szL rows f) k n (armJ rows k j) = -1) : szL rows (f + 1) k = -1 := by
  rw [szL_yes _ _ _ hk h2]
  rcases h.2.2 with ⟨rfl, rfl⟩ | ⟨rfl, rfl⟩ | ⟨rfl, _⟩
  · rw [armJ, if_pos rfl] at hn; rw [hn]; rfl
  · rw [if_neg (by have := h.1; omega)]
    rw [armJ, if_neg (by decide)] at hn; exact hn
  · omega
theorem CntI.next {rows : List (List Int)} {f k j : Nat} {n : Int} (hk : k < rows.length) (h2 : (rows.getD k []).length = 2) (h : CntI rows f k j n) (hj : j < 2) (hn : 0 ≤ armN (szL rows f) k n (armJ rows k j)) : CntI rows f k (j + 1) (armN (szL rows f) k n (armJ rows k j)) := by
  have := armN_le rows f k n _ h.1 h.2.1 hn
  refine ⟨this.1, this.2, ?_⟩
  rcases h.2.2 with ⟨rfl, rfl⟩ | ⟨rfl, rfl⟩ | ⟨rfl, _⟩
  · exact .inr (.inl ⟨rfl, rfl⟩)
  · refine .inr (.inr ⟨rfl, ?_⟩)
    rw [szL_yes _ _ _ hk h2, if_neg (by have := h.1; omega)]; rfl
  · omega
/-- rows that are a two-armed tree -/
def treeB (rows : List (List Int)) : Bool := decide (rows.length ≤ 9) && (decide (rows.length = 0) || decide (szL rows 10 0 = rows.length))
theorem tree_sz (rows : List (List Int)) (h : treeB rows = true) (h0 : ¬ rows.length = 0) : szL rows 10 0 = rows.length := by
  unfold treeB at h
  simp only [Bool.and_eq_true, Bool.or_eq_true, decide_eq_true_eq] at h
  exact h.2.resolve_left h0
theorem szL_ok0 (rows : List (List Int)) (f : Nat) (n : Nat) (h : szL rows f 0 = n) : okT rows f 0 := szL_ok rows f 0 (by rw [h]; omega)
theorem tree_ok (rows : List (List Int)) (h : treeB rows = true) (h0 : ¬ rows.length = 0) : okT rows 10 0 := szL_ok0 rows 10 rows.length (tree_sz rows h h0)
end Go.Proofs.Ytcfenbienebbjaa

namespace Go.Proofs.Ytcfenbienebbjaa

theorem cl_at : ∀ (l : List UInt8) (d : Nat), 0 < d → l.foldl vstep (some d) = some 0 → ∃ c, l = l.take (cl d l - 1) ++ c :: l.drop (cl d l) ∧ c.toNat = 41 := by
  intro l
  induction l with
  | nil => intro d hd h; simp at h; omega
  | cons c r ih =>
    intro d hd h
    simp only [List.foldl_cons] at h
    have hs : ∃ e, vstep (some d) c = some e := by
      cases hv : vstep (some d) c with
      | none => rw [hv, fold_none] at h; cases h
      | some e => exact ⟨e, rfl⟩
    obtain ⟨e, he⟩ := hs
    rcases step_some he with hc | ⟨hc, _⟩
    · rw [step_opn d hc] at h
      obtain ⟨c', h1, h2⟩ := ih (d + 1) (by omega) h
      have hp := (cl_split r (d + 1) (by omega) h).1
      rw [cl_opn d c r hc]
      refine ⟨c', ?_, h2⟩
      rw [show 1 + cl (d + 1) r - 1 = (cl (d + 1) r - 1) + 1 by omega, List.take_succ_cons, show 1 + cl (d + 1) r = cl (d + 1) r + 1 by omega, List.drop_succ_cons, List.cons_append, ← h1]
    · have hn : c.toNat ≠ 40 := by omega
      rw [step_cls hc hd] at h
      by_cases h1 : d ≤ 1
      · rw [cl_last d c r hn h1]
        exact ⟨c, by simp, hc⟩
      · obtain ⟨c', k1, k2⟩ := ih (d - 1) (by omega) h
        have hp := (cl_split r (d - 1) (by omega) h).1
        rw [cl_cls d c r hn h1]
        refine ⟨c', ?_, k2⟩
        rw [show 1 + cl (d - 1) r - 1 = (cl (d - 1) r - 1) + 1 by omega, List.take_succ_cons, show 1 + cl (d - 1) r = cl (d - 1) r + 1 by omega, List.drop_succ_cons, List.cons_append, ← k1]
theorem u8_eq {a : UInt8} {b : Nat} (h : a.toNat = b) : a = UInt8.ofNat b := by
  apply UInt8.toNat_inj.1
  rw [h, UInt8.toNat_ofNat']
  have := a.toNat_lt
  omega
/-- a word that is not empty: its first pair, what is in it, what is behind it -/
theorem parts_eq {s : List UInt8} (h : scan s = some 0) (hs : s ≠ []) : s = 40 :: (fstL s ++ 41 :: rstL s) := by
  cases s with
  | nil => exact absurd rfl hs
  | cons c r =>
    have h' : r.foldl vstep (vstep (some 0) c) = some 0 := h
    have hst : ∃ e, vstep (some 0) c = some e := by
      cases hv : vstep (some 0) c with
      | none => rw [hv, fold_none] at h'; cases h'
      | some e => exact ⟨e, rfl⟩
    obtain ⟨e, he⟩ := hst
    rcases step_some he with hc | ⟨_, h0⟩
    · rw [step_opn 0 hc] at h'
      obtain ⟨c', h1, h2⟩ := cl_at r 1 (by omega) h'
      have hk : cl 0 (c :: r) = 1 + cl 1 r := cl_opn 0 c r hc
      have hf : fstL (c :: r) = r.take (cl 1 r - 1) := by
        rw [fstL, hk, List.drop_succ_cons, List.drop_zero, show 1 + cl 1 r - 2 = cl 1 r - 1 by omega]
      have hr : rstL (c :: r) = r.drop (cl 1 r) := by
        rw [rstL, hk, show 1 + cl 1 r = cl 1 r + 1 by omega, List.drop_succ_cons]
      rw [hf, hr]
      have e1 : c = 40 := u8_eq hc
      have e2 : c' = 41 := u8_eq h2
      rw [e2] at h1
      rw [e1]
      congr 1
    · omega

/-- the nodes in the order in which they end, numbered from one on -/
def btwP : Nat → List UInt8 → Nat → List Nat
  | 0, _, _ => []
  | f + 1, s, n => if s = [] then [] else btwP f (fstL s) (n + 1) ++ [n] ++ btwP f (rstL s) (n + 1 + (fstL s).length / 2)
theorem btwP_nil (f n : Nat) : btwP f [] n = [] := by cases f <;> rfl
theorem btwP_cons (f n : Nat) (s : List UInt8) (h : s ≠ []) : btwP (f + 1) s n = btwP f (fstL s) (n + 1) ++ [n] ++ btwP f (rstL s) (n + 1 + (fstL s).length / 2) := by rw [btwP, if_neg h]
theorem fold_btw : ∀ (f : Nat) (s : List UInt8) (st out : List Nat) (n : Nat), scan s = some 0 → s.length ≤ f → s.foldl stepS (st, out, n) = (st, out ++ btwP f s n, n + s.length / 2) := by
  intro f
  induction f with
  | zero => intro s st out n _ hf; rw [List.eq_nil_of_length_eq_zero (by omega : s.length = 0)]; simp [btwP]
  | succ f ih =>
    intro s st out n h hf
    by_cases hs : s = []
    · subst hs; simp [btwP_nil]
    · obtain ⟨_, _, k3, k4, _, k6⟩ := parts_ok h hs
      have e1 := fold_even _ 0 0 k3
      have e2 := fold_even _ 0 0 k4
      have p := parts_eq h hs
      rw [btwP_cons _ _ _ hs]
      obtain ⟨a, ha⟩ : ∃ a, a = fstL s := ⟨_, rfl⟩
      obtain ⟨b, hb⟩ : ∃ b, b = rstL s := ⟨_, rfl⟩
      rw [← ha, ← hb] at p
      rw [← ha] at k3 k6 e1 ⊢
      rw [← hb] at k4 k6 e2 ⊢
      have e3 : s.length / 2 = 1 + a.length / 2 + b.length / 2 := by omega
      rw [e3, p]
      rw [List.foldl_cons, List.foldl_append, List.foldl_cons]
      have s1 : stepS (st, out, n) 40 = (st ++ [n], out, n + 1) := by rw [stepS, if_pos (by decide)]
      rw [s1, ih a _ _ _ k3 (by omega)]
      have s2 : stepS (st ++ [n], out ++ btwP f a (n + 1), n + 1 + a.length / 2) 41 = (st, out ++ btwP f a (n + 1) ++ [n], n + 1 + a.length / 2) := by
        rw [stepS, if_neg (by decide)]; simp
      rw [s2, ih b _ _ _ k4 (by omega)]
      simp only [List.append_assoc, Prod.mk.injEq, true_and]
      omega
theorem stackL_btw (s : List UInt8) (h : scan s = some 0) : stackL s = (btwP s.length s 0).map fun (k : Nat) => (k : Int) := by
  rw [stackL, stackF, fold_btw s.length s [] [] 0 h (Nat.le_refl _)]; rfl

/-- where a word's tree begins in its rows -/
def rootA (s : List UInt8) (n : Nat) : Int := if s = [] then -1 else (n : Int)
theorem okT_neg (rows : List (List Int)) (F : Nat) : okT rows F (-1) := by cases F with
  | zero => exact (by decide : (-1 : Int) < 0)
  | succ F => exact .inl (by decide)
theorem getD_mid {α : Type} (pre post : List α) (x d : α) (n : Nat) (h : pre.length = n) : (pre ++ x :: post).getD n d = x := by
  rw [List.getD_eq_getElem?_getD, List.getElem?_append_right (by omega), h, Nat.sub_self]; rfl
/-- the rows of a word, among others: a tree, its word, its nodes -/
theorem binL_tree : ∀ (f : Nat) (s : List UInt8) (n F : Nat) (pre post : List (List Int)), scan s = some 0 → s.length ≤ f → pre.length = n → s.length ≤ 2 * F →
    okT (pre ++ binL f s n ++ post) F (rootA s n) ∧ wobL (pre ++ binL f s n ++ post) F (rootA s n) = s ∧ btwL (pre ++ binL f s n ++ post) F (rootA s n) = (btwP f s n).map fun (k : Nat) => (k : Int) := by
  intro f
  induction f with
  | zero =>
    intro s n F pre post _ hf _ _
    rw [List.eq_nil_of_length_eq_zero (by omega : s.length = 0)]
    have e : rootA [] n = -1 := rfl
    rw [e]
    exact ⟨okT_neg _ _, wobL_neg _ _ _ (by decide), btwL_neg _ _ _ (by decide)⟩
  | succ f ih =>
    intro s n F pre post h hf hp hF
    by_cases hs : s = []
    · subst hs
      have e : rootA [] n = -1 := rfl
      rw [e, btwP_nil]
      exact ⟨okT_neg _ _, wobL_neg _ _ _ (by decide), btwL_neg _ _ _ (by decide)⟩
    · obtain ⟨_, _, k3, k4, _, k6⟩ := parts_ok h hs
      have p := parts_eq h hs
      have e1 := fold_even _ 0 0 k3
      obtain ⟨F', rfl⟩ : ∃ F', F = F' + 1 := ⟨F - 1, by omega⟩
      have eL := binL_length f (fstL s) (n + 1) k3 (by omega)
      rw [binL_cons _ _ _ hs, btwP_cons _ _ _ hs]
      have er : rootA s n = (n : Int) := if_neg hs
      rw [er]
      have ra : (if fstL s = [] then -1 else (n : Int) + 1) = rootA (fstL s) (n + 1) := by unfold rootA; split <;> simp
      have rb : (if rstL s = [] then -1 else (n : Int) + 1 + ((fstL s).length / 2 : Nat)) = rootA (rstL s) (n + 1 + (fstL s).length / 2) := by
        unfold rootA; split
        · rfl
        · omega
      rw [ra, rb]
      obtain ⟨row, hrow⟩ : ∃ row, row = [rootA (fstL s) (n + 1), rootA (rstL s) (n + 1 + (fstL s).length / 2)] := ⟨_, rfl⟩
      rw [← hrow]
      have i1 := ih (fstL s) (n + 1) F' (pre ++ [row]) (binL f (rstL s) (n + 1 + (fstL s).length / 2) ++ post) k3 (by omega) (by simp [hp]) (by omega)
      have i2 := ih (rstL s) (n + 1 + (fstL s).length / 2) F' (pre ++ [row] ++ binL f (fstL s) (n + 1)) post k4 (by omega) (by simp [hp, eL]; omega) (by omega)
      obtain ⟨rows, hr⟩ : ∃ rows, rows = pre ++ row :: (binL f (fstL s) (n + 1) ++ binL f (rstL s) (n + 1 + (fstL s).length / 2)) ++ post := ⟨_, rfl⟩
      have r1 : pre ++ [row] ++ binL f (fstL s) (n + 1) ++ (binL f (rstL s) (n + 1 + (fstL s).length / 2) ++ post) = rows := by rw [hr]; simp
      have r2 : pre ++ [row] ++ binL f (fstL s) (n + 1) ++ binL f (rstL s) (n + 1 + (fstL s).length / 2) ++ post = rows := by rw [hr]; simp
      rw [r1] at i1
      rw [r2] at i2
      rw [← hr]
      have g1 : rows.getD n [] = row := by rw [hr, List.append_assoc]; exact getD_mid _ _ _ _ _ hp
      have a1 : armA rows n = rootA (fstL s) (n + 1) := by unfold armA; rw [g1, hrow]; rfl
      have a2 : armB rows n = rootA (rstL s) (n + 1 + (fstL s).length / 2) := by unfold armB; rw [g1, hrow]; rfl
      have hn : n < rows.length := by rw [hr]; simp; omega
      refine ⟨.inr ⟨by simpa using hn, by simp only [Int.toNat_natCast]; rw [g1, hrow]; rfl, ?_, ?_⟩, ?_, ?_⟩
      · simp only [Int.toNat_natCast]; rw [a1]; exact i1.1
      · simp only [Int.toNat_natCast]; rw [a2]; exact i2.1
      · rw [wobL_nat, a1, a2, i1.2.1, i2.2.1]
        conv => rhs; rw [p]
        simp
      · rw [btwL_nat, a1, a2, i1.2.2, i2.2.2]; simp
end Go.Proofs.Ytcfenbienebbjaa

namespace Go.Proofs.Ytcfenbienebbjaa

theorem fold_lift : ∀ (A : List UInt8) (d e m : Nat), A.foldl vstep (some d) = some e → A.foldl vstep (some (d + m)) = some (e + m) := by
  intro A
  induction A with
  | nil => intro d e m h; simp at h ⊢; omega
  | cons c r ih =>
    intro d e m h
    simp only [List.foldl_cons] at h ⊢
    cases hv : vstep (some d) c with
    | none => rw [hv, fold_none] at h; cases h
    | some q =>
      rw [hv] at h
      rcases step_some hv with hc | ⟨hc, h0⟩
      · rw [step_opn d hc] at hv; cases hv
        rw [step_opn _ hc, show d + m + 1 = d + 1 + m by omega]
        exact ih _ _ m h
      · rw [step_cls hc h0] at hv; cases hv
        rw [step_cls hc (by omega), show d + m - 1 = d - 1 + m by omega]
        exact ih _ _ m h
theorem cl_over : ∀ (A rest : List UInt8) (d e : Nat), A.foldl vstep (some d) = some e → cl (d + 1) (A ++ rest) = A.length + cl (e + 1) rest := by
  intro A
  induction A with
  | nil => intro rest d e h; simp at h; subst h; simp
  | cons c r ih =>
    intro rest d e h
    simp only [List.foldl_cons] at h
    cases hv : vstep (some d) c with
    | none => rw [hv, fold_none] at h; cases h
    | some q =>
      rw [hv] at h
      rcases step_some hv with hc | ⟨hc, h0⟩
      · rw [step_opn d hc] at hv; cases hv
        rw [List.cons_append, cl_opn _ _ _ hc, ih rest _ _ h, List.length_cons]; omega
      · rw [step_cls hc h0] at hv; cases hv
        rw [List.cons_append, cl_cls _ _ _ (by omega) (by omega), show d + 1 - 1 = d - 1 + 1 by omega, ih rest _ _ h, List.length_cons]; omega
theorem pair_scan (A B : List UInt8) (hA : scan A = some 0) (hB : scan B = some 0) : scan (40 :: (A ++ 41 :: B)) = some 0 := by
  show (40 :: (A ++ 41 :: B)).foldl vstep (some 0) = some 0
  rw [List.foldl_cons, step_opn 0 (by decide), List.foldl_append, fold_lift A 0 0 (0 + 1) hA, List.foldl_cons, step_cls (by decide) (by omega)]
  exact hB
theorem pair_cl (A B : List UInt8) (hA : scan A = some 0) : cl 0 (40 :: (A ++ 41 :: B)) = A.length + 2 := by
  rw [cl_opn _ _ _ (by decide), cl_over A (41 :: B) 0 0 hA, cl_last _ _ _ (by decide) (by omega)]; omega
theorem pair_fst (A B : List UInt8) (hA : scan A = some 0) : fstL (40 :: (A ++ 41 :: B)) = A := by
  rw [fstL, pair_cl A B hA]; simp
theorem pair_rst (A B : List UInt8) (hA : scan A = some 0) : rstL (40 :: (A ++ 41 :: B)) = B := by
  rw [rstL, pair_cl A B hA, show A.length + 2 = (A.length + 1) + 1 by omega, List.drop_succ_cons]
  rw [List.drop_append, List.drop_of_length_le (by omega), show A.length + 1 - A.length = 1 by omega]; simp

theorem two_of {r : List Int} (h : r.length = 2) : r = [r.getD 0 (-1), r.getD 1 (-1)] := by
  match r, h with
  | [a, b], _ => rfl
/-- what one arm spells -/
theorem arm_tree (rows : List (List Int)) (f k : Nat) (ih : ∀ k, 0 ≤ szL rows f k → ∀ F, 2 * (szL rows f k).toNat ≤ F → scan (wobL rows f k) = some 0 ∧ (wobL rows f k).length = 2 * (szL rows f k).toNat ∧ binL F (wobL rows f k) k = (rows.drop k).take (szL rows f k).toNat)
    (n x : Int) (hn : 1 ≤ n) (h : 0 ≤ armN (szL rows f) k n x) : ∃ m : Nat, armN (szL rows f) k n x = n + m ∧ scan (wobL rows f x) = some 0 ∧ (wobL rows f x).length = 2 * m ∧
      (∀ F, 2 * m ≤ F → binL F (wobL rows f x) (k + n.toNat) = (rows.drop (k + n.toNat)).take m) ∧ x = if wobL rows f x = [] then -1 else k + n := by
  by_cases h1 : x = -1
  · subst h1
    have e : wobL rows f (-1) = [] := wobL_neg _ _ _ (by decide)
    rw [e, armN_no]
    exact ⟨0, by omega, rfl, rfl, fun F _ => by rw [binL_nil]; simp, by simp⟩
  · by_cases h2 : x = k + n
    · have e : x = ((k + n.toNat : Nat) : Int) := by omega
      by_cases h3 : szL rows f x.toNat < 0
      · rw [armN_bad _ _ _ _ h1 h2 h3] at h; omega
      · rw [armN_on _ _ _ _ h1 h2 h3]
        have ex : x.toNat = k + n.toNat := by omega
        rw [ex] at h3 ⊢
        have hle := (szL_le rows f (k + n.toNat)).2 (by omega)
        obtain ⟨m, hm⟩ : ∃ m : Nat, szL rows f (k + n.toNat) = m := ⟨(szL rows f (k + n.toNat)).toNat, by omega⟩
        have key := ih (k + n.toNat) (by omega)
        rw [hm] at key hle ⊢
        rw [e]
        have k0 := key (2 * m) (by simp)
        refine ⟨m, rfl, k0.1, by simpa using k0.2.1, fun F hF => by simpa using (key F (by simpa using hF)).2.2, ?_⟩
        rw [if_neg]
        · omega
        · intro e0
          have := k0.2.1
          rw [e0] at this
          simp at this; omega
    · rw [armN_off _ _ _ _ h1 h2] at h; omega
theorem sz_tree (rows : List (List Int)) : ∀ (f k : Nat), 0 ≤ szL rows f k → ∀ F, 2 * (szL rows f k).toNat ≤ F →
    scan (wobL rows f k) = some 0 ∧ (wobL rows f k).length = 2 * (szL rows f k).toNat ∧ binL F (wobL rows f k) k = (rows.drop k).take (szL rows f k).toNat := by
  intro f
  induction f with
  | zero => intro k h; simp [szL] at h
  | succ f ih =>
    intro k h F hF
    by_cases hk : k < rows.length ∧ (rows.getD k []).length = 2
    · rw [szL_yes _ _ _ hk.1 hk.2] at h hF ⊢
      by_cases h1 : armN (szL rows f) k 1 (armA rows k) < 0
      · rw [if_pos h1] at h; omega
      · rw [if_neg h1] at h hF ⊢
        obtain ⟨m1, a1, a2, a3, a4, a5⟩ := arm_tree rows f k ih 1 (armA rows k) (by omega) (by omega)
        rw [a1] at h hF ⊢
        obtain ⟨m2, c1, c2, c3, c4, c5⟩ := arm_tree rows f k ih (1 + m1) (armB rows k) (by omega) h
        rw [c1] at hF ⊢
        have t1 : (1 + (m1 : Int) + m2).toNat = 1 + m1 + m2 := by omega
        have t2 : (1 + (m1 : Int)).toNat = 1 + m1 := by omega
        have t3 : (1 : Int).toNat = 1 := rfl
        rw [t1] at hF ⊢
        rw [t2] at c4
        rw [t3] at a4
        rw [wobL_nat]
        obtain ⟨A, hA⟩ : ∃ A, A = wobL rows f (armA rows k) := ⟨_, rfl⟩
        obtain ⟨B, hB⟩ : ∃ B, B = wobL rows f (armB rows k) := ⟨_, rfl⟩
        rw [← hA] at a2 a3 a4 a5 ⊢
        rw [← hB] at c2 c3 c4 c5 ⊢
        have es : [40] ++ A ++ [41] ++ B = 40 :: (A ++ 41 :: B) := by simp
        rw [es]
        refine ⟨pair_scan A B a2 c2, by simp; omega, ?_⟩
        obtain ⟨F', rfl⟩ : ∃ F', F = F' + 1 := ⟨F - 1, by omega⟩
        rw [binL_cons _ _ _ (by simp), pair_fst A B a2, pair_rst A B a2, show A.length / 2 = m1 by omega, a4 F' (by omega)]
        rw [show k + 1 + m1 = k + (1 + m1) by omega, c4 F' (by omega)]
        have er : rows[k] = [armA rows k, armB rows k] := by
          have e0 : rows.getD k [] = rows[k] := by rw [List.getD_eq_getElem?_getD, List.getElem?_eq_getElem hk.1]; rfl
          have := two_of hk.2
          rw [e0] at this
          rw [this, armA, armB, e0]
        have g1 : (if A = [] then (-1 : Int) else (k : Int) + 1) = armA rows k := a5.symm
        have g2 : (if B = [] then (-1 : Int) else (k : Int) + 1 + (m1 : Nat)) = armB rows k := by
          rw [c5]; split
          · rfl
          · omega
        rw [g1, g2, ← er]
        rw [List.drop_eq_getElem_cons hk.1, show 1 + m1 + m2 = (m1 + m2) + 1 by omega, List.take_succ_cons]
        congr 1
        rw [List.take_add, List.drop_drop, show k + 1 + m1 = k + (1 + m1) by omega]
    · rw [szL_no _ _ _ (by omega)] at h; omega
/-- rows that are a tree spell a word, and are that word's rows -/
theorem tree_word (rows : List (List Int)) (h : treeB rows = true) (h0 : ¬ rows.length = 0) : scan (wobL rows 10 0) = some 0 ∧ (wobL rows 10 0).length = 2 * rows.length ∧ rows.length ≤ 9 ∧ binL 18 (wobL rows 10 0) 0 = rows := by
  have hz := tree_sz rows h h0
  have h9 : rows.length ≤ 9 := by
    unfold treeB at h
    simp only [Bool.and_eq_true, decide_eq_true_eq] at h
    exact h.1
  obtain ⟨f, hf⟩ : ∃ f, f = 10 := ⟨_, rfl⟩
  rw [← hf] at hz ⊢
  have t := sz_tree rows f 0 (by rw [hz]; omega) 18 (by rw [hz]; omega)
  rw [hz] at t
  simp only [Int.toNat_natCast, List.drop_zero, List.take_length] at t
  exact ⟨t.1, t.2.1, h9, t.2.2⟩
end Go.Proofs.Ytcfenbienebbjaa

namespace Go.Proofs.Ytcfenbienebbjaa

inductive Tw where
  | e : Tw
  | n : Tw → Tw → Tw
deriving DecidableEq
namespace Tw
def size : Tw → Nat
  | e => 0
  | n a b => a.size + 1 + b.size
/-- its word -/
def lst : Tw → List UInt8
  | e => []
  | n a b => 40 :: (a.lst ++ 41 :: b.lst)
theorem lst_scan : ∀ t : Tw, scan t.lst = some 0
  | e => rfl
  | n a b => pair_scan _ _ (lst_scan a) (lst_scan b)
theorem lst_length : ∀ t : Tw, t.lst.length = 2 * t.size
  | e => rfl
  | n a b => by simp only [lst, size, List.length_cons, List.length_append, lst_length a, lst_length b]; omega
theorem fst_lst (a b : Tw) : fstL (n a b).lst = a.lst := pair_fst _ _ (lst_scan a)
theorem rst_lst (a b : Tw) : rstL (n a b).lst = b.lst := pair_rst _ _ (lst_scan a)
theorem lst_nil {t : Tw} (h : t.lst = []) : t = e := by
  cases t with
  | e => rfl
  | n a b => cases h
theorem lst_inj : ∀ (t u : Tw), t.lst = u.lst → t = u
  | e, u, h => (lst_nil h.symm).symm
  | n a b, e, h => by cases h
  | n a b, n c d, h => by
    have h1 := fst_lst a b
    have h2 := rst_lst a b
    rw [h, fst_lst] at h1
    rw [h, rst_lst] at h2
    rw [lst_inj a c h1.symm, lst_inj b d h2.symm]
theorem of_word : ∀ (f : Nat) (s : List UInt8), s.length ≤ f → scan s = some 0 → ∃ t : Tw, t.lst = s := by
  intro f
  induction f with
  | zero => intro s hf _; exact ⟨e, (List.eq_nil_of_length_eq_zero (by omega)).symm⟩
  | succ f ih =>
    intro s hf h
    by_cases hs : s = []
    · exact ⟨e, hs.symm⟩
    · obtain ⟨_, _, k3, k4, _, k6⟩ := parts_ok h hs
      obtain ⟨a, ha⟩ := ih _ (by omega) k3
      obtain ⟨b, hb⟩ := ih _ (by omega) k4
      exact ⟨n a b, by rw [lst, ha, hb]; exact (parts_eq h hs).symm⟩

/-- two nodes turn, at the root: what hangs on the first arm goes up -/
def up : Tw → Tw → List Tw
  | e, _ => []
  | n x y, b => [n x (n y b)]
def down : Tw → Tw → List Tw
  | _, e => []
  | a, n x y => [n (n a x) y]
/-- the trees one turn away -/
def turns : Tw → List Tw
  | e => []
  | n a b => up a b ++ down a b ++ (a.turns.map (fun x => n x b) ++ b.turns.map (fun y => n a y))
theorem mem_turns {a b u : Tw} : u ∈ (n a b).turns ↔ (∃ x y, a = n x y ∧ u = n x (n y b)) ∨ (∃ x y, b = n x y ∧ u = n (n a x) y) ∨ (∃ x, x ∈ a.turns ∧ u = n x b) ∨ (∃ y, y ∈ b.turns ∧ u = n a y) := by
  simp only [turns, List.mem_append, List.mem_map]
  constructor
  · rintro ((h | h) | (⟨x, h1, h2⟩ | ⟨y, h1, h2⟩))
    · cases a with
      | e => simp [up] at h
      | n x y => simp only [up, List.mem_singleton] at h; exact .inl ⟨x, y, rfl, h⟩
    · cases b with
      | e => simp [down] at h
      | n x y => simp only [down, List.mem_singleton] at h; exact .inr (.inl ⟨x, y, rfl, h⟩)
    · exact .inr (.inr (.inl ⟨x, h1, h2.symm⟩))
    · exact .inr (.inr (.inr ⟨y, h1, h2.symm⟩))
  · rintro (⟨x, y, rfl, rfl⟩ | ⟨x, y, rfl, rfl⟩ | ⟨x, h1, rfl⟩ | ⟨y, h1, rfl⟩)
    · exact .inl (.inl (by simp [up]))
    · exact .inl (.inr (by simp [down]))
    · exact .inr (.inl ⟨x, h1, rfl⟩)
    · exact .inr (.inr ⟨y, h1, rfl⟩)
theorem turns_size : ∀ (t u : Tw), u ∈ t.turns → u.size = t.size
  | e, u, h => by simp [turns] at h
  | n a b, u, h => by
    rcases mem_turns.1 h with ⟨x, y, rfl, rfl⟩ | ⟨x, y, rfl, rfl⟩ | ⟨x, h1, rfl⟩ | ⟨y, h1, rfl⟩
    · simp only [size]; omega
    · simp only [size]; omega
    · simp only [size, turns_size a x h1]
    · simp only [size, turns_size b y h1]
/-- each turn turns back -/
theorem turns_back : ∀ (t u : Tw), u ∈ t.turns → t ∈ u.turns
  | e, u, h => by simp [turns] at h
  | n a b, u, h => by
    rcases mem_turns.1 h with ⟨x, y, rfl, rfl⟩ | ⟨x, y, rfl, rfl⟩ | ⟨x, h1, rfl⟩ | ⟨y, h1, rfl⟩
    · exact mem_turns.2 (.inr (.inl ⟨y, b, rfl, rfl⟩))
    · exact mem_turns.2 (.inl ⟨a, x, rfl, rfl⟩)
    · exact mem_turns.2 (.inr (.inr (.inl ⟨a, turns_back a x h1, rfl⟩)))
    · exact mem_turns.2 (.inr (.inr (.inr ⟨b, turns_back b y h1, rfl⟩)))
theorem turns_ne : ∀ (t : Tw), t ∉ t.turns
  | e, h => by simp [turns] at h
  | n a b, h => by
    rcases mem_turns.1 h with ⟨x, y, h1, h2⟩ | ⟨x, y, h1, h2⟩ | ⟨x, h1, h2⟩ | ⟨y, h1, h2⟩
    · injection h2 with h3 h4
      have := congrArg size h3
      rw [h1] at this
      simp only [size] at this; omega
    · injection h2 with h3 h4
      have := congrArg size h4
      rw [h1] at this
      simp only [size] at this; omega
    · injection h2 with h3 h4
      exact turns_ne a (h3 ▸ h1)
    · injection h2 with h3 h4
      exact turns_ne b (h4 ▸ h1)
theorem turns_length : ∀ (t : Tw), t.turns.length = t.size - 1
  | e => rfl
  | n a b => by
    have h1 : (up a b).length = if a = e then 0 else 1 := by cases a <;> rfl
    have h2 : (down a b).length = if b = e then 0 else 1 := by cases b <;> rfl
    have h3 : a ≠ e → 0 < a.size := by intro h; cases a with
      | e => exact absurd rfl h
      | n x y => simp only [size]; omega
    have h4 : b ≠ e → 0 < b.size := by intro h; cases b with
      | e => exact absurd rfl h
      | n x y => simp only [size]; omega
    simp only [turns, List.length_append, List.length_map, turns_length a, turns_length b, h1, h2, size]
    by_cases ha : a = e <;> by_cases hb : b = e
    · rw [if_pos ha, if_pos hb, ha, hb]; rfl
    · rw [if_pos ha, if_neg hb, ha]; have := h4 hb; simp only [size]; omega
    · rw [if_neg ha, if_pos hb, hb]; have := h3 ha; simp only [size]; omega
    · rw [if_neg ha, if_neg hb]; have := h3 ha; have := h4 hb; omega
theorem map_nodup {α β : Type} {f : α → β} (hf : ∀ x y, f x = f y → x = y) {l : List α} (h : l.Nodup) : (l.map f).Nodup := by
  rw [List.Nodup, List.pairwise_map]
  exact List.Pairwise.imp (fun hab e => hab (hf _ _ e)) h
theorem turns_nodup : ∀ (t : Tw), t.turns.Nodup
  | e => List.nodup_nil
  | n a b => by
    have u1 : ∀ u ∈ up a b, ∃ x y, a = n x y ∧ u = n x (n y b) := by
      intro u hu
      cases a with
      | e => simp [up] at hu
      | n x y => simp only [up, List.mem_singleton] at hu; exact ⟨x, y, rfl, hu⟩
    have d1 : ∀ u ∈ down a b, ∃ x y, b = n x y ∧ u = n (n a x) y := by
      intro u hu
      cases b with
      | e => simp [down] at hu
      | n x y => simp only [down, List.mem_singleton] at hu; exact ⟨x, y, rfl, hu⟩
    have n1 : (up a b).Nodup := by cases a <;> simp [up]
    have n2 : (down a b).Nodup := by cases b <;> simp [down]
    rw [turns, List.nodup_append, List.nodup_append, List.nodup_append]
    refine ⟨⟨n1, n2, ?_⟩, ⟨map_nodup (fun x y h => by injection h) (turns_nodup a), map_nodup (fun x y h => by injection h) (turns_nodup b), ?_⟩, ?_⟩
    · intro u hu v hv huv
      obtain ⟨x, y, h1, h2⟩ := u1 u hu
      obtain ⟨x', y', h3, h4⟩ := d1 v hv
      rw [h2, h4] at huv
      injection huv with h5 h6
      have := congrArg size h5
      rw [h1] at this
      simp only [size] at this; omega
    · intro u hu v hv huv
      obtain ⟨x, hx, rfl⟩ := List.mem_map.1 hu
      obtain ⟨y, hy, rfl⟩ := List.mem_map.1 hv
      injection huv with h5 h6
      exact turns_ne a (h5 ▸ hx)
    · intro u hu v hv huv
      subst huv
      rcases List.mem_append.1 hu with hu | hu
      · obtain ⟨x, y, h1, h2⟩ := u1 u hu
        rcases List.mem_append.1 hv with hv | hv
        · obtain ⟨z, hz, h3⟩ := List.mem_map.1 hv
          rw [h2] at h3
          injection h3 with h4 h5
          have := congrArg size h5
          simp only [size] at this; omega
        · obtain ⟨z, hz, h3⟩ := List.mem_map.1 hv
          rw [h2] at h3
          injection h3 with h4 h5
          have := congrArg size h4
          rw [h1] at this
          simp only [size] at this; omega
      · obtain ⟨x, y, h1, h2⟩ := d1 u hu
        rcases List.mem_append.1 hv with hv | hv
        · obtain ⟨z, hz, h3⟩ := List.mem_map.1 hv
          rw [h2] at h3
          injection h3 with h4 h5
          have := congrArg size h5
          rw [h1] at this
          simp only [size] at this; omega
        · obtain ⟨z, hz, h3⟩ := List.mem_map.1 hv
          rw [h2] at h3
          injection h3 with h4 h5
          have := congrArg size h4
          simp only [size] at this; omega

/-- how many nodes stand beside each other, and how many are in others -/
def spine : Tw → Nat
  | e => 0
  | n _ b => b.spine + 1
theorem spine_le : ∀ t : Tw, t.spine ≤ t.size
  | e => Nat.le_refl _
  | n a b => by have := spine_le b; simp only [spine, size]; omega
theorem spine_pos {t : Tw} (h : 0 < t.size) : 0 < t.spine := by
  cases t with
  | e => simp [size] at h
  | n a b => simp [spine]
theorem turns_spine : ∀ (t u : Tw), u ∈ t.turns → u.spine ≤ t.spine + 1 ∧ t.spine ≤ u.spine + 1
  | e, u, h => by simp [turns] at h
  | n a b, u, h => by
    rcases mem_turns.1 h with ⟨x, y, rfl, rfl⟩ | ⟨x, y, rfl, rfl⟩ | ⟨x, h1, rfl⟩ | ⟨y, h1, rfl⟩
    · simp only [spine]; omega
    · simp only [spine]; omega
    · simp only [spine]; omega
    · have := turns_spine b y h1
      simp only [spine]; omega
def flat : Nat → Tw
  | 0 => e
  | k + 1 => n e (flat k)
theorem flat_size : ∀ k, (flat k).size = k
  | 0 => rfl
  | k + 1 => by simp only [flat, size, flat_size k]; omega
theorem flat_spine : ∀ k, (flat k).spine = k
  | 0 => rfl
  | k + 1 => by simp only [flat, spine, flat_spine k]
theorem flat_of : ∀ (t : Tw), t.spine = t.size → t = flat t.size
  | e, _ => rfl
  | n a b, h => by
    have h1 := spine_le b
    simp only [spine, size] at h
    have ha : a = e := by
      cases a with
      | e => rfl
      | n x y => simp only [size] at h; omega
    subst ha
    have hb := flat_of b (by simp only [size] at h; omega)
    have : (n e b).size = b.size + 1 := by simp only [size]; omega
    rw [this, flat, ← hb]
/-- what is not flat comes one nearer by one turn -/
theorem spine_up : ∀ (t : Tw), t.spine < t.size → ∃ u, u ∈ t.turns ∧ u.spine = t.spine + 1
  | e, h => by simp [spine, size] at h
  | n a b, h => by
    cases a with
    | n x y => exact ⟨n x (n y b), mem_turns.2 (.inl ⟨x, y, rfl, rfl⟩), by simp only [spine]⟩
    | e =>
      have hb : b.spine < b.size := by simp only [spine, size] at h; omega
      obtain ⟨u, hu, hs⟩ := spine_up b hb
      exact ⟨n e u, mem_turns.2 (.inr (.inr (.inr ⟨u, hu, rfl⟩))), by simp only [spine, hs]⟩

/-! ### ways of turns -/
def Way : Nat → Tw → Tw → Prop
  | 0, a, b => a = b
  | k + 1, a, b => ∃ c, Way k a c ∧ b ∈ c.turns
theorem Way.trans {a b c : Tw} : ∀ {j k : Nat}, Way j a b → Way k b c → Way (j + k) a c := by
  intro j k
  induction k generalizing c with
  | zero => intro h1 h2; cases h2; exact h1
  | succ k ih => intro h1 ⟨d, h2, h3⟩; exact ⟨d, ih h1 h2, h3⟩
theorem Way.one {a b : Tw} (h : b ∈ a.turns) : Way 1 a b := ⟨a, rfl, h⟩
theorem Way.back : ∀ {k : Nat} {a b : Tw}, Way k a b → Way k b a := by
  intro k
  induction k with
  | zero => intro a b h; exact Eq.symm h
  | succ k ih =>
    intro a b ⟨c, h1, h2⟩
    have h3 := Way.one (turns_back _ _ h2)
    have := h3.trans (ih h1)
    rwa [Nat.add_comm] at this
theorem Way.size : ∀ {k : Nat} {a b : Tw}, Way k a b → b.size = a.size := by
  intro k
  induction k with
  | zero => intro a b h; rw [show a = b from h]
  | succ k ih => intro a b ⟨c, h1, h2⟩; rw [turns_size _ _ h2, ih h1]
theorem Way.spine : ∀ {k : Nat} {a b : Tw}, Way k a b → b.spine ≤ a.spine + k ∧ a.spine ≤ b.spine + k := by
  intro k
  induction k with
  | zero => intro a b h; rw [show a = b from h]; omega
  | succ k ih => intro a b ⟨c, h1, h2⟩; have := ih h1; have := turns_spine _ _ h2; omega
theorem way_flat : ∀ (k : Nat) (t : Tw), t.size = t.spine + k → Way k t (flat t.size) := by
  intro k
  induction k with
  | zero => intro t h; exact flat_of t (by omega)
  | succ k ih =>
    intro t h
    obtain ⟨u, hu, hs⟩ := spine_up t (by omega)
    have h1 := turns_size _ _ hu
    have h2 := ih u (by omega)
    rw [h1] at h2
    have := (Way.one hu).trans h2
    rwa [Nat.add_comm] at this
/-- the fewest turns -/
def Far (a b : Tw) (k : Nat) : Prop := Way k a b ∧ ∀ j, j < k → ¬ Way j a b
theorem Far.uniq {a b : Tw} {j k : Nat} (h1 : Far a b j) (h2 : Far a b k) : j = k := by
  rcases Nat.lt_trichotomy j k with h | h | h
  · exact absurd h1.1 (h2.2 j h)
  · exact h
  · exact absurd h2.1 (h1.2 k h)
theorem Far.of_way {a b : Tw} : ∀ {k : Nat}, Way k a b → ∃ j, j ≤ k ∧ Far a b j := by
  intro k
  induction k using Nat.strongRecOn with
  | ind k ih =>
    intro h
    by_cases h1 : ∃ j, j < k ∧ Way j a b
    · obtain ⟨j, hj, hw⟩ := h1
      obtain ⟨i, hi, hf⟩ := ih j hj hw
      exact ⟨i, by omega, hf⟩
    · exact ⟨k, Nat.le_refl _, h, fun j hj hw => h1 ⟨j, hj, hw⟩⟩
theorem Far.back {a b : Tw} {k : Nat} (h : Far a b k) : Far b a k := ⟨h.1.back, fun j hj hw => h.2 j hj hw.back⟩
theorem Far.zero {a b : Tw} {k : Nat} (h : Far a b k) : k = 0 ↔ a = b := by
  constructor
  · intro h0; subst h0; exact h.1
  · intro h0
    have : Far a b 0 := ⟨h0, fun j hj => by omega⟩
    exact h.uniq this
theorem Far.one {a b : Tw} {k : Nat} (h : Far a b k) : k = 1 ↔ b ∈ a.turns := by
  constructor
  · intro h0
    subst h0
    obtain ⟨c, h1, h2⟩ := h.1
    cases h1
    exact h2
  · intro h0
    have : Far a b 1 := ⟨Way.one h0, fun j hj hw => by
      have e0 : j = 0 := by omega
      subst e0
      have e1 : a = b := hw
      subst e1
      exact turns_ne a h0⟩
    exact h.uniq this
theorem far_flat (t : Tw) : Far t (flat t.size) (t.size - t.spine) := by
  have hs := spine_le t
  refine ⟨way_flat _ t (by omega), fun j hj hw => ?_⟩
  have := hw.spine
  rw [flat_spine] at this
  omega
theorem far_some {a b : Tw} (h : a.size = b.size) : ∃ k, k ≤ (a.size - a.spine) + (b.size - b.spine) ∧ Far a b k := by
  have h1 := (far_flat a).1
  have h2 := (far_flat b).1.back
  rw [← h] at h2
  exact Far.of_way (h1.trans (by rw [h] at h2 ⊢; exact h2))
theorem far_three {a b c : Tw} {i j k : Nat} (h1 : Far a c i) (h2 : Far c b j) (h : Far a b k) : k ≤ i + j := by
  obtain ⟨m, hm, hf⟩ := Far.of_way (h1.1.trans h2.1)
  rw [h.uniq hf]; exact hm
end Tw
end Go.Proofs.Ytcfenbienebbjaa

namespace Go.Proofs.Ytcfenbienebbjaa

theorem less_trans : ∀ (x y z : List UInt8), lessL x y = true → lessL y z = true → lessL x z = true
  | x, [], z, h1, _ => by cases x <;> cases h1
  | x, b :: y, [], _, h2 => by cases h2
  | [], _ :: _, _ :: _, _, _ => rfl
  | a :: x, b :: y, c :: z, h1, h2 => by
    simp only [lessL, Bool.or_eq_true, Bool.and_eq_true, Nat.blt_eq, Nat.beq_eq] at h1 h2 ⊢
    rcases h1 with h1 | ⟨h1, h3⟩
    · rcases h2 with h2 | ⟨h2, _⟩
      · exact .inl (by omega)
      · exact .inl (by omega)
    · rcases h2 with h2 | ⟨h2, h4⟩
      · exact .inl (by omega)
      · exact .inr ⟨by omega, less_trans x y z h3 h4⟩
theorem less_total : ∀ (x y : List UInt8), lessL x y = true ∨ x = y ∨ lessL y x = true
  | [], [] => .inr (.inl rfl)
  | [], _ :: _ => .inl rfl
  | _ :: _, [] => .inr (.inr rfl)
  | a :: x, b :: y => by
    simp only [lessL, Bool.or_eq_true, Bool.and_eq_true, Nat.blt_eq, Nat.beq_eq]
    rcases Nat.lt_trichotomy a.toNat b.toNat with h | h | h
    · exact .inl (.inl h)
    · rcases less_total x y with h1 | h1 | h1
      · exact .inl (.inr ⟨h, h1⟩)
      · exact .inr (.inl (by rw [h1, UInt8.toNat_inj.1 h]))
      · exact .inr (.inr (.inr ⟨h.symm, h1⟩))
    · exact .inr (.inr (.inl h))
theorem less_irr {x y : List UInt8} (h : lessL x y = true) : x ≠ y := by
  intro e; subst e; rw [less_self] at h; cases h
def Asc (L : List (List UInt8)) : Prop := L.Pairwise fun x y => lessL x y = true
theorem Asc.nodup {L : List (List UInt8)} (h : Asc L) : L.Nodup := List.Pairwise.imp (fun h => less_irr h) h
theorem asc_uniq : ∀ (L M : List (List UInt8)), Asc L → Asc M → (∀ x, x ∈ L ↔ x ∈ M) → L = M
  | [], [], _, _, _ => rfl
  | [], y :: M, _, _, h => by have := (h y).2 (by simp); simp at this
  | x :: L, [], _, _, h => by have := (h x).1 (by simp); simp at this
  | x :: L, y :: M, h1, h2, h => by
    obtain ⟨a1, a2⟩ := List.pairwise_cons.1 h1
    obtain ⟨b1, b2⟩ := List.pairwise_cons.1 h2
    have hxy : x = y := by
      have m1 := (h x).1 (by simp)
      have m2 := (h y).2 (by simp)
      rcases List.mem_cons.1 m1 with m1 | m1
      · exact m1
      · rcases List.mem_cons.1 m2 with m2 | m2
        · exact m2.symm
        · have q := less_trans _ _ _ (b1 x m1) (a1 y m2)
          rw [less_self] at q; cases q
    subst hxy
    have : L = M := asc_uniq L M a2 b2 (fun z => by
      have hz := h z
      simp only [List.mem_cons] at hz
      constructor
      · intro m
        rcases hz.1 (.inr m) with e | m'
        · subst e; have := a1 z m; rw [less_self] at this; cases this
        · exact m'
      · intro m
        rcases hz.2 (.inr m) with e | m'
        · subst e; have := b1 z m; rw [less_self] at this; cases this
        · exact m')
    rw [this]
/-- a text goes to its place, if it is not there -/
def insW (out : List (List UInt8)) (x : List UInt8) : List (List UInt8) :=
  if x ∈ out then out else out.takeWhile (fun y => lessL y x) ++ [x] ++ out.dropWhile (fun y => lessL y x)
def sortW (L : List (List UInt8)) : List (List UInt8) := L.foldl insW []
theorem mem_insW (out : List (List UInt8)) (x y : List UInt8) : y ∈ insW out x ↔ y ∈ out ∨ y = x := by
  unfold insW
  split
  · rename_i h
    exact ⟨.inl, fun h1 => h1.elim id (fun e => e ▸ h)⟩
  · have e := List.takeWhile_append_dropWhile (p := fun y => lessL y x) (l := out)
    have : y ∈ out ↔ y ∈ out.takeWhile (fun y => lessL y x) ∨ y ∈ out.dropWhile (fun y => lessL y x) := by
      rw [← List.mem_append, e]
    simp only [List.mem_append, List.mem_singleton, this]
    constructor
    · rintro ((h | h) | h)
      · exact .inl (.inl h)
      · exact .inr h
      · exact .inl (.inr h)
    · rintro ((h | h) | h)
      · exact .inl (.inl h)
      · exact .inr h
      · exact .inl (.inr h)
theorem drop_gt (x : List UInt8) : ∀ (out : List (List UInt8)), Asc out → x ∉ out → ∀ y ∈ out.dropWhile (fun y => lessL y x), lessL x y = true
  | [], _, _, y, hy => by simp at hy
  | z :: r, h, hx, y, hy => by
    obtain ⟨h1, h2⟩ := List.pairwise_cons.1 h
    have hxz : x ≠ z := fun e => hx (by simp [e])
    have hxr : x ∉ r := fun e => hx (by simp [e])
    by_cases hz : lessL z x = true
    · rw [List.dropWhile_cons, if_pos hz] at hy
      exact drop_gt x r h2 hxr y hy
    · rw [List.dropWhile_cons, if_neg hz] at hy
      have hzx : lessL x z = true := by
        rcases less_total x z with e | e | e
        · exact e
        · exact absurd e hxz
        · exact absurd e hz
      rcases List.mem_cons.1 hy with e | e
      · rw [e]; exact hzx
      · exact less_trans _ _ _ hzx (h1 y e)
theorem asc_insW {out : List (List UInt8)} (x : List UInt8) (h : Asc out) : Asc (insW out x) := by
  unfold insW
  split
  · exact h
  · rename_i hx
    have e := List.takeWhile_append_dropWhile (p := fun y => lessL y x) (l := out)
    have ht : Asc (out.takeWhile (fun y => lessL y x) ++ out.dropWhile (fun y => lessL y x)) := by rw [e]; exact h
    obtain ⟨t1, t2, t3⟩ := List.pairwise_append.1 ht
    have tx : ∀ y ∈ out.takeWhile (fun y => lessL y x), lessL y x = true := fun y hy => by
      have := List.all_takeWhile (l := out) (p := fun y => lessL y x)
      exact List.all_eq_true.1 this y hy
    have dx := drop_gt x out h hx
    refine List.pairwise_append.2 ⟨List.pairwise_append.2 ⟨t1, List.pairwise_singleton _ _, fun a ha b hb => ?_⟩, t2, fun a ha b hb => ?_⟩
    · simp only [List.mem_singleton] at hb; rw [hb]; exact tx a ha
    · rcases List.mem_append.1 ha with ha | ha
      · exact t3 a ha b hb
      · simp only [List.mem_singleton] at ha; rw [ha]; exact dx b hb
theorem sortW_facts (L : List (List UInt8)) : ∀ (out : List (List UInt8)), Asc out → Asc (L.foldl insW out) ∧ ∀ y, y ∈ L.foldl insW out ↔ y ∈ out ∨ y ∈ L := by
  induction L with
  | nil => intro out h; exact ⟨h, fun y => by simp⟩
  | cons x r ih =>
    intro out h
    obtain ⟨h1, h2⟩ := ih (insW out x) (asc_insW x h)
    refine ⟨h1, fun y => ?_⟩
    rw [List.foldl_cons, h2, mem_insW, List.mem_cons]
    constructor
    · rintro ((a | a) | a)
      · exact .inl a
      · exact .inr (.inl a)
      · exact .inr (.inr a)
    · rintro (a | a | a)
      · exact .inl (.inl a)
      · exact .inl (.inr a)
      · exact .inr a
theorem asc_sortW (L : List (List UInt8)) : Asc (sortW L) := (sortW_facts L [] List.Pairwise.nil).1
theorem mem_sortW (L : List (List UInt8)) (y : List UInt8) : y ∈ sortW L ↔ y ∈ L := by
  have := (sortW_facts L [] List.Pairwise.nil).2 y
  simpa [sortW] using this
theorem sortW_uniq {L M : List (List UInt8)} (hM : Asc M) (h : ∀ y, y ∈ M ↔ y ∈ L) : sortW L = M := asc_uniq _ _ (asc_sortW L) hM (fun y => by rw [mem_sortW, h])
theorem insW_length {out : List (List UInt8)} {x : List UInt8} (h : x ∉ out) : (insW out x).length = out.length + 1 := by
  have e := congrArg List.length (List.takeWhile_append_dropWhile (p := fun y => lessL y x) (l := out))
  rw [List.length_append] at e
  rw [insW, if_neg h]
  simp only [List.length_append, List.length_singleton]
  omega
theorem sortW_length {L : List (List UInt8)} (h : L.Nodup) : (sortW L).length = L.length := by
  have key : ∀ (L out : List (List UInt8)), Asc out → L.Nodup → (∀ x ∈ L, x ∉ out) → (L.foldl insW out).length = out.length + L.length := by
    intro L
    induction L with
    | nil => intro out _ _ _; simp
    | cons x r ih =>
      intro out ho hn hd
      obtain ⟨n1, n2⟩ := List.nodup_cons.1 hn
      rw [List.foldl_cons, ih (insW out x) (asc_insW x ho) n2 (fun y hy => by
        rw [mem_insW]
        rintro (a | a)
        · exact hd y (by simp [hy]) a
        · subst a; exact n1 hy), insW_length (hd x (by simp)), List.length_cons]
      omega
  have := key L [] List.Pairwise.nil h (by simp)
  simpa [sortW] using this
/-- the turns of a word, byte by byte -/
def turnsOut (t : Tw) : List (List UInt8) := sortW (t.turns.map Tw.lst)
theorem turnsOut_length (t : Tw) : (turnsOut t).length = t.size - 1 := by
  rw [turnsOut, sortW_length (Tw.map_nodup Tw.lst_inj (Tw.turns_nodup t)), List.length_map, Tw.turns_length]
theorem mem_turnsOut (t : Tw) (s : List UInt8) : s ∈ turnsOut t ↔ ∃ u, u ∈ t.turns ∧ u.lst = s := by
  rw [turnsOut, mem_sortW, List.mem_map]

/-! ### words in layers -/
/-- what is new goes to both lists -/
def addT (p : List Tw × List Tw) (u : Tw) : List Tw × List Tw := if u ∈ p.1 then p else (p.1 ++ [u], p.2 ++ [u])
def grow (p : List Tw × List Tw) : List Tw × List Tw := (p.2.flatMap Tw.turns).foldl addT (p.1, [])
theorem add_facts : ∀ (L : List Tw) (p : List Tw × List Tw), (∀ u, u ∈ (L.foldl addT p).1 ↔ u ∈ p.1 ∨ u ∈ L) ∧ (∀ u, u ∈ (L.foldl addT p).2 ↔ u ∈ p.2 ∨ (u ∈ L ∧ u ∉ p.1)) := by
  intro L
  induction L with
  | nil => intro p; exact ⟨fun u => by simp, fun u => by simp⟩
  | cons x r ih =>
    intro p
    obtain ⟨h1, h2⟩ := ih (addT p x)
    rw [List.foldl_cons]
    by_cases hx : x ∈ p.1
    · have e : addT p x = p := by rw [addT, if_pos hx]
      rw [e] at h1 h2 ⊢
      refine ⟨fun u => ?_, fun u => ?_⟩
      · rw [h1, List.mem_cons]
        constructor
        · rintro (a | a); exact .inl a; exact .inr (.inr a)
        · rintro (a | a | a); exact .inl a; subst a; exact .inl hx; exact .inr a
      · rw [h2, List.mem_cons]
        constructor
        · rintro (a | ⟨a, b⟩); exact .inl a; exact .inr ⟨.inr a, b⟩
        · rintro (a | ⟨a | a, b⟩); exact .inl a; subst a; exact absurd hx b; exact .inr ⟨a, b⟩
    · have e : addT p x = (p.1 ++ [x], p.2 ++ [x]) := by rw [addT, if_neg hx]
      rw [e] at h1 h2 ⊢
      refine ⟨fun u => ?_, fun u => ?_⟩
      · rw [h1]
        simp only [List.mem_append, List.mem_cons, List.not_mem_nil, or_false]
        constructor
        · rintro ((a | a) | a); exact .inl a; exact .inr (.inl a); exact .inr (.inr a)
        · rintro (a | a | a); exact .inl (.inl a); exact .inl (.inr a); exact .inr a
      · rw [h2]
        simp only [List.mem_append, List.mem_cons, List.not_mem_nil, or_false, not_or]
        constructor
        · rintro ((a | a) | ⟨a, b, c⟩)
          · exact .inl a
          · subst a; exact .inr ⟨.inl rfl, hx⟩
          · exact .inr ⟨.inr a, b⟩
        · rintro (a | ⟨a | a, b⟩)
          · exact .inl (.inl a)
          · exact .inl (.inr a)
          · by_cases hux : u = x
            · exact .inl (.inr hux)
            · exact .inr ⟨a, b, hux⟩
/-- seen so far, and the newest of them -/
def Layer (a : Tw) (k : Nat) (p : List Tw × List Tw) : Prop := (∀ u, u ∈ p.1 ↔ ∃ j, j ≤ k ∧ Tw.Way j a u) ∧ ∀ u, u ∈ p.2 ↔ Tw.Far a u k
theorem layer_zero (a : Tw) : Layer a 0 ([a], [a]) := by
  refine ⟨fun u => ?_, fun u => ?_⟩
  · simp only [List.mem_singleton]
    constructor
    · intro e; exact ⟨0, Nat.le_refl _, e.symm⟩
    · rintro ⟨j, hj, hw⟩
      have : j = 0 := by omega
      subst this
      exact (show a = u from hw).symm
  · simp only [List.mem_singleton]
    constructor
    · intro e; exact ⟨e.symm, fun j hj => by omega⟩
    · intro h; exact (show a = u from h.1).symm
theorem layer_grow {a : Tw} {k : Nat} {p : List Tw × List Tw} (h : Layer a k p) : Layer a (k + 1) (grow p) := by
  obtain ⟨h1, h2⟩ := h
  obtain ⟨g1, g2⟩ := add_facts (p.2.flatMap Tw.turns) (p.1, [])
  have hm : ∀ u, u ∈ p.2.flatMap Tw.turns ↔ ∃ c, Tw.Far a c k ∧ u ∈ c.turns := fun u => by
    rw [List.mem_flatMap]
    constructor
    · rintro ⟨c, hc, hu⟩; exact ⟨c, (h2 c).1 hc, hu⟩
    · rintro ⟨c, hc, hu⟩; exact ⟨c, (h2 c).2 hc, hu⟩
  have key : ∀ u, (∃ j, j ≤ k + 1 ∧ Tw.Way j a u) ↔ (∃ j, j ≤ k ∧ Tw.Way j a u) ∨ ∃ c, Tw.Far a c k ∧ u ∈ c.turns := fun u => by
    constructor
    · rintro ⟨j, hj, hw⟩
      by_cases hjk : ∃ i, i ≤ k ∧ Tw.Way i a u
      · exact .inl hjk
      · right
        have e : j = k + 1 := by
          apply Classical.byContradiction
          intro hne
          exact hjk ⟨j, by omega, hw⟩
        subst e
        obtain ⟨c, hc, hu⟩ := hw
        refine ⟨c, ⟨hc, fun i hi hw => hjk ⟨i + 1, by omega, c, hw, hu⟩⟩, hu⟩
    · rintro (⟨j, hj, hw⟩ | ⟨c, hc, hu⟩)
      · exact ⟨j, by omega, hw⟩
      · exact ⟨k + 1, Nat.le_refl _, c, hc.1, hu⟩
  refine ⟨fun u => ?_, fun u => ?_⟩
  · show u ∈ ((p.2.flatMap Tw.turns).foldl addT (p.1, [])).1 ↔ _
    rw [g1 u, key u]
    show (u ∈ p.1 ∨ _) ↔ _
    rw [h1 u, hm u]
  · show u ∈ ((p.2.flatMap Tw.turns).foldl addT (p.1, [])).2 ↔ _
    rw [g2 u]
    show (u ∈ [] ∨ (_ ∧ u ∉ p.1)) ↔ _
    rw [hm u, h1 u]
    constructor
    · rintro (a | ⟨⟨c, hc, hu⟩, hn⟩)
      · simp at a
      · exact ⟨⟨c, hc.1, hu⟩, fun j hj hw => hn ⟨j, by omega, hw⟩⟩
    · intro hf
      refine .inr ⟨?_, fun ⟨j, hj, hw⟩ => hf.2 j (by omega) hw⟩
      obtain ⟨c, hc, hu⟩ := hf.1
      exact ⟨c, ⟨hc, fun i hi hw => hf.2 (i + 1) (by omega) ⟨c, hw, hu⟩⟩, hu⟩
end Go.Proofs.Ytcfenbienebbjaa

namespace Go.Proofs.Ytcfenbienebbjaa

def distG (b : Tw) : Nat → Nat → List Tw × List Tw → Nat
  | 0, n, _ => n
  | f + 1, n, p => if b ∈ p.2 then n else distG b f (n + 1) (grow p)
theorem distG_far {a b : Tw} {d : Nat} (h : Tw.Far a b d) : ∀ (f n : Nat) (p : List Tw × List Tw), Layer a n p → n ≤ d → d ≤ n + f → distG b f n p = d := by
  intro f
  induction f with
  | zero => intro n p _ h1 h2; simp only [distG]; omega
  | succ f ih =>
    intro n p hp h1 h2
    rw [distG]
    by_cases hm : b ∈ p.2
    · rw [if_pos hm]
      exact ((hp.2 b).1 hm).uniq h
    · rw [if_neg hm]
      have hne : n ≠ d := fun e => hm ((hp.2 b).2 (by rw [e]; exact h))
      exact ih (n + 1) (grow p) (layer_grow hp) (by omega) (by omega)
def dist (a b : Tw) : Nat := distG b 10 0 ([a], [a])
theorem dist_far {a b : Tw} {d : Nat} (h : Tw.Far a b d) (h10 : d ≤ 10) : dist a b = d := distG_far h 10 0 _ (layer_zero a) (Nat.zero_le _) (by omega)
theorem far_ten {a b : Tw} (hs : a.size = b.size) (h6 : a.size ≤ 6) : ∃ d, d ≤ 10 ∧ Tw.Far a b d := by
  obtain ⟨d, hd, h⟩ := Tw.far_some hs
  refine ⟨d, ?_, h⟩
  have h1 := @Tw.spine_pos a
  have h2 := @Tw.spine_pos b
  omega
theorem far_dist {a b : Tw} (hs : a.size = b.size) (h6 : a.size ≤ 6) : Tw.Far a b (dist a b) ∧ dist a b ≤ 10 := by
  obtain ⟨d, h1, h2⟩ := far_ten hs h6
  rw [dist_far h2 h1]
  exact ⟨h2, h1⟩

/-! ### all words of up to four pairs -/
def parse : Nat → List UInt8 → Tw
  | 0, _ => .e
  | _ + 1, [] => .e
  | f + 1, c :: r => .n (parse f (fstL (c :: r))) (parse f (rstL (c :: r)))
theorem parse_lst : ∀ (f : Nat) (t : Tw), t.size ≤ f → parse f t.lst = t := by
  intro f
  induction f with
  | zero =>
    intro t h
    cases t with
    | e => rfl
    | n a b => simp [Tw.size] at h
  | succ f ih =>
    intro t h
    cases t with
    | e => rfl
    | n a b =>
      simp only [Tw.size] at h
      show parse (f + 1) (40 :: (a.lst ++ 41 :: b.lst)) = _
      rw [parse]
      have h1 : fstL (40 :: (a.lst ++ 41 :: b.lst)) = a.lst := Tw.fst_lst a b
      have h2 : rstL (40 :: (a.lst ++ 41 :: b.lst)) = b.lst := Tw.rst_lst a b
      rw [h1, h2, ih a (by omega), ih b (by omega)]
def treesOf (n : Nat) : List Tw := (wordsL (2 * n) [] 0 n).map (parse 9)
theorem trees_lst : ∀ n, n ≤ 4 → (treesOf n).map Tw.lst = wordsL (2 * n) [] 0 n
  | 0, _ => by decide
  | 1, _ => by decide
  | 2, _ => by decide
  | 3, _ => by decide +kernel
  | 4, _ => by decide +kernel
  | k + 5, h => absurd h (by omega)
theorem trees_all {n : Nat} (hn : n ≤ 4) {t : Tw} (ht : t.size = n) : t ∈ treesOf n := by
  have h1 := wordsL_mem t.lst [] (2 * n) 0 n t.lst_scan (by rw [Tw.lst_length, ht]) (by omega)
  rw [List.nil_append, ← trees_lst n hn, List.mem_map] at h1
  obtain ⟨u, hu, e⟩ := h1
  rw [← Tw.lst_inj _ _ e]
  exact hu
theorem trees_size : ∀ n, n ≤ 4 → ∀ t ∈ treesOf n, t.size = n
  | 0, _ => by decide +kernel
  | 1, _ => by decide +kernel
  | 2, _ => by decide +kernel
  | 3, _ => by decide +kernel
  | 4, _ => by decide +kernel
  | k + 5, h => absurd h (by omega)
/-- the most turns between two words of so many pairs -/
def mostV : Nat → Nat
  | 0 => 0
  | 1 => 0
  | 2 => 1
  | 3 => 2
  | _ => 4
theorem dist_most : ∀ n, n ≤ 4 → ∀ t ∈ treesOf n, ∀ u ∈ treesOf n, dist t u ≤ mostV n
  | 0, _ => by decide +kernel
  | 1, _ => by decide +kernel
  | 2, _ => by decide +kernel
  | 3, _ => by decide +kernel
  | 4, _ => by decide +kernel
  | k + 5, h => absurd h (by omega)
/-- as far as the k-th word of a row, and as far as the i-th row -/
def rowM (L : List Tw) (t : Tw) (o k : Nat) : Nat := (L.take k).foldl (fun m u => max m (dist t u)) o
def mostTo (L : List Tw) : Nat → Nat
  | 0 => 0
  | i + 1 => rowM L (L.getD i .e) (mostTo L i) i
theorem rowM_step (L : List Tw) (t : Tw) (o k : Nat) (h : k < L.length) : rowM L t o (k + 1) = max (rowM L t o k) (dist t L[k]) := by
  rw [rowM, List.take_succ_eq_append_getElem h, List.foldl_append]; rfl
theorem most_step (L : List Tw) (i : Nat) (h : i < L.length) : mostTo L (i + 1) = rowM L L[i] (mostTo L i) i := by
  rw [mostTo, List.getD_eq_getElem?_getD, List.getElem?_eq_getElem h]; rfl
theorem most_all : ∀ n, n ≤ 4 → mostTo (treesOf n) (treesOf n).length = mostV n
  | 0, _ => by decide +kernel
  | 1, _ => by decide +kernel
  | 2, _ => by decide +kernel
  | 3, _ => by decide +kernel
  | 4, _ => by decide +kernel
  | k + 5, h => absurd h (by omega)
theorem mostV_mono (n : Nat) (h : n + 1 ≤ 4) : mostV n ≤ mostV (n + 1) := by
  match n, h with
  | 0, _ => decide
  | 1, _ => decide
  | 2, _ => decide
  | 3, _ => decide
theorem mostV_le (n : Nat) (h : n ≤ 4) (h1 : 0 < n) : mostV n ≤ 2 * (n - 1) := by
  match n, h, h1 with
  | 1, _, _ => decide
  | 2, _, _ => decide
  | 3, _, _ => decide
  | 4, _, _ => decide
theorem dist_few {a b : Tw} (hs : a.size = b.size) (h4 : a.size ≤ 4) : dist a b ≤ mostV a.size :=
  dist_most _ h4 a (trees_all h4 rfl) b (trees_all h4 hs.symm)
end Go.Proofs.Ytcfenbienebbjaa

namespace Go.Proofs.Ytcfenbienebbjaa

/-- the words into which a word turns at one of its pairs: with what is ahead of it and what is behind it -/
def aheadT (p x q : List UInt8) : List (List UInt8) := if p.getLast? = some 40 then [p.dropLast ++ x ++ 40 :: q] else []
def behindT (p x q : List UInt8) : List (List UInt8) := if q.head? = some 40 then [p ++ 40 :: (x ++ q.tail)] else []
def appT (p x q : List UInt8) : List (List UInt8) := aheadT p x q ++ behindT p x q
theorem appT_length (p x q : List UInt8) : (appT p x q).length ≤ 2 := by
  rw [appT, List.length_append, aheadT, behindT]
  split <;> split <;> simp
namespace Tw
def pair : Tw → List UInt8 := fun a => 40 :: (a.lst ++ [41])
def col : Tw → List UInt8 → List UInt8 → List (List UInt8)
  | e, _, _ => []
  | n a b, p, q => a.col (p ++ [40]) (41 :: (b.lst ++ q)) ++ (appT p a.pair (b.lst ++ q) ++ b.col (p ++ a.pair) q)
def extra : Tw → List UInt8 → List UInt8 → List (List UInt8)
  | e, _, _ => []
  | n a b, p, q => aheadT p a.pair (b.lst ++ q)
theorem col_turns : ∀ (t : Tw) (p q : List UInt8), q.head? ≠ some 40 → ∀ x, (t.col p q).count x = (t.turns.map (fun u => p ++ (u.lst ++ q))).count x + (t.extra p q).count x
  | e, p, q, _, x => rfl
  | n a b, p, q, hq, x => by
    have ha := col_turns a (p ++ [40]) (41 :: (b.lst ++ q)) (by simp) x
    have hb := col_turns b (p ++ a.pair) q hq x
    have e1 : a.turns.map (fun u => p ++ [40] ++ (u.lst ++ 41 :: (b.lst ++ q))) = (a.turns.map (fun u => n u b)).map (fun u => p ++ (u.lst ++ q)) := by
      rw [List.map_map]
      refine List.map_congr_left fun u _ => ?_
      simp [lst]
    have e2 : b.turns.map (fun u => p ++ a.pair ++ (u.lst ++ q)) = (b.turns.map (fun u => n a u)).map (fun u => p ++ (u.lst ++ q)) := by
      rw [List.map_map]
      refine List.map_congr_left fun u _ => ?_
      simp [lst, pair]
    have e3 : a.extra (p ++ [40]) (41 :: (b.lst ++ q)) = (up a b).map (fun u => p ++ (u.lst ++ q)) := by
      cases a with
      | e => rfl
      | n c d => simp [extra, aheadT, up, lst, pair]
    have e4 : b.extra (p ++ a.pair) q = [] := by
      cases b with
      | e => rfl
      | n c d =>
        have e : (p ++ 40 :: (a.lst ++ [41])).getLast? = some 41 := by
          rw [show p ++ 40 :: (a.lst ++ [41]) = (p ++ 40 :: a.lst) ++ [41] by simp, List.getLast?_concat]
        rw [extra, aheadT, pair, e, if_neg (by decide)]
    have e5 : behindT p a.pair (b.lst ++ q) = (down a b).map (fun u => p ++ (u.lst ++ q)) := by
      cases b with
      | e => cases a <;> simp [behindT, lst, down, hq]
      | n c d => cases a <;> simp [behindT, down, lst, pair]
    rw [e1, e3] at ha
    rw [e2, e4] at hb
    rw [col, turns, extra, appT]
    simp only [List.count_append, List.map_append, e5, ha, hb, List.count_nil]
    omega
theorem col_perm (t : Tw) : (t.col [] []).Perm (t.turns.map lst) := by
  rw [List.perm_iff_count]
  intro x
  rw [col_turns t [] [] (by simp) x]
  have e1 : t.extra [] [] = [] := by
    cases t with
    | e => rfl
    | n a b => simp [extra, aheadT]
  rw [e1, List.count_nil, Nat.add_zero]
  congr 1
  refine List.map_congr_left fun u _ => ?_
  simp
theorem col_nodup (t : Tw) : (t.col [] []).Nodup := (col_perm t).nodup_iff.2 (map_nodup lst_inj (turns_nodup t))
end Tw

/-! ### byte by byte -/
def tstep (L : List UInt8) (st : List (List UInt8) × List Nat) (i : Nat) (c : UInt8) : List (List UInt8) × List Nat :=
  if c.toNat = 40 then (st.1, st.2 ++ [i]) else (st.1 ++ appT (L.take (st.2.getLastD 0)) ((L.take (i + 1)).drop (st.2.getLastD 0)) (L.drop (i + 1)), st.2.dropLast)
def runT (L : List UInt8) : Nat → List (List UInt8) × List Nat
  | 0 => ([], [])
  | k + 1 => tstep L (runT L k) k (L.getD k 0)
theorem runT_step (L : List UInt8) (k : Nat) (h : k < L.length) : runT L (k + 1) = tstep L (runT L k) k L[k] := by
  rw [runT, List.getD_eq_getElem?_getD, List.getElem?_eq_getElem h]; rfl
theorem runT_tree (L : List UInt8) : ∀ (t : Tw) (p q : List UInt8) (W : List (List UInt8)) (O : List Nat), L = p ++ (t.lst ++ q) → runT L p.length = (W, O) → runT L (p.length + t.lst.length) = (W ++ t.col p q, O)
  | .e, p, q, W, O, _, h => by simpa [Tw.lst, Tw.col] using h
  | .n a b, p, q, W, O, hL, h => by
    have l1 : (Tw.n a b).lst.length = a.lst.length + b.lst.length + 2 := by simp [Tw.lst]; omega
    have hL1 : L = (p ++ [40]) ++ (a.lst ++ 41 :: (b.lst ++ q)) := by rw [hL]; simp [Tw.lst]
    have hL2 : L = (p ++ a.pair) ++ (b.lst ++ q) := by rw [hL]; simp [Tw.lst, Tw.pair]
    have s1 : runT L (p ++ [40]).length = (W, O ++ [p.length]) := by
      rw [List.length_append]
      show runT L (p.length + 1) = _
      have hlt : p.length < L.length := by
        have := congrArg List.length hL
        simp only [List.length_append, l1] at this ⊢
        omega
      have hc : L[p.length] = 40 := by
        simp only [hL, Tw.lst]
        simp
      rw [runT_step L _ hlt, h, hc, tstep]
      simp
    have s2 := runT_tree L a (p ++ [40]) (41 :: (b.lst ++ q)) W (O ++ [p.length]) hL1 s1
    have lp : (p ++ [40]).length + a.lst.length + 1 = (p ++ a.pair).length := by simp [Tw.pair]; omega
    have s3 : runT L (p ++ a.pair).length = (W ++ a.col (p ++ [40]) (41 :: (b.lst ++ q)) ++ appT p a.pair (b.lst ++ q), O) := by
      rw [← lp]
      have hlt : (p ++ [40]).length + a.lst.length < L.length := by
        have := congrArg List.length hL1
        simp only [List.length_append, List.length_cons, List.length_nil] at this ⊢
        omega
      have hc : L[(p ++ [40]).length + a.lst.length] = 41 := by
        have : L[(p ++ [40]).length + a.lst.length]? = some 41 := by
          rw [hL1, List.getElem?_append_right (by omega), List.getElem?_append_right (by omega)]
          simp
        rw [List.getElem?_eq_getElem hlt] at this
        exact Option.some.inj this
      rw [runT_step L _ hlt, s2, hc, tstep]
      have e1 : (O ++ [p.length]).getLastD 0 = p.length := by simp [List.getLastD_eq_getLast?]
      have e2 : L.take p.length = p := by rw [hL]; simp
      have e3 : (L.take ((p ++ [40]).length + a.lst.length + 1)).drop p.length = a.pair := by
        rw [lp, hL2, List.take_left]
        simp
      have e4 : L.drop ((p ++ [40]).length + a.lst.length + 1) = b.lst ++ q := by
        rw [lp, hL2, List.drop_left]
      rw [if_neg (by decide), e1, e2, e3, e4]
      simp
    have s4 := runT_tree L b (p ++ a.pair) q _ O hL2 s3
    have lq : (p ++ a.pair).length + b.lst.length = p.length + (Tw.n a b).lst.length := by rw [l1]; simp [Tw.pair]; omega
    rw [lq] at s4
    rw [s4, Tw.col]
    simp
theorem runT_all (t : Tw) : runT t.lst t.lst.length = (t.col [] [], []) := by
  have := runT_tree t.lst t [] [] [] [] (by simp) rfl
  simpa using this
theorem runT_small (L : List UInt8) : ∀ k, (runT L k).1.length ≤ 2 * k ∧ ∀ x ∈ (runT L k).2, x < k
  | 0 => ⟨by simp [runT], by simp [runT]⟩
  | k + 1 => by
    obtain ⟨h1, h2⟩ := runT_small L k
    rw [runT, tstep]
    split
    · refine ⟨by simp only; omega, fun x hx => ?_⟩
      rcases List.mem_append.1 hx with h | h
      · have := h2 x h; omega
      · simp at h; omega
    · refine ⟨?_, fun x hx => ?_⟩
      · simp only [List.length_append]
        have := appT_length (L.take ((runT L k).2.getLastD 0)) ((L.take (k + 1)).drop ((runT L k).2.getLastD 0)) (L.drop (k + 1))
        omega
      · have := h2 x (List.dropLast_subset _ hx); omega
theorem runT_open (L : List UInt8) : ∀ (k o : Nat), k ≤ L.length → scan (L.take k) = some o → (runT L k).2.length = o := by
  intro k
  induction k with
  | zero => intro o _ h; simp [scan] at h; simp [runT, h]
  | succ k ih =>
    intro o hk h
    have hlt : k < L.length := by omega
    rw [take_snoc L k hlt, scan_snoc] at h
    cases hs : scan (L.take k) with
    | none => rw [hs] at h; cases h
    | some o' =>
      rw [hs] at h
      have hl := ih o' (by omega) hs
      rw [runT_step L k hlt, tstep]
      unfold vstep at h
      simp only at h
      split at h
      · rename_i hc
        rw [if_pos hc, List.length_append, hl]
        simpa using h
      · rename_i hc
        rw [if_neg hc, List.length_dropLast, hl]
        split at h
        · split at h
          · cases h
          · simpa using h
        · cases h

/-! ### sorted -/
theorem less_lt : ∀ {x y : List UInt8}, lessL x y = true ↔ x < y
  | [], [] => by simp [lessL]
  | [], _ :: _ => by simp [lessL]
  | _ :: _, [] => by simp [lessL]
  | a :: x, b :: y => by
    rw [List.cons_lt_cons_iff, ← less_lt (x := x) (y := y), lessL, UInt8.lt_iff_toNat_lt, ← UInt8.toNat_inj]
    simp
theorem less_of_le {x y : List UInt8} (h : x ≤ y) (hne : x ≠ y) : lessL x y = true := by
  rcases less_total x y with h1 | h1 | h1
  · exact h1
  · exact absurd h1 hne
  · exact absurd (less_lt.1 h1) (by exact fun h2 => h h2)
theorem sort_turns (t : Tw) {M : List (List UInt8)} (h : M.Perm (t.col [] [])) (hs : M.Pairwise (fun x y => x ≤ y)) : M = turnsOut t := by
  have hn : M.Nodup := h.nodup_iff.2 (Tw.col_nodup t)
  refine (sortW_uniq ?_ fun y => ?_).symm
  · exact (hs.and hn).imp fun ⟨h1, h2⟩ => less_of_le h1 h2
  · rw [(h.trans (Tw.col_perm t)).mem_iff]
end Go.Proofs.Ytcfenbienebbjaa

namespace Go.Proofs.Ytcfenbienebbjaa
namespace Tw

/-- the depths of the nodes, in their order -/
def dl : Tw → Nat → List Nat
  | e, _ => []
  | n a b, d => d :: (a.dl (d + 1) ++ b.dl d)
theorem fold_dl : ∀ (t : Tw) (R : List (List Nat)) (O : List Nat), ∃ Q, t.lst.foldl stepOP (R, O) = (R ++ Q, O) ∧ Q.map List.length = t.dl O.length
  | e, R, O => ⟨[], by simp [lst], rfl⟩
  | n a b, R, O => by
    obtain ⟨Qa, ha, la⟩ := fold_dl a (R ++ [O]) (O ++ [R.length])
    obtain ⟨Qb, hb, lb⟩ := fold_dl b (R ++ [O] ++ Qa) O
    refine ⟨[O] ++ Qa ++ Qb, ?_, ?_⟩
    · rw [lst, List.foldl_cons, List.foldl_append, List.foldl_cons]
      have e1 : stepOP (R, O) 40 = (R ++ [O], O ++ [R.length]) := by simp [stepOP]
      have e2 : ∀ X, stepOP (X, O ++ [R.length]) 41 = (X, O) := fun X => by simp [stepOP]
      rw [e1, ha, e2, hb]
      simp [List.append_assoc]
    · rw [List.map_append, List.map_append, la, lb, dl]
      simp
theorem depths_dl (t : Tw) : depthsL t.lst = (t.dl 0).map fun (d : Nat) => (d : Int) := by
  obtain ⟨Q, h1, h2⟩ := fold_dl t [] []
  rw [depthsL, openP, h1, List.nil_append]
  show List.map (fun r => (r.length : Int)) Q = _
  have h3 : t.dl 0 = Q.map List.length := h2.symm
  rw [h3, List.map_map]
  rfl
theorem dl_deep : ∀ (t : Tw) (d : Nat), (t.dl d).countP (fun x => decide (0 < x)) = if d = 0 then t.size - t.spine else t.size
  | e, d => by simp [dl, size, spine]
  | n a b, d => by
    have h1 := spine_le b
    rw [dl, List.countP_cons, List.countP_append, dl_deep a, dl_deep b, if_neg (by omega)]
    by_cases hd : d = 0
    · subst hd
      simp [size, spine]
      omega
    · simp only [if_neg hd, decide_eq_true_eq, size]
      rw [if_pos (by omega)]
      omega
end Tw
/-- how many of the numbers are above none -/
def deepL (l : List Int) : Nat := l.countP fun x => decide (0 < x)
theorem deep_tree (t : Tw) : deepL (depthsL t.lst) = t.size - t.spine := by
  have h := Tw.dl_deep t 0
  rw [if_pos rfl] at h
  rw [Tw.depths_dl, deepL, List.countP_map, ← h]
  refine List.countP_congr fun x _ => ?_
  simp
theorem deep_step (l : List Int) (k : Nat) (h : k < l.length) : deepL (l.take (k + 1)) = deepL (l.take k) + if 0 < l[k] then 1 else 0 := by
  rw [List.take_succ_eq_append_getElem h, deepL, List.countP_append, ← deepL]
  simp [List.countP_cons]
end Go.Proofs.Ytcfenbienebbjaa
