/-
  Plain facts: of the words that are not behind a word all beginnings are cut, and the first one left is the word behind. Nothing of the program is named here.
-/
import Derived.Test.YtnepfbellbmgeaaWNext
namespace Go.Proofs.Ytnepfbellbmgeaa

theorem less_append : ∀ (p a b : List UInt8), lessL (p ++ a) (p ++ b) = lessL a b
  | [], _, _ => rfl
  | c :: p, a, b => by
    show (Nat.blt c.toNat c.toNat || (Nat.beq c.toNat c.toNat && lessL (p ++ a) (p ++ b))) = _
    rw [less_append p a b]
    simp
theorem less_self (p : List UInt8) : lessL p p = false := by
  have := less_append p [] []
  rw [List.append_nil] at this
  rw [this]; rfl
theorem eq_append : ∀ (p a b : List UInt8), eqL (p ++ a) (p ++ b) = eqL a b
  | [], _, _ => rfl
  | c :: p, a, b => by
    show (Nat.beq c.toNat c.toNat && eqL (p ++ a) (p ++ b)) = _
    rw [eq_append p a b]
    simp
theorem eq_length {a b : List UInt8} (h : a.length ≠ b.length) : eqL a b = false := by
  cases he : eqL a b
  · rfl
  · rw [← eqL_eq] at he; exact absurd (congrArg List.length (eq_of_beq he)) h

theorem split_at {s : List UInt8} {k : Nat} (hk : k < s.length) : s = s.take k ++ s[k] :: s.drop (k + 1) := by
  rw [← List.drop_eq_getElem_cons hk, List.take_append_drop]
/-- on the word's own way -/
theorem nb_path {s : List UInt8} {k : Nat} (hk : k < s.length) : notBehind s (s.take k) = false := by
  rw [notBehind, eq_length (by simp; omega), Bool.false_or, List.length_take, Nat.min_eq_left (Nat.le_of_lt hk), less_self]
/-- the word itself -/
theorem nb_self (s : List UInt8) : notBehind s s = true := by
  rw [notBehind, ← eqL_eq]; simp
/-- ahead of it -/
theorem nb_less {s : List UInt8} {k : Nat} (hk : k < s.length) (hc : s[k].toNat = 41) : notBehind s (s.take k ++ [40]) = true := by
  have e : s.take (s.take k ++ [40]).length = s.take k ++ [s[k]] := by
    rw [List.length_append, List.length_take, Nat.min_eq_left (Nat.le_of_lt hk), List.length_singleton, List.take_succ_eq_append_getElem hk]
  rw [notBehind, e, less_append]
  have : lessL [40] [s[k]] = true := by simp [lessL, hc]
  rw [this, Bool.or_true]
/-- behind it -/
theorem nb_more {s : List UInt8} {k : Nat} (hk : k < s.length) (hc : s[k].toNat = 40) (x : List UInt8) : notBehind s (s.take k ++ [41] ++ x) = false := by
  have h1 : eqL (s.take k ++ [41] ++ x) s = false := by
    have e : s = s.take k ++ s[k] :: s.drop (k + 1) := split_at hk
    have := eq_append (s.take k) (41 :: x) (s[k] :: s.drop (k + 1))
    rw [← e] at this
    rw [List.append_assoc]
    show eqL (s.take k ++ (41 :: x)) s = false
    rw [this]
    simp [eqL, hc]
  have e : s.take (s.take k ++ [41] ++ x).length = s.take k ++ (s[k] :: (s.drop (k + 1)).take x.length) := by
    rw [List.length_append, List.length_append, List.length_take, Nat.min_eq_left (Nat.le_of_lt hk), List.length_singleton]
    conv => lhs; rw [split_at hk]
    rw [List.take_append, List.length_take, Nat.min_eq_left (Nat.le_of_lt hk), List.take_of_length_le (by simp; omega), show k + 1 + x.length - k = x.length + 1 by omega, List.take_succ_cons]
  have h2 : lessL (s.take k ++ [41] ++ x) (s.take (s.take k ++ [41] ++ x).length) = false := by
    rw [e, List.append_assoc, less_append]
    show (Nat.blt 41 s[k].toNat || (Nat.beq 41 s[k].toNat && _)) = false
    rw [hc]; rfl
  rw [notBehind, h1, h2]; rfl

/-- where nothing is cut any more -/
theorem g1_free (c : List UInt8 → Bool) (f : Nat) : ∀ (h : List UInt8) (o l : Nat), 2 * l + o = f → (∀ x, c (h ++ x) = false) → g1 c f h o l = some (h ++ List.replicate l 40 ++ List.replicate (o + l) 41) := by
  induction f with
  | zero =>
    intro h o l hf hc
    obtain rfl : o = 0 := by omega
    obtain rfl : l = 0 := by omega
    have := hc []
    rw [List.append_nil] at this
    rw [g1, if_neg (by rw [this]; decide)]; simp
  | succ f ih =>
    intro h o l hf hc
    have hn := hc []
    rw [List.append_nil] at hn
    rw [g1, if_neg (by rw [hn]; decide)]
    by_cases hl : 0 < l
    · rw [if_pos hl, ih (h ++ [40]) (o + 1) (l - 1) (by omega) (fun x => by rw [List.append_assoc]; exact hc _), Option.some_or]
      obtain ⟨l, rfl⟩ : ∃ k, l = k + 1 := ⟨l - 1, by omega⟩
      rw [Nat.add_sub_cancel, List.replicate_succ, show o + 1 + l = o + (l + 1) by omega]
      simp
    · obtain rfl : l = 0 := by omega
      rw [if_neg hl, if_pos (by omega), ih (h ++ [41]) (o - 1) 0 (by omega) (fun x => by rw [List.append_assoc]; exact hc _), Option.none_or]
      obtain ⟨o, rfl⟩ : ∃ k, o = k + 1 := ⟨o - 1, by omega⟩
      simp [List.replicate_succ]

/-- what turning the ( at i gives -/
def turned (s : List UInt8) (i : Nat) : Option (List UInt8) := match s[i]?, scan (s.take i) with
  | some c, some (o + 1) => if Nat.beq c.toNat 41 then none else some (s.take i ++ [41] ++ List.replicate ((s.length - i - 1 - o) / 2) 40 ++ List.replicate (o + (s.length - i - 1 - o) / 2) 41)
  | _, _ => none
/-- the last of those from k on -/
def lastFrom (s : List UInt8) (k : Nat) : Nat → Option (List UInt8)
  | 0 => none
  | d + 1 => (turned s (k + d)).or (lastFrom s k d)
theorem next_last_from (s : List UInt8) (j : Nat) : nextAt s j = lastFrom s 0 j := by
  induction j with
  | zero => rfl
  | succ i ih =>
    rw [nextAt, lastFrom, turned, Nat.zero_add]
    cases s[i]? with
    | none => simp [ih]
    | some c =>
      cases scan (s.take i) with
      | none => simp [ih]
      | some o =>
        cases o with
        | zero => simp [ih]
        | succ o =>
          dsimp only
          by_cases hc : Nat.beq c.toNat 41 = true
          · rw [if_pos hc, if_pos hc, Option.none_or, ih]
          · rw [if_neg hc, if_neg hc, Option.some_or]
theorem last_first (s : List UInt8) (k d : Nat) : lastFrom s k (d + 1) = (lastFrom s (k + 1) d).or (turned s k) := by
  induction d with
  | zero => rw [lastFrom, lastFrom, lastFrom, Nat.add_zero, Option.or_none, Option.none_or]
  | succ d ih =>
    rw [lastFrom, ih, lastFrom, show k + 1 + d = k + (d + 1) by omega, Option.or_assoc]

theorem g1_last {s : List UInt8} (hv : valid s = true) (f : Nat) : ∀ (k o l : Nat), k + f = s.length → scan (s.take k) = some o → 2 * l + o = f → g1 (notBehind s) f (s.take k) o l = lastFrom s k f := by
  induction f with
  | zero =>
    intro k o l hk hs hf
    rw [g1, List.take_of_length_le (by omega), if_pos (nb_self s), lastFrom]
  | succ f ih =>
    intro k o l hk hs hf
    have hlt : k < s.length := by omega
    rw [g1, if_neg (by rw [nb_path hlt]; decide), last_first]
    have htk : s.take (k + 1) = s.take k ++ [s[k]] := List.take_succ_eq_append_getElem hlt
    have hsk := scan_step s k hlt
    rw [hs] at hsk
    by_cases hc : s[k].toNat = 40
    · have hc8 : s[k] = 40 := UInt8.toNat_inj.1 (by simpa using hc)
      have hs1 : scan (s.take (k + 1)) = some (o + 1) := by rw [hsk]; simp [vstep, hc]
      have hlow := rest_low hv hs1
      have hl : 0 < l := by omega
      have i1 := ih (k + 1) (o + 1) (l - 1) (by omega) hs1 (by omega)
      rw [htk, hc8] at i1
      rw [if_pos hl, i1]
      congr 1
      rw [turned, List.getElem?_eq_getElem hlt, hs]
      by_cases ho : 0 < o
      · obtain ⟨p, rfl⟩ : ∃ p, o = p + 1 := ⟨o - 1, by omega⟩
        rw [if_pos ho, Nat.add_sub_cancel, g1_free _ f _ p l (by omega) (fun x => nb_more hlt hc x)]
        show _ = (if Nat.beq s[k].toNat 41 = true then none else _)
        rw [if_neg (by rw [hc]; decide), show (s.length - k - 1 - p) / 2 = l by omega]
      · obtain rfl : o = 0 := by omega
        rw [if_neg ho]
    · have h41 : s[k].toNat = 41 ∧ 0 < o := by
        obtain ⟨r, p, q, hR, _⟩ := rank_fold hv k (Nat.le_of_lt hlt)
        have hpo : p = o := by have := hR.2.1; rw [hs] at this; exact (Option.some.inj this).symm
        have := hR.cls hv hlt hc
        exact ⟨this.2.2.2.2, by omega⟩
      have hc8 : s[k] = 41 := UInt8.toNat_inj.1 (by simpa using h41.1)
      have hs1 : scan (s.take (k + 1)) = some (o - 1) := by rw [hsk]; simp only [vstep]; rw [if_neg hc, if_pos h41.1, if_neg (by omega)]
      have i1 := ih (k + 1) (o - 1) l (by omega) hs1 (by omega)
      rw [htk, hc8] at i1
      have hz : turned s k = none := by
        rw [turned, List.getElem?_eq_getElem hlt, hs]
        obtain ⟨p, rfl⟩ : ∃ p, o = p + 1 := ⟨o - 1, by omega⟩
        show (if Nat.beq s[k].toNat 41 = true then none else _) = _
        rw [if_pos (by rw [h41.1]; rfl)]
      rw [hz, Option.or_none, if_pos h41.2, i1]
      have hfirst : (if 0 < l then g1 (notBehind s) f (s.take k ++ [40]) (o + 1) (l - 1) else none) = none := by
        split
        · have hcut := nb_less hlt h41.1
          cases f <;> rw [g1, if_pos hcut]
        · rfl
      rw [hfirst, Option.none_or]

theorem next_first {s : List UInt8} (hv : valid s = true) : (gw (cutOf (notBehind s)) (2 * (s.length / 2)) () [] 0 (s.length / 2)).1.head? = nextAt s s.length := by
  have hev := fold_even s 0 0 (valid_scan hv).1
  rw [gw_g1 _ _ _ _ _ (by omega), next_last_from]
  have e : 2 * (s.length / 2) = s.length := by omega
  have := g1_last hv s.length 0 0 (s.length / 2) (by omega) rfl (by omega)
  rw [e]
  exact this
end Go.Proofs.Ytnepfbellbmgeaa
