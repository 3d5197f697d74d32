/-
  Plain facts on the word behind one, and tables of in how many ways a word ends. Nothing of the program is named here.
-/
import Derived.Test.YtnepfbellbmgeaaWRank
import GoSem.Op.String
namespace Go.Proofs.Ytnepfbellbmgeaa

/-! ### the first word, where the cut has no state -/
def g1 (c : List UInt8 → Bool) : Nat → List UInt8 → Nat → Nat → Option (List UInt8)
  | 0, h, _, _ => if c h = true then none else some h
  | f + 1, h, o, l => if c h = true then none else (if 0 < l then g1 c f (h ++ [40]) (o + 1) (l - 1) else none).or (if 0 < o then g1 c f (h ++ [41]) (o - 1) l else none)
def cutOf (c : List UInt8 → Bool) : Unit → List UInt8 → Nat → Nat → Bool × Unit := fun _ h _ _ => (c h, ())
theorem gw_g1 (c : List UInt8 → Bool) (f : Nat) : ∀ (h : List UInt8) (o l : Nat), 2 * l + o = f → (gw (cutOf c) f () h o l).1.head? = g1 c f h o l := by
  induction f with
  | zero =>
    intro h o l _
    cases hc : c h
    · rw [gw_zero () h o l (show (cutOf c () h o l).1 = false from hc), g1, if_neg (by rw [hc]; decide)]; rfl
    · rw [gw_cut 0 () h o l (show (cutOf c () h o l).1 = true from hc), g1, if_pos hc]; rfl
  | succ f ih =>
    intro h o l hf
    cases hc : c h
    · have hc' : (cutOf c () h o l).1 = false := hc
      rw [g1, if_neg (by rw [hc]; decide)]
      by_cases hl : 0 < l
      · by_cases ho : 0 < o
        · rw [gw_both f () h o l hc' hl ho, List.head?_append, ih _ _ _ (by omega), ih _ _ _ (by omega), if_pos hl, if_pos ho]
        · rw [gw_open f () h o l hc' hl ho, ih _ _ _ (by omega), if_pos hl, if_neg ho, Option.or_none]
      · rw [gw_shut f () h o l hc' hl (by omega), ih _ _ _ (by omega), if_neg hl, if_pos (by omega), Option.none_or]
    · rw [gw_cut _ () h o l (show (cutOf c () h o l).1 = true from hc), g1, if_pos hc]; rfl

/-- is a text less, byte by byte? -/
def lessL : List UInt8 → List UInt8 → Bool
  | _, [] => false
  | [], _ :: _ => true
  | a :: x, b :: y => Nat.blt a.toNat b.toNat || (Nat.beq a.toNat b.toNat && lessL x y)
theorem less_eq : ∀ (x y : List UInt8), Op.bytesLess x y = lessL x y
  | x, [] => by cases x <;> rfl
  | [], _ :: _ => rfl
  | a :: x, b :: y => by
    rw [Op.bytesLess, lessL, less_eq x y]
    have e1 : decide (a < b) = Nat.blt a.toNat b.toNat := by
      rw [Bool.eq_iff_iff]; simp [UInt8.lt_iff_toNat_lt]
    have e2 : (a == b) = Nat.beq a.toNat b.toNat := by
      rw [Bool.eq_iff_iff]; simp [← UInt8.toNat_inj]
    rw [e1, e2]
def eqL : List UInt8 → List UInt8 → Bool
  | [], [] => true
  | a :: x, b :: y => Nat.beq a.toNat b.toNat && eqL x y
  | _, _ => false
theorem eqL_eq : ∀ (x y : List UInt8), (x == y) = eqL x y
  | [], [] => rfl
  | [], _ :: _ => rfl
  | _ :: _, [] => rfl
  | a :: x, b :: y => by
    rw [List.cons_beq_cons, eqL, eqL_eq x y]
    have e2 : (a == b) = Nat.beq a.toNat b.toNat := by
      rw [Bool.eq_iff_iff]; simp [← UInt8.toNat_inj]
    rw [e2]
/-- beginnings that are the word, or less -/
def notBehind (s h : List UInt8) : Bool := eqL h s || lessL h (s.take h.length)

/-! ### the model's -/
/-- the word behind s, where the last ( that is turned is ahead of j -/
def nextAt (s : List UInt8) : Nat → Option (List UInt8)
  | 0 => none
  | i + 1 => match s[i]?, scan (s.take i) with
    | some c, some (o + 1) => if Nat.beq c.toNat 41 then nextAt s i else some (s.take i ++ [41] ++ List.replicate ((s.length - i - 1 - o) / 2) 40 ++ List.replicate (o + (s.length - i - 1 - o) / 2) 41)
    | _, _ => nextAt s i

/-! ### tables -/
def eT (l o : Nat) : Nat := ([[1, 1, 1, 1, 1, 1, 1, 1, 1, 1], [1, 2, 3, 4, 5, 6, 7, 8, 9], [2, 5, 9, 14, 20, 27, 35, 44], [5, 14, 28, 48, 75, 110, 154], [14, 42, 90, 165, 275, 429], [42, 132, 297, 572, 1001], [132, 429, 1001, 2002], [429, 1430, 3432], [1430, 4862], [4862]].getD l []).getD o 0
theorem ee_eT : ∀ l, l ≤ 9 → ∀ o, o ≤ 9 - l → ee l o = eT l o := by decide +kernel
def rstepT (st : Nat × Nat × Nat) (c : UInt8) : Nat × Nat × Nat :=
  if Nat.beq c.toNat 40 then (st.1, st.2.1 + 1, st.2.2 - 1) else (if Nat.blt 0 st.2.2 then st.1 + eT (st.2.2 - 1) (st.2.1 + 1) else st.1, st.2.1 - 1, st.2.2)
def rankT (s : List UInt8) : Nat := (s.foldl rstepT (0, 0, s.length / 2)).1
theorem rank_fold {s : List UInt8} (hv : valid s = true) : ∀ k, k ≤ s.length → ∃ r o l, Rk s k r o l ∧ (s.take k).foldl rstepT (0, 0, s.length / 2) = (r, o, l) := by
  intro k
  induction k with
  | zero => exact fun _ => ⟨0, 0, s.length / 2, Rk.start hv, rfl⟩
  | succ k ih =>
    intro hk
    obtain ⟨r, o, l, h, e⟩ := ih (by omega)
    by_cases hc : s[k].toNat = 40
    · refine ⟨r, o + 1, l - 1, (h.opn hv (by omega) hc).1, ?_⟩
      rw [fold_take _ _ _ _ (by omega), e, rstepT, if_pos (by rw [hc]; rfl)]
    · have hs := h.cls hv (by omega) hc
      refine ⟨_, _, _, hs.1, ?_⟩
      rw [fold_take _ _ _ _ (by omega), e, rstepT, if_neg (by simpa using hc)]
      by_cases hl : 0 < l
      · rw [if_pos hl, if_pos (by simpa using hl), ee_eT (l - 1) (by omega) (o + 1) (by omega)]
      · rw [if_neg hl, if_neg (by simpa using hl)]
theorem rankL_T {s : List UInt8} (hv : valid s = true) : rankL s = rankT s := by
  obtain ⟨r, o, l, h, e⟩ := rank_fold hv s.length (Nat.le_refl _)
  rw [h.stop rfl, rankT]
  rw [List.take_of_length_le (Nat.le_refl _)] at e
  rw [e]
def watT : Nat → Nat → Nat → Nat → List UInt8
  | 0, _, _, _ => []
  | f + 1, r, o, l => if Nat.blt r (if Nat.blt 0 l then eT (l - 1) (o + 1) else 0) then 40 :: watT f r (o + 1) (l - 1) else 41 :: watT f (r - (if Nat.blt 0 l then eT (l - 1) (o + 1) else 0)) (o - 1) l
theorem wat_T (f : Nat) : ∀ r o l, o + l ≤ 9 → wat f r o l = watT f r o l := by
  induction f with
  | zero => intros; rfl
  | succ f ih =>
    intro r o l h
    by_cases hl : 0 < l
    · have hb : Nat.blt 0 l = true := by simpa using hl
      rw [wat, watT, if_pos hl, if_pos hb, ee_eT (l - 1) (by omega) (o + 1) (by omega)]
      by_cases hx : r < eT (l - 1) (o + 1)
      · rw [if_pos hx, if_pos (by simpa using hx), ih _ _ _ (by omega)]
      · rw [if_neg hx, if_neg (by simpa using hx), ih _ _ _ (by omega)]
    · have hb : ¬ Nat.blt 0 l = true := by simpa using hl
      have hr : ¬ Nat.blt r 0 = true := by simp
      rw [wat, watT, if_neg hl, if_neg hb, if_neg (Nat.not_lt_zero r), if_neg hr, ih _ _ _ (by omega)]
end Go.Proofs.Ytnepfbellbmgeaa
