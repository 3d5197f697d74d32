/-
  Plain facts: the words one turn away, collected bracket by bracket; a list sorted by a library. Nothing of the program is named here.
-/
import Derived.Test.YtmoelhaobnloaaaWSortW
namespace Go.Proofs.Ytmoelhaobnloaaa

/-- the words into which a word turns at one of its pairs: with what is ahead of it and what is behind it -/
def aheadT (p x q : List UInt8) : List (List UInt8) := if p.getLast? = some 40 then [p.dropLast ++ x ++ 40 :: q] else []
def behindT (p x q : List UInt8) : List (List UInt8) := if q.head? = some 40 then [p ++ 40 :: (x ++ q.tail)] else []
def appT (p x q : List UInt8) : List (List UInt8) := aheadT p x q ++ behindT p x q
theorem appT_length (p x q : List UInt8) : (appT p x q).length ≤ 2 := by
  rw [appT, List.length_append, aheadT, behindT]
  split <;> split <;> simp
namespace Tw
def pair : Tw → List UInt8 := fun a => 40 :: (a.lst ++ [41])
def col : Tw → List UInt8 → List UInt8 → List (List UInt8)
  | e, _, _ => []
  | n a b, p, q => a.col (p ++ [40]) (41 :: (b.lst ++ q)) ++ (appT p a.pair (b.lst ++ q) ++ b.col (p ++ a.pair) q)
def extra : Tw → List UInt8 → List UInt8 → List (List UInt8)
  | e, _, _ => []
  | n a b, p, q => aheadT p a.pair (b.lst ++ q)
theorem col_turns : ∀ (t : Tw) (p q : List UInt8), q.head? ≠ some 40 → ∀ x, (t.col p q).count x = (t.turns.map (fun u => p ++ (u.lst ++ q))).count x + (t.extra p q).count x
  | e, p, q, _, x => rfl
  | n a b, p, q, hq, x => by
    have ha := col_turns a (p ++ [40]) (41 :: (b.lst ++ q)) (by simp) x
    have hb := col_turns b (p ++ a.pair) q hq x
    have e1 : a.turns.map (fun u => p ++ [40] ++ (u.lst ++ 41 :: (b.lst ++ q))) = (a.turns.map (fun u => n u b)).map (fun u => p ++ (u.lst ++ q)) := by
      rw [List.map_map]
      refine List.map_congr_left fun u _ => ?_
      simp [lst]
    have e2 : b.turns.map (fun u => p ++ a.pair ++ (u.lst ++ q)) = (b.turns.map (fun u => n a u)).map (fun u => p ++ (u.lst ++ q)) := by
      rw [List.map_map]
      refine List.map_congr_left fun u _ => ?_
      simp [lst, pair]
    have e3 : a.extra (p ++ [40]) (41 :: (b.lst ++ q)) = (up a b).map (fun u => p ++ (u.lst ++ q)) := by
      cases a with
      | e => rfl
      | n c d => simp [extra, aheadT, up, lst, pair]
    have e4 : b.extra (p ++ a.pair) q = [] := by
      cases b with
      | e => rfl
      | n c d =>
        have e : (p ++ 40 :: (a.lst ++ [41])).getLast? = some 41 := by
          rw [show p ++ 40 :: (a.lst ++ [41]) = (p ++ 40 :: a.lst) ++ [41] by simp, List.getLast?_concat]
        rw [extra, aheadT, pair, e, if_neg (by decide)]
    have e5 : behindT p a.pair (b.lst ++ q) = (down a b).map (fun u => p ++ (u.lst ++ q)) := by
      cases b with
      | e => cases a <;> simp [behindT, lst, down, hq]
      | n c d => cases a <;> simp [behindT, down, lst, pair]
    rw [e1, e3] at ha
    rw [e2, e4] at hb
    rw [col, turns, extra, appT]
    simp only [List.count_append, List.map_append, e5, ha, hb, List.count_nil]
    omega
theorem col_perm (t : Tw) : (t.col [] []).Perm (t.turns.map lst) := by
  rw [List.perm_iff_count]
  intro x
  rw [col_turns t [] [] (by simp) x]
  have e1 : t.extra [] [] = [] := by
    cases t with
    | e => rfl
    | n a b => simp [extra, aheadT]
  rw [e1, List.count_nil, Nat.add_zero]
  congr 1
  refine List.map_congr_left fun u _ => ?_
  simp
theorem col_nodup (t : Tw) : (t.col [] []).Nodup := (col_perm t).nodup_iff.2 (map_nodup lst_inj (turns_nodup t))
end Tw

/-! ### byte by byte -/
def tstep (L : List UInt8) (st : List (List UInt8) × List Nat) (i : Nat) (c : UInt8) : List (List UInt8) × List Nat :=
  if c.toNat = 40 then (st.1, st.2 ++ [i]) else (st.1 ++ appT (L.take (st.2.getLastD 0)) ((L.take (i + 1)).drop (st.2.getLastD 0)) (L.drop (i + 1)), st.2.dropLast)
def runT (L : List UInt8) : Nat → List (List UInt8) × List Nat
  | 0 => ([], [])
  | k + 1 => tstep L (runT L k) k (L.getD k 0)
theorem runT_step (L : List UInt8) (k : Nat) (h : k < L.length) : runT L (k + 1) = tstep L (runT L k) k L[k] := by
  rw [runT, List.getD_eq_getElem?_getD, List.getElem?_eq_getElem h]; rfl
theorem runT_tree (L : List UInt8) : ∀ (t : Tw) (p q : List UInt8) (W : List (List UInt8)) (O : List Nat), L = p ++ (t.lst ++ q) → runT L p.length = (W, O) → runT L (p.length + t.lst.length) = (W ++ t.col p q, O)
  | .e, p, q, W, O, _, h => by simpa [Tw.lst, Tw.col] using h
  | .n a b, p, q, W, O, hL, h => by
    have l1 : (Tw.n a b).lst.length = a.lst.length + b.lst.length + 2 := by simp [Tw.lst]; omega
    have hL1 : L = (p ++ [40]) ++ (a.lst ++ 41 :: (b.lst ++ q)) := by rw [hL]; simp [Tw.lst]
    have hL2 : L = (p ++ a.pair) ++ (b.lst ++ q) := by rw [hL]; simp [Tw.lst, Tw.pair]
    have s1 : runT L (p ++ [40]).length = (W, O ++ [p.length]) := by
      rw [List.length_append]
      show runT L (p.length + 1) = _
      have hlt : p.length < L.length := by
        have := congrArg List.length hL
        simp only [List.length_append, l1] at this ⊢
        omega
      have hc : L[p.length] = 40 := by
        simp only [hL, Tw.lst]
        simp
      rw [runT_step L _ hlt, h, hc, tstep]
      simp
    have s2 := runT_tree L a (p ++ [40]) (41 :: (b.lst ++ q)) W (O ++ [p.length]) hL1 s1
    have lp : (p ++ [40]).length + a.lst.length + 1 = (p ++ a.pair).length := by simp [Tw.pair]; omega
    have s3 : runT L (p ++ a.pair).length = (W ++ a.col (p ++ [40]) (41 :: (b.lst ++ q)) ++ appT p a.pair (b.lst ++ q), O) := by
      rw [← lp]
      have hlt : (p ++ [40]).length + a.lst.length < L.length := by
        have := congrArg List.length hL1
        simp only [List.length_append, List.length_cons, List.length_nil] at this ⊢
        omega
      have hc : L[(p ++ [40]).length + a.lst.length] = 41 := by
        have : L[(p ++ [40]).length + a.lst.length]? = some 41 := by
          rw [hL1, List.getElem?_append_right (by omega), List.getElem?_append_right (by omega)]
          simp
        rw [List.getElem?_eq_getElem hlt] at this
        exact Option.some.inj this
      rw [runT_step L _ hlt, s2, hc, tstep]
      have e1 : (O ++ [p.length]).getLastD 0 = p.length := by simp [List.getLastD_eq_getLast?]
      have e2 : L.take p.length = p := by rw [hL]; simp
      have e3 : (L.take ((p ++ [40]).length + a.lst.length + 1)).drop p.length = a.pair := by
        rw [lp, hL2, List.take_left]
        simp
      have e4 : L.drop ((p ++ [40]).length + a.lst.length + 1) = b.lst ++ q := by
        rw [lp, hL2, List.drop_left]
      rw [if_neg (by decide), e1, e2, e3, e4]
      simp
    have s4 := runT_tree L b (p ++ a.pair) q _ O hL2 s3
    have lq : (p ++ a.pair).length + b.lst.length = p.length + (Tw.n a b).lst.length := by rw [l1]; simp [Tw.pair]; omega
    rw [lq] at s4
    rw [s4, Tw.col]
    simp
theorem runT_all (t : Tw) : runT t.lst t.lst.length = (t.col [] [], []) := by
  have := runT_tree t.lst t [] [] [] [] (by simp) rfl
  simpa using this
theorem runT_small (L : List UInt8) : ∀ k, (runT L k).1.length ≤ 2 * k ∧ ∀ x ∈ (runT L k).2, x < k
  | 0 => ⟨by simp [runT], by simp [runT]⟩
  | k + 1 => by
    obtain ⟨h1, h2⟩ := runT_small L k
    rw [runT, tstep]
    split
    · refine ⟨by simp only; omega, fun x hx => ?_⟩
      rcases List.mem_append.1 hx with h | h
      · have := h2 x h; omega
      · simp at h; omega
    · refine ⟨?_, fun x hx => ?_⟩
      · simp only [List.length_append]
        have := appT_length (L.take ((runT L k).2.getLastD 0)) ((L.take (k + 1)).drop ((runT L k).2.getLastD 0)) (L.drop (k + 1))
        omega
      · have := h2 x (List.dropLast_subset _ hx); omega
theorem runT_open (L : List UInt8) : ∀ (k o : Nat), k ≤ L.length → scan (L.take k) = some o → (runT L k).2.length = o := by
  intro k
  induction k with
  | zero => intro o _ h; simp [scan] at h; simp [runT, h]
  | succ k ih =>
    intro o hk h
    have hlt : k < L.length := by omega
    rw [take_snoc L k hlt, scan_snoc] at h
    cases hs : scan (L.take k) with
    | none => rw [hs] at h; cases h
    | some o' =>
      rw [hs] at h
      have hl := ih o' (by omega) hs
      rw [runT_step L k hlt, tstep]
      unfold vstep at h
      simp only at h
      split at h
      · rename_i hc
        rw [if_pos hc, List.length_append, hl]
        simpa using h
      · rename_i hc
        rw [if_neg hc, List.length_dropLast, hl]
        split at h
        · split at h
          · cases h
          · simpa using h
        · cases h

/-! ### sorted -/
theorem less_lt : ∀ {x y : List UInt8}, lessL x y = true ↔ x < y
  | [], [] => by simp [lessL]
  | [], _ :: _ => by simp [lessL]
  | _ :: _, [] => by simp [lessL]
  | a :: x, b :: y => by
    rw [List.cons_lt_cons_iff, ← less_lt (x := x) (y := y), lessL, UInt8.lt_iff_toNat_lt, ← UInt8.toNat_inj]
    simp
theorem less_of_le {x y : List UInt8} (h : x ≤ y) (hne : x ≠ y) : lessL x y = true := by
  rcases less_total x y with h1 | h1 | h1
  · exact h1
  · exact absurd h1 hne
  · exact absurd (less_lt.1 h1) (by exact fun h2 => h h2)
theorem sort_turns (t : Tw) {M : List (List UInt8)} (h : M.Perm (t.col [] [])) (hs : M.Pairwise (fun x y => x ≤ y)) : M = turnsOut t := by
  have hn : M.Nodup := h.nodup_iff.2 (Tw.col_nodup t)
  refine (sortW_uniq ?_ fun y => ?_).symm
  · exact (hs.and hn).imp fun ⟨h1, h2⟩ => less_of_le h1 h2
  · rw [(h.trans (Tw.col_perm t)).mem_iff]
end Go.Proofs.Ytmoelhaobnloaaa
