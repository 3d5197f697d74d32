/-
  Plain facts: a word's rows are found to be a tree of all their nodes. Nothing of the program is named here.
-/
import Derived.Test.YtpphilladlladaaWTreeB
namespace Go.Proofs.Ytpphilladlladaa

theorem armN_root (sz : Nat → Int) (n k : Nat) (c : List UInt8) (h : c ≠ [] → sz (n + k) = ((c.length / 2 : Nat) : Int)) : armN sz n k (rootA c (n + k)) = ((k + c.length / 2 : Nat) : Int) := by
  unfold armN rootA
  by_cases hc : c = []
  · rw [if_pos hc, if_pos rfl, hc]; simp
  · have e := h hc
    rw [if_neg hc, if_neg (by omega), if_neg (by omega)]
    have e2 : ((n + k : Nat) : Int).toNat = n + k := by omega
    rw [e2, e, if_neg (by omega)]
    omega
theorem binL_sz : ∀ (f : Nat) (s : List UInt8) (n F : Nat) (pre post : List (List Int)), scan s = some 0 → s.length ≤ f → pre.length = n → s.length ≤ 2 * F → s ≠ [] →
    szL (pre ++ binL f s n ++ post) F n = ((s.length / 2 : Nat) : Int) := by
  intro f
  induction f with
  | zero => intro s n F pre post _ hf _ _ hs; exact absurd (List.eq_nil_of_length_eq_zero (by omega : s.length = 0)) hs
  | succ f ih =>
    intro s n F pre post h hf hp hF hs
    obtain ⟨_, _, k3, k4, _, k6⟩ := parts_ok h hs
    have e1 := fold_even _ 0 0 k3
    have e2 := fold_even _ 0 0 k4
    obtain ⟨F', rfl⟩ : ∃ F', F = F' + 1 := ⟨F - 1, by omega⟩
    have eL := binL_length f (fstL s) (n + 1) k3 (by omega)
    rw [binL_cons _ _ _ hs]
    have ra : (if fstL s = [] then -1 else (n : Int) + 1) = rootA (fstL s) (n + 1) := by unfold rootA; split <;> simp
    have rb : (if rstL s = [] then -1 else (n : Int) + 1 + ((fstL s).length / 2 : Nat)) = rootA (rstL s) (n + 1 + (fstL s).length / 2) := by
      unfold rootA; split
      · rfl
      · omega
    rw [ra, rb]
    obtain ⟨row, hrow⟩ : ∃ row, row = [rootA (fstL s) (n + 1), rootA (rstL s) (n + 1 + (fstL s).length / 2)] := ⟨_, rfl⟩
    rw [← hrow]
    have i1 := ih (fstL s) (n + 1) F' (pre ++ [row]) (binL f (rstL s) (n + 1 + (fstL s).length / 2) ++ post) k3 (by omega) (by simp [hp]) (by omega)
    have i2 := ih (rstL s) (n + 1 + (fstL s).length / 2) F' (pre ++ [row] ++ binL f (fstL s) (n + 1)) post k4 (by omega) (by simp [hp, eL]; omega) (by omega)
    obtain ⟨rows, hr⟩ : ∃ rows, rows = pre ++ row :: (binL f (fstL s) (n + 1) ++ binL f (rstL s) (n + 1 + (fstL s).length / 2)) ++ post := ⟨_, rfl⟩
    have r1 : pre ++ [row] ++ binL f (fstL s) (n + 1) ++ (binL f (rstL s) (n + 1 + (fstL s).length / 2) ++ post) = rows := by rw [hr]; simp
    have r2 : pre ++ [row] ++ binL f (fstL s) (n + 1) ++ binL f (rstL s) (n + 1 + (fstL s).length / 2) ++ post = rows := by rw [hr]; simp
    rw [r1] at i1
    rw [r2] at i2
    rw [← hr]
    have g1 : rows.getD n [] = row := by rw [hr, List.append_assoc]; exact getD_mid _ _ _ _ _ hp
    have a1 : armA rows n = rootA (fstL s) (n + 1) := by unfold armA; rw [g1, hrow]; rfl
    have a2 : armB rows n = rootA (rstL s) (n + 1 + (fstL s).length / 2) := by unfold armB; rw [g1, hrow]; rfl
    have hn : n < rows.length := by rw [hr]; simp; omega
    rw [szL_yes rows F' n hn (by rw [g1, hrow]; rfl), a1, a2]
    have q1 := armN_root (szL rows F') n 1 (fstL s) i1
    have q1' : armN (szL rows F') n 1 (rootA (fstL s) (n + 1)) = ((1 + (fstL s).length / 2 : Nat) : Int) := q1
    have en : n + 1 + (fstL s).length / 2 = n + (1 + (fstL s).length / 2) := by omega
    have q2 := armN_root (szL rows F') n (1 + (fstL s).length / 2) (rstL s) (by rw [← en]; exact i2)
    rw [q1', if_neg (by omega), en, q2]
    omega
theorem binL_is_tree (s : List UInt8) (h : scan s = some 0) (h18 : s.length ≤ 18) (hs : s ≠ []) : treeB (binL 18 s 0) = true := by
  have hl := binL_length 18 s 0 h h18
  have e2 := fold_even _ 0 0 h
  have hpos : 0 < s.length := List.length_pos_iff.2 hs
  have hsz := binL_sz 18 s 0 10 [] [] h h18 rfl (by omega) hs
  rw [List.nil_append, List.append_nil] at hsz
  have h9 : (binL 18 s 0).length ≤ 9 := by omega
  have h0 : (binL 18 s 0).length ≠ 0 := by omega
  have e : treeB (binL 18 s 0) = (szL (binL 18 s 0) 10 0 == ((binL 18 s 0).length : Int)) := by simp [treeB, h0, h9]; rfl
  rw [e, hsz, hl]
  exact beq_self_eq_true _
end Go.Proofs.Ytpphilladlladaa
