/-
  Plain facts on few numbers, by trying all of them: words of their ranks, first and last words, lists of words, words of so many leaves.
-/
import Derived.Test.YthalkkbchghmpaaWNext
import Derived.Test.YthalkkbchghmpaaWMany
namespace Go.Proofs.Ythalkkbchghmpaa
def atOk (n r : Nat) : Bool := !Nat.blt r (eT n 0) || (valid (watT (2 * n) r 0 n) && Nat.beq (rankT (watT (2 * n) r 0 n)) r)
set_option maxRecDepth 100000 in
theorem at_all : (List.range 10).all (fun n => (List.range 251).all (atOk n)) = true := by decide +kernel
theorem at_ok {n r : Nat} (hn : n ≤ 9) (hr : r ≤ 250) (h : r < ee n 0) : valid (wat (2 * n) r 0 n) = true ∧ rankL (wat (2 * n) r 0 n) = r := by
  have := List.all_eq_true.1 (List.all_eq_true.1 at_all n (List.mem_range.2 (by omega))) r (List.mem_range.2 (by omega))
  rw [ee_eT n hn 0 (by omega)] at h
  rw [atOk, show Nat.blt r (eT n 0) = true by simpa using h] at this
  simp only [Bool.not_true, Bool.false_or, Bool.and_eq_true] at this
  rw [← wat_T _ _ _ _ (by omega)] at this
  refine ⟨this.1, ?_⟩
  rw [rankL_T this.1]
  simpa using this.2
def tms (s : List UInt8) : Nat → List UInt8
  | 0 => []
  | n + 1 => tms s n ++ s
set_option maxRecDepth 100000 in
theorem ends_all : (List.range 10).all (fun n => eqL (watT (2 * n) 0 0 n) (tms [40] n ++ tms [41] n) && eqL (watT (2 * n) (eT n 0 - 1) 0 n) (tms [40, 41] n) && Nat.blt 0 (eT n 0)) = true := by decide +kernel
theorem ends_ok {n : Nat} (hn : n ≤ 9) : wat (2 * n) 0 0 n = tms [40] n ++ tms [41] n ∧ wat (2 * n) (ee n 0 - 1) 0 n = tms [40, 41] n ∧ 0 < ee n 0 := by
  have h := List.all_eq_true.1 ends_all n (List.mem_range.2 (by omega))
  rw [Bool.and_eq_true, Bool.and_eq_true] at h
  rw [wat_T _ _ _ _ (by omega), wat_T _ _ _ _ (by omega), ee_eT n hn 0 (by omega)]
  exact ⟨eq_of_beq (by rw [eqL_eq]; exact h.1.1), eq_of_beq (by rw [eqL_eq]; exact h.1.2), by simpa using h.2⟩
def iok (f : Nat → List UInt8 → Bool) : Nat → List (List UInt8) → Bool
  | _, [] => true
  | i, x :: r => f i x && iok f (i + 1) r
theorem iok_at (f : Nat → List UInt8 → Bool) : ∀ (L : List (List UInt8)) (i k : Nat) (h : k < L.length), iok f i L = true → f (i + k) L[k] = true
  | x :: r, i, 0, _, hh => by simp only [iok, Bool.and_eq_true] at hh; exact hh.1
  | x :: r, i, k + 1, h, hh => by
    simp only [iok, Bool.and_eq_true] at hh
    have := iok_at f r (i + 1) k (by simpa using h) hh.2
    rw [show i + 1 + k = i + (k + 1) by omega] at this
    exact this
def eqO : Option (List UInt8) → Option (List UInt8) → Bool
  | none, none => true
  | some a, some b => eqL a b
  | _, _ => false
theorem eqO_eq {a b : Option (List UInt8)} (h : eqO a b = true) : a = b := by
  cases a <;> cases b <;> simp [eqO] at h
  · rfl
  · rw [← eqL_eq] at h; rw [eq_of_beq h]
def listOk (n i : Nat) (x : List UInt8) : Bool := valid x && Nat.beq x.length (2 * n) && Nat.beq (rankT x) i
set_option maxRecDepth 100000 in
theorem list_all : (List.range 7).all (fun n => iok (listOk n) 0 (wordsL (2 * n) [] 0 n)) = true := by decide +kernel
theorem list_ok {n : Nat} (hn : n ≤ 6) {k : Nat} (hk : k < (wordsL (2 * n) [] 0 n).length) : valid (wordsL (2 * n) [] 0 n)[k] = true ∧ (wordsL (2 * n) [] 0 n)[k].length = 2 * n ∧ rankL (wordsL (2 * n) [] 0 n)[k] = k := by
  have h := iok_at _ _ 0 k hk (List.all_eq_true.1 list_all n (List.mem_range.2 (by omega)))
  simp only [listOk, Bool.and_eq_true] at h
  obtain ⟨⟨h1, h2⟩, h3⟩ := h
  refine ⟨h1, by simpa using h2, ?_⟩
  rw [rankL_T h1]; simpa using h3
set_option maxRecDepth 100000 in
theorem list_len : (List.range 7).all (fun n => Nat.beq (wordsL (2 * n) [] 0 n).length (eT n 0)) = true := by decide +kernel
theorem list_length {n : Nat} (hn : n ≤ 6) : (wordsL (2 * n) [] 0 n).length = ee n 0 := by
  have h := List.all_eq_true.1 list_len n (List.mem_range.2 (by omega))
  rw [ee_eT n (by omega) 0 (by omega)]; simpa using h
def nextL (L : List (List UInt8)) (i : Nat) (x : List UInt8) : Bool := eqO (nextAt x x.length) L[i + 1]?
set_option maxRecDepth 100000 in
theorem nextL_all : (List.range 7).all (fun n => iok (nextL (wordsL (2 * n) [] 0 n)) 0 (wordsL (2 * n) [] 0 n)) = true := by decide +kernel
theorem next_list {n : Nat} (hn : n ≤ 6) {k : Nat} (hk : k < (wordsL (2 * n) [] 0 n).length) : nextAt (wordsL (2 * n) [] 0 n)[k] (wordsL (2 * n) [] 0 n)[k].length = (wordsL (2 * n) [] 0 n)[k + 1]? := by
  have h := iok_at _ _ 0 k hk (List.all_eq_true.1 nextL_all n (List.mem_range.2 (by omega)))
  rw [nextL, Nat.zero_add] at h
  exact eqO_eq h
set_option maxRecDepth 100000 in
theorem cnt_all : (List.range 7).all (fun n => (List.range 7).all fun k => Nat.beq (cntL k (wordsL (2 * n) [] 0 n)) (evL n k)) = true := by decide +kernel
theorem cnt_ok {n k : Nat} (hn : n ≤ 6) (hk : k ≤ 6) : cntL k (wordsL (2 * n) [] 0 n) = evL n k := by
  have h := List.all_eq_true.1 (List.all_eq_true.1 cnt_all n (List.mem_range.2 (by omega))) k (List.mem_range.2 (by omega))
  simpa using h
end Go.Proofs.Ythalkkbchghmpaa
