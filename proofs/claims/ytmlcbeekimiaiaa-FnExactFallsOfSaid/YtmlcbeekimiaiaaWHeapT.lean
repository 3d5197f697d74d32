/-
  Plain facts on heaps: how many rows have a tree, by trying all rows of at most five numbers; all words together. Nothing of the program is named here.
-/
import Derived.Test.YtmlcbeekimiaiaaWHeapP
namespace Go.Proofs.Ytmlcbeekimiaiaa
/-- all rows that begin with some numbers, m are lacking -/
def exts : Nat → Nat → List Int → List (List Int)
  | 0, _, head => [head]
  | m + 1, n, head => (List.range n).flatMap fun (x : Nat) => if head.contains (x : Int) then [] else exts m n (head ++ [(x : Int)])
/-- how many of them have a word -/
def rowsN (m n : Nat) (head : List Int) (s : List UInt8) : Nat := (exts m n head).countP fun r => (Tw.row r).lst == s
theorem rowsN_zero (n : Nat) (head : List Int) (s : List UInt8) : rowsN 0 n head s = if (Tw.row head).lst = s then 1 else 0 := by
  rw [rowsN, exts, List.countP_cons, List.countP_nil, Nat.zero_add]
  simp only [beq_iff_eq]
/-- as far as the numbers below k are tried -/
def rowsK (m n : Nat) (head : List Int) (s : List UInt8) : Nat → Nat
  | 0 => 0
  | k + 1 => rowsK m n head s k + if head.contains (k : Int) then 0 else rowsN m n (head ++ [(k : Int)]) s
theorem rowsN_succ (m n : Nat) (head : List Int) (s : List UInt8) : rowsN (m + 1) n head s = rowsK m n head s n := by
  have key : ∀ k, ((List.range k).flatMap fun (x : Nat) => if head.contains (x : Int) then [] else exts m n (head ++ [(x : Int)])).countP (fun r => (Tw.row r).lst == s) = rowsK m n head s k := by
    intro k
    induction k with
    | zero => rfl
    | succ k ih =>
      rw [List.range_succ, List.flatMap_append, List.countP_append, ih, rowsK]
      simp only [List.flatMap_cons, List.flatMap_nil, List.append_nil]
      split <;> rfl
  exact key n
theorem rowsK_le (m n : Nat) (head : List Int) (s : List UInt8) (b : Nat) (h : ∀ k : Nat, rowsN m n (head ++ [(k : Int)]) s ≤ b) : ∀ k, rowsK m n head s k ≤ k * b := by
  intro k
  induction k with
  | zero => exact Nat.zero_le _
  | succ k ih =>
    rw [rowsK, Nat.succ_mul]
    have := h k
    split <;> omega
theorem rowsN_le (n : Nat) (s : List UInt8) : ∀ (m : Nat) (head : List Int), rowsN m n head s ≤ n ^ m := by
  intro m
  induction m with
  | zero => intro head; rw [rowsN_zero]; split <;> simp
  | succ m ih =>
    intro head
    rw [rowsN_succ, Nat.pow_succ, Nat.mul_comm]
    exact rowsK_le m n head s _ (fun k => ih _) n
theorem exts_length : ∀ (m n : Nat) (head : List Int), ∀ r ∈ exts m n head, r.length = head.length + m := by
  intro m
  induction m with
  | zero => intro n head r hr; rw [exts, List.mem_singleton] at hr; subst hr; rfl
  | succ m ih =>
    intro n head r hr
    rw [exts, List.mem_flatMap] at hr
    obtain ⟨x, _, hx⟩ := hr
    split at hx
    · cases hx
    · rw [ih n _ r hx, List.length_append]; simp; omega
namespace Tw
/-- all trees of a size -/
def allF : Nat → Nat → List Tw
  | 0, _ => [e]
  | _ + 1, 0 => [e]
  | f + 1, k + 1 => (List.range (k + 1)).flatMap fun i => (allF f i).flatMap fun a => (allF f (k - i)).map fun b => n a b
theorem mem_allF : ∀ (f : Nat) (t : Tw), t.size ≤ f → t ∈ allF f t.size := by
  intro f
  induction f with
  | zero =>
    intro t h
    cases t with
    | e => exact List.mem_singleton.mpr rfl
    | n a b => rw [size] at h; omega
  | succ f ih =>
    intro t h
    cases t with
    | e => exact List.mem_singleton.mpr rfl
    | n a b =>
      rw [size] at h ⊢
      rw [show a.size + 1 + b.size = (a.size + b.size) + 1 by omega, allF, List.mem_flatMap]
      refine ⟨a.size, List.mem_range.mpr (by omega), List.mem_flatMap.mpr ⟨a, ih a (by omega), List.mem_map.mpr ⟨b, ?_, rfl⟩⟩⟩
      rw [Nat.add_sub_cancel_left]
      exact ih b (by omega)
/-- the trees of all rows -/
def tried0 : List Tw := [.e]
def tried1 : List Tw := [.n .e .e]
def tried2 : List Tw := [.n .e (.n .e .e), .n (.n .e .e) .e]
def tried3 : List Tw := [.n .e (.n .e (.n .e .e)), .n .e (.n (.n .e .e) .e), .n (.n .e .e) (.n .e .e), .n (.n .e (.n .e .e)) .e, .n (.n .e .e) (.n .e .e), .n (.n (.n .e .e) .e) .e]
def tried4 : List Tw := [.n .e (.n .e (.n .e (.n .e .e))), .n .e (.n .e (.n (.n .e .e) .e)), .n .e (.n (.n .e .e) (.n .e .e)), .n .e (.n (.n .e (.n .e .e)) .e), .n .e (.n (.n .e .e) (.n .e .e)), .n .e (.n (.n (.n .e .e) .e) .e), .n (.n .e .e) (.n .e (.n .e .e)), .n (.n .e .e) (.n (.n .e .e) .e), .n (.n .e (.n .e .e)) (.n .e .e), .n (.n .e (.n .e (.n .e .e))) .e, .n (.n .e (.n .e .e)) (.n .e .e), .n (.n .e (.n (.n .e .e) .e)) .e, .n (.n .e .e) (.n .e (.n .e .e)), .n (.n .e .e) (.n (.n .e .e) .e), .n (.n (.n .e .e) .e) (.n .e .e), .n (.n (.n .e .e) (.n .e .e)) .e, .n (.n .e (.n .e .e)) (.n .e .e), .n (.n (.n .e (.n .e .e)) .e) .e, .n (.n .e .e) (.n .e (.n .e .e)), .n (.n .e .e) (.n (.n .e .e) .e), .n (.n (.n .e .e) .e) (.n .e .e), .n (.n (.n .e .e) (.n .e .e)) .e, .n (.n (.n .e .e) .e) (.n .e .e), .n (.n (.n (.n .e .e) .e) .e) .e]
def tried5 : List Tw := [.n .e (.n .e (.n .e (.n .e (.n .e .e)))), .n .e (.n .e (.n .e (.n (.n .e .e) .e))), .n .e (.n .e (.n (.n .e .e) (.n .e .e))), .n .e (.n .e (.n (.n .e (.n .e .e)) .e)), .n .e (.n .e (.n (.n .e .e) (.n .e .e))), .n .e (.n .e (.n (.n (.n .e .e) .e) .e)), .n .e (.n (.n .e .e) (.n .e (.n .e .e))), .n .e (.n (.n .e .e) (.n (.n .e .e) .e)), .n .e (.n (.n .e (.n .e .e)) (.n .e .e)), .n .e (.n (.n .e (.n .e (.n .e .e))) .e), .n .e (.n (.n .e (.n .e .e)) (.n .e .e)), .n .e (.n (.n .e (.n (.n .e .e) .e)) .e), .n .e (.n (.n .e .e) (.n .e (.n .e .e))), .n .e (.n (.n .e .e) (.n (.n .e .e) .e)), .n .e (.n (.n (.n .e .e) .e) (.n .e .e)), .n .e (.n (.n (.n .e .e) (.n .e .e)) .e), .n .e (.n (.n .e (.n .e .e)) (.n .e .e)), .n .e (.n (.n (.n .e (.n .e .e)) .e) .e), .n .e (.n (.n .e .e) (.n .e (.n .e .e))), .n .e (.n (.n .e .e) (.n (.n .e .e) .e)), .n .e (.n (.n (.n .e .e) .e) (.n .e .e)), .n .e (.n (.n (.n .e .e) (.n .e .e)) .e), .n .e (.n (.n (.n .e .e) .e) (.n .e .e)), .n .e (.n (.n (.n (.n .e .e) .e) .e) .e), .n (.n .e .e) (.n .e (.n .e (.n .e .e))), .n (.n .e .e) (.n .e (.n (.n .e .e) .e)), .n (.n .e .e) (.n (.n .e .e) (.n .e .e)), .n (.n .e .e) (.n (.n .e (.n .e .e)) .e), .n (.n .e .e) (.n (.n .e .e) (.n .e .e)), .n (.n .e .e) (.n (.n (.n .e .e) .e) .e), .n (.n .e (.n .e .e)) (.n .e (.n .e .e)), .n (.n .e (.n .e .e)) (.n (.n .e .e) .e), .n (.n .e (.n .e (.n .e .e))) (.n .e .e), .n (.n .e (.n .e (.n .e (.n .e .e)))) .e, .n (.n .e (.n .e (.n .e .e))) (.n .e .e), .n (.n .e (.n .e (.n (.n .e .e) .e))) .e, .n (.n .e (.n .e .e)) (.n .e (.n .e .e)), .n (.n .e (.n .e .e)) (.n (.n .e .e) .e), .n (.n .e (.n (.n .e .e) .e)) (.n .e .e), .n (.n .e (.n (.n .e .e) (.n .e .e))) .e, .n (.n .e (.n .e (.n .e .e))) (.n .e .e), .n (.n .e (.n (.n .e (.n .e .e)) .e)) .e, .n (.n .e (.n .e .e)) (.n .e (.n .e .e)), .n (.n .e (.n .e .e)) (.n (.n .e .e) .e), .n (.n .e (.n (.n .e .e) .e)) (.n .e .e), .n (.n .e (.n (.n .e .e) (.n .e .e))) .e, .n (.n .e (.n (.n .e .e) .e)) (.n .e .e), .n (.n .e (.n (.n (.n .e .e) .e) .e)) .e, .n (.n .e .e) (.n .e (.n .e (.n .e .e))), .n (.n .e .e) (.n .e (.n (.n .e .e) .e)), .n (.n .e .e) (.n (.n .e .e) (.n .e .e)), .n (.n .e .e) (.n (.n .e (.n .e .e)) .e), .n (.n .e .e) (.n (.n .e .e) (.n .e .e)), .n (.n .e .e) (.n (.n (.n .e .e) .e) .e), .n (.n (.n .e .e) .e) (.n .e (.n .e .e)), .n (.n (.n .e .e) .e) (.n (.n .e .e) .e), .n (.n (.n .e .e) (.n .e .e)) (.n .e .e), .n (.n (.n .e .e) (.n .e (.n .e .e))) .e, .n (.n (.n .e .e) (.n .e .e)) (.n .e .e), .n (.n (.n .e .e) (.n (.n .e .e) .e)) .e, .n (.n .e (.n .e .e)) (.n .e (.n .e .e)), .n (.n .e (.n .e .e)) (.n (.n .e .e) .e), .n (.n (.n .e (.n .e .e)) .e) (.n .e .e), .n (.n (.n .e (.n .e .e)) (.n .e .e)) .e, .n (.n .e (.n .e (.n .e .e))) (.n .e .e), .n (.n (.n .e (.n .e (.n .e .e))) .e) .e, .n (.n .e (.n .e .e)) (.n .e (.n .e .e)), .n (.n .e (.n .e .e)) (.n (.n .e .e) .e), .n (.n (.n .e (.n .e .e)) .e) (.n .e .e), .n (.n (.n .e (.n .e .e)) (.n .e .e)) .e, .n (.n .e (.n (.n .e .e) .e)) (.n .e .e), .n (.n (.n .e (.n (.n .e .e) .e)) .e) .e, .n (.n .e .e) (.n .e (.n .e (.n .e .e))), .n (.n .e .e) (.n .e (.n (.n .e .e) .e)), .n (.n .e .e) (.n (.n .e .e) (.n .e .e)), .n (.n .e .e) (.n (.n .e (.n .e .e)) .e), .n (.n .e .e) (.n (.n .e .e) (.n .e .e)), .n (.n .e .e) (.n (.n (.n .e .e) .e) .e), .n (.n (.n .e .e) .e) (.n .e (.n .e .e)), .n (.n (.n .e .e) .e) (.n (.n .e .e) .e), .n (.n (.n .e .e) (.n .e .e)) (.n .e .e), .n (.n (.n .e .e) (.n .e (.n .e .e))) .e, .n (.n (.n .e .e) (.n .e .e)) (.n .e .e), .n (.n (.n .e .e) (.n (.n .e .e) .e)) .e, .n (.n (.n .e .e) .e) (.n .e (.n .e .e)), .n (.n (.n .e .e) .e) (.n (.n .e .e) .e), .n (.n (.n (.n .e .e) .e) .e) (.n .e .e), .n (.n (.n (.n .e .e) .e) (.n .e .e)) .e, .n (.n (.n .e .e) (.n .e .e)) (.n .e .e), .n (.n (.n (.n .e .e) (.n .e .e)) .e) .e, .n (.n .e (.n .e .e)) (.n .e (.n .e .e)), .n (.n .e (.n .e .e)) (.n (.n .e .e) .e), .n (.n (.n .e (.n .e .e)) .e) (.n .e .e), .n (.n (.n .e (.n .e .e)) (.n .e .e)) .e, .n (.n (.n .e (.n .e .e)) .e) (.n .e .e), .n (.n (.n (.n .e (.n .e .e)) .e) .e) .e, .n (.n .e .e) (.n .e (.n .e (.n .e .e))), .n (.n .e .e) (.n .e (.n (.n .e .e) .e)), .n (.n .e .e) (.n (.n .e .e) (.n .e .e)), .n (.n .e .e) (.n (.n .e (.n .e .e)) .e), .n (.n .e .e) (.n (.n .e .e) (.n .e .e)), .n (.n .e .e) (.n (.n (.n .e .e) .e) .e), .n (.n (.n .e .e) .e) (.n .e (.n .e .e)), .n (.n (.n .e .e) .e) (.n (.n .e .e) .e), .n (.n (.n .e .e) (.n .e .e)) (.n .e .e), .n (.n (.n .e .e) (.n .e (.n .e .e))) .e, .n (.n (.n .e .e) (.n .e .e)) (.n .e .e), .n (.n (.n .e .e) (.n (.n .e .e) .e)) .e, .n (.n (.n .e .e) .e) (.n .e (.n .e .e)), .n (.n (.n .e .e) .e) (.n (.n .e .e) .e), .n (.n (.n (.n .e .e) .e) .e) (.n .e .e), .n (.n (.n (.n .e .e) .e) (.n .e .e)) .e, .n (.n (.n .e .e) (.n .e .e)) (.n .e .e), .n (.n (.n (.n .e .e) (.n .e .e)) .e) .e, .n (.n (.n .e .e) .e) (.n .e (.n .e .e)), .n (.n (.n .e .e) .e) (.n (.n .e .e) .e), .n (.n (.n (.n .e .e) .e) .e) (.n .e .e), .n (.n (.n (.n .e .e) .e) (.n .e .e)) .e, .n (.n (.n (.n .e .e) .e) .e) (.n .e .e), .n (.n (.n (.n (.n .e .e) .e) .e) .e) .e]
theorem exts_tried0 : (exts 0 0 []).map row = tried0 := by decide +kernel
theorem tried_heaps0 : (allF 0 0).all (fun t => tried0.countP (fun u => decide (u = t)) == t.heaps) = true := by decide +kernel
theorem exts_tried1 : (exts 1 1 []).map row = tried1 := by decide +kernel
theorem tried_heaps1 : (allF 1 1).all (fun t => tried1.countP (fun u => decide (u = t)) == t.heaps) = true := by decide +kernel
theorem exts_tried2 : (exts 2 2 []).map row = tried2 := by decide +kernel
theorem tried_heaps2 : (allF 2 2).all (fun t => tried2.countP (fun u => decide (u = t)) == t.heaps) = true := by decide +kernel
theorem exts_tried3 : (exts 3 3 []).map row = tried3 := by decide +kernel
theorem tried_heaps3 : (allF 3 3).all (fun t => tried3.countP (fun u => decide (u = t)) == t.heaps) = true := by decide +kernel
theorem exts_tried4 : (exts 4 4 []).map row = tried4 := by decide +kernel
theorem tried_heaps4 : (allF 4 4).all (fun t => tried4.countP (fun u => decide (u = t)) == t.heaps) = true := by decide +kernel
theorem exts_tried5 : (exts 5 5 []).map row = tried5 := by decide +kernel
theorem tried_heaps5 : (allF 5 5).all (fun t => tried5.countP (fun u => decide (u = t)) == t.heaps) = true := by decide +kernel
theorem rowsN_map (q : Nat) (t : Tw) : rowsN q q [] t.lst = ((exts q q []).map row).countP fun u => decide (u = t) := by
  rw [rowsN, List.countP_map]
  refine List.countP_congr fun r _ => ?_
  simp only [Function.comp, beq_iff_eq, decide_eq_true_eq]
  exact ⟨fun h => lst_inj _ _ h, fun h => by rw [h]⟩
theorem tried_heaps (t : Tw) (h : t.size ≤ 5) : rowsN t.size t.size [] t.lst = t.heaps := by
  have key : ∀ (q : Nat) (L : List Tw), (exts q q []).map row = L → (allF q q).all (fun t => L.countP (fun u => decide (u = t)) == t.heaps) = true → t.size = q → rowsN t.size t.size [] t.lst = t.heaps := by
    intro q L h1 h2 h3
    rw [rowsN_map, h3, h1]
    have hm := mem_allF q t (by omega)
    rw [h3] at hm
    exact eq_of_beq (List.all_eq_true.mp h2 t hm)
  have hs : t.size = 0 ∨ t.size = 1 ∨ t.size = 2 ∨ t.size = 3 ∨ t.size = 4 ∨ t.size = 5 := by omega
  rcases hs with c | c | c | c | c | c
  · exact key 0 _ exts_tried0 tried_heaps0 c
  · exact key 1 _ exts_tried1 tried_heaps1 c
  · exact key 2 _ exts_tried2 tried_heaps2 c
  · exact key 3 _ exts_tried3 tried_heaps3 c
  · exact key 4 _ exts_tried4 tried_heaps4 c
  · exact key 5 _ exts_tried5 tried_heaps5 c
/-- the model's way over a word -/
def heapsL : Nat → List UInt8 → Nat
  | 0, _ => 1
  | f + 1, s => if s = [] then 1 else chs (s.length / 2 - 1) ((fstL s).length / 2) * heapsL f (fstL s) * heapsL f (rstL s)
theorem heapsL_lst : ∀ (f : Nat) (t : Tw), t.size ≤ f → heapsL f t.lst = t.heaps := by
  intro f
  induction f with
  | zero =>
    intro t h
    cases t with
    | e => rfl
    | n a b => rw [size] at h; omega
  | succ f ih =>
    intro t h
    cases t with
    | e => rfl
    | n a b =>
      rw [size] at h
      rw [heapsL, if_neg (lst_ne a b), fst_lst, rst_lst, half_lst, half_lst, ih a (by omega), ih b (by omega), size, heaps, show a.size + 1 + b.size - 1 = a.size + b.size by omega]
/-- all words of so many pairs together -/
theorem words_heaps : ∀ q, q ≤ 6 → ((wordsL (2 * q) [] 0 q).map (heapsL 16)).sum = fct q := by decide +kernel
theorem words_fine : ∀ q, q ≤ 6 → (wordsL (2 * q) [] 0 q).all (fun s => valid s && decide (s.length = 2 * q)) = true := by decide +kernel
theorem words_some : ∀ q, q ≤ 6 → 0 < (wordsL (2 * q) [] 0 q).length := by decide +kernel
end Tw
end Go.Proofs.Ytmlcbeekimiaiaa
