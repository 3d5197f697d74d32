/-
  Plain facts on heaps: a tree's rows of arms and its middle order; the product of the sizes of all parts; least numbers stand on top. Nothing of the program is named here.
-/
import Derived.Test.YtmlcbeekimiaiaaWHeap
namespace Go.Proofs.Ytmlcbeekimiaiaa
namespace Tw
/-- the nodes in the middle order, the tree's first one is m -/
def ino : Tw → Nat → List Nat
  | e, _ => []
  | n a b, m => ino a (m + 1) ++ [m] ++ ino b (m + 1 + a.size)
def rootI (t : Tw) (m : Nat) : Int := if t = e then -1 else (m : Int)
/-- the arms of all nodes -/
def arms : Tw → Nat → List (List Int)
  | e, _ => []
  | n a b, m => [rootI a (m + 1), rootI b (m + 1 + a.size)] :: (arms a (m + 1) ++ arms b (m + 1 + a.size))
theorem lst_ne (a b : Tw) : (n a b).lst ≠ [] := by intro h; cases h
theorem lst_eq_nil (t : Tw) : t.lst = [] ↔ t = e := ⟨lst_nil, fun h => by rw [h]; rfl⟩
theorem half_lst (t : Tw) : t.lst.length / 2 = t.size := by rw [lst_length]; omega
theorem btwP_lst : ∀ (f : Nat) (t : Tw) (m : Nat), t.lst.length ≤ f → btwP f t.lst m = ino t m := by
  intro f
  induction f with
  | zero =>
    intro t m h
    cases t with
    | e => rfl
    | n a b => rw [lst_length, size] at h; omega
  | succ f ih =>
    intro t m h
    cases t with
    | e => exact btwP_nil _ _
    | n a b =>
      have hs := lst_length (n a b)
      rw [size] at hs
      have ha := lst_length a
      have hb := lst_length b
      rw [btwP_cons f m _ (lst_ne a b), fst_lst, rst_lst, half_lst, ih a _ (by omega), ih b _ (by omega), ino]
theorem binL_lst : ∀ (f : Nat) (t : Tw) (m : Nat), t.lst.length ≤ f → binL f t.lst m = arms t m := by
  intro f
  induction f with
  | zero =>
    intro t m h
    cases t with
    | e => rfl
    | n a b => rw [lst_length, size] at h; omega
  | succ f ih =>
    intro t m h
    cases t with
    | e => exact binL_nil _ _
    | n a b =>
      have hs := lst_length (n a b)
      rw [size] at hs
      have ha := lst_length a
      have hb := lst_length b
      have e1 : (if a.lst = [] then (-1 : Int) else (m : Int) + 1) = rootI a (m + 1) := by
        rw [rootI]; simp only [lst_eq_nil]; split <;> simp
      have e2 : (if b.lst = [] then (-1 : Int) else (m : Int) + 1 + (a.size : Nat)) = rootI b (m + 1 + a.size) := by
        rw [rootI]; simp only [lst_eq_nil]; split <;> simp
      rw [binL_cons f m _ (lst_ne a b), fst_lst, rst_lst, half_lst, ih a _ (by omega), ih b _ (by omega), arms, e1, e2]
theorem arms_length : ∀ (t : Tw) (m : Nat), (arms t m).length = t.size
  | e, _ => rfl
  | n a b, m => by rw [arms, List.length_cons, List.length_append, arms_length a, arms_length b, size]; omega
theorem ino_length : ∀ (t : Tw) (m : Nat), (ino t m).length = t.size
  | e, _ => rfl
  | n a b, m => by rw [ino, List.length_append, List.length_append, ino_length a, ino_length b, size]; rfl
theorem ino_in : ∀ (t : Tw) (m x : Nat), x ∈ ino t m → m ≤ x ∧ x < m + t.size
  | e, _, x, h => by cases h
  | n a b, m, x, h => by
    rw [ino] at h
    simp only [List.mem_append, List.mem_singleton] at h
    rw [size]
    rcases h with (h | h) | h
    · have := ino_in a _ x h; omega
    · omega
    · have := ino_in b _ x h; omega
theorem ino_nodup : ∀ (t : Tw) (m : Nat), (ino t m).Nodup
  | e, _ => List.nodup_nil
  | n a b, m => by
    rw [ino, List.nodup_append, List.nodup_append]
    refine ⟨⟨ino_nodup a _, by simp, ?_⟩, ino_nodup b _, ?_⟩
    · intro x hx y hy e
      have := ino_in a _ x hx
      rw [List.mem_singleton] at hy
      omega
    · intro x hx y hy e
      have h2 := ino_in b _ y hy
      rcases List.mem_append.mp hx with h | h
      · have := ino_in a _ x h; omega
      · rw [List.mem_singleton] at h; omega
/-- a node's place in the middle order -/
def pos : Tw → Nat → Nat → Nat
  | e, _, _ => 0
  | n a b, m, k => if k = m then a.size else if k < m + 1 + a.size then pos a (m + 1) k else a.size + 1 + pos b (m + 1 + a.size) k
theorem pos_root (a b : Tw) (m : Nat) : pos (n a b) m m = a.size := if_pos rfl
theorem pos_left (a b : Tw) (m k : Nat) (h1 : m < k) (h2 : k < m + 1 + a.size) : pos (n a b) m k = pos a (m + 1) k := by rw [pos, if_neg (by omega), if_pos h2]
theorem pos_right (a b : Tw) (m k : Nat) (h2 : m + 1 + a.size ≤ k) : pos (n a b) m k = a.size + 1 + pos b (m + 1 + a.size) k := by rw [pos, if_neg (by omega), if_neg (by omega)]
theorem pos_lt : ∀ (t : Tw) (m k : Nat), m ≤ k → k < m + t.size → pos t m k < t.size
  | e, m, k, h1, h2 => by rw [size] at h2; omega
  | n a b, m, k, h1, h2 => by
    rw [size] at h2 ⊢
    by_cases c1 : k = m
    · subst c1; rw [pos_root]; omega
    · by_cases c2 : k < m + 1 + a.size
      · rw [pos_left a b m k (by omega) c2]
        have := pos_lt a (m + 1) k (by omega) (by omega)
        omega
      · rw [pos_right a b m k (by omega)]
        have := pos_lt b (m + 1 + a.size) k (by omega) (by omega)
        omega
theorem ino_pos : ∀ (t : Tw) (m k : Nat), m ≤ k → k < m + t.size → (ino t m)[pos t m k]? = some k
  | e, m, k, h1, h2 => by rw [size] at h2; omega
  | n a b, m, k, h1, h2 => by
    rw [size] at h2
    by_cases c1 : k = m
    · subst c1
      rw [pos_root, ino, List.append_assoc, List.getElem?_append_right (by rw [ino_length]; omega), ino_length, Nat.sub_self]
      rfl
    · by_cases c2 : k < m + 1 + a.size
      · have hl := pos_lt a (m + 1) k (by omega) (by omega)
        rw [pos_left a b m k (by omega) c2, ino, List.append_assoc, List.getElem?_append_left (by rw [ino_length]; exact hl)]
        exact ino_pos a (m + 1) k (by omega) (by omega)
      · rw [pos_right a b m k (by omega), ino, List.getElem?_append_right (by rw [List.length_append, ino_length]; exact Nat.le_add_right _ _), List.length_append, ino_length]
        rw [show a.size + 1 + pos b (m + 1 + a.size) k - (a.size + [m].length) = pos b (m + 1 + a.size) k from Nat.add_sub_cancel_left _ _]
        exact ino_pos b (m + 1 + a.size) k (by omega) (by omega)

theorem row_e {l : List Int} (h : row l = e) : l = [] := by
  have := row_size l
  rw [h, size] at this
  exact List.eq_nil_of_length_eq_zero this.symm
theorem least_lt {l : List Int} (hn : l.Nodup) {j : Nat} (hj : j < l.length) (hne : j ≠ leastA l) : l.getD (leastA l) 0 < l.getD j 0 := by
  have hl : l ≠ [] := by intro h; subst h; exact absurd hj (Nat.not_lt_zero _)
  have h1 := leastA_lt hl
  have h2 := atL_le l l.length j hj
  rw [show atL l l.length = leastA l from rfl] at h2
  rcases Int.lt_or_eq_of_le h2 with h | h
  · exact h
  · rw [getD_at _ _ h1, getD_at _ _ hj] at h
    exact absurd (nodup_at hn _ _ h1 hj h).symm hne
theorem rootI_nat {t : Tw} {m x : Nat} (h : rootI t m = (x : Int)) : t ≠ e ∧ x = m := by
  rw [rootI] at h
  split at h
  · omega
  · next c => exact ⟨c, by omega⟩
/-- least numbers stand on top -/
theorem heap_top : ∀ (d : Nat) (l : List Int), l.length ≤ d → l.Nodup → ∀ (m k j x : Nat), m ≤ k → k < m + l.length → j < 2 → (((arms (row l) m).getD (k - m) []).getD j 0) = (x : Int) →
    m ≤ x ∧ x < m + l.length ∧ l.getD (pos (row l) m k) 0 < l.getD (pos (row l) m x) 0 := by
  intro d
  induction d with
  | zero => intro l h _ m k j x h1 h2; omega
  | succ d ih =>
    intro l h hn m k j x h1 h2 hj hx
    by_cases hl : l = []
    · subst hl; simp at h2; omega
    · have hlt := leastA_lt hl
      have hA : (l.take (leastA l)).length = leastA l := by rw [List.length_take]; omega
      have hB : (l.drop (leastA l + 1)).length = l.length - (leastA l + 1) := List.length_drop ..
      have ra := row_size (l.take (leastA l))
      have rb := row_size (l.drop (leastA l + 1))
      have na : (l.take (leastA l)).Nodup := hn.sublist (List.take_sublist _ _)
      have nb : (l.drop (leastA l + 1)).Nodup := hn.sublist (List.drop_sublist _ _)
      have iha := ih _ (by omega) na (m + 1)
      have ihb := ih _ (by omega) nb (m + 1 + leastA l)
      have ga : ∀ i, i < leastA l → (l.take (leastA l)).getD i 0 = l.getD i 0 := by
        intro i hi; simp [List.getD, hi]
      have gb : ∀ i, (l.drop (leastA l + 1)).getD i 0 = l.getD (leastA l + 1 + i) 0 := by
        intro i; simp [List.getD, List.getElem?_drop]
      rw [row_cons hl] at hx ⊢
      rw [hA] at ra iha
      rw [hB] at rb ihb
      obtain ⟨a, ea⟩ : ∃ a, a = row (l.take (leastA l)) := ⟨_, rfl⟩
      obtain ⟨b, eb⟩ : ∃ b, b = row (l.drop (leastA l + 1)) := ⟨_, rfl⟩
      rw [← ea] at ra iha hx ⊢
      rw [← eb] at rb ihb hx ⊢
      rw [arms, ra] at hx
      have key : k = m ∨ (m < k ∧ k < m + 1 + leastA l) ∨ (m + 1 + leastA l ≤ k) := by omega
      rcases key with c | ⟨c, c2⟩ | c
      · subst c
        rw [Nat.sub_self, List.getD_cons_zero] at hx
        rw [pos_root, ra]
        have hj2 : j = 0 ∨ j = 1 := by omega
        rcases hj2 with rfl | rfl
        · obtain ⟨q1, q2⟩ := rootI_nat (show rootI a (k + 1) = (x : Int) from hx)
          subst q2
          have h0 : 0 < a.size := by
            cases a with
            | e => exact absurd rfl q1
            | n u v => rw [size]; omega
          have hp := pos_lt a (k + 1) (k + 1) (Nat.le_refl _) (by omega)
          refine ⟨by omega, by omega, ?_⟩
          rw [pos_left a b k (k + 1) (by omega) (by omega)]
          exact least_lt hn (by omega) (by omega)
        · obtain ⟨q1, q2⟩ := rootI_nat (show rootI b (k + 1 + leastA l) = (x : Int) from hx)
          subst q2
          have h0 : 0 < b.size := by
            cases b with
            | e => exact absurd rfl q1
            | n u v => rw [size]; omega
          have hp := pos_lt b (k + 1 + leastA l) (k + 1 + leastA l) (Nat.le_refl _) (by omega)
          refine ⟨by omega, by omega, ?_⟩
          rw [pos_right a b k _ (by omega), ra]
          exact least_lt hn (by omega) (by omega)
      · have hx' : ((arms a (m + 1)).getD (k - (m + 1)) []).getD j 0 = (x : Int) := by
          rw [← hx, show k - m = (k - (m + 1)) + 1 by omega, List.getD_cons_succ]
          simp [List.getD, List.getElem?_append_left (show k - (m + 1) < (arms a (m + 1)).length by rw [arms_length]; omega)]
        obtain ⟨q1, q2, q3⟩ := iha k j x (by omega) (by omega) hj hx'
        have p1 := pos_lt a (m + 1) k (by omega) (by omega)
        have p2 := pos_lt a (m + 1) x (by omega) (by omega)
        refine ⟨by omega, by omega, ?_⟩
        rw [pos_left a b m k (by omega) (by omega), pos_left a b m x (by omega) (by omega)]
        rw [ga _ (by omega), ga _ (by omega)] at q3
        exact q3
      · have hx' : ((arms b (m + 1 + leastA l)).getD (k - (m + 1 + leastA l)) []).getD j 0 = (x : Int) := by
          rw [← hx, show k - m = (k - (m + 1)) + 1 by omega, List.getD_cons_succ]
          simp [List.getD, List.getElem?_append_right (show (arms a (m + 1)).length ≤ k - (m + 1) by rw [arms_length]; omega), arms_length, ra,
            show k - (m + 1) - leastA l = k - (m + 1 + leastA l) by omega]
        obtain ⟨q1, q2, q3⟩ := ihb k j x (by omega) (by omega) hj hx'
        refine ⟨by omega, by omega, ?_⟩
        rw [pos_right a b m k (by omega), pos_right a b m x (by omega), ra]
        rw [gb, gb] at q3
        exact q3

/-- the product of how many nodes are from each node on, of the first so many nodes -/
def hkR (rows : List (List Int)) : Nat → Nat
  | 0 => 1
  | i + 1 => hkR rows i * (btwL rows 10 (i : Int)).length
theorem btwL_pos (rows : List (List Int)) (i : Nat) : 1 ≤ (btwL rows 10 (i : Int)).length := by
  rw [btwL_nat, List.length_append, List.length_append]
  have : [(i : Int)].length = 1 := rfl
  omega
theorem hkR_pos (rows : List (List Int)) : ∀ i, 1 ≤ hkR rows i
  | 0 => Nat.le_refl _
  | i + 1 => Nat.mul_pos (hkR_pos rows i) (btwL_pos rows i)
theorem hkR_mono (rows : List (List Int)) (i : Nat) : ∀ k, hkR rows i ≤ hkR rows (i + k)
  | 0 => Nat.le_refl _
  | k + 1 => Nat.le_trans (hkR_mono rows i k) (Nat.le_mul_of_pos_right _ (btwL_pos rows (i + k)))
theorem hkR_tree : ∀ (t : Tw) (pre post : List (List Int)), t.size ≤ 8 → hkR (pre ++ arms t pre.length ++ post) (pre.length + t.size) = hkR (pre ++ arms t pre.length ++ post) pre.length * t.hooks
  | e, pre, post, _ => by rw [size, hooks, Nat.mul_one]; rfl
  | n a b, pre, post, h => by
    have hs : a.size + 1 + b.size ≤ 8 := h
    have hR := (binL_tree (n a b).lst.length (n a b).lst pre.length 10 pre post (lst_scan _) (Nat.le_refl _) rfl (by rw [lst_length, size]; omega)).2.2
    rw [binL_lst _ _ _ (Nat.le_refl _), btwP_lst _ _ _ (Nat.le_refl _), rootA, if_neg (lst_ne a b)] at hR
    have hL := congrArg List.length hR
    rw [List.length_map, ino_length, size] at hL
    have fa := hkR_tree a (pre ++ [[rootI a (pre.length + 1), rootI b (pre.length + 1 + a.size)]]) (arms b (pre.length + 1 + a.size) ++ post) (by omega)
    have fb := hkR_tree b (pre ++ [[rootI a (pre.length + 1), rootI b (pre.length + 1 + a.size)]] ++ arms a (pre.length + 1)) post (by omega)
    have l1 : (pre ++ [[rootI a (pre.length + 1), rootI b (pre.length + 1 + a.size)]]).length = pre.length + 1 := by rw [List.length_append]; rfl
    have l2 : (pre ++ [[rootI a (pre.length + 1), rootI b (pre.length + 1 + a.size)]] ++ arms a (pre.length + 1)).length = pre.length + 1 + a.size := by rw [List.length_append, l1, arms_length]
    rw [l1] at fa
    rw [l2] at fb
    have r1 : pre ++ [[rootI a (pre.length + 1), rootI b (pre.length + 1 + a.size)]] ++ arms a (pre.length + 1) ++ (arms b (pre.length + 1 + a.size) ++ post) = pre ++ arms (n a b) pre.length ++ post := by
      rw [arms]; simp
    have r2 : pre ++ [[rootI a (pre.length + 1), rootI b (pre.length + 1 + a.size)]] ++ arms a (pre.length + 1) ++ arms b (pre.length + 1 + a.size) ++ post = pre ++ arms (n a b) pre.length ++ post := by
      rw [arms]; simp
    rw [r1] at fa
    rw [r2] at fb
    rw [size, show pre.length + (a.size + 1 + b.size) = pre.length + 1 + a.size + b.size by omega, fb, fa, hkR, hL, hooks]
    rw [show a.size + 1 + b.size = a.size + b.size + 1 by omega]
    ac_rfl
theorem okT_tree : ∀ (t : Tw) (pre post : List (List Int)), t.size ≤ 8 → ∀ k, pre.length ≤ k → k < pre.length + t.size → okT (pre ++ arms t pre.length ++ post) 10 (k : Int)
  | e, pre, post, _, k, h1, h2 => by rw [size] at h2; omega
  | n a b, pre, post, h, k, h1, h2 => by
    have hs : a.size + 1 + b.size ≤ 8 := h
    rw [size] at h2
    by_cases c : k = pre.length
    · subst c
      have hR := (binL_tree (n a b).lst.length (n a b).lst pre.length 10 pre post (lst_scan _) (Nat.le_refl _) rfl (by rw [lst_length, size]; omega)).1
      rw [binL_lst _ _ _ (Nat.le_refl _), rootA, if_neg (lst_ne a b)] at hR
      exact hR
    · have fa := okT_tree a (pre ++ [[rootI a (pre.length + 1), rootI b (pre.length + 1 + a.size)]]) (arms b (pre.length + 1 + a.size) ++ post) (by omega) k
      have fb := okT_tree b (pre ++ [[rootI a (pre.length + 1), rootI b (pre.length + 1 + a.size)]] ++ arms a (pre.length + 1)) post (by omega) k
      have l1 : (pre ++ [[rootI a (pre.length + 1), rootI b (pre.length + 1 + a.size)]]).length = pre.length + 1 := by rw [List.length_append]; rfl
      have l2 : (pre ++ [[rootI a (pre.length + 1), rootI b (pre.length + 1 + a.size)]] ++ arms a (pre.length + 1)).length = pre.length + 1 + a.size := by rw [List.length_append, l1, arms_length]
      rw [l1] at fa
      rw [l2] at fb
      have r1 : pre ++ [[rootI a (pre.length + 1), rootI b (pre.length + 1 + a.size)]] ++ arms a (pre.length + 1) ++ (arms b (pre.length + 1 + a.size) ++ post) = pre ++ arms (n a b) pre.length ++ post := by
        rw [arms]; simp
      have r2 : pre ++ [[rootI a (pre.length + 1), rootI b (pre.length + 1 + a.size)]] ++ arms a (pre.length + 1) ++ arms b (pre.length + 1 + a.size) ++ post = pre ++ arms (n a b) pre.length ++ post := by
        rw [arms]; simp
      rw [r1] at fa
      rw [r2] at fb
      by_cases d : k < pre.length + 1 + a.size
      · exact fa (by omega) d
      · exact fb (by omega) (by omega)
theorem okT_all (t : Tw) (h : t.size ≤ 8) (k : Nat) (hk : k < t.size) : okT (arms t 0) 10 (k : Int) := by
  have := okT_tree t [] [] h k (Nat.zero_le _) (by simpa using hk)
  simpa using this
theorem hkR_all (t : Tw) (h : t.size ≤ 8) : hkR (arms t 0) t.size = t.hooks := by
  have := hkR_tree t [] [] h
  simpa [hkR] using this
theorem hkR_le (t : Tw) (h : t.size ≤ 8) (k : Nat) (hk : k ≤ t.size) : hkR (arms t 0) k ≤ 40320 := by
  have h1 := hkR_mono (arms t 0) k (t.size - k)
  rw [show k + (t.size - k) = t.size by omega, hkR_all t h] at h1
  exact Nat.le_trans h1 (Nat.le_trans (hooks_le h) (fct_le8 _ h))
end Tw
end Go.Proofs.Ytmlcbeekimiaiaa
