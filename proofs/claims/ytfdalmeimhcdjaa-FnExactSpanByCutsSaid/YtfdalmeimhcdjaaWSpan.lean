/-
  Plain facts on webs: the determinant of their rows is what leaving out and joining edges counts. Nothing of the program is named here.
-/
import Derived.Test.YtfdalmeimhcdjaaWPolyC
import Derived.Test.YtfdalmeimhcdjaaWPruf
namespace Go.Proofs.Ytfdalmeimhcdjaa

/-- whether an edge lies between two nodes -/
def ind (P : Prop) [Decidable P] : Int := if P then 1 else 0
theorem ind_or {P Q R : Prop} [Decidable P] [Decidable Q] [Decidable R] (h : P ↔ Q ∨ R) (hn : ¬ (Q ∧ R)) : ind P = ind Q + ind R := by
  unfold ind
  by_cases hq : Q
  · have hr : ¬ R := fun hr => hn ⟨hq, hr⟩
    rw [if_pos (h.2 (.inl hq)), if_pos hq, if_neg hr]; rfl
  · by_cases hr : R
    · rw [if_pos (h.2 (.inr hr)), if_neg hq, if_pos hr]; rfl
    · rw [if_neg (fun hp => (h.1 hp).elim hq hr), if_neg hq, if_neg hr]; rfl
theorem ind_congr {P Q : Prop} [Decidable P] [Decidable Q] (h : P ↔ Q) : ind P = ind Q := by
  unfold ind
  by_cases hq : Q
  · rw [if_pos hq, if_pos (h.2 hq)]
  · rw [if_neg hq, if_neg (fun hp => hq (h.1 hp))]
def isE (e : Nat × Nat) (i j : Nat) : Int := ind ((e.1 = i ∧ e.2 = j) ∨ (e.1 = j ∧ e.2 = i))
/-- how many edges lie between two nodes -/
def wt : Edges → Nat → Nat → Int
  | [], _, _ => 0
  | e :: r, i, j => isE e i j + wt r i j
theorem wt_symm : ∀ (E : Edges) (i j : Nat), wt E i j = wt E j i
  | [], _, _ => rfl
  | e :: r, i, j => by
    rw [wt, wt, wt_symm r i j]
    congr 1
    exact ind_congr ⟨fun h => h.symm, fun h => h.symm⟩
/-- b joined to a -/
def phi (a b x : Nat) : Nat := if x = b then a else if b < x then x - 1 else x
def joinE (a b : Nat) (e : Nat × Nat) : Nat × Nat := (phi a b e.1, phi a b e.2)
theorem phi_iff {a b x i : Nat} (hab : a < b) : phi a b x = i ↔ x = (if i < b then i else i + 1) ∨ (i = a ∧ x = b) := by
  unfold phi
  by_cases h1 : x = b
  · rw [if_pos h1]
    split <;> omega
  · rw [if_neg h1]
    by_cases h2 : b < x
    · rw [if_pos h2]; split <;> omega
    · rw [if_neg h2]; split <;> omega
theorem isE_join {a b i j : Nat} (e : Nat × Nat) (hab : a < b) (hij : i ≠ j) :
    isE (joinE a b e) i j = joinG opI a b (isE e) i j := by
  obtain ⟨x, y⟩ := e
  unfold joinG
  dsimp only
  obtain ⟨p, hp⟩ : ∃ p, p = if i < b then i else i + 1 := ⟨_, rfl⟩
  obtain ⟨q, hq⟩ : ∃ q, q = if j < b then j else j + 1 := ⟨_, rfl⟩
  have e1 : ∀ z, phi a b z = i ↔ z = p ∨ (i = a ∧ z = b) := fun z => by rw [hp]; exact phi_iff hab
  have e2 : ∀ z, phi a b z = j ↔ z = q ∨ (j = a ∧ z = b) := fun z => by rw [hq]; exact phi_iff hab
  rw [← hp, ← hq]
  have hpb : p ≠ b := by rw [hp]; split <;> omega
  have hqb : q ≠ b := by rw [hq]; split <;> omega
  have hpq : p ≠ q := by rw [hp, hq]; split <;> split <;> omega
  clear hp hq
  have hL : isE (joinE a b (x, y)) i j = ind (((x = p ∨ (i = a ∧ x = b)) ∧ (y = q ∨ (j = a ∧ y = b))) ∨ ((x = q ∨ (j = a ∧ x = b)) ∧ (y = p ∨ (i = a ∧ y = b)))) := by
    unfold isE joinE
    exact ind_congr (by rw [e1, e2, e1, e2])
  rw [hL]
  show _ = isE (x, y) p q + ((if i = a then isE (x, y) b q else 0) + (if j = a then isE (x, y) p b else 0))
  unfold isE
  dsimp only
  by_cases hi : i = a
  · have hj : ¬ j = a := fun h => hij (hi.trans h.symm)
    rw [if_pos hi, if_neg hj, Int.add_zero]
    exact ind_or (by simp only [hi, hj, true_and, false_and, or_false]; omega) (by omega)
  · by_cases hj : j = a
    · rw [if_neg hi, if_pos hj, Int.zero_add]
      exact ind_or (by simp only [hi, hj, true_and, false_and, or_false]; omega) (by omega)
    · rw [if_neg hi, if_neg hj, Int.add_zero, Int.add_zero]
      exact ind_congr (by simp only [hi, hj, false_and, or_false])
theorem wt_join {a b i j : Nat} (hab : a < b) (hij : i ≠ j) : ∀ (E : Edges), wt (E.map (joinE a b)) i j = joinG opI a b (wt E) i j
  | [] => by
    unfold joinG
    show (0 : Int) = 0 + ((if i = a then 0 else 0) + (if j = a then 0 else 0))
    split <;> split <;> rfl
  | e :: r => by
    rw [List.map_cons, wt, wt_join hab hij r, isE_join e hab hij]
    unfold joinG
    dsimp only
    obtain ⟨p, hp⟩ : ∃ p, p = if i < b then i else i + 1 := ⟨_, rfl⟩
    obtain ⟨q, hq⟩ : ∃ q, q = if j < b then j else j + 1 := ⟨_, rfl⟩
    rw [← hp, ← hq]
    show isE e p q + ((if i = a then isE e b q else 0) + (if j = a then isE e p b else 0)) + (wt r p q + ((if i = a then wt r b q else 0) + (if j = a then wt r p b else 0))) =
      wt (e :: r) p q + ((if i = a then wt (e :: r) b q else 0) + (if j = a then wt (e :: r) p b else 0))
    rw [wt, wt, wt]
    split <;> split <;> omega
theorem wt_more {a b : Nat} (r : Edges) (e : Nat × Nat) (he : e = (a, b) ∨ e = (b, a)) : wt (e :: r) = moreG opI a b (wt r) := by
  funext i j
  rw [wt]
  unfold moreG isE ind
  by_cases h : (i = a ∧ j = b) ∨ (i = b ∧ j = a)
  · rw [if_pos h, if_pos (by rcases he with rfl | rfl <;> simp only <;> omega), Int.add_comm]; rfl
  · rw [if_neg h, if_neg (by rcases he with rfl | rfl <;> simp only <;> omega), Int.zero_add]
/-- how many spans a web has, edge by edge -/
def cutF : Nat → Nat → Edges → Nat
  | f, n, E => if n = 1 then 1 else
    match f, E with
    | f + 1, e :: r => if e.1 = e.2 then cutF f n r else cutF f n r + cutF f (n - 1) (r.map (joinE (min e.1 e.2) (max e.1 e.2)))
    | _, _ => 0
theorem cutF_one (f : Nat) (E : Edges) : cutF f 1 E = 1 := by unfold cutF; rw [if_pos rfl]
theorem cutF_nil (f n : Nat) (hn : n ≠ 1) : cutF f n [] = 0 := by
  unfold cutF; rw [if_neg hn]; cases f <;> rfl
theorem cutF_loop {f n : Nat} {e : Nat × Nat} {r : Edges} (hn : n ≠ 1) (he : e.1 = e.2) : cutF (f + 1) n (e :: r) = cutF f n r := by
  rw [cutF, if_neg hn, if_pos he]
theorem cutF_edge {f n : Nat} {e : Nat × Nat} {r : Edges} (hn : n ≠ 1) (he : e.1 ≠ e.2) : cutF (f + 1) n (e :: r) = cutF f n r + cutF f (n - 1) (r.map (joinE (min e.1 e.2) (max e.1 e.2))) := by
  rw [cutF, if_neg hn, if_neg he]
theorem less_len {α : Type} (c : Nat) (rest : List (List α)) : (lessG c rest).length = rest.length := by simp [lessG]
theorem det_fuel {α : Type} (o : Ops α) : ∀ (f g : Nat) (rows : List (List α)), rows.length ≤ f → rows.length ≤ g → detG o f rows = detG o g rows
  | 0, 0, _, _, _ => rfl
  | 0, _ + 1, rows, h, _ => by
    have : rows = [] := List.eq_nil_of_length_eq_zero (by omega)
    subst this; rfl
  | _ + 1, 0, rows, _, h => by
    have : rows = [] := List.eq_nil_of_length_eq_zero (by omega)
    subst this; rfl
  | f + 1, g + 1, [], _, _ => rfl
  | f + 1, g + 1, r0 :: rest, h, k => by
    simp only [List.length_cons] at h k
    rw [detG, detG]
    congr 1
    funext s c
    rw [det_fuel o f g (lessG c rest) (by rw [less_len]; omega) (by rw [less_len]; omega)]
theorem mat_len {α : Type} (o : Ops α) (n : Nat) (w : Nat → Nat → α) : (matG o n w).length = n - 1 := by simp [matG]
theorem join_lt {a b n : Nat} (hab : a < b) (hb : b < n) {x : Nat} (hx : x < n) : phi a b x < n - 1 := by
  unfold phi; split
  · omega
  · split <;> omega
/-- the determinant counts as cutting does -/
theorem det_cut : ∀ (f n : Nat) (E : Edges), E.length ≤ f → 1 ≤ n → n ≤ 5 → (∀ e ∈ E, e.1 < n ∧ e.2 < n) → detG opI n (matG opI n (wt E)) = (cutF f n E : Int) := by
  intro f
  induction f with
  | zero =>
    intro n E hE h1 h5 _
    have : E = [] := List.eq_nil_of_length_eq_zero (by omega)
    subst this
    match n, h1, h5 with
    | 1, _, _ => rw [cutF_one]; rfl
    | 2, _, _ => rw [cutF_nil _ _ (by omega)]; rfl
    | 3, _, _ => rw [cutF_nil _ _ (by omega)]; rfl
    | 4, _, _ => rw [cutF_nil _ _ (by omega)]; rfl
    | 5, _, _ => rw [cutF_nil _ _ (by omega)]; rfl
  | succ f ih =>
    intro n E hE h1 h5 hlt
    cases E with
    | nil =>
      match n, h1, h5 with
      | 1, _, _ => rw [cutF_one]; rfl
      | 2, _, _ => rw [cutF_nil _ _ (by omega)]; rfl
      | 3, _, _ => rw [cutF_nil _ _ (by omega)]; rfl
      | 4, _, _ => rw [cutF_nil _ _ (by omega)]; rfl
      | 5, _, _ => rw [cutF_nil _ _ (by omega)]; rfl
    | cons e r =>
      simp only [List.length_cons] at hE
      by_cases hn : n = 1
      · subst hn
        rw [cutF_one]; rfl
      · have hr : ∀ x ∈ r, x.1 < n ∧ x.2 < n := fun x hx => hlt x (by simp [hx])
        obtain ⟨l1, l2⟩ := hlt e (by simp)
        by_cases he : e.1 = e.2
        · rw [cutF_loop hn he, ← ih n r (by omega) h1 h5 hr]
          congr 1
          refine mat_congr fun i j _ _ hij => ?_
          rw [wt]
          have : isE e i j = 0 := by unfold isE ind; rw [if_neg (by omega)]
          rw [this, Int.zero_add]
        · obtain ⟨a, ha⟩ : ∃ a, a = min e.1 e.2 := ⟨_, rfl⟩
          obtain ⟨b, hb⟩ : ∃ b, b = max e.1 e.2 := ⟨_, rfl⟩
          have hab : a < b := by omega
          have hbn : b < n := by omega
          have hee : e = (a, b) ∨ e = (b, a) := by
            rcases Nat.lt_or_gt_of_ne he with h | h
            · left; rw [ha, hb]; exact Prod.ext (by simp only; omega) (by simp only; omega)
            · right; rw [ha, hb]; exact Prod.ext (by simp only; omega) (by simp only; omega)
          rw [cutF_edge hn he, ← ha, ← hb, wt_more r e hee, id_num h5 hbn hab (wt r) (wt_symm r), ih n r (by omega) h1 h5 hr]
          have h2 := ih (n - 1) (r.map (joinE a b)) (by rw [List.length_map]; omega) (by omega) (by omega) (fun x hx => by
            obtain ⟨y, hy, rfl⟩ := List.mem_map.1 hx
            exact ⟨join_lt hab hbn (hr y hy).1, join_lt hab hbn (hr y hy).2⟩)
          have e3 : matG opI (n - 1) (joinG opI a b (wt r)) = matG opI (n - 1) (wt (r.map (joinE a b))) := mat_congr fun i j _ _ hij => (wt_join hab hij r).symm
          rw [e3, det_fuel opI n (n - 1) _ (by rw [mat_len]; omega) (by rw [mat_len]; omega), h2]
          push_cast
          rfl
end Go.Proofs.Ytfdalmeimhcdjaa
