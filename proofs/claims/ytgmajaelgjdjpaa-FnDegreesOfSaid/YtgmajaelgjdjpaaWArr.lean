/-
  Nodes marked over edges, round by round; when edges that ascend, not strictly, are a tree. Plain facts.
-/
import Derived.Test.YtgmajaelgjdjpaaWBfs
namespace Go.Proofs.Ytgmajaelgjdjpaa

/-- one edge: both its nodes are marked if one of them is -/
def bstep (r : Nat → Bool) (e : Nat × Nat) : Nat → Bool := fun v => if v = e.2 then (r e.1 || r e.2) else if v = e.1 then (r e.1 || r e.2) else r v
def bround (E : Edges) (r : Nat → Bool) : Nat → Bool := E.foldl bstep r
theorem bstep_mono {r : Nat → Bool} {e : Nat × Nat} {v : Nat} (h : r v = true) : bstep r e v = true := by
  unfold bstep
  split
  · next h1 => rw [← h1, h]; simp
  · split
    · next h1 => rw [← h1, h]; simp
    · exact h
theorem bround_mono (E : Edges) : ∀ (r : Nat → Bool) (v : Nat), r v = true → bround E r v = true := by
  induction E with
  | nil => intro r v h; exact h
  | cons e E ih => intro r v h; exact ih _ v (bstep_mono h)
theorem bround_take (E : Edges) (r : Nat → Bool) (k : Nat) (h : k < E.length) : bround (E.take (k + 1)) r = bstep (bround (E.take k) r) E[k] := by
  rw [bround, List.take_succ_eq_append_getElem h, List.foldl_append]; rfl
theorem bstep_congr {r s : Nat → Bool} {e : Nat × Nat} {n : Nat} (he : e.1 < n ∧ e.2 < n) (h : ∀ v, v < n → r v = s v) : ∀ v, v < n → bstep r e v = bstep s e v := by
  intro v hv
  unfold bstep
  rw [h _ he.1, h _ he.2, h v hv]
theorem bround_congr {n : Nat} (E : Edges) : ∀ (r s : Nat → Bool), (∀ e ∈ E, e.1 < n ∧ e.2 < n) → (∀ v, v < n → r v = s v) → ∀ v, v < n → bround E r v = bround E s v := by
  induction E with
  | nil => intro r s _ h; exact h
  | cons e E ih => intro r s he h; exact ih _ _ (fun x hx => he x (List.mem_cons_of_mem _ hx)) (bstep_congr (he e (by simp)) h)
/-- a round that changes nothing: each edge's nodes are marked alike -/
theorem bround_fix {n : Nat} (E : Edges) : ∀ (r : Nat → Bool), (∀ e ∈ E, e.1 < n ∧ e.2 < n) → (∀ v, v < n → bround E r v = r v) → ∀ e ∈ E, r e.1 = r e.2 := by
  induction E with
  | nil => intro r _ _ e he; simp at he
  | cons e E ih =>
    intro r he h x hx
    have hs : ∀ v, v < n → bstep r e v = r v := by
      intro v hv
      cases hr : r v with
      | true => exact bstep_mono hr
      | false =>
        cases hb : bstep r e v with
        | false => rfl
        | true =>
          have := bround_mono E _ v hb
          have h2 := h v hv
          rw [bround, List.foldl_cons] at h2
          rw [bround] at this
          rw [this, hr] at h2
          cases h2
    have h0 := he e (by simp)
    rcases List.mem_cons.1 hx with rfl | hx
    · have a := hs x.1 h0.1
      have b := hs x.2 h0.2
      unfold bstep at a b
      rw [if_pos rfl] at b
      by_cases e1 : x.1 = x.2
      · rw [e1]
      · rw [if_neg e1, if_pos rfl] at a
        exact a.symm.trans b
    · refine ih r (fun y hy => he y (List.mem_cons_of_mem _ hy)) (fun v hv => ?_) x hx
      have := h v hv
      rw [bround, List.foldl_cons] at this
      exact (bround_congr E r (bstep r e) (fun y hy => he y (List.mem_cons_of_mem _ hy)) (fun u hu => (hs u hu).symm) v hv).trans this
theorem bstep_sound {E : Edges} {r : Nat → Bool} {e : Nat × Nat} (he : e ∈ E) (h : ∀ v, r v = true → Reach E 0 v) : ∀ v, bstep r e v = true → Reach E 0 v := by
  have hor : (r e.1 || r e.2) = true → Reach E 0 e.1 ∧ Reach E 0 e.2 := fun ho => by
    rcases (by simpa using ho : r e.1 = true ∨ r e.2 = true) with h1 | h1
    · exact ⟨h _ h1, .step _ _ _ (h _ h1) (.inl he)⟩
    · exact ⟨.step _ _ _ (h _ h1) (.inr he), h _ h1⟩
  intro v hv
  unfold bstep at hv
  split at hv
  · next h1 => rw [h1]; exact (hor hv).2
  · split at hv
    · next h1 => rw [h1]; exact (hor hv).1
    · exact h v hv
theorem bround_sound {E : Edges} (F : Edges) : (∀ e ∈ F, e ∈ E) → ∀ (r : Nat → Bool), (∀ v, r v = true → Reach E 0 v) → ∀ v, bround F r v = true → Reach E 0 v := by
  induction F with
  | nil => intro _ r h; exact h
  | cons e F ih => intro hs r h; exact ih (fun x hx => hs x (List.mem_cons_of_mem _ hx)) _ (bstep_sound (hs e (by simp)) h)
theorem marked_reach {E : Edges} {r : Nat → Bool} (h0 : r 0 = true) (h : ∀ e ∈ E, r e.1 = r e.2) {v : Nat} (hr : Reach E 0 v) : r v = true := by
  induction hr with
  | refl => exact h0
  | step u w _ he ih =>
    rcases he with he | he
    · have := h _ he
      exact this.symm.trans ih
    · have := h _ he
      exact this.trans ih
/-- how many of seven are not marked -/
def unm (r : Nat → Bool) : Nat := ((List.range 7).filter fun v => !r v).length
theorem filter_lt {p q : Nat → Bool} : ∀ (l : List Nat), (∀ v ∈ l, p v = true → q v = true) → (l.filter p).length ≤ (l.filter q).length ∧ ((∃ v ∈ l, p v = false ∧ q v = true) → (l.filter p).length < (l.filter q).length) := by
  intro l
  induction l with
  | nil => intro _; exact ⟨Nat.le_refl _, fun ⟨v, hv, _⟩ => by simp at hv⟩
  | cons a l ih =>
    intro h
    obtain ⟨i1, i2⟩ := ih fun v hv => h v (List.mem_cons_of_mem _ hv)
    have ha := h a (by simp)
    rw [List.filter_cons, List.filter_cons]
    cases hp : p a with
    | true =>
      rw [ha hp]
      simp only [if_true, List.length_cons]
      refine ⟨by omega, fun ⟨v, hv, h1, h2⟩ => ?_⟩
      rcases List.mem_cons.1 hv with rfl | hv
      · rw [hp] at h1; cases h1
      · have := i2 ⟨v, hv, h1, h2⟩; omega
    | false =>
      cases hq : q a with
      | true =>
        simp only [if_true, Bool.false_eq_true, if_false, List.length_cons]
        exact ⟨by omega, fun _ => by omega⟩
      | false =>
        simp only [Bool.false_eq_true, if_false]
        refine ⟨i1, fun ⟨v, hv, h1, h2⟩ => ?_⟩
        rcases List.mem_cons.1 hv with rfl | hv
        · rw [hq] at h2; cases h2
        · exact i2 ⟨v, hv, h1, h2⟩
theorem unm_lt {r s : Nat → Bool} (h : ∀ v, r v = true → s v = true) (hne : ¬ ∀ v, v < 7 → r v = s v) : unm s < unm r := by
  refine (filter_lt (p := fun v => !s v) (q := fun v => !r v) (List.range 7) fun v _ hv => ?_).2 ?_
  · cases hr : r v with
    | false => rfl
    | true => rw [h v hr] at hv; cases hv
  · apply Classical.byContradiction
    intro hno
    refine hne fun v hv => ?_
    cases hr : r v with
    | true => exact (h v hr).symm
    | false =>
      cases hs : s v with
      | false => rfl
      | true => exact absurd ⟨v, List.mem_range.2 hv, by rw [hs]; rfl, by rw [hr]; rfl⟩ hno
/-- edges that ascend, not strictly, one fewer than nodes, over which all is reached: none is there twice -/
theorem valid_up {n : Nat} {E : Edges} (hn : 0 < n) (hl : E.length + 1 = n) (ho : ∀ e ∈ E, e.1 < e.2 ∧ e.2 < n) (hup : ∀ (i : Nat) (h : i + 1 < E.length), ltP E[i + 1] (E[i]'(by omega)) = false) (hc : ∀ v, v < n → Reach E 0 v) : ValidT n E := by
  refine ⟨hl, ho, ?_, hc⟩
  have hnd : E.Nodup := by
    rcases Nat.lt_or_ge 1 n with h1 | h1
    · have ht : Tree n (List.range n) E := by
        refine ⟨List.pairwise_lt_range, fun v hv => List.mem_range.1 hv, fun e he => ?_, fun u hu v hv => ?_⟩
        · obtain ⟨h1, h2⟩ := ho e he
          exact ⟨List.mem_range.2 (by omega), List.mem_range.2 h2, by omega⟩
        · exact (hc u (List.mem_range.1 hu)).symm.trans (hc v (List.mem_range.1 hv))
      obtain ⟨es, c, hp, hs⟩ := tree_peel (n - 2) (List.range n) E ht (by rw [List.length_range]; omega) (by omega)
      have h2 : (E.map norm).Nodup := (List.Perm.nodup_iff hs).2 hp.nodup
      rwa [map_norm fun e he => (ho e he).1] at h2
    · have : E = [] := List.eq_nil_of_length_eq_zero (by omega)
      rw [this]; exact List.nodup_nil
  have hle : ∀ (i j : Nat) (hj : j < E.length) (hij : i < j), ltP E[j] (E[i]'(by omega)) = false := by
    intro i j hj hij
    induction j with
    | zero => omega
    | succ j ih =>
      by_cases e : i = j
      · subst e; exact hup i hj
      · have a := ih (by omega) (by omega)
        have b := hup j hj
        cases hh : ltP E[j + 1] (E[i]'(by omega)) with
        | false => rfl
        | true =>
          rcases ltP_total (E[j]'(by omega)) (E[j + 1]) with h | h | h
          · rw [ltP_trans h hh] at a; cases a
          · rw [← h, a] at hh; cases hh
          · rw [b] at h; cases h
  unfold AscP
  rw [List.pairwise_iff_getElem]
  intro i j hi hj hij
  rcases ltP_total E[i] E[j] with h | h | h
  · exact h
  · exact absurd h ((List.pairwise_iff_getElem.1 hnd) i j hi hj hij)
  · rw [hle i j hj hij] at h; cases h
theorem valid_upB {n : Nat} {E : Edges} (h : ValidT n E) : ∀ (i : Nat) (h : i + 1 < E.length), ltP E[i + 1] (E[i]'(by omega)) = false := by
  intro i hi
  have := (List.pairwise_iff_getElem.1 h.asc) i (i + 1) (by omega) hi (by omega)
  cases hh : ltP E[i + 1] E[i] with
  | false => rfl
  | true => have := ltP_trans this hh; rw [ltP_irr] at this; cases this
end Go.Proofs.Ytgmajaelgjdjpaa
