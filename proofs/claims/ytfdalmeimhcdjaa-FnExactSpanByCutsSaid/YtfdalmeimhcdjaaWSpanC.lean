/-
  Plain facts on webs: leaving out and joining edges counts the sets of edges that are trees of all nodes. Nothing of the program is named here.
-/
import Derived.Test.YtfdalmeimhcdjaaWSpan
import Derived.Test.YtfdalmeimhcdjaaWBfs
namespace Go.Proofs.Ytfdalmeimhcdjaa

/-- the edges at the places that are in a number -/
def pickE : Edges → Nat → Edges
  | [], _ => []
  | e :: r, s => if s % 2 = 1 then e :: pickE r (s / 2) else pickE r (s / 2)
theorem pickE_map (f : Nat × Nat → Nat × Nat) : ∀ (E : Edges) (s : Nat), pickE (E.map f) s = (pickE E s).map f
  | [], _ => rfl
  | e :: r, s => by
    rw [List.map_cons, pickE, pickE, pickE_map f r]
    split <;> rfl
theorem pickE_mem : ∀ (E : Edges) (s : Nat) (x : Nat × Nat), x ∈ pickE E s → x ∈ E
  | [], _, _, h => by cases h
  | e :: r, s, x, h => by
    rw [pickE] at h
    split at h
    · rcases List.mem_cons.1 h with rfl | h
      · simp
      · simp [pickE_mem r _ x h]
    · simp [pickE_mem r _ x h]
/-- n - 1 edges over which all nodes are reached -/
def Span (n : Nat) (F : Edges) : Prop := F.length + 1 = n ∧ ∀ v, v < n → Reach F 0 v
theorem phi_zero {a b : Nat} (hab : a < b) : phi a b 0 = 0 := by unfold phi; rw [if_neg (by omega), if_neg (by omega)]
theorem phi_back {a b v : Nat} : phi a b (if v < b then v else v + 1) = v := by
  unfold phi
  split
  · rw [if_neg (by omega), if_neg (by omega)]
  · rw [if_neg (by omega), if_pos (by omega)]; rfl
theorem phi_inj {a b u v : Nat} (hab : a < b) (h : phi a b u = phi a b v) : u = v ∨ (u = a ∧ v = b) ∨ (u = b ∧ v = a) := by
  unfold phi at h
  split at h <;> split at h <;> (try split at h) <;> (try split at h) <;> omega
theorem reach_join {a b : Nat} {e : Nat × Nat} {F : Edges} (hab : a < b) (he : e = (a, b) ∨ e = (b, a)) {u v : Nat} (h : Reach (e :: F) u v) : Reach (F.map (joinE a b)) (phi a b u) (phi a b v) := by
  have hp1 : phi a b b = a := by unfold phi; rw [if_pos rfl]
  have hp2 : phi a b a = a := by unfold phi; rw [if_neg (by omega), if_neg (by omega)]
  have key : ∀ x y, (x, y) ∈ e :: F → phi a b x = phi a b y ∨ (phi a b x, phi a b y) ∈ F.map (joinE a b) := fun x y hm => by
    rcases List.mem_cons.1 hm with h | h
    · left
      rcases he with h2 | h2
      · rw [h2] at h; cases h; rw [hp1, hp2]
      · rw [h2] at h; cases h; rw [hp1, hp2]
    · exact .inr (List.mem_map.2 ⟨(x, y), h, rfl⟩)
  induction h with
  | refl => exact .refl _
  | step p q hp hpq ih =>
    rcases hpq with hm | hm
    · rcases key _ _ hm with h | h
      · rw [← h]; exact ih
      · exact .step _ _ _ ih (.inl h)
    · rcases key _ _ hm with h | h
      · rw [h]; exact ih
      · exact .step _ _ _ ih (.inr h)
theorem Reach.more {E F : Edges} (h : ∀ x ∈ E, x ∈ F) {u v : Nat} (k : Reach E u v) : Reach F u v := by
  induction k with
  | refl => exact .refl _
  | step p q hp hpq ih => exact .step _ _ _ ih (hpq.imp (h _) (h _))
theorem reach_back {a b : Nat} {e : Nat × Nat} {F : Edges} (hab : a < b) (he : e = (a, b) ∨ e = (b, a)) {s t : Nat} (h : Reach (F.map (joinE a b)) s t) : ∀ u v, phi a b u = s → phi a b v = t → Reach (e :: F) u v := by
  have hone : ∀ u v, phi a b u = phi a b v → Reach (e :: F) u v := by
    intro u v huv
    rcases phi_inj hab huv with h | ⟨h1, h2⟩ | ⟨h1, h2⟩
    · rw [h]; exact .refl _
    · rw [h1, h2]; rcases he with rfl | rfl
      · exact .one (.inl (by simp))
      · exact .one (.inr (by simp))
    · rw [h1, h2]; rcases he with rfl | rfl
      · exact .one (.inr (by simp))
      · exact .one (.inl (by simp))
  induction h with
  | refl => intro u v h1 h2; exact hone u v (h1.trans h2.symm)
  | step p q hp hpq ih =>
    intro u v h1 h2
    rcases hpq with hm | hm
    · obtain ⟨⟨x, y⟩, hxy, he2⟩ := List.mem_map.1 hm
      unfold joinE at he2
      simp only [Prod.mk.injEq] at he2
      exact ((ih u x h1 he2.1).trans (.one (.inl (List.mem_cons_of_mem _ hxy)))).trans (hone y v (he2.2.trans h2.symm))
    · obtain ⟨⟨x, y⟩, hxy, he2⟩ := List.mem_map.1 hm
      unfold joinE at he2
      simp only [Prod.mk.injEq] at he2
      exact ((ih u y h1 he2.2).trans (.one (.inr (List.mem_cons_of_mem _ hxy)))).trans (hone x v (he2.1.trans h2.symm))
theorem ends_of {e : Nat × Nat} (he : e.1 ≠ e.2) : min e.1 e.2 < max e.1 e.2 ∧ (e = (min e.1 e.2, max e.1 e.2) ∨ e = (max e.1 e.2, min e.1 e.2)) := by
  refine ⟨by omega, ?_⟩
  rcases Nat.lt_or_gt_of_ne he with h | h
  · left; exact Prod.ext (by simp only; omega) (by simp only; omega)
  · right; exact Prod.ext (by simp only; omega) (by simp only; omega)
theorem span_edge {n : Nat} {e : Nat × Nat} {F : Edges} (he : e.1 ≠ e.2) (hl : e.1 < n ∧ e.2 < n) : Span n (e :: F) ↔ Span (n - 1) (F.map (joinE (min e.1 e.2) (max e.1 e.2))) := by
  obtain ⟨hab, hee⟩ := ends_of he
  obtain ⟨a, ha⟩ : ∃ a, a = min e.1 e.2 := ⟨_, rfl⟩
  obtain ⟨b, hb⟩ : ∃ b, b = max e.1 e.2 := ⟨_, rfl⟩
  rw [← ha, ← hb] at hab hee ⊢
  have hbn : b < n := by omega
  unfold Span
  rw [List.length_cons, List.length_map]
  constructor
  · rintro ⟨h1, h2⟩
    refine ⟨by omega, fun v hv => ?_⟩
    have h3 := reach_join hab hee (h2 (if v < b then v else v + 1) (by split <;> omega))
    rw [phi_zero hab, phi_back] at h3
    exact h3
  · rintro ⟨h1, h2⟩
    refine ⟨by omega, fun v hv => reach_back hab hee (h2 (phi a b v) (join_lt hab hbn hv)) 0 v (phi_zero hab) rfl⟩
theorem reach_loop {e : Nat × Nat} {F : Edges} (he : e.1 = e.2) {u v : Nat} (h : Reach (e :: F) u v) : Reach F u v := by
  induction h with
  | refl => exact .refl _
  | step p q hp hpq ih =>
    have key : ∀ x y, (x, y) ∈ e :: F → x = y ∨ (x, y) ∈ F := fun x y hm => by
      rcases List.mem_cons.1 hm with h | h
      · left; rw [← h] at he; exact he
      · exact .inr h
    rcases hpq with hm | hm
    · rcases key _ _ hm with h | h
      · rw [← h]; exact ih
      · exact .step _ _ _ ih (.inl h)
    · rcases key _ _ hm with h | h
      · rw [h]; exact ih
      · exact .step _ _ _ ih (.inr h)
theorem conn_len : ∀ (k n : Nat) (F : Edges), F.length = k → 1 ≤ n → (∀ e ∈ F, e.1 < n ∧ e.2 < n) → (∀ v, v < n → Reach F 0 v) → n ≤ k + 1 := by
  intro k
  induction k with
  | zero =>
    intro n F hF h1 _ h
    have : F = [] := List.eq_nil_of_length_eq_zero hF
    subst this
    by_cases hn : n ≤ 1
    · exact hn
    · exfalso
      have h2 := h 1 (by omega)
      have key : ∀ u v, Reach [] u v → u = v := fun u v hr => by
        induction hr with
        | refl => rfl
        | step _ _ _ hpq _ => rcases hpq with h | h <;> cases h
      have := key _ _ h2
      omega
  | succ k ih =>
    intro n F hF h1 hlt h
    cases F with
    | nil => simp at hF
    | cons e r =>
      simp only [List.length_cons] at hF
      by_cases he : e.1 = e.2
      · have := ih n r (by omega) h1 (fun x hx => hlt x (by simp [hx])) (fun v hv => reach_loop he (h v hv))
        omega
      · obtain ⟨hab, hee⟩ := ends_of he
        obtain ⟨l1, l2⟩ := hlt e (by simp)
        obtain ⟨a, ha⟩ : ∃ a, a = min e.1 e.2 := ⟨_, rfl⟩
        obtain ⟨b, hb⟩ : ∃ b, b = max e.1 e.2 := ⟨_, rfl⟩
        rw [← ha, ← hb] at hab hee
        have hbn : b < n := by omega
        have := ih (n - 1) (r.map (joinE a b)) (by rw [List.length_map]; omega) (by omega) (fun x hx => by
          obtain ⟨y, hy, rfl⟩ := List.mem_map.1 hx
          have := hlt y (by simp [hy])
          exact ⟨join_lt hab hbn this.1, join_lt hab hbn this.2⟩) (fun v hv => by
          have h3 := reach_join hab hee (h (if v < b then v else v + 1) (by split <;> omega))
          rw [phi_zero hab, phi_back] at h3
          exact h3)
        omega
theorem span_loop {n : Nat} {e : Nat × Nat} {F : Edges} (he : e.1 = e.2) (hF : ∀ x ∈ F, x.1 < n ∧ x.2 < n) : ¬ Span n (e :: F) := by
  rintro ⟨h1, h2⟩
  rw [List.length_cons] at h1
  have := conn_len F.length n F rfl (by omega) hF (fun v hv => reach_loop he (h2 v hv))
  omega

/-- the same, as it can be told -/
def spanB (n : Nat) (F : Edges) : Bool := decide (F.length + 1 = n) && decide ((reachedN n F).length = n)
theorem spanB_iff {n : Nat} {F : Edges} (h1 : 1 ≤ n) (hF : ∀ e ∈ F, e.1 < n ∧ e.2 < n) : spanB n F = true ↔ Span n F := by
  unfold spanB Span
  rw [Bool.and_eq_true, decide_eq_true_iff, decide_eq_true_iff, reachedN_iff h1 hF]
theorem count_half (f : Nat → Bool) : ∀ m, (List.range (2 * m)).countP f = (List.range m).countP (fun t => f (2 * t)) + (List.range m).countP (fun t => f (2 * t + 1))
  | 0 => rfl
  | m + 1 => by
    rw [show 2 * (m + 1) = 2 * m + 1 + 1 by omega, List.range_succ, List.range_succ, List.range_succ, List.countP_append, List.countP_append, List.countP_append, List.countP_append, count_half f m]
    simp only [List.countP_singleton]
    omega
def spansN (n : Nat) (E : Edges) : List Nat := (List.range (2 ^ E.length)).filter fun s => spanB n (pickE E s)
theorem spans_count (n : Nat) (E : Edges) : (spansN n E).length = (List.range (2 ^ E.length)).countP fun s => spanB n (pickE E s) := List.countP_eq_length_filter.symm
theorem pick_even (e : Nat × Nat) (r : Edges) (t : Nat) : pickE (e :: r) (2 * t) = pickE r t := by
  rw [pickE, if_neg (by omega), show 2 * t / 2 = t by omega]
theorem pick_odd (e : Nat × Nat) (r : Edges) (t : Nat) : pickE (e :: r) (2 * t + 1) = e :: pickE r t := by
  rw [pickE, if_pos (by omega), show (2 * t + 1) / 2 = t by omega]
theorem count_cons (n : Nat) (e : Nat × Nat) (r : Edges) : (spansN n (e :: r)).length = (spansN n r).length + (List.range (2 ^ r.length)).countP fun t => spanB n (e :: pickE r t) := by
  rw [spans_count, spans_count, List.length_cons, show 2 ^ (r.length + 1) = 2 * 2 ^ r.length by rw [Nat.pow_succ]; omega, count_half]
  congr 1
  · congr 1; funext t; rw [pick_even]
  · congr 1; funext t; rw [pick_odd]
theorem count_one : ∀ E : Edges, (spansN 1 E).length = 1
  | [] => rfl
  | e :: r => by
    rw [count_cons, count_one r]
    have : (List.range (2 ^ r.length)).countP (fun t => spanB 1 (e :: pickE r t)) = 0 := by
      rw [List.countP_eq_zero]
      intro t _
      unfold spanB
      simp
    rw [this]
/-- cutting counts the spans -/
theorem cut_count : ∀ (f n : Nat) (E : Edges), E.length ≤ f → 1 ≤ n → (∀ e ∈ E, e.1 < n ∧ e.2 < n) → cutF f n E = (spansN n E).length := by
  intro f
  induction f with
  | zero =>
    intro n E hE h1 _
    have : E = [] := List.eq_nil_of_length_eq_zero (by omega)
    subst this
    by_cases hn : n = 1
    · subst hn; rw [cutF_one]; rfl
    · rw [cutF_nil _ _ hn, spans_count]
      symm
      rw [List.countP_eq_zero]
      intro s _
      unfold spanB pickE
      simp; omega
  | succ f ih =>
    intro n E hE h1 hlt
    by_cases hn : n = 1
    · subst hn; rw [cutF_one, count_one]
    · cases E with
      | nil =>
        rw [cutF_nil _ _ hn, spans_count]
        symm
        rw [List.countP_eq_zero]
        intro s _
        unfold spanB pickE
        simp; omega
      | cons e r =>
        simp only [List.length_cons] at hE
        have hr : ∀ x ∈ r, x.1 < n ∧ x.2 < n := fun x hx => hlt x (by simp [hx])
        obtain ⟨l1, l2⟩ := hlt e (by simp)
        have hp : ∀ t, ∀ x ∈ e :: pickE r t, x.1 < n ∧ x.2 < n := fun t x hx => by
          rcases List.mem_cons.1 hx with rfl | hx
          · exact ⟨l1, l2⟩
          · exact hr x (pickE_mem _ _ _ hx)
        rw [count_cons]
        by_cases he : e.1 = e.2
        · rw [cutF_loop hn he, ih n r (by omega) h1 hr]
          have : (List.range (2 ^ r.length)).countP (fun t => spanB n (e :: pickE r t)) = 0 := by
            rw [List.countP_eq_zero]
            intro t _ hs
            exact span_loop he (fun x hx => hr x (pickE_mem _ _ _ hx)) ((spanB_iff h1 (hp t)).1 hs)
          rw [this]; rfl
        · obtain ⟨hab, hee⟩ := ends_of he
          rw [cutF_edge hn he, ih n r (by omega) h1 hr]
          obtain ⟨a, ha⟩ : ∃ a, a = min e.1 e.2 := ⟨_, rfl⟩
          obtain ⟨b, hb⟩ : ∃ b, b = max e.1 e.2 := ⟨_, rfl⟩
          have hbn : b < n := by omega
          have hab2 : a < b := by rw [ha, hb]; exact hab
          rw [← ha, ← hb]
          have hj : ∀ x ∈ r.map (joinE a b), x.1 < n - 1 ∧ x.2 < n - 1 := fun x hx => by
            obtain ⟨y, hy, rfl⟩ := List.mem_map.1 hx
            exact ⟨join_lt hab2 hbn (hr y hy).1, join_lt hab2 hbn (hr y hy).2⟩
          rw [ih (n - 1) (r.map (joinE a b)) (by rw [List.length_map]; omega) (by omega) hj, spans_count (n - 1), List.length_map]
          congr 1
          congr 1
          funext t
          rw [pickE_map, Bool.eq_iff_iff, spanB_iff h1 (hp t), spanB_iff (by omega) (fun x hx => hj x (by
            obtain ⟨y, hy, rfl⟩ := List.mem_map.1 hx
            exact List.mem_map.2 ⟨y, pickE_mem _ _ _ hy, rfl⟩))]
          rw [span_edge he ⟨l1, l2⟩, ← ha, ← hb]
end Go.Proofs.Ytfdalmeimhcdjaa
