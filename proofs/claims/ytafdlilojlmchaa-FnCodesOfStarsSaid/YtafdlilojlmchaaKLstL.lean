/-
  What the laws ask of watchers, and of sets in rows.
-/
import Derived.Test.YtafdlilojlmchaaZ1
import Derived.Test.YtafdlilojlmchaaZW
import Derived.Test.YtafdlilojlmchaaZR
namespace Go.Proofs.Ytafdlilojlmchaa
open Go.RowKit

theorem pop_len (s : Nat) : ∀ n, popN s n = (setsB n s).length
  | 0 => rfl
  | n + 1 => by
    rw [popN, pop_len s n]
    unfold setsB
    rw [List.range_succ, List.filter_append, List.length_append]
    by_cases h : s / 2 ^ n % 2 = 1
    · rw [List.filter_cons_of_pos (by simpa using h), h]; rfl
    · rw [List.filter_cons_of_neg (by simpa using h), show s / 2 ^ n % 2 = 0 by omega]; rfl
theorem seen_iff {n : Nat} {E : Edges} (h : ValidT n E) {s v : Nat} (hv : v < n) : seenB E s v = true ↔ Seen E (setsB n s) v := by
  unfold seenB Seen bitT
  rw [Bool.or_eq_true, decide_eq_true_eq, List.any_eq_true, setsB_mem]
  constructor
  · rintro (q | ⟨x, hx, q⟩)
    · exact .inl ⟨hv, q⟩
    · rw [decide_eq_true_eq] at q
      exact .inr ⟨x, setsB_mem.2 ⟨(adj_lt h (mem_nb.1 hx)).2, q⟩, mem_nb.1 hx⟩
  · rintro (⟨_, q⟩ | ⟨x, hx, q⟩)
    · exact .inl q
    · exact .inr ⟨x, mem_nb.2 q, decide_eq_true (setsB_mem.1 hx).2⟩
theorem watch_iff {n : Nat} {E : Edges} (h : ValidT n E) {s : Nat} : watchB n E s = true ↔ ∀ v, v < n → Seen E (setsB n s) v := by
  unfold watchB
  rw [List.all_eq_true]
  constructor
  · exact fun q v hv => (seen_iff h hv).1 (q v (List.mem_range.2 hv))
  · exact fun q v hv => (seen_iff h (List.mem_range.1 hv)).2 (q v (List.mem_range.1 hv))
/-- watchers are enough: each sees itself and as many as it has edges -/
theorem watch_many {n : Nat} {E : Edges} (h : ValidT n E) {D : Nat} (hd : ∀ v, v < n → deg E v ≤ D) {s : Nat} (hw : watchB n E s = true) : n ≤ popN s n * (D + 1) := by
  rw [pop_len]
  have h1 := (watch_iff h).1 hw
  have hsub : ∀ v ∈ List.range n, v ∈ (setsB n s).flatMap fun x => x :: nb E x := fun v hv => by
    rcases h1 v (List.mem_range.1 hv) with q | ⟨x, hx, q⟩
    · exact List.mem_flatMap.2 ⟨v, q, List.mem_cons_self ..⟩
    · exact List.mem_flatMap.2 ⟨x, hx, List.mem_cons_of_mem _ (mem_nb.2 q.symm)⟩
  have h2 := List.Nodup.length_le_of_subset List.nodup_range hsub
  rw [List.length_range] at h2
  have key : ∀ L : List Nat, (∀ x ∈ L, x < n) → (L.flatMap fun x => x :: nb E x).length ≤ L.length * (D + 1) := by
    intro L
    induction L with
    | nil => intro _; simp
    | cons a r ih =>
      intro hL
      have h3 := ih fun x hx => hL x (List.mem_cons_of_mem _ hx)
      have h4 := hd a (hL a (List.mem_cons_self ..))
      rw [← nb_deg (fun e he => (h.ord e he).1)] at h4
      rw [List.flatMap_cons, List.length_append, List.length_cons, List.length_cons, Nat.add_mul, Nat.one_mul]
      omega
  exact Nat.le_trans h2 (key _ fun x hx => (setsB_mem.1 hx).1)
theorem lst_many {n : Nat} {E : Edges} (h : ValidT n E) {D : Nat} (hd : ∀ v, v < n → deg E v ≤ D) : ∀ k, n ≤ lstN n E k * (D + 1) := by
  intro k
  induction k with
  | zero => exact Nat.le_mul_of_pos_right _ (Nat.succ_pos _)
  | succ k ih =>
    rw [lst_next]
    split
    · next hw =>
      have h1 := watch_many h hd hw
      rcases Nat.le_total (lstN n E k) (popN k n) with q | q
      · rw [Nat.min_eq_left q]; exact ih
      · rw [Nat.min_eq_right q]; exact h1
    · exact ih
theorem lst_few {n : Nat} {E : Edges} {s : Nat} (hw : watchB n E s = true) : ∀ k, s < k → lstN n E k ≤ popN s n := by
  intro k
  induction k with
  | zero => intro h; omega
  | succ k ih =>
    intro hs
    rw [lst_next]
    by_cases e : s = k
    · subst e
      rw [if_pos hw]; exact Nat.min_le_right _ _
    · have := ih (by omega)
      split
      · exact Nat.le_trans (Nat.min_le_left _ _) this
      · exact this
/-- the least number of watchers -/
theorem least_facts {n : Nat} {E : Edges} (h : ValidT n E) (h7 : n ≤ 7) {D : Nat} (hd : ∀ v, v < n → deg E v ≤ D) : 1 ≤ leastN n E ∧ n ≤ leastN n E * (D + 1) ∧ (2 ≤ n → leastN n E ≤ (pairF E 14 0 (-1)).1) := by
  have hn : 0 < n := by have := h.len; omega
  have h1 := lst_many h hd (2 ^ n)
  refine ⟨?_, h1, fun h2 => ?_⟩
  · rcases Nat.eq_zero_or_pos (leastN n E) with e | e
    · have e' : lstN n E (2 ^ n) = 0 := e
      rw [e'] at h1; omega
    · exact e
  · have hp := nd_perm h h7 hn
    obtain ⟨D', a1, a2, _, a4⟩ := watch_there (E := E) 14 0 (-1) (valid_brn h h7 0 (-1))
    have hne : away E 0 (-1) ≠ [] := by
      intro e
      have h3 := sz_at E 14 0 (-1)
      rw [e, sz_more (valid_brn h h7 0 (-1)), sz_all h h7 hn] at h3
      simp at h3
      omega
    have hlt : ∀ y ∈ D', y < n := fun y hy => List.mem_range.1 (hp.mem_iff.1 (a1 y hy))
    obtain ⟨s, h3, h4⟩ := bits_there (fun i => decide (i ∈ D')) n
    have hw : watchB n E s = true := (watch_iff h).2 fun v hv => by
      have h5 := a4 v (hp.mem_iff.2 (List.mem_range.2 hv)) (.inr hne)
      refine h5.mono fun z hz => ?_
      rw [h4, List.mem_filter, decide_eq_true_eq]
      exact ⟨List.mem_range.2 (hlt z hz), hz⟩
    have h5 := lst_few hw (2 ^ n) h3
    have h6 : popN s n ≤ D'.length := by
      rw [pop_len, h4]
      exact List.Nodup.length_le_of_subset (List.nodup_range.filter _) fun x hx => of_decide_eq_true (List.mem_filter.1 hx).2
    exact Nat.le_trans h5 (Nat.le_trans h6 a2)

/-! ### sets in rows are the fewest -/
def fibA : Nat → Nat
  | 0 => 1
  | 1 => 2
  | n + 2 => fibA (n + 1) + fibA n
theorem fib_add : ∀ a, a ≤ 7 → ∀ b, b ≤ 7 → fibA (1 + (a + 1 + (b + 1))) = fibA (a + 1) * fibA (b + 1) + fibA a * fibA b := by decide
theorem fib_sub : ∀ a, a ≤ 7 → ∀ b, b ≤ 7 → fibA (a + b) ≤ fibA a * fibA b := by decide
theorem fib_mono : ∀ a, a ≤ 15 → fibA a ≤ fibA (a + 1) := by decide
theorem fib_step {f0 f1 g0 g1 x y P Q : Nat} (h0 : f0 ≤ f1) (h1 : f0 ≤ x) (h2 : f1 ≤ x + y) (h3 : g1 ≤ P) (h4 : g1 + g0 ≤ P + Q) : f1 * g1 + f0 * g0 ≤ (x + y) * P + x * Q := by
  obtain ⟨k, rfl⟩ : ∃ k, f1 = f0 + k := ⟨f1 - f0, by omega⟩
  have a1 : (f0 + k) * P ≤ (x + y) * P := Nat.mul_le_mul_right _ h2
  have a2 : f0 * Q ≤ x * Q := Nat.mul_le_mul_right _ h1
  have a3 : k * g1 ≤ k * P := Nat.mul_le_mul_left _ h3
  have a4 : f0 * (g1 + g0) ≤ f0 * (P + Q) := Nat.mul_le_mul_left _ h4
  rw [Nat.mul_add] at a4
  rw [Nat.mul_add] at a4
  rw [Nat.add_mul] at a1
  rw [Nat.add_mul]
  omega
/-- the sets of a branch, without and with its node, against rows of as many nodes -/
theorem set_fib {E : Edges} : ∀ (d v : Nat) (fr : Int), Brn E d v fr → sz E d v fr ≤ 7 → fibA (sz E d v fr - 1) ≤ (setF E d v fr).1 ∧ fibA (sz E d v fr) ≤ (setF E d v fr).1 + (setF E d v fr).2 := by
  intro d
  induction d with
  | zero => intro v fr h; exact h.elim
  | succ d ih =>
    intro v fr h hs
    rw [sz_at] at hs ⊢
    rw [setF_at, Nat.add_sub_cancel_left]
    simp only
    have key : ∀ L : List Nat, (∀ x ∈ L, x ∈ away E v fr) → 1 + (L.map fun x => sz E d x v).sum ≤ 7 →
        fibA (L.map fun x => sz E d x v).sum ≤ prodM (L.map fun x => (setF E d x v).1 + (setF E d x v).2) ∧
        fibA (1 + (L.map fun x => sz E d x v).sum) ≤ prodM (L.map fun x => (setF E d x v).1 + (setF E d x v).2) + prodM (L.map fun x => (setF E d x v).1) := by
      intro L
      induction L with
      | nil => intro _ _; exact ⟨Nat.le_refl _, Nat.le_refl _⟩
      | cons a r ihr =>
        intro hL hn
        rw [List.map_cons, List.sum_cons] at hn
        obtain ⟨i1, i2⟩ := ihr (fun x hx => hL x (List.mem_cons_of_mem _ hx)) (by omega)
        have ha := h a (hL a (List.mem_cons_self ..))
        obtain ⟨j1, j2⟩ := ih a v ha (by omega)
        have h3 : 1 ≤ sz E d a v := List.length_pos_iff.2 (List.ne_nil_of_mem (nds_head ha))
        simp only [List.map_cons, List.sum_cons]
        show _ ≤ (_ * prodM _) ∧ _ ≤ (_ * prodM _) + (_ * prodM _)
        obtain ⟨t, ht⟩ : ∃ t, sz E d a v = t + 1 := ⟨sz E d a v - 1, by omega⟩
        obtain ⟨T, hT⟩ : ∃ T, T = (r.map fun x => sz E d x v).sum := ⟨_, rfl⟩
        obtain ⟨P, hP⟩ : ∃ P, P = prodM (r.map fun x => (setF E d x v).1 + (setF E d x v).2) := ⟨_, rfl⟩
        obtain ⟨Q, hQ⟩ : ∃ Q, Q = prodM (r.map fun x => (setF E d x v).1) := ⟨_, rfl⟩
        obtain ⟨x, hx⟩ : ∃ x, x = (setF E d a v).1 := ⟨_, rfl⟩
        obtain ⟨y, hy⟩ : ∃ y, y = (setF E d a v).2 := ⟨_, rfl⟩
        rw [ht, ← hT] at hn
        rw [ht] at j1 j2 ⊢
        rw [Nat.add_sub_cancel] at j1
        rw [← hT, ← hP] at i1
        rw [← hT, ← hP, ← hQ] at i2
        rw [← hx] at j1
        rw [← hx, ← hy] at j2
        rw [← hT, ← hP, ← hQ, ← hx, ← hy]
        have b1 : fibA (t + 1) * fibA T ≤ (x + y) * P := Nat.mul_le_mul j2 i1
        have hm := fib_mono t (by omega)
        refine ⟨Nat.le_trans (fib_sub (t + 1) (by omega) T (by omega)) b1, ?_⟩
        cases T with
        | zero =>
          have h5 := fib_step (g0 := 1) (g1 := 1) hm j1 j2 i1 i2
          have e2 : fibA (1 + (t + 1 + 0)) = fibA (t + 1) + fibA t := by rw [Nat.add_comm 1]; rfl
          rw [e2]
          rw [Nat.mul_one, Nat.mul_one] at h5
          exact h5
        | succ T =>
          rw [fib_add t (by omega) T (by omega)]
          refine fib_step hm j1 j2 i1 ?_
          have e3 : fibA (1 + (T + 1)) = fibA (T + 1) + fibA T := by rw [Nat.add_comm 1]; rfl
          rw [e3] at i2
          exact i2
    have := key (away E v fr) (fun x hx => hx) hs
    exact this
end Go.Proofs.Ytafdlilojlmchaa
