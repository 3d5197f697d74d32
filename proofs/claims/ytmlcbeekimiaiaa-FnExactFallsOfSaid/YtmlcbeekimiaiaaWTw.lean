/-
  Plain facts on words as trees of two arms: their texts, their turns. Nothing of the program is named here.
-/
import Derived.Test.YtmlcbeekimiaiaaWTreeB
namespace Go.Proofs.Ytmlcbeekimiaiaa

inductive Tw where
  | e : Tw
  | n : Tw → Tw → Tw
deriving DecidableEq
namespace Tw
def size : Tw → Nat
  | e => 0
  | n a b => a.size + 1 + b.size
/-- its word -/
def lst : Tw → List UInt8
  | e => []
  | n a b => 40 :: (a.lst ++ 41 :: b.lst)
theorem lst_scan : ∀ t : Tw, scan t.lst = some 0
  | e => rfl
  | n a b => pair_scan _ _ (lst_scan a) (lst_scan b)
theorem lst_length : ∀ t : Tw, t.lst.length = 2 * t.size
  | e => rfl
  | n a b => by simp only [lst, size, List.length_cons, List.length_append, lst_length a, lst_length b]; omega
theorem fst_lst (a b : Tw) : fstL (n a b).lst = a.lst := pair_fst _ _ (lst_scan a)
theorem rst_lst (a b : Tw) : rstL (n a b).lst = b.lst := pair_rst _ _ (lst_scan a)
theorem lst_nil {t : Tw} (h : t.lst = []) : t = e := by
  cases t with
  | e => rfl
  | n a b => cases h
theorem lst_inj : ∀ (t u : Tw), t.lst = u.lst → t = u
  | e, u, h => (lst_nil h.symm).symm
  | n a b, e, h => by cases h
  | n a b, n c d, h => by
    have h1 := fst_lst a b
    have h2 := rst_lst a b
    rw [h, fst_lst] at h1
    rw [h, rst_lst] at h2
    rw [lst_inj a c h1.symm, lst_inj b d h2.symm]
theorem of_word : ∀ (f : Nat) (s : List UInt8), s.length ≤ f → scan s = some 0 → ∃ t : Tw, t.lst = s := by
  intro f
  induction f with
  | zero => intro s hf _; exact ⟨e, (List.eq_nil_of_length_eq_zero (by omega)).symm⟩
  | succ f ih =>
    intro s hf h
    by_cases hs : s = []
    · exact ⟨e, hs.symm⟩
    · obtain ⟨_, _, k3, k4, _, k6⟩ := parts_ok h hs
      obtain ⟨a, ha⟩ := ih _ (by omega) k3
      obtain ⟨b, hb⟩ := ih _ (by omega) k4
      exact ⟨n a b, by rw [lst, ha, hb]; exact (parts_eq h hs).symm⟩

/-- two nodes turn, at the root: what hangs on the first arm goes up -/
def up : Tw → Tw → List Tw
  | e, _ => []
  | n x y, b => [n x (n y b)]
def down : Tw → Tw → List Tw
  | _, e => []
  | a, n x y => [n (n a x) y]
/-- the trees one turn away -/
def turns : Tw → List Tw
  | e => []
  | n a b => up a b ++ down a b ++ (a.turns.map (fun x => n x b) ++ b.turns.map (fun y => n a y))
theorem mem_turns {a b u : Tw} : u ∈ (n a b).turns ↔ (∃ x y, a = n x y ∧ u = n x (n y b)) ∨ (∃ x y, b = n x y ∧ u = n (n a x) y) ∨ (∃ x, x ∈ a.turns ∧ u = n x b) ∨ (∃ y, y ∈ b.turns ∧ u = n a y) := by
  simp only [turns, List.mem_append, List.mem_map]
  constructor
  · rintro ((h | h) | (⟨x, h1, h2⟩ | ⟨y, h1, h2⟩))
    · cases a with
      | e => simp [up] at h
      | n x y => simp only [up, List.mem_singleton] at h; exact .inl ⟨x, y, rfl, h⟩
    · cases b with
      | e => simp [down] at h
      | n x y => simp only [down, List.mem_singleton] at h; exact .inr (.inl ⟨x, y, rfl, h⟩)
    · exact .inr (.inr (.inl ⟨x, h1, h2.symm⟩))
    · exact .inr (.inr (.inr ⟨y, h1, h2.symm⟩))
  · rintro (⟨x, y, rfl, rfl⟩ | ⟨x, y, rfl, rfl⟩ | ⟨x, h1, rfl⟩ | ⟨y, h1, rfl⟩)
    · exact .inl (.inl (by simp [up]))
    · exact .inl (.inr (by simp [down]))
    · exact .inr (.inl ⟨x, h1, rfl⟩)
    · exact .inr (.inr ⟨y, h1, rfl⟩)
theorem turns_size : ∀ (t u : Tw), u ∈ t.turns → u.size = t.size
  | e, u, h => by simp [turns] at h
  | n a b, u, h => by
    rcases mem_turns.1 h with ⟨x, y, rfl, rfl⟩ | ⟨x, y, rfl, rfl⟩ | ⟨x, h1, rfl⟩ | ⟨y, h1, rfl⟩
    · simp only [size]; omega
    · simp only [size]; omega
    · simp only [size, turns_size a x h1]
    · simp only [size, turns_size b y h1]
/-- each turn turns back -/
theorem turns_back : ∀ (t u : Tw), u ∈ t.turns → t ∈ u.turns
  | e, u, h => by simp [turns] at h
  | n a b, u, h => by
    rcases mem_turns.1 h with ⟨x, y, rfl, rfl⟩ | ⟨x, y, rfl, rfl⟩ | ⟨x, h1, rfl⟩ | ⟨y, h1, rfl⟩
    · exact mem_turns.2 (.inr (.inl ⟨y, b, rfl, rfl⟩))
    · exact mem_turns.2 (.inl ⟨a, x, rfl, rfl⟩)
    · exact mem_turns.2 (.inr (.inr (.inl ⟨a, turns_back a x h1, rfl⟩)))
    · exact mem_turns.2 (.inr (.inr (.inr ⟨b, turns_back b y h1, rfl⟩)))
theorem turns_ne : ∀ (t : Tw), t ∉ t.turns
  | e, h => by simp [turns] at h
  | n a b, h => by
    rcases mem_turns.1 h with ⟨x, y, h1, h2⟩ | ⟨x, y, h1, h2⟩ | ⟨x, h1, h2⟩ | ⟨y, h1, h2⟩
    · injection h2 with h3 h4
      have := congrArg size h3
      rw [h1] at this
      simp only [size] at this; omega
    · injection h2 with h3 h4
      have := congrArg size h4
      rw [h1] at this
      simp only [size] at this; omega
    · injection h2 with h3 h4
      exact turns_ne a (h3 ▸ h1)
    · injection h2 with h3 h4
      exact turns_ne b (h4 ▸ h1)
theorem turns_length : ∀ (t : Tw), t.turns.length = t.size - 1
  | e => rfl
  | n a b => by
    have h1 : (up a b).length = if a = e then 0 else 1 := by cases a <;> rfl
    have h2 : (down a b).length = if b = e then 0 else 1 := by cases b <;> rfl
    have h3 : a ≠ e → 0 < a.size := by intro h; cases a with
      | e => exact absurd rfl h
      | n x y => simp only [size]; omega
    have h4 : b ≠ e → 0 < b.size := by intro h; cases b with
      | e => exact absurd rfl h
      | n x y => simp only [size]; omega
    simp only [turns, List.length_append, List.length_map, turns_length a, turns_length b, h1, h2, size]
    by_cases ha : a = e <;> by_cases hb : b = e
    · rw [if_pos ha, if_pos hb, ha, hb]; rfl
    · rw [if_pos ha, if_neg hb, ha]; have := h4 hb; simp only [size]; omega
    · rw [if_neg ha, if_pos hb, hb]; have := h3 ha; simp only [size]; omega
    · rw [if_neg ha, if_neg hb]; have := h3 ha; have := h4 hb; omega
theorem map_nodup {α β : Type} {f : α → β} (hf : ∀ x y, f x = f y → x = y) {l : List α} (h : l.Nodup) : (l.map f).Nodup := by
  rw [List.Nodup, List.pairwise_map]
  exact List.Pairwise.imp (fun hab e => hab (hf _ _ e)) h
theorem turns_nodup : ∀ (t : Tw), t.turns.Nodup
  | e => List.nodup_nil
  | n a b => by
    have u1 : ∀ u ∈ up a b, ∃ x y, a = n x y ∧ u = n x (n y b) := by
      intro u hu
      cases a with
      | e => simp [up] at hu
      | n x y => simp only [up, List.mem_singleton] at hu; exact ⟨x, y, rfl, hu⟩
    have d1 : ∀ u ∈ down a b, ∃ x y, b = n x y ∧ u = n (n a x) y := by
      intro u hu
      cases b with
      | e => simp [down] at hu
      | n x y => simp only [down, List.mem_singleton] at hu; exact ⟨x, y, rfl, hu⟩
    have n1 : (up a b).Nodup := by cases a <;> simp [up]
    have n2 : (down a b).Nodup := by cases b <;> simp [down]
    rw [turns, List.nodup_append, List.nodup_append, List.nodup_append]
    refine ⟨⟨n1, n2, ?_⟩, ⟨map_nodup (fun x y h => by injection h) (turns_nodup a), map_nodup (fun x y h => by injection h) (turns_nodup b), ?_⟩, ?_⟩
    · intro u hu v hv huv
      obtain ⟨x, y, h1, h2⟩ := u1 u hu
      obtain ⟨x', y', h3, h4⟩ := d1 v hv
      rw [h2, h4] at huv
      injection huv with h5 h6
      have := congrArg size h5
      rw [h1] at this
      simp only [size] at this; omega
    · intro u hu v hv huv
      obtain ⟨x, hx, rfl⟩ := List.mem_map.1 hu
      obtain ⟨y, hy, rfl⟩ := List.mem_map.1 hv
      injection huv with h5 h6
      exact turns_ne a (h5 ▸ hx)
    · intro u hu v hv huv
      subst huv
      rcases List.mem_append.1 hu with hu | hu
      · obtain ⟨x, y, h1, h2⟩ := u1 u hu
        rcases List.mem_append.1 hv with hv | hv
        · obtain ⟨z, hz, h3⟩ := List.mem_map.1 hv
          rw [h2] at h3
          injection h3 with h4 h5
          have := congrArg size h5
          simp only [size] at this; omega
        · obtain ⟨z, hz, h3⟩ := List.mem_map.1 hv
          rw [h2] at h3
          injection h3 with h4 h5
          have := congrArg size h4
          rw [h1] at this
          simp only [size] at this; omega
      · obtain ⟨x, y, h1, h2⟩ := d1 u hu
        rcases List.mem_append.1 hv with hv | hv
        · obtain ⟨z, hz, h3⟩ := List.mem_map.1 hv
          rw [h2] at h3
          injection h3 with h4 h5
          have := congrArg size h5
          rw [h1] at this
          simp only [size] at this; omega
        · obtain ⟨z, hz, h3⟩ := List.mem_map.1 hv
          rw [h2] at h3
          injection h3 with h4 h5
          have := congrArg size h4
          simp only [size] at this; omega

/-- how many nodes stand beside each other, and how many are in others -/
def spine : Tw → Nat
  | e => 0
  | n _ b => b.spine + 1
theorem spine_le : ∀ t : Tw, t.spine ≤ t.size
  | e => Nat.le_refl _
  | n a b => by have := spine_le b; simp only [spine, size]; omega
theorem spine_pos {t : Tw} (h : 0 < t.size) : 0 < t.spine := by
  cases t with
  | e => simp [size] at h
  | n a b => simp [spine]
theorem turns_spine : ∀ (t u : Tw), u ∈ t.turns → u.spine ≤ t.spine + 1 ∧ t.spine ≤ u.spine + 1
  | e, u, h => by simp [turns] at h
  | n a b, u, h => by
    rcases mem_turns.1 h with ⟨x, y, rfl, rfl⟩ | ⟨x, y, rfl, rfl⟩ | ⟨x, h1, rfl⟩ | ⟨y, h1, rfl⟩
    · simp only [spine]; omega
    · simp only [spine]; omega
    · simp only [spine]; omega
    · have := turns_spine b y h1
      simp only [spine]; omega
def flat : Nat → Tw
  | 0 => e
  | k + 1 => n e (flat k)
theorem flat_size : ∀ k, (flat k).size = k
  | 0 => rfl
  | k + 1 => by simp only [flat, size, flat_size k]; omega
theorem flat_spine : ∀ k, (flat k).spine = k
  | 0 => rfl
  | k + 1 => by simp only [flat, spine, flat_spine k]
theorem flat_of : ∀ (t : Tw), t.spine = t.size → t = flat t.size
  | e, _ => rfl
  | n a b, h => by
    have h1 := spine_le b
    simp only [spine, size] at h
    have ha : a = e := by
      cases a with
      | e => rfl
      | n x y => simp only [size] at h; omega
    subst ha
    have hb := flat_of b (by simp only [size] at h; omega)
    have : (n e b).size = b.size + 1 := by simp only [size]; omega
    rw [this, flat, ← hb]
/-- what is not flat comes one nearer by one turn -/
theorem spine_up : ∀ (t : Tw), t.spine < t.size → ∃ u, u ∈ t.turns ∧ u.spine = t.spine + 1
  | e, h => by simp [spine, size] at h
  | n a b, h => by
    cases a with
    | n x y => exact ⟨n x (n y b), mem_turns.2 (.inl ⟨x, y, rfl, rfl⟩), by simp only [spine]⟩
    | e =>
      have hb : b.spine < b.size := by simp only [spine, size] at h; omega
      obtain ⟨u, hu, hs⟩ := spine_up b hb
      exact ⟨n e u, mem_turns.2 (.inr (.inr (.inr ⟨u, hu, rfl⟩))), by simp only [spine, hs]⟩

/-! ### ways of turns -/
def Way : Nat → Tw → Tw → Prop
  | 0, a, b => a = b
  | k + 1, a, b => ∃ c, Way k a c ∧ b ∈ c.turns
theorem Way.trans {a b c : Tw} : ∀ {j k : Nat}, Way j a b → Way k b c → Way (j + k) a c := by
  intro j k
  induction k generalizing c with
  | zero => intro h1 h2; cases h2; exact h1
  | succ k ih => intro h1 ⟨d, h2, h3⟩; exact ⟨d, ih h1 h2, h3⟩
theorem Way.one {a b : Tw} (h : b ∈ a.turns) : Way 1 a b := ⟨a, rfl, h⟩
theorem Way.back : ∀ {k : Nat} {a b : Tw}, Way k a b → Way k b a := by
  intro k
  induction k with
  | zero => intro a b h; exact Eq.symm h
  | succ k ih =>
    intro a b ⟨c, h1, h2⟩
    have h3 := Way.one (turns_back _ _ h2)
    have := h3.trans (ih h1)
    rwa [Nat.add_comm] at this
theorem Way.size : ∀ {k : Nat} {a b : Tw}, Way k a b → b.size = a.size := by
  intro k
  induction k with
  | zero => intro a b h; rw [show a = b from h]
  | succ k ih => intro a b ⟨c, h1, h2⟩; rw [turns_size _ _ h2, ih h1]
theorem Way.spine : ∀ {k : Nat} {a b : Tw}, Way k a b → b.spine ≤ a.spine + k ∧ a.spine ≤ b.spine + k := by
  intro k
  induction k with
  | zero => intro a b h; rw [show a = b from h]; omega
  | succ k ih => intro a b ⟨c, h1, h2⟩; have := ih h1; have := turns_spine _ _ h2; omega
theorem way_flat : ∀ (k : Nat) (t : Tw), t.size = t.spine + k → Way k t (flat t.size) := by
  intro k
  induction k with
  | zero => intro t h; exact flat_of t (by omega)
  | succ k ih =>
    intro t h
    obtain ⟨u, hu, hs⟩ := spine_up t (by omega)
    have h1 := turns_size _ _ hu
    have h2 := ih u (by omega)
    rw [h1] at h2
    have := (Way.one hu).trans h2
    rwa [Nat.add_comm] at this
/-- the fewest turns -/
def Far (a b : Tw) (k : Nat) : Prop := Way k a b ∧ ∀ j, j < k → ¬ Way j a b
theorem Far.uniq {a b : Tw} {j k : Nat} (h1 : Far a b j) (h2 : Far a b k) : j = k := by
  rcases Nat.lt_trichotomy j k with h | h | h
  · exact absurd h1.1 (h2.2 j h)
  · exact h
  · exact absurd h2.1 (h1.2 k h)
theorem Far.of_way {a b : Tw} : ∀ {k : Nat}, Way k a b → ∃ j, j ≤ k ∧ Far a b j := by
  intro k
  induction k using Nat.strongRecOn with
  | ind k ih =>
    intro h
    by_cases h1 : ∃ j, j < k ∧ Way j a b
    · obtain ⟨j, hj, hw⟩ := h1
      obtain ⟨i, hi, hf⟩ := ih j hj hw
      exact ⟨i, by omega, hf⟩
    · exact ⟨k, Nat.le_refl _, h, fun j hj hw => h1 ⟨j, hj, hw⟩⟩
theorem Far.back {a b : Tw} {k : Nat} (h : Far a b k) : Far b a k := ⟨h.1.back, fun j hj hw => h.2 j hj hw.back⟩
theorem Far.zero {a b : Tw} {k : Nat} (h : Far a b k) : k = 0 ↔ a = b := by
  constructor
  · intro h0; subst h0; exact h.1
  · intro h0
    have : Far a b 0 := ⟨h0, fun j hj => by omega⟩
    exact h.uniq this
theorem Far.one {a b : Tw} {k : Nat} (h : Far a b k) : k = 1 ↔ b ∈ a.turns := by
  constructor
  · intro h0
    subst h0
    obtain ⟨c, h1, h2⟩ := h.1
    cases h1
    exact h2
  · intro h0
    have : Far a b 1 := ⟨Way.one h0, fun j hj hw => by
      have e0 : j = 0 := by omega
      subst e0
      have e1 : a = b := hw
      subst e1
      exact turns_ne a h0⟩
    exact h.uniq this
theorem far_flat (t : Tw) : Far t (flat t.size) (t.size - t.spine) := by
  have hs := spine_le t
  refine ⟨way_flat _ t (by omega), fun j hj hw => ?_⟩
  have := hw.spine
  rw [flat_spine] at this
  omega
theorem far_some {a b : Tw} (h : a.size = b.size) : ∃ k, k ≤ (a.size - a.spine) + (b.size - b.spine) ∧ Far a b k := by
  have h1 := (far_flat a).1
  have h2 := (far_flat b).1.back
  rw [← h] at h2
  exact Far.of_way (h1.trans (by rw [h] at h2 ⊢; exact h2))
theorem far_three {a b c : Tw} {i j k : Nat} (h1 : Far a c i) (h2 : Far c b j) (h : Far a b k) : k ≤ i + j := by
  obtain ⟨m, hm, hf⟩ := Far.of_way (h1.1.trans h2.1)
  rw [h.uniq hf]; exact hm
end Tw
end Go.Proofs.Ytmlcbeekimiaiaa
