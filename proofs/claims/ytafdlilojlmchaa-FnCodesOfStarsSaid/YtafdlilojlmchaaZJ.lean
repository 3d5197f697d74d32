/-
  Plain facts on words as trees of two arms: their texts, their turns. Nothing of the program is named here.
  Plain facts on lists of texts byte by byte, each one once. Nothing of the program is named here.
  Plain facts: the words one turn away, collected bracket by bracket; a list sorted by a library. Nothing of the program is named here.
  Plain facts: the text of a tree seen from a node, in how many ways branches go to each other. Nothing of the program is named here.
-/
import Derived.Test.YtafdlilojlmchaaZY
import Derived.Test.YtafdlilojlmchaaZX
import Derived.Test.YtafdlilojlmchaaZW
namespace Go.Proofs.Ytafdlilojlmchaa

inductive Tw where
  | e : Tw
  | n : Tw → Tw → Tw
deriving DecidableEq
namespace Tw
def size : Tw → Nat
  | e => 0
  | n a b => a.size + 1 + b.size
/-- its word -/
def lst : Tw → List UInt8
  | e => []
  | n a b => 40 :: (a.lst ++ 41 :: b.lst)
theorem lst_scan : ∀ t : Tw, scan t.lst = some 0
  | e => rfl
  | n a b => pair_scan _ _ (lst_scan a) (lst_scan b)
theorem lst_length : ∀ t : Tw, t.lst.length = 2 * t.size
  | e => rfl
  | n a b => by simp only [lst, size, List.length_cons, List.length_append, lst_length a, lst_length b]; omega
theorem fst_lst (a b : Tw) : fstL (n a b).lst = a.lst := pair_fst _ _ (lst_scan a)
theorem rst_lst (a b : Tw) : rstL (n a b).lst = b.lst := pair_rst _ _ (lst_scan a)
theorem lst_nil {t : Tw} (h : t.lst = []) : t = e := by
  cases t with
  | e => rfl
  | n a b => cases h
theorem lst_inj : ∀ (t u : Tw), t.lst = u.lst → t = u
  | e, u, h => (lst_nil h.symm).symm
  | n a b, e, h => by cases h
  | n a b, n c d, h => by
    have h1 := fst_lst a b
    have h2 := rst_lst a b
    rw [h, fst_lst] at h1
    rw [h, rst_lst] at h2
    rw [lst_inj a c h1.symm, lst_inj b d h2.symm]
theorem of_word : ∀ (f : Nat) (s : List UInt8), s.length ≤ f → scan s = some 0 → ∃ t : Tw, t.lst = s := by
  intro f
  induction f with
  | zero => intro s hf _; exact ⟨e, (List.eq_nil_of_length_eq_zero (by omega)).symm⟩
  | succ f ih =>
    intro s hf h
    by_cases hs : s = []
    · exact ⟨e, hs.symm⟩
    · obtain ⟨_, _, k3, k4, _, k6⟩ := parts_ok h hs
      obtain ⟨a, ha⟩ := ih _ (by omega) k3
      obtain ⟨b, hb⟩ := ih _ (by omega) k4
      exact ⟨n a b, by rw [lst, ha, hb]; exact (parts_eq h hs).symm⟩

/-- two nodes turn, at the root: what hangs on the first arm goes up -/
def up : Tw → Tw → List Tw
  | e, _ => []
  | n x y, b => [n x (n y b)]
def down : Tw → Tw → List Tw
  | _, e => []
  | a, n x y => [n (n a x) y]
/-- the trees one turn away -/
def turns : Tw → List Tw
  | e => []
  | n a b => up a b ++ down a b ++ (a.turns.map (fun x => n x b) ++ b.turns.map (fun y => n a y))
theorem mem_turns {a b u : Tw} : u ∈ (n a b).turns ↔ (∃ x y, a = n x y ∧ u = n x (n y b)) ∨ (∃ x y, b = n x y ∧ u = n (n a x) y) ∨ (∃ x, x ∈ a.turns ∧ u = n x b) ∨ (∃ y, y ∈ b.turns ∧ u = n a y) := by
  simp only [turns, List.mem_append, List.mem_map]
  constructor
  · rintro ((h | h) | (⟨x, h1, h2⟩ | ⟨y, h1, h2⟩))
    · cases a with
      | e => simp [up] at h
      | n x y => simp only [up, List.mem_singleton] at h; exact .inl ⟨x, y, rfl, h⟩
    · cases b with
      | e => simp [down] at h
      | n x y => simp only [down, List.mem_singleton] at h; exact .inr (.inl ⟨x, y, rfl, h⟩)
    · exact .inr (.inr (.inl ⟨x, h1, h2.symm⟩))
    · exact .inr (.inr (.inr ⟨y, h1, h2.symm⟩))
  · rintro (⟨x, y, rfl, rfl⟩ | ⟨x, y, rfl, rfl⟩ | ⟨x, h1, rfl⟩ | ⟨y, h1, rfl⟩)
    · exact .inl (.inl (by simp [up]))
    · exact .inl (.inr (by simp [down]))
    · exact .inr (.inl ⟨x, h1, rfl⟩)
    · exact .inr (.inr ⟨y, h1, rfl⟩)
theorem turns_size : ∀ (t u : Tw), u ∈ t.turns → u.size = t.size
  | e, u, h => by simp [turns] at h
  | n a b, u, h => by
    rcases mem_turns.1 h with ⟨x, y, rfl, rfl⟩ | ⟨x, y, rfl, rfl⟩ | ⟨x, h1, rfl⟩ | ⟨y, h1, rfl⟩
    · simp only [size]; omega
    · simp only [size]; omega
    · simp only [size, turns_size a x h1]
    · simp only [size, turns_size b y h1]
/-- each turn turns back -/
theorem turns_back : ∀ (t u : Tw), u ∈ t.turns → t ∈ u.turns
  | e, u, h => by simp [turns] at h
  | n a b, u, h => by
    rcases mem_turns.1 h with ⟨x, y, rfl, rfl⟩ | ⟨x, y, rfl, rfl⟩ | ⟨x, h1, rfl⟩ | ⟨y, h1, rfl⟩
    · exact mem_turns.2 (.inr (.inl ⟨y, b, rfl, rfl⟩))
    · exact mem_turns.2 (.inl ⟨a, x, rfl, rfl⟩)
    · exact mem_turns.2 (.inr (.inr (.inl ⟨a, turns_back a x h1, rfl⟩)))
    · exact mem_turns.2 (.inr (.inr (.inr ⟨b, turns_back b y h1, rfl⟩)))
theorem turns_ne : ∀ (t : Tw), t ∉ t.turns
  | e, h => by simp [turns] at h
  | n a b, h => by
    rcases mem_turns.1 h with ⟨x, y, h1, h2⟩ | ⟨x, y, h1, h2⟩ | ⟨x, h1, h2⟩ | ⟨y, h1, h2⟩
    · injection h2 with h3 h4
      have := congrArg size h3
      rw [h1] at this
      simp only [size] at this; omega
    · injection h2 with h3 h4
      have := congrArg size h4
      rw [h1] at this
      simp only [size] at this; omega
    · injection h2 with h3 h4
      exact turns_ne a (h3 ▸ h1)
    · injection h2 with h3 h4
      exact turns_ne b (h4 ▸ h1)
theorem turns_length : ∀ (t : Tw), t.turns.length = t.size - 1
  | e => rfl
  | n a b => by
    have h1 : (up a b).length = if a = e then 0 else 1 := by cases a <;> rfl
    have h2 : (down a b).length = if b = e then 0 else 1 := by cases b <;> rfl
    have h3 : a ≠ e → 0 < a.size := by intro h; cases a with
      | e => exact absurd rfl h
      | n x y => simp only [size]; omega
    have h4 : b ≠ e → 0 < b.size := by intro h; cases b with
      | e => exact absurd rfl h
      | n x y => simp only [size]; omega
    simp only [turns, List.length_append, List.length_map, turns_length a, turns_length b, h1, h2, size]
    by_cases ha : a = e <;> by_cases hb : b = e
    · rw [if_pos ha, if_pos hb, ha, hb]; rfl
    · rw [if_pos ha, if_neg hb, ha]; have := h4 hb; simp only [size]; omega
    · rw [if_neg ha, if_pos hb, hb]; have := h3 ha; simp only [size]; omega
    · rw [if_neg ha, if_neg hb]; have := h3 ha; have := h4 hb; omega
theorem map_nodup {α β : Type} {f : α → β} (hf : ∀ x y, f x = f y → x = y) {l : List α} (h : l.Nodup) : (l.map f).Nodup := by
  rw [List.Nodup, List.pairwise_map]
  exact List.Pairwise.imp (fun hab e => hab (hf _ _ e)) h
theorem turns_nodup : ∀ (t : Tw), t.turns.Nodup
  | e => List.nodup_nil
  | n a b => by
    have u1 : ∀ u ∈ up a b, ∃ x y, a = n x y ∧ u = n x (n y b) := by
      intro u hu
      cases a with
      | e => simp [up] at hu
      | n x y => simp only [up, List.mem_singleton] at hu; exact ⟨x, y, rfl, hu⟩
    have d1 : ∀ u ∈ down a b, ∃ x y, b = n x y ∧ u = n (n a x) y := by
      intro u hu
      cases b with
      | e => simp [down] at hu
      | n x y => simp only [down, List.mem_singleton] at hu; exact ⟨x, y, rfl, hu⟩
    have n1 : (up a b).Nodup := by cases a <;> simp [up]
    have n2 : (down a b).Nodup := by cases b <;> simp [down]
    rw [turns, List.nodup_append, List.nodup_append, List.nodup_append]
    refine ⟨⟨n1, n2, ?_⟩, ⟨map_nodup (fun x y h => by injection h) (turns_nodup a), map_nodup (fun x y h => by injection h) (turns_nodup b), ?_⟩, ?_⟩
    · intro u hu v hv huv
      obtain ⟨x, y, h1, h2⟩ := u1 u hu
      obtain ⟨x', y', h3, h4⟩ := d1 v hv
      rw [h2, h4] at huv
      injection huv with h5 h6
      have := congrArg size h5
      rw [h1] at this
      simp only [size] at this; omega
    · intro u hu v hv huv
      obtain ⟨x, hx, rfl⟩ := List.mem_map.1 hu
      obtain ⟨y, hy, rfl⟩ := List.mem_map.1 hv
      injection huv with h5 h6
      exact turns_ne a (h5 ▸ hx)
    · intro u hu v hv huv
      subst huv
      rcases List.mem_append.1 hu with hu | hu
      · obtain ⟨x, y, h1, h2⟩ := u1 u hu
        rcases List.mem_append.1 hv with hv | hv
        · obtain ⟨z, hz, h3⟩ := List.mem_map.1 hv
          rw [h2] at h3
          injection h3 with h4 h5
          have := congrArg size h5
          simp only [size] at this; omega
        · obtain ⟨z, hz, h3⟩ := List.mem_map.1 hv
          rw [h2] at h3
          injection h3 with h4 h5
          have := congrArg size h4
          rw [h1] at this
          simp only [size] at this; omega
      · obtain ⟨x, y, h1, h2⟩ := d1 u hu
        rcases List.mem_append.1 hv with hv | hv
        · obtain ⟨z, hz, h3⟩ := List.mem_map.1 hv
          rw [h2] at h3
          injection h3 with h4 h5
          have := congrArg size h5
          rw [h1] at this
          simp only [size] at this; omega
        · obtain ⟨z, hz, h3⟩ := List.mem_map.1 hv
          rw [h2] at h3
          injection h3 with h4 h5
          have := congrArg size h4
          simp only [size] at this; omega

/-- how many nodes stand beside each other, and how many are in others -/
def spine : Tw → Nat
  | e => 0
  | n _ b => b.spine + 1
theorem spine_le : ∀ t : Tw, t.spine ≤ t.size
  | e => Nat.le_refl _
  | n a b => by have := spine_le b; simp only [spine, size]; omega
theorem spine_pos {t : Tw} (h : 0 < t.size) : 0 < t.spine := by
  cases t with
  | e => simp [size] at h
  | n a b => simp [spine]
theorem turns_spine : ∀ (t u : Tw), u ∈ t.turns → u.spine ≤ t.spine + 1 ∧ t.spine ≤ u.spine + 1
  | e, u, h => by simp [turns] at h
  | n a b, u, h => by
    rcases mem_turns.1 h with ⟨x, y, rfl, rfl⟩ | ⟨x, y, rfl, rfl⟩ | ⟨x, h1, rfl⟩ | ⟨y, h1, rfl⟩
    · simp only [spine]; omega
    · simp only [spine]; omega
    · simp only [spine]; omega
    · have := turns_spine b y h1
      simp only [spine]; omega
def flat : Nat → Tw
  | 0 => e
  | k + 1 => n e (flat k)
theorem flat_size : ∀ k, (flat k).size = k
  | 0 => rfl
  | k + 1 => by simp only [flat, size, flat_size k]; omega
theorem flat_spine : ∀ k, (flat k).spine = k
  | 0 => rfl
  | k + 1 => by simp only [flat, spine, flat_spine k]
theorem flat_of : ∀ (t : Tw), t.spine = t.size → t = flat t.size
  | e, _ => rfl
  | n a b, h => by
    have h1 := spine_le b
    simp only [spine, size] at h
    have ha : a = e := by
      cases a with
      | e => rfl
      | n x y => simp only [size] at h; omega
    subst ha
    have hb := flat_of b (by simp only [size] at h; omega)
    have : (n e b).size = b.size + 1 := by simp only [size]; omega
    rw [this, flat, ← hb]
/-- what is not flat comes one nearer by one turn -/
theorem spine_up : ∀ (t : Tw), t.spine < t.size → ∃ u, u ∈ t.turns ∧ u.spine = t.spine + 1
  | e, h => by simp [spine, size] at h
  | n a b, h => by
    cases a with
    | n x y => exact ⟨n x (n y b), mem_turns.2 (.inl ⟨x, y, rfl, rfl⟩), by simp only [spine]⟩
    | e =>
      have hb : b.spine < b.size := by simp only [spine, size] at h; omega
      obtain ⟨u, hu, hs⟩ := spine_up b hb
      exact ⟨n e u, mem_turns.2 (.inr (.inr (.inr ⟨u, hu, rfl⟩))), by simp only [spine, hs]⟩

/-! ### ways of turns -/
def Way : Nat → Tw → Tw → Prop
  | 0, a, b => a = b
  | k + 1, a, b => ∃ c, Way k a c ∧ b ∈ c.turns
theorem Way.trans {a b c : Tw} : ∀ {j k : Nat}, Way j a b → Way k b c → Way (j + k) a c := by
  intro j k
  induction k generalizing c with
  | zero => intro h1 h2; cases h2; exact h1
  | succ k ih => intro h1 ⟨d, h2, h3⟩; exact ⟨d, ih h1 h2, h3⟩
theorem Way.one {a b : Tw} (h : b ∈ a.turns) : Way 1 a b := ⟨a, rfl, h⟩
theorem Way.back : ∀ {k : Nat} {a b : Tw}, Way k a b → Way k b a := by
  intro k
  induction k with
  | zero => intro a b h; exact Eq.symm h
  | succ k ih =>
    intro a b ⟨c, h1, h2⟩
    have h3 := Way.one (turns_back _ _ h2)
    have := h3.trans (ih h1)
    rwa [Nat.add_comm] at this
theorem Way.size : ∀ {k : Nat} {a b : Tw}, Way k a b → b.size = a.size := by
  intro k
  induction k with
  | zero => intro a b h; rw [show a = b from h]
  | succ k ih => intro a b ⟨c, h1, h2⟩; rw [turns_size _ _ h2, ih h1]
theorem Way.spine : ∀ {k : Nat} {a b : Tw}, Way k a b → b.spine ≤ a.spine + k ∧ a.spine ≤ b.spine + k := by
  intro k
  induction k with
  | zero => intro a b h; rw [show a = b from h]; omega
  | succ k ih => intro a b ⟨c, h1, h2⟩; have := ih h1; have := turns_spine _ _ h2; omega
theorem way_flat : ∀ (k : Nat) (t : Tw), t.size = t.spine + k → Way k t (flat t.size) := by
  intro k
  induction k with
  | zero => intro t h; exact flat_of t (by omega)
  | succ k ih =>
    intro t h
    obtain ⟨u, hu, hs⟩ := spine_up t (by omega)
    have h1 := turns_size _ _ hu
    have h2 := ih u (by omega)
    rw [h1] at h2
    have := (Way.one hu).trans h2
    rwa [Nat.add_comm] at this
/-- the fewest turns -/
def Far (a b : Tw) (k : Nat) : Prop := Way k a b ∧ ∀ j, j < k → ¬ Way j a b
theorem Far.uniq {a b : Tw} {j k : Nat} (h1 : Far a b j) (h2 : Far a b k) : j = k := by
  rcases Nat.lt_trichotomy j k with h | h | h
  · exact absurd h1.1 (h2.2 j h)
  · exact h
  · exact absurd h2.1 (h1.2 k h)
theorem Far.of_way {a b : Tw} : ∀ {k : Nat}, Way k a b → ∃ j, j ≤ k ∧ Far a b j := by
  intro k
  induction k using Nat.strongRecOn with
  | ind k ih =>
    intro h
    by_cases h1 : ∃ j, j < k ∧ Way j a b
    · obtain ⟨j, hj, hw⟩ := h1
      obtain ⟨i, hi, hf⟩ := ih j hj hw
      exact ⟨i, by omega, hf⟩
    · exact ⟨k, Nat.le_refl _, h, fun j hj hw => h1 ⟨j, hj, hw⟩⟩
theorem Far.back {a b : Tw} {k : Nat} (h : Far a b k) : Far b a k := ⟨h.1.back, fun j hj hw => h.2 j hj hw.back⟩
theorem Far.zero {a b : Tw} {k : Nat} (h : Far a b k) : k = 0 ↔ a = b := by
  constructor
  · intro h0; subst h0; exact h.1
  · intro h0
    have : Far a b 0 := ⟨h0, fun j hj => by omega⟩
    exact h.uniq this
theorem Far.one {a b : Tw} {k : Nat} (h : Far a b k) : k = 1 ↔ b ∈ a.turns := by
  constructor
  · intro h0
    subst h0
    obtain ⟨c, h1, h2⟩ := h.1
    cases h1
    exact h2
  · intro h0
    have : Far a b 1 := ⟨Way.one h0, fun j hj hw => by
      have e0 : j = 0 := by omega
      subst e0
      have e1 : a = b := hw
      subst e1
      exact turns_ne a h0⟩
    exact h.uniq this
theorem far_flat (t : Tw) : Far t (flat t.size) (t.size - t.spine) := by
  have hs := spine_le t
  refine ⟨way_flat _ t (by omega), fun j hj hw => ?_⟩
  have := hw.spine
  rw [flat_spine] at this
  omega
theorem far_some {a b : Tw} (h : a.size = b.size) : ∃ k, k ≤ (a.size - a.spine) + (b.size - b.spine) ∧ Far a b k := by
  have h1 := (far_flat a).1
  have h2 := (far_flat b).1.back
  rw [← h] at h2
  exact Far.of_way (h1.trans (by rw [h] at h2 ⊢; exact h2))
theorem far_three {a b c : Tw} {i j k : Nat} (h1 : Far a c i) (h2 : Far c b j) (h : Far a b k) : k ≤ i + j := by
  obtain ⟨m, hm, hf⟩ := Far.of_way (h1.1.trans h2.1)
  rw [h.uniq hf]; exact hm
end Tw
end Go.Proofs.Ytafdlilojlmchaa

namespace Go.Proofs.Ytafdlilojlmchaa

theorem less_trans : ∀ (x y z : List UInt8), lessL x y = true → lessL y z = true → lessL x z = true
  | x, [], z, h1, _ => by cases x <;> cases h1
  | x, b :: y, [], _, h2 => by cases h2
  | [], _ :: _, _ :: _, _, _ => rfl
  | a :: x, b :: y, c :: z, h1, h2 => by
    simp only [lessL, Bool.or_eq_true, Bool.and_eq_true, Nat.blt_eq, Nat.beq_eq] at h1 h2 ⊢
    rcases h1 with h1 | ⟨h1, h3⟩
    · rcases h2 with h2 | ⟨h2, _⟩
      · exact .inl (by omega)
      · exact .inl (by omega)
    · rcases h2 with h2 | ⟨h2, h4⟩
      · exact .inl (by omega)
      · exact .inr ⟨by omega, less_trans x y z h3 h4⟩
theorem less_total : ∀ (x y : List UInt8), lessL x y = true ∨ x = y ∨ lessL y x = true
  | [], [] => .inr (.inl rfl)
  | [], _ :: _ => .inl rfl
  | _ :: _, [] => .inr (.inr rfl)
  | a :: x, b :: y => by
    simp only [lessL, Bool.or_eq_true, Bool.and_eq_true, Nat.blt_eq, Nat.beq_eq]
    rcases Nat.lt_trichotomy a.toNat b.toNat with h | h | h
    · exact .inl (.inl h)
    · rcases less_total x y with h1 | h1 | h1
      · exact .inl (.inr ⟨h, h1⟩)
      · exact .inr (.inl (by rw [h1, UInt8.toNat_inj.1 h]))
      · exact .inr (.inr (.inr ⟨h.symm, h1⟩))
    · exact .inr (.inr (.inl h))
theorem less_irr {x y : List UInt8} (h : lessL x y = true) : x ≠ y := by
  intro e; subst e; rw [less_self] at h; cases h
def Asc (L : List (List UInt8)) : Prop := L.Pairwise fun x y => lessL x y = true
theorem Asc.nodup {L : List (List UInt8)} (h : Asc L) : L.Nodup := List.Pairwise.imp (fun h => less_irr h) h
theorem asc_uniq : ∀ (L M : List (List UInt8)), Asc L → Asc M → (∀ x, x ∈ L ↔ x ∈ M) → L = M
  | [], [], _, _, _ => rfl
  | [], y :: M, _, _, h => by have := (h y).2 (by simp); simp at this
  | x :: L, [], _, _, h => by have := (h x).1 (by simp); simp at this
  | x :: L, y :: M, h1, h2, h => by
    obtain ⟨a1, a2⟩ := List.pairwise_cons.1 h1
    obtain ⟨b1, b2⟩ := List.pairwise_cons.1 h2
    have hxy : x = y := by
      have m1 := (h x).1 (by simp)
      have m2 := (h y).2 (by simp)
      rcases List.mem_cons.1 m1 with m1 | m1
      · exact m1
      · rcases List.mem_cons.1 m2 with m2 | m2
        · exact m2.symm
        · have q := less_trans _ _ _ (b1 x m1) (a1 y m2)
          rw [less_self] at q; cases q
    subst hxy
    have : L = M := asc_uniq L M a2 b2 (fun z => by
      have hz := h z
      simp only [List.mem_cons] at hz
      constructor
      · intro m
        rcases hz.1 (.inr m) with e | m'
        · subst e; have := a1 z m; rw [less_self] at this; cases this
        · exact m'
      · intro m
        rcases hz.2 (.inr m) with e | m'
        · subst e; have := b1 z m; rw [less_self] at this; cases this
        · exact m')
    rw [this]
/-- a text goes to its place, if it is not there -/
def insW (out : List (List UInt8)) (x : List UInt8) : List (List UInt8) :=
  if x ∈ out then out else out.takeWhile (fun y => lessL y x) ++ [x] ++ out.dropWhile (fun y => lessL y x)
def sortW (L : List (List UInt8)) : List (List UInt8) := L.foldl insW []
theorem mem_insW (out : List (List UInt8)) (x y : List UInt8) : y ∈ insW out x ↔ y ∈ out ∨ y = x := by
  unfold insW
  split
  · rename_i h
    exact ⟨.inl, fun h1 => h1.elim id (fun e => e ▸ h)⟩
  · have e := List.takeWhile_append_dropWhile (p := fun y => lessL y x) (l := out)
    have : y ∈ out ↔ y ∈ out.takeWhile (fun y => lessL y x) ∨ y ∈ out.dropWhile (fun y => lessL y x) := by
      rw [← List.mem_append, e]
    simp only [List.mem_append, List.mem_singleton, this]
    constructor
    · rintro ((h | h) | h)
      · exact .inl (.inl h)
      · exact .inr h
      · exact .inl (.inr h)
    · rintro ((h | h) | h)
      · exact .inl (.inl h)
      · exact .inr h
      · exact .inl (.inr h)
theorem drop_gt (x : List UInt8) : ∀ (out : List (List UInt8)), Asc out → x ∉ out → ∀ y ∈ out.dropWhile (fun y => lessL y x), lessL x y = true
  | [], _, _, y, hy => by simp at hy
  | z :: r, h, hx, y, hy => by
    obtain ⟨h1, h2⟩ := List.pairwise_cons.1 h
    have hxz : x ≠ z := fun e => hx (by simp [e])
    have hxr : x ∉ r := fun e => hx (by simp [e])
    by_cases hz : lessL z x = true
    · rw [List.dropWhile_cons, if_pos hz] at hy
      exact drop_gt x r h2 hxr y hy
    · rw [List.dropWhile_cons, if_neg hz] at hy
      have hzx : lessL x z = true := by
        rcases less_total x z with e | e | e
        · exact e
        · exact absurd e hxz
        · exact absurd e hz
      rcases List.mem_cons.1 hy with e | e
      · rw [e]; exact hzx
      · exact less_trans _ _ _ hzx (h1 y e)
theorem asc_insW {out : List (List UInt8)} (x : List UInt8) (h : Asc out) : Asc (insW out x) := by
  unfold insW
  split
  · exact h
  · rename_i hx
    have e := List.takeWhile_append_dropWhile (p := fun y => lessL y x) (l := out)
    have ht : Asc (out.takeWhile (fun y => lessL y x) ++ out.dropWhile (fun y => lessL y x)) := by rw [e]; exact h
    obtain ⟨t1, t2, t3⟩ := List.pairwise_append.1 ht
    have tx : ∀ y ∈ out.takeWhile (fun y => lessL y x), lessL y x = true := fun y hy => by
      have := List.all_takeWhile (l := out) (p := fun y => lessL y x)
      exact List.all_eq_true.1 this y hy
    have dx := drop_gt x out h hx
    refine List.pairwise_append.2 ⟨List.pairwise_append.2 ⟨t1, List.pairwise_singleton _ _, fun a ha b hb => ?_⟩, t2, fun a ha b hb => ?_⟩
    · simp only [List.mem_singleton] at hb; rw [hb]; exact tx a ha
    · rcases List.mem_append.1 ha with ha | ha
      · exact t3 a ha b hb
      · simp only [List.mem_singleton] at ha; rw [ha]; exact dx b hb
theorem sortW_facts (L : List (List UInt8)) : ∀ (out : List (List UInt8)), Asc out → Asc (L.foldl insW out) ∧ ∀ y, y ∈ L.foldl insW out ↔ y ∈ out ∨ y ∈ L := by
  induction L with
  | nil => intro out h; exact ⟨h, fun y => by simp⟩
  | cons x r ih =>
    intro out h
    obtain ⟨h1, h2⟩ := ih (insW out x) (asc_insW x h)
    refine ⟨h1, fun y => ?_⟩
    rw [List.foldl_cons, h2, mem_insW, List.mem_cons]
    constructor
    · rintro ((a | a) | a)
      · exact .inl a
      · exact .inr (.inl a)
      · exact .inr (.inr a)
    · rintro (a | a | a)
      · exact .inl (.inl a)
      · exact .inl (.inr a)
      · exact .inr a
theorem asc_sortW (L : List (List UInt8)) : Asc (sortW L) := (sortW_facts L [] List.Pairwise.nil).1
theorem mem_sortW (L : List (List UInt8)) (y : List UInt8) : y ∈ sortW L ↔ y ∈ L := by
  have := (sortW_facts L [] List.Pairwise.nil).2 y
  simpa [sortW] using this
theorem sortW_uniq {L M : List (List UInt8)} (hM : Asc M) (h : ∀ y, y ∈ M ↔ y ∈ L) : sortW L = M := asc_uniq _ _ (asc_sortW L) hM (fun y => by rw [mem_sortW, h])
theorem insW_length {out : List (List UInt8)} {x : List UInt8} (h : x ∉ out) : (insW out x).length = out.length + 1 := by
  have e := congrArg List.length (List.takeWhile_append_dropWhile (p := fun y => lessL y x) (l := out))
  rw [List.length_append] at e
  rw [insW, if_neg h]
  simp only [List.length_append, List.length_singleton]
  omega
theorem sortW_length {L : List (List UInt8)} (h : L.Nodup) : (sortW L).length = L.length := by
  have key : ∀ (L out : List (List UInt8)), Asc out → L.Nodup → (∀ x ∈ L, x ∉ out) → (L.foldl insW out).length = out.length + L.length := by
    intro L
    induction L with
    | nil => intro out _ _ _; simp
    | cons x r ih =>
      intro out ho hn hd
      obtain ⟨n1, n2⟩ := List.nodup_cons.1 hn
      rw [List.foldl_cons, ih (insW out x) (asc_insW x ho) n2 (fun y hy => by
        rw [mem_insW]
        rintro (a | a)
        · exact hd y (by simp [hy]) a
        · subst a; exact n1 hy), insW_length (hd x (by simp)), List.length_cons]
      omega
  have := key L [] List.Pairwise.nil h (by simp)
  simpa [sortW] using this
/-- the turns of a word, byte by byte -/
def turnsOut (t : Tw) : List (List UInt8) := sortW (t.turns.map Tw.lst)
theorem turnsOut_length (t : Tw) : (turnsOut t).length = t.size - 1 := by
  rw [turnsOut, sortW_length (Tw.map_nodup Tw.lst_inj (Tw.turns_nodup t)), List.length_map, Tw.turns_length]
theorem mem_turnsOut (t : Tw) (s : List UInt8) : s ∈ turnsOut t ↔ ∃ u, u ∈ t.turns ∧ u.lst = s := by
  rw [turnsOut, mem_sortW, List.mem_map]

/-! ### words in layers -/
/-- what is new goes to both lists -/
def addT (p : List Tw × List Tw) (u : Tw) : List Tw × List Tw := if u ∈ p.1 then p else (p.1 ++ [u], p.2 ++ [u])
def grow (p : List Tw × List Tw) : List Tw × List Tw := (p.2.flatMap Tw.turns).foldl addT (p.1, [])
theorem add_facts : ∀ (L : List Tw) (p : List Tw × List Tw), (∀ u, u ∈ (L.foldl addT p).1 ↔ u ∈ p.1 ∨ u ∈ L) ∧ (∀ u, u ∈ (L.foldl addT p).2 ↔ u ∈ p.2 ∨ (u ∈ L ∧ u ∉ p.1)) := by
  intro L
  induction L with
  | nil => intro p; exact ⟨fun u => by simp, fun u => by simp⟩
  | cons x r ih =>
    intro p
    obtain ⟨h1, h2⟩ := ih (addT p x)
    rw [List.foldl_cons]
    by_cases hx : x ∈ p.1
    · have e : addT p x = p := by rw [addT, if_pos hx]
      rw [e] at h1 h2 ⊢
      refine ⟨fun u => ?_, fun u => ?_⟩
      · rw [h1, List.mem_cons]
        constructor
        · rintro (a | a); exact .inl a; exact .inr (.inr a)
        · rintro (a | a | a); exact .inl a; subst a; exact .inl hx; exact .inr a
      · rw [h2, List.mem_cons]
        constructor
        · rintro (a | ⟨a, b⟩); exact .inl a; exact .inr ⟨.inr a, b⟩
        · rintro (a | ⟨a | a, b⟩); exact .inl a; subst a; exact absurd hx b; exact .inr ⟨a, b⟩
    · have e : addT p x = (p.1 ++ [x], p.2 ++ [x]) := by rw [addT, if_neg hx]
      rw [e] at h1 h2 ⊢
      refine ⟨fun u => ?_, fun u => ?_⟩
      · rw [h1]
        simp only [List.mem_append, List.mem_cons, List.not_mem_nil, or_false]
        constructor
        · rintro ((a | a) | a); exact .inl a; exact .inr (.inl a); exact .inr (.inr a)
        · rintro (a | a | a); exact .inl (.inl a); exact .inl (.inr a); exact .inr a
      · rw [h2]
        simp only [List.mem_append, List.mem_cons, List.not_mem_nil, or_false, not_or]
        constructor
        · rintro ((a | a) | ⟨a, b, c⟩)
          · exact .inl a
          · subst a; exact .inr ⟨.inl rfl, hx⟩
          · exact .inr ⟨.inr a, b⟩
        · rintro (a | ⟨a | a, b⟩)
          · exact .inl (.inl a)
          · exact .inl (.inr a)
          · by_cases hux : u = x
            · exact .inl (.inr hux)
            · exact .inr ⟨a, b, hux⟩
/-- seen so far, and the newest of them -/
def Layer (a : Tw) (k : Nat) (p : List Tw × List Tw) : Prop := (∀ u, u ∈ p.1 ↔ ∃ j, j ≤ k ∧ Tw.Way j a u) ∧ ∀ u, u ∈ p.2 ↔ Tw.Far a u k
theorem layer_zero (a : Tw) : Layer a 0 ([a], [a]) := by
  refine ⟨fun u => ?_, fun u => ?_⟩
  · simp only [List.mem_singleton]
    constructor
    · intro e; exact ⟨0, Nat.le_refl _, e.symm⟩
    · rintro ⟨j, hj, hw⟩
      have : j = 0 := by omega
      subst this
      exact (show a = u from hw).symm
  · simp only [List.mem_singleton]
    constructor
    · intro e; exact ⟨e.symm, fun j hj => by omega⟩
    · intro h; exact (show a = u from h.1).symm
theorem layer_grow {a : Tw} {k : Nat} {p : List Tw × List Tw} (h : Layer a k p) : Layer a (k + 1) (grow p) := by
  obtain ⟨h1, h2⟩ := h
  obtain ⟨g1, g2⟩ := add_facts (p.2.flatMap Tw.turns) (p.1, [])
  have hm : ∀ u, u ∈ p.2.flatMap Tw.turns ↔ ∃ c, Tw.Far a c k ∧ u ∈ c.turns := fun u => by
    rw [List.mem_flatMap]
    constructor
    · rintro ⟨c, hc, hu⟩; exact ⟨c, (h2 c).1 hc, hu⟩
    · rintro ⟨c, hc, hu⟩; exact ⟨c, (h2 c).2 hc, hu⟩
  have key : ∀ u, (∃ j, j ≤ k + 1 ∧ Tw.Way j a u) ↔ (∃ j, j ≤ k ∧ Tw.Way j a u) ∨ ∃ c, Tw.Far a c k ∧ u ∈ c.turns := fun u => by
    constructor
    · rintro ⟨j, hj, hw⟩
      by_cases hjk : ∃ i, i ≤ k ∧ Tw.Way i a u
      · exact .inl hjk
      · right
        have e : j = k + 1 := by
          apply Classical.byContradiction
          intro hne
          exact hjk ⟨j, by omega, hw⟩
        subst e
        obtain ⟨c, hc, hu⟩ := hw
        refine ⟨c, ⟨hc, fun i hi hw => hjk ⟨i + 1, by omega, c, hw, hu⟩⟩, hu⟩
    · rintro (⟨j, hj, hw⟩ | ⟨c, hc, hu⟩)
      · exact ⟨j, by omega, hw⟩
      · exact ⟨k + 1, Nat.le_refl _, c, hc.1, hu⟩
  refine ⟨fun u => ?_, fun u => ?_⟩
  · show u ∈ ((p.2.flatMap Tw.turns).foldl addT (p.1, [])).1 ↔ _
    rw [g1 u, key u]
    show (u ∈ p.1 ∨ _) ↔ _
    rw [h1 u, hm u]
  · show u ∈ ((p.2.flatMap Tw.turns).foldl addT (p.1, [])).2 ↔ _
    rw [g2 u]
    show (u ∈ [] ∨ (_ ∧ u ∉ p.1)) ↔ _
    rw [hm u, h1 u]
    constructor
    · rintro (a | ⟨⟨c, hc, hu⟩, hn⟩)
      · simp at a
      · exact ⟨⟨c, hc.1, hu⟩, fun j hj hw => hn ⟨j, by omega, hw⟩⟩
    · intro hf
      refine .inr ⟨?_, fun ⟨j, hj, hw⟩ => hf.2 j (by omega) hw⟩
      obtain ⟨c, hc, hu⟩ := hf.1
      exact ⟨c, ⟨hc, fun i hi hw => hf.2 (i + 1) (by omega) ⟨c, hw, hu⟩⟩, hu⟩
end Go.Proofs.Ytafdlilojlmchaa

namespace Go.Proofs.Ytafdlilojlmchaa

/-- the words into which a word turns at one of its pairs: with what is ahead of it and what is behind it -/
def aheadT (p x q : List UInt8) : List (List UInt8) := if p.getLast? = some 40 then [p.dropLast ++ x ++ 40 :: q] else []
def behindT (p x q : List UInt8) : List (List UInt8) := if q.head? = some 40 then [p ++ 40 :: (x ++ q.tail)] else []
def appT (p x q : List UInt8) : List (List UInt8) := aheadT p x q ++ behindT p x q
theorem appT_length (p x q : List UInt8) : (appT p x q).length ≤ 2 := by
  rw [appT, List.length_append, aheadT, behindT]
  split <;> split <;> simp
namespace Tw
def pair : Tw → List UInt8 := fun a => 40 :: (a.lst ++ [41])
def col : Tw → List UInt8 → List UInt8 → List (List UInt8)
  | e, _, _ => []
  | n a b, p, q => a.col (p ++ [40]) (41 :: (b.lst ++ q)) ++ (appT p a.pair (b.lst ++ q) ++ b.col (p ++ a.pair) q)
def extra : Tw → List UInt8 → List UInt8 → List (List UInt8)
  | e, _, _ => []
  | n a b, p, q => aheadT p a.pair (b.lst ++ q)
theorem col_turns : ∀ (t : Tw) (p q : List UInt8), q.head? ≠ some 40 → ∀ x, (t.col p q).count x = (t.turns.map (fun u => p ++ (u.lst ++ q))).count x + (t.extra p q).count x
  | e, p, q, _, x => rfl
  | n a b, p, q, hq, x => by
    have ha := col_turns a (p ++ [40]) (41 :: (b.lst ++ q)) (by simp) x
    have hb := col_turns b (p ++ a.pair) q hq x
    have e1 : a.turns.map (fun u => p ++ [40] ++ (u.lst ++ 41 :: (b.lst ++ q))) = (a.turns.map (fun u => n u b)).map (fun u => p ++ (u.lst ++ q)) := by
      rw [List.map_map]
      refine List.map_congr_left fun u _ => ?_
      simp [lst]
    have e2 : b.turns.map (fun u => p ++ a.pair ++ (u.lst ++ q)) = (b.turns.map (fun u => n a u)).map (fun u => p ++ (u.lst ++ q)) := by
      rw [List.map_map]
      refine List.map_congr_left fun u _ => ?_
      simp [lst, pair]
    have e3 : a.extra (p ++ [40]) (41 :: (b.lst ++ q)) = (up a b).map (fun u => p ++ (u.lst ++ q)) := by
      cases a with
      | e => rfl
      | n c d => simp [extra, aheadT, up, lst, pair]
    have e4 : b.extra (p ++ a.pair) q = [] := by
      cases b with
      | e => rfl
      | n c d =>
        have e : (p ++ 40 :: (a.lst ++ [41])).getLast? = some 41 := by
          rw [show p ++ 40 :: (a.lst ++ [41]) = (p ++ 40 :: a.lst) ++ [41] by simp, List.getLast?_concat]
        rw [extra, aheadT, pair, e, if_neg (by decide)]
    have e5 : behindT p a.pair (b.lst ++ q) = (down a b).map (fun u => p ++ (u.lst ++ q)) := by
      cases b with
      | e => cases a <;> simp [behindT, lst, down, hq]
      | n c d => cases a <;> simp [behindT, down, lst, pair]
    rw [e1, e3] at ha
    rw [e2, e4] at hb
    rw [col, turns, extra, appT]
    simp only [List.count_append, List.map_append, e5, ha, hb, List.count_nil]
    omega
theorem col_perm (t : Tw) : (t.col [] []).Perm (t.turns.map lst) := by
  rw [List.perm_iff_count]
  intro x
  rw [col_turns t [] [] (by simp) x]
  have e1 : t.extra [] [] = [] := by
    cases t with
    | e => rfl
    | n a b => simp [extra, aheadT]
  rw [e1, List.count_nil, Nat.add_zero]
  congr 1
  refine List.map_congr_left fun u _ => ?_
  simp
theorem col_nodup (t : Tw) : (t.col [] []).Nodup := (col_perm t).nodup_iff.2 (map_nodup lst_inj (turns_nodup t))
end Tw

/-! ### byte by byte -/
def tstep (L : List UInt8) (st : List (List UInt8) × List Nat) (i : Nat) (c : UInt8) : List (List UInt8) × List Nat :=
  if c.toNat = 40 then (st.1, st.2 ++ [i]) else (st.1 ++ appT (L.take (st.2.getLastD 0)) ((L.take (i + 1)).drop (st.2.getLastD 0)) (L.drop (i + 1)), st.2.dropLast)
def runT (L : List UInt8) : Nat → List (List UInt8) × List Nat
  | 0 => ([], [])
  | k + 1 => tstep L (runT L k) k (L.getD k 0)
theorem runT_step (L : List UInt8) (k : Nat) (h : k < L.length) : runT L (k + 1) = tstep L (runT L k) k L[k] := by
  rw [runT, List.getD_eq_getElem?_getD, List.getElem?_eq_getElem h]; rfl
theorem runT_tree (L : List UInt8) : ∀ (t : Tw) (p q : List UInt8) (W : List (List UInt8)) (O : List Nat), L = p ++ (t.lst ++ q) → runT L p.length = (W, O) → runT L (p.length + t.lst.length) = (W ++ t.col p q, O)
  | .e, p, q, W, O, _, h => by simpa [Tw.lst, Tw.col] using h
  | .n a b, p, q, W, O, hL, h => by
    have l1 : (Tw.n a b).lst.length = a.lst.length + b.lst.length + 2 := by simp [Tw.lst]; omega
    have hL1 : L = (p ++ [40]) ++ (a.lst ++ 41 :: (b.lst ++ q)) := by rw [hL]; simp [Tw.lst]
    have hL2 : L = (p ++ a.pair) ++ (b.lst ++ q) := by rw [hL]; simp [Tw.lst, Tw.pair]
    have s1 : runT L (p ++ [40]).length = (W, O ++ [p.length]) := by
      rw [List.length_append]
      show runT L (p.length + 1) = _
      have hlt : p.length < L.length := by
        have := congrArg List.length hL
        simp only [List.length_append, l1] at this ⊢
        omega
      have hc : L[p.length] = 40 := by
        simp only [hL, Tw.lst]
        simp
      rw [runT_step L _ hlt, h, hc, tstep]
      simp
    have s2 := runT_tree L a (p ++ [40]) (41 :: (b.lst ++ q)) W (O ++ [p.length]) hL1 s1
    have lp : (p ++ [40]).length + a.lst.length + 1 = (p ++ a.pair).length := by simp [Tw.pair]; omega
    have s3 : runT L (p ++ a.pair).length = (W ++ a.col (p ++ [40]) (41 :: (b.lst ++ q)) ++ appT p a.pair (b.lst ++ q), O) := by
      rw [← lp]
      have hlt : (p ++ [40]).length + a.lst.length < L.length := by
        have := congrArg List.length hL1
        simp only [List.length_append, List.length_cons, List.length_nil] at this ⊢
        omega
      have hc : L[(p ++ [40]).length + a.lst.length] = 41 := by
        have : L[(p ++ [40]).length + a.lst.length]? = some 41 := by
          rw [hL1, List.getElem?_append_right (by omega), List.getElem?_append_right (by omega)]
          simp
        rw [List.getElem?_eq_getElem hlt] at this
        exact Option.some.inj this
      rw [runT_step L _ hlt, s2, hc, tstep]
      have e1 : (O ++ [p.length]).getLastD 0 = p.length := by simp [List.getLastD_eq_getLast?]
      have e2 : L.take p.length = p := by rw [hL]; simp
      have e3 : (L.take ((p ++ [40]).length + a.lst.length + 1)).drop p.length = a.pair := by
        rw [lp, hL2, List.take_left]
        simp
      have e4 : L.drop ((p ++ [40]).length + a.lst.length + 1) = b.lst ++ q := by
        rw [lp, hL2, List.drop_left]
      rw [if_neg (by decide), e1, e2, e3, e4]
      simp
    have s4 := runT_tree L b (p ++ a.pair) q _ O hL2 s3
    have lq : (p ++ a.pair).length + b.lst.length = p.length + (Tw.n a b).lst.length := by rw [l1]; simp [Tw.pair]; omega
    rw [lq] at s4
    rw [s4, Tw.col]
    simp
theorem runT_all (t : Tw) : runT t.lst t.lst.length = (t.col [] [], []) := by
  have := runT_tree t.lst t [] [] [] [] (by simp) rfl
  simpa using this
theorem runT_small (L : List UInt8) : ∀ k, (runT L k).1.length ≤ 2 * k ∧ ∀ x ∈ (runT L k).2, x < k
  | 0 => ⟨by simp [runT], by simp [runT]⟩
  | k + 1 => by
    obtain ⟨h1, h2⟩ := runT_small L k
    rw [runT, tstep]
    split
    · refine ⟨by simp only; omega, fun x hx => ?_⟩
      rcases List.mem_append.1 hx with h | h
      · have := h2 x h; omega
      · simp at h; omega
    · refine ⟨?_, fun x hx => ?_⟩
      · simp only [List.length_append]
        have := appT_length (L.take ((runT L k).2.getLastD 0)) ((L.take (k + 1)).drop ((runT L k).2.getLastD 0)) (L.drop (k + 1))
        omega
      · have := h2 x (List.dropLast_subset _ hx); omega
theorem runT_open (L : List UInt8) : ∀ (k o : Nat), k ≤ L.length → scan (L.take k) = some o → (runT L k).2.length = o := by
  intro k
  induction k with
  | zero => intro o _ h; simp [scan] at h; simp [runT, h]
  | succ k ih =>
    intro o hk h
    have hlt : k < L.length := by omega
    rw [take_snoc L k hlt, scan_snoc] at h
    cases hs : scan (L.take k) with
    | none => rw [hs] at h; cases h
    | some o' =>
      rw [hs] at h
      have hl := ih o' (by omega) hs
      rw [runT_step L k hlt, tstep]
      unfold vstep at h
      simp only at h
      split at h
      · rename_i hc
        rw [if_pos hc, List.length_append, hl]
        simpa using h
      · rename_i hc
        rw [if_neg hc, List.length_dropLast, hl]
        split at h
        · split at h
          · cases h
          · simpa using h
        · cases h

/-! ### sorted -/
theorem less_lt : ∀ {x y : List UInt8}, lessL x y = true ↔ x < y
  | [], [] => by simp [lessL]
  | [], _ :: _ => by simp [lessL]
  | _ :: _, [] => by simp [lessL]
  | a :: x, b :: y => by
    rw [List.cons_lt_cons_iff, ← less_lt (x := x) (y := y), lessL, UInt8.lt_iff_toNat_lt, ← UInt8.toNat_inj]
    simp
theorem less_of_le {x y : List UInt8} (h : x ≤ y) (hne : x ≠ y) : lessL x y = true := by
  rcases less_total x y with h1 | h1 | h1
  · exact h1
  · exact absurd h1 hne
  · exact absurd (less_lt.1 h1) (by exact fun h2 => h h2)
theorem sort_turns (t : Tw) {M : List (List UInt8)} (h : M.Perm (t.col [] [])) (hs : M.Pairwise (fun x y => x ≤ y)) : M = turnsOut t := by
  have hn : M.Nodup := h.nodup_iff.2 (Tw.col_nodup t)
  refine (sortW_uniq ?_ fun y => ?_).symm
  · exact (hs.and hn).imp fun ⟨h1, h2⟩ => less_of_le h1 h2
  · rw [(h.trans (Tw.col_perm t)).mem_iff]
end Go.Proofs.Ytafdlilojlmchaa

namespace Go.Proofs.Ytafdlilojlmchaa

/-! ### texts in their order, each as often as it is there -/
def leT (x y : List UInt8) : Bool := !lessL y x
theorem leT_trans {x y z : List UInt8} (h : leT x y = true) (k : leT y z = true) : leT x z = true := by
  unfold leT at *
  simp only [Bool.not_eq_true'] at *
  cases h3 : lessL z x with
  | false => rfl
  | true =>
    exfalso
    rcases less_total x y with e | e | e
    · rw [less_trans _ _ _ h3 e] at k; cases k
    · subst e; rw [h3] at k; cases k
    · rw [e] at h; cases h
theorem leT_total (x y : List UInt8) : leT x y = true ∨ leT y x = true := by
  unfold leT
  simp only [Bool.not_eq_true']
  cases h1 : lessL y x with
  | false => exact .inl rfl
  | true =>
    right
    cases h2 : lessL x y with
    | false => rfl
    | true => have := less_trans _ _ _ h1 h2; rw [less_self] at this; cases this
theorem leT_anti {x y : List UInt8} (h : leT x y = true) (k : leT y x = true) : x = y := by
  unfold leT at *
  simp only [Bool.not_eq_true'] at *
  rcases less_total x y with e | e | e
  · rw [e] at k; cases k
  · exact e
  · rw [e] at h; cases h
def AscT (L : List (List UInt8)) : Prop := L.Pairwise fun x y => leT x y = true
theorem ascT_uniq : ∀ (L M : List (List UInt8)), AscT L → AscT M → L.Perm M → L = M
  | [], M, _, _, h => (List.nil_perm.1 h).symm
  | x :: L, [], _, _, h => by have := h.length_eq; simp at this
  | x :: L, y :: M, h1, h2, h => by
    obtain ⟨a1, a2⟩ := List.pairwise_cons.1 h1
    obtain ⟨b1, b2⟩ := List.pairwise_cons.1 h2
    have hxy : x = y := by
      rcases List.mem_cons.1 (h.mem_iff.1 (show x ∈ x :: L by simp)) with e | e
      · exact e
      · rcases List.mem_cons.1 (h.mem_iff.2 (show y ∈ y :: M by simp)) with e' | e'
        · exact e'.symm
        · exact leT_anti (a1 y e') (b1 x e)
    subst hxy
    rw [ascT_uniq L M a2 b2 (List.Perm.cons_inv h)]
def insT (out : List (List UInt8)) (x : List UInt8) : List (List UInt8) := out.takeWhile (fun y => leT y x) ++ x :: out.dropWhile (fun y => leT y x)
def srtT (L : List (List UInt8)) : List (List UInt8) := L.foldl insT []
theorem insT_perm (out : List (List UInt8)) (x : List UInt8) : (insT out x).Perm (x :: out) := by
  unfold insT
  refine List.perm_middle.trans (List.Perm.cons _ ?_)
  rw [List.takeWhile_append_dropWhile]
theorem ins_fold_perm (L : List (List UInt8)) : ∀ out, (L.foldl insT out).Perm (L ++ out) := by
  induction L with
  | nil => intro out; exact List.Perm.refl _
  | cons a r ih =>
    intro out
    rw [List.foldl_cons]
    exact (ih _).trans (((insT_perm out a).append_left r).trans List.perm_middle)
theorem srtT_perm (L : List (List UInt8)) : (srtT L).Perm L := by have := ins_fold_perm L []; rwa [List.append_nil] at this
theorem dropT_gt (x : List UInt8) : ∀ (out : List (List UInt8)), AscT out → ∀ y ∈ out.dropWhile (fun y => leT y x), leT x y = true
  | [], _, y, hy => by simp at hy
  | z :: r, h, y, hy => by
    obtain ⟨h1, h2⟩ := List.pairwise_cons.1 h
    by_cases hz : leT z x = true
    · rw [List.dropWhile_cons, if_pos hz] at hy
      exact dropT_gt x r h2 y hy
    · rw [List.dropWhile_cons, if_neg hz] at hy
      have hzx : leT x z = true := (leT_total x z).resolve_right hz
      rcases List.mem_cons.1 hy with e | e
      · rw [e]; exact hzx
      · exact leT_trans hzx (h1 y e)
theorem takeT_le (x : List UInt8) : ∀ (out : List (List UInt8)), ∀ y ∈ out.takeWhile (fun y => leT y x), leT y x = true
  | [], y, hy => by simp at hy
  | z :: r, y, hy => by
    rw [List.takeWhile_cons] at hy
    split at hy
    · rcases List.mem_cons.1 hy with e | e
      · rw [e]; assumption
      · exact takeT_le x r y e
    · simp at hy
theorem asc_insT {out : List (List UInt8)} (x : List UInt8) (h : AscT out) : AscT (insT out x) := by
  unfold insT AscT
  have e := List.takeWhile_append_dropWhile (p := fun y => leT y x) (l := out)
  have h' : (out.takeWhile (fun y => leT y x) ++ out.dropWhile (fun y => leT y x)).Pairwise fun x y => leT x y = true := by rw [e]; exact h
  obtain ⟨p1, p2, p3⟩ := List.pairwise_append.1 h'
  rw [List.pairwise_append]
  refine ⟨p1, List.pairwise_cons.2 ⟨dropT_gt x out h, p2⟩, fun a ha b hb => ?_⟩
  rcases List.mem_cons.1 hb with rfl | hb
  · exact takeT_le _ out a ha
  · exact p3 a ha b hb
theorem asc_srtT (L : List (List UInt8)) : AscT (srtT L) := by
  have key : ∀ (L out : List (List UInt8)), AscT out → AscT (L.foldl insT out) := by
    intro L
    induction L with
    | nil => intro out h; exact h
    | cons a r ih => intro out h; exact ih _ (asc_insT a h)
  exact key L [] List.Pairwise.nil
theorem srtT_uniq {L M : List (List UInt8)} (hM : AscT M) (h : M.Perm L) : M = srtT L := ascT_uniq _ _ hM (asc_srtT L) (h.trans (srtT_perm L).symm)
theorem srtT_snoc (L : List (List UInt8)) (x : List UInt8) : srtT (L ++ [x]) = insT (srtT L) x := by unfold srtT; rw [List.foldl_append]; rfl
theorem srtT_len (L : List (List UInt8)) : (srtT L).length = L.length := (srtT_perm L).length_eq
theorem merge_srtT (L : List (List UInt8)) : (L.mergeSort fun x y => decide (x ≤ y)) = srtT L := by
  have hle : ∀ x y : List UInt8, decide (x ≤ y) = leT x y := by
    intro x y
    unfold leT
    cases hl : lessL y x with
    | false => exact decide_eq_true (fun h => by rw [less_lt.2 h] at hl; cases hl)
    | true => exact decide_eq_false (fun h => h (less_lt.1 hl))
  have hf : (fun x y : List UInt8 => decide (x ≤ y)) = leT := funext fun x => funext fun y => hle x y
  rw [hf]
  refine srtT_uniq ?_ (List.mergeSort_perm _ _)
  exact List.pairwise_mergeSort (le := leT) (fun a b c h1 h2 => leT_trans h1 h2) (fun a b => by rw [Bool.or_eq_true]; exact leT_total a b) L

/-! ### texts of branches -/
def txt (E : Edges) : Nat → Nat → Int → List UInt8
  | 0, _, _ => []
  | d + 1, v, fr => 40 :: ((srtT ((away E v fr).map fun x => txt E d x v)).flatten ++ [41])
theorem txt_len {E : Edges} : ∀ (d v : Nat) (fr : Int), (txt E d v fr).length = 2 * (nds E d v fr).length := by
  intro d
  induction d with
  | zero => intro v fr; rfl
  | succ d ih =>
    intro v fr
    rw [txt, nds, List.length_cons, List.length_append, List.length_cons, List.length_flatten, ((srtT_perm _).map List.length).sum_nat, List.length_cons (as := List.flatMap _ _), List.length_flatMap, List.map_map]
    have : ((away E v fr).map (List.length ∘ fun x => txt E d x v)).sum = 2 * ((away E v fr).map fun x => (nds E d x v).length).sum := by
      induction away E v fr with
      | nil => rfl
      | cons a r ihr =>
        simp only [List.map_cons, List.sum_cons, Function.comp_apply] at ihr ⊢
        rw [ih a v, ihr]; omega
    rw [this]; simp; omega
theorem txt_more {E : Edges} : ∀ (d v : Nat) (fr : Int), Brn E d v fr → txt E (d + 1) v fr = txt E d v fr := by
  intro d
  induction d with
  | zero => intro v fr h; exact h.elim
  | succ d ih =>
    intro v fr h
    rw [txt, txt, List.map_congr_left fun x hx => ih x v (h x hx)]
/-- the least of texts -/
def minT (x y : List UInt8) : List UInt8 := if lessL y x then y else x
def freeT (n : Nat) (E : Edges) : List UInt8 := match (cents n E).map fun c => txt E 14 c (-1) with
  | [] => []
  | x :: r => r.foldl minT x

/-! ### maps -/
def prt (E : Edges) (b : Nat × Int) : List (Nat × Int) := (away E b.1 b.2).map fun x => (x, (b.1 : Int))
def cm (E : Edges) : Nat → List (Nat × Int) → Nat
  | 0, _ => 1
  | d + 1, L => (L.foldl (fun (st : Nat × List (List UInt8)) b => (st.1 * (((st.2.count (txt E d b.1 b.2)) + 1) * cm E d (prt E b)), st.2 ++ [txt E d b.1 b.2])) (1, [])).1
def cms (E : Edges) (d : Nat) (L : List (Nat × Int)) (k : Nat) : Nat := ((L.take k).foldl (fun (st : Nat × List (List UInt8)) b => (st.1 * (((st.2.count (txt E d b.1 b.2)) + 1) * cm E d (prt E b)), st.2 ++ [txt E d b.1 b.2])) (1, [])).1
def txts (E : Edges) (d : Nat) (L : List (Nat × Int)) : List (List UInt8) := L.map fun b => txt E d b.1 b.2
theorem cm_texts (E : Edges) (d : Nat) (L : List (Nat × Int)) : ∀ (st : Nat × List (List UInt8)), (L.foldl (fun (st : Nat × List (List UInt8)) b => (st.1 * (((st.2.count (txt E d b.1 b.2)) + 1) * cm E d (prt E b)), st.2 ++ [txt E d b.1 b.2])) st).2 = st.2 ++ txts E d L := by
  induction L with
  | nil => intro st; simp [txts]
  | cons a r ih => intro st; rw [List.foldl_cons, ih]; simp [txts]
theorem cms_next (E : Edges) (d : Nat) (L : List (Nat × Int)) {k : Nat} (hk : k < L.length) : cms E d L (k + 1) = cms E d L k * (((txts E d (L.take k)).count (txt E d L[k].1 L[k].2) + 1) * cm E d (prt E L[k])) := by
  unfold cms
  rw [List.take_succ_eq_append_getElem hk, List.foldl_append, List.foldl_cons, List.foldl_nil]
  simp only
  rw [cm_texts]; rfl
theorem cms_all (E : Edges) (d : Nat) (L : List (Nat × Int)) : cms E d L L.length = cm E (d + 1) L := by
  unfold cms; rw [List.take_length]; rfl
/-- in how many ways a tree goes to itself -/
def mapsN (n : Nat) (E : Edges) : Nat := match cents n E with
  | [a] => cm E 14 (prt E (a, -1))
  | [a, b] => cm E 15 [(a, (b : Int)), (b, (a : Int))]
  | _ => 1
end Go.Proofs.Ytafdlilojlmchaa
