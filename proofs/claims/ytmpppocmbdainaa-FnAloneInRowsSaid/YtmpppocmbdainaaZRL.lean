/-
  Plain facts: a branch's text is a word whose first pair holds all others; depths of it. Nothing of the program is named here.
  Plain facts: the greatest depth of the text seen from a node is the longest way from it. Nothing of the program is named here.
-/
import Derived.Test.YtmpppocmbdainaaZJ
namespace Go.Proofs.Ytmpppocmbdainaa

/-- one pair that holds all others: how brackets are counted over it, and how depths are -/
def OneV (x : List UInt8) : Prop := ∀ o : Nat, x.foldl vstep (some o) = some o
def OneD (x : List UInt8) : Prop := ∀ (R : List (List Nat)) (O : List Nat), ∃ (q : List Nat) (Q : List (List Nat)), x.foldl stepOP (R, O) = (R ++ q :: Q, O) ∧ q.length = O.length ∧ ∀ z ∈ Q, O.length < z.length
/-- several of them beside each other -/
theorem flat_V {L : List (List UInt8)} (h : ∀ x ∈ L, OneV x) : OneV L.flatten := by
  induction L with
  | nil => intro o; rfl
  | cons a r ih =>
    intro o
    rw [List.flatten_cons, List.foldl_append, h a (by simp) o]
    exact ih (fun x hx => h x (List.mem_cons_of_mem _ hx)) o
theorem flat_D {L : List (List UInt8)} (h : ∀ x ∈ L, OneD x) : ∀ (R : List (List Nat)) (O : List Nat), ∃ Q : List (List Nat), L.flatten.foldl stepOP (R, O) = (R ++ Q, O) ∧ (∀ z ∈ Q, O.length ≤ z.length) ∧ Q.countP (fun z => decide (z.length = O.length)) = L.length ∧ (∀ q, Q[0]? = some q → q.length = O.length) := by
  induction L with
  | nil => intro R O; exact ⟨[], by simp, by simp, rfl, by simp⟩
  | cons a r ih =>
    intro R O
    obtain ⟨q, Q, h1, h2, h3⟩ := h a (by simp) R O
    obtain ⟨Q2, k1, k2, k3, _⟩ := ih (fun x hx => h x (List.mem_cons_of_mem _ hx)) (R ++ q :: Q) O
    refine ⟨q :: Q ++ Q2, ?_, ?_, ?_, ?_⟩
    · rw [List.flatten_cons, List.foldl_append, h1, k1, List.append_assoc]
    · intro z hz
      rcases List.mem_append.1 hz with hz | hz
      · rcases List.mem_cons.1 hz with e | hz
        · rw [e, h2]; exact Nat.le_refl _
        · exact Nat.le_of_lt (h3 z hz)
      · exact k2 z hz
    · rw [List.countP_append, k3, List.countP_cons, h2]
      have : Q.countP (fun z => decide (z.length = O.length)) = 0 := by
        rw [List.countP_eq_zero]
        intro z hz
        have := h3 z hz
        simp; omega
      rw [this]; simp; omega
    · intro z hz
      simp at hz
      rw [← hz]; exact h2
theorem pair_V {s : List UInt8} (h : OneV s) : OneV (40 :: (s ++ [41])) := by
  intro o
  rw [List.foldl_cons, List.foldl_append]
  have e1 : vstep (some o) 40 = some (o + 1) := rfl
  rw [e1, h (o + 1)]
  rfl
theorem txt_V {E : Edges} : ∀ (d v : Nat) (fr : Int), OneV (txt E d v fr) := by
  intro d
  induction d with
  | zero => intro v fr o; rfl
  | succ d ih =>
    intro v fr
    rw [txt]
    refine pair_V (flat_V fun x hx => ?_)
    rw [(srtT_perm _).mem_iff] at hx
    obtain ⟨y, _, rfl⟩ := List.mem_map.1 hx
    exact ih y v
theorem pair_fold (s : List UInt8) (R : List (List Nat)) (O : List Nat) {Q : List (List Nat)} (h : s.foldl stepOP (R ++ [O], O ++ [R.length]) = (R ++ [O] ++ Q, O ++ [R.length])) : (40 :: (s ++ [41])).foldl stepOP (R, O) = (R ++ O :: Q, O) := by
  rw [List.foldl_cons, List.foldl_append]
  have e1 : stepOP (R, O) 40 = (R ++ [O], O ++ [R.length]) := rfl
  rw [e1, h]
  show stepOP _ 41 = _
  unfold stepOP
  rw [if_pos (by decide)]
  simp
theorem txt_D {E : Edges} : ∀ (d v : Nat) (fr : Int), Brn E d v fr → OneD (txt E d v fr) := by
  intro d
  induction d with
  | zero => intro v fr h; exact h.elim
  | succ d ih =>
    intro v fr hB R O
    rw [txt]
    have hL : ∀ x ∈ srtT ((away E v fr).map fun x => txt E d x v), OneD x := by
      intro x hx
      rw [(srtT_perm _).mem_iff] at hx
      obtain ⟨y, hy, rfl⟩ := List.mem_map.1 hx
      exact ih y v (hB y hy)
    obtain ⟨Q, h1, h2, _, _⟩ := flat_D hL (R ++ [O]) (O ++ [R.length])
    refine ⟨O, Q, pair_fold _ R O h1, rfl, fun z hz => ?_⟩
    have := h2 z hz
    rw [List.length_append, List.length_singleton] at this
    omega
/-- the depths of a text seen from a node: none first, then one at each neighbour, the first of them at once -/
theorem txt_depths {E : Edges} {d v : Nat} {fr : Int} (hB : Brn E (d + 1) v fr) : ∃ D : List Nat, depthsL (txt E (d + 1) v fr) = (0 : Int) :: D.map (fun (k : Nat) => (k : Int)) ∧ D.countP (fun k => decide (k = 1)) = (away E v fr).length ∧ (∀ k, D[0]? = some k → k = 1) ∧ (∀ k ∈ D, 1 ≤ k) := by
  have hL : ∀ x ∈ srtT ((away E v fr).map fun x => txt E d x v), OneD x := by
    intro x hx
    rw [(srtT_perm _).mem_iff] at hx
    obtain ⟨y, hy, rfl⟩ := List.mem_map.1 hx
    exact txt_D d y v (hB y hy)
  obtain ⟨Q, h1, h2, h3, h4⟩ := flat_D hL ([] ++ [[]]) ([] ++ [0])
  refine ⟨Q.map List.length, ?_, ?_, ?_, ?_⟩
  · unfold depthsL openP
    rw [txt, pair_fold _ [] [] h1]
    simp
  · rw [srtT_len, List.length_map] at h3
    rw [← h3, List.countP_map]; rfl
  · intro k hk
    rw [List.getElem?_map] at hk
    cases hq : Q[0]? with
    | none => rw [hq] at hk; simp at hk
    | some q =>
      rw [hq] at hk
      simp at hk
      rw [← hk, h4 q hq]; rfl
  · intro k hk
    obtain ⟨z, hz, rfl⟩ := List.mem_map.1 hk
    exact h2 z hz
theorem nb_deg {E : Edges} (ho : ∀ e ∈ E, e.1 < e.2) (v : Nat) : (nb E v).length = deg E v := by
  unfold nb deg
  induction E with
  | nil => rfl
  | cons e r ih =>
    rw [List.flatMap_cons, List.length_append, ih (fun x hx => ho x (List.mem_cons_of_mem _ hx)), List.map_cons, List.sum_cons]
    congr 1
    have := ho e (by simp)
    unfold nb1 deg1
    by_cases h1 : e.1 = v
    · have h2 : ¬ e.2 = v := by omega
      simp [h1, h2]
    · by_cases h2 : e.2 = v
      · simp [h1, h2]
      · simp [h1, h2]
theorem away_all (E : Edges) (v : Nat) : away E v (-1) = nb E v := by
  unfold away
  rw [List.filter_eq_self]
  intro x _
  simp
end Go.Proofs.Ytmpppocmbdainaa

namespace Go.Proofs.Ytmpppocmbdainaa

/-- a text whose depths reach so far, and no farther -/
def DeepT (x : List UInt8) (h : Nat) : Prop := ∀ (R : List (List Nat)) (O : List Nat), ∃ Q : List (List Nat), x.foldl stepOP (R, O) = (R ++ Q, O) ∧ (∀ z ∈ Q, z.length ≤ O.length + h) ∧ ∃ z ∈ Q, z.length = O.length + h
theorem flat_deep {L : List (List UInt8)} {H : Nat} (h : ∀ x ∈ L, ∃ k, k ≤ H ∧ DeepT x k) : ∀ (R : List (List Nat)) (O : List Nat), ∃ Q : List (List Nat), L.flatten.foldl stepOP (R, O) = (R ++ Q, O) ∧ (∀ z ∈ Q, z.length ≤ O.length + H) ∧ ((∃ x ∈ L, DeepT x H) → ∃ z ∈ Q, z.length = O.length + H) := by
  induction L with
  | nil => intro R O; exact ⟨[], by simp, by simp, fun ⟨x, hx, _⟩ => by simp at hx⟩
  | cons a r ih =>
    intro R O
    by_cases ha : DeepT a H
    · obtain ⟨Q, h1, h2, z, hz, hzl⟩ := ha R O
      obtain ⟨Q2, k1, k2, _⟩ := ih (fun x hx => h x (List.mem_cons_of_mem _ hx)) (R ++ Q) O
      refine ⟨Q ++ Q2, by rw [List.flatten_cons, List.foldl_append, h1, k1, List.append_assoc], ?_, fun _ => ⟨z, List.mem_append_left _ hz, hzl⟩⟩
      intro y hy
      rcases List.mem_append.1 hy with hy | hy
      · exact h2 y hy
      · exact k2 y hy
    · obtain ⟨k, hk, hd⟩ := h a (by simp)
      obtain ⟨Q, h1, h2, _⟩ := hd R O
      obtain ⟨Q2, k1, k2, k3⟩ := ih (fun x hx => h x (List.mem_cons_of_mem _ hx)) (R ++ Q) O
      refine ⟨Q ++ Q2, by rw [List.flatten_cons, List.foldl_append, h1, k1, List.append_assoc], ?_, ?_⟩
      · intro y hy
        rcases List.mem_append.1 hy with hy | hy
        · have := h2 y hy; omega
        · exact k2 y hy
      · rintro ⟨x, hx, hxd⟩
        rcases List.mem_cons.1 hx with e | hx
        · rw [e] at hxd; exact absurd hxd ha
        · obtain ⟨z, hz, hzl⟩ := k3 ⟨x, hx, hxd⟩
          exact ⟨z, List.mem_append_right _ hz, hzl⟩
theorem fold_get {α : Type} (f : α → Nat) : ∀ (L : List α) (m : Nat), L.foldl (fun m x => max m (f x)) m = m ∨ ∃ x ∈ L, L.foldl (fun m x => max m (f x)) m = f x
  | [], m => .inl rfl
  | a :: r, m => by
    rw [List.foldl_cons]
    rcases fold_get f r (max m (f a)) with h | ⟨x, hx, h⟩
    · rcases Nat.le_total m (f a) with k | k
      · exact .inr ⟨a, by simp, by rw [h]; omega⟩
      · exact .inl (by rw [h]; omega)
    · exact .inr ⟨x, List.mem_cons_of_mem _ hx, h⟩
theorem txt_deep {E : Edges} : ∀ (d v : Nat) (fr : Int), Brn E d v fr → DeepT (txt E d v fr) (far E d v fr) := by
  intro d
  induction d with
  | zero => intro v fr h; exact h.elim
  | succ d ih =>
    intro v fr hB R O
    rw [txt]
    by_cases he : away E v fr = []
    · rw [he]
      refine ⟨[O], ?_, ?_, O, by simp, ?_⟩
      · have := pair_fold [] R O (Q := []) (by simp)
        simpa [srtT] using this
      · intro z hz; simp at hz; rw [hz]; omega
      · rw [far, he]; rfl
    · obtain ⟨H, hH⟩ : ∃ H, far E (d + 1) v fr = 1 + H ∧ (∀ x ∈ away E v fr, far E d x v ≤ H) ∧ ∃ x ∈ away E v fr, far E d x v = H := by
        have hf : far E (d + 1) v fr = (away E v fr).foldl (fun m x => max m (1 + far E d x v)) 0 := rfl
        have hle := (fold_max (fun x => 1 + far E d x v) (away E v fr) 0 (far E (d + 1) v fr)).1 (Nat.le_of_eq hf.symm)
        rcases fold_get (fun x => 1 + far E d x v) (away E v fr) 0 with h | ⟨x, hx, h⟩
        · exfalso
          cases hA : away E v fr with
          | nil => exact he hA
          | cons a r =>
            have := hle.2 a (by rw [hA]; simp)
            rw [hf, h] at this
            omega
        · refine ⟨far E d x v, by rw [hf, h], fun y hy => ?_, x, hx, rfl⟩
          have := hle.2 y hy
          rw [hf, h] at this
          omega
      obtain ⟨h1, h2, x, hx, hxe⟩ := hH
      have hL : ∀ t ∈ srtT ((away E v fr).map fun x => txt E d x v), ∃ k, k ≤ H ∧ DeepT t k := by
        intro t ht
        rw [(srtT_perm _).mem_iff] at ht
        obtain ⟨y, hy, rfl⟩ := List.mem_map.1 ht
        exact ⟨_, h2 y hy, ih y v (hB y hy)⟩
      obtain ⟨Q, q1, q2, q3⟩ := flat_deep hL (R ++ [O]) (O ++ [R.length])
      obtain ⟨z, hz, hzl⟩ := q3 ⟨txt E d x v, by rw [(srtT_perm _).mem_iff]; exact List.mem_map.2 ⟨x, hx, rfl⟩, by rw [← hxe]; exact ih x v (hB x hx)⟩
      refine ⟨O :: Q, pair_fold _ R O q1, ?_, z, List.mem_cons_of_mem _ hz, ?_⟩
      · intro y hy
        rcases List.mem_cons.1 hy with e | hy
        · rw [e]; omega
        · have := q2 y hy
          rw [List.length_append, List.length_singleton] at this
          rw [h1]; omega
      · rw [hzl, h1, List.length_append, List.length_singleton]; omega
/-- all depths of the text are at most the longest way, and one is -/
theorem depths_far {E : Edges} {d v : Nat} {fr : Int} (hB : Brn E d v fr) : (∀ k ∈ depthsL (txt E d v fr), 0 ≤ k ∧ k ≤ (far E d v fr : Int)) ∧ (far E d v fr : Int) ∈ depthsL (txt E d v fr) := by
  obtain ⟨Q, h1, h2, z, hz, hzl⟩ := txt_deep d v fr hB [] []
  have hd : depthsL (txt E d v fr) = Q.map fun r => (r.length : Int) := by
    unfold depthsL openP
    rw [h1]; simp
  rw [hd]
  refine ⟨fun k hk => ?_, List.mem_map.2 ⟨z, hz, by rw [hzl]; simp⟩⟩
  obtain ⟨y, hy, rfl⟩ := List.mem_map.1 hk
  have := h2 y hy
  simp at this
  omega
end Go.Proofs.Ytmpppocmbdainaa
