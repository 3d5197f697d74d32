/-
  Plain facts on the program's ways to the spans of a web: parts that edges join, and sets of edges without a ring. Nothing of the program is named here.
-/
import Derived.Test.YtfdalmeimhcdjaaWSpanD
namespace Go.Proofs.Ytfdalmeimhcdjaa

/-- parts after an edge has joined those of its nodes -/
def joinP (p : Nat → Nat) (e : Nat × Nat) : Nat → Nat := fun v => if p v = p e.2 then p e.1 else p v
/-- how many spans, edge by edge, over parts -/
def cutP : Nat → (Nat → Nat) → Edges → Nat
  | c, _, [] => if c = 1 then 1 else 0
  | c, p, e :: r => cutP c p r + if p e.1 = p e.2 then 0 else cutP (c - 1) (joinP p e) r
/-- no edge of it closes a ring -/
def freeP : (Nat → Nat) → Edges → Bool
  | _, [] => true
  | p, e :: r => !decide (p e.1 = p e.2) && freeP (joinP p e) r
/-- labels that tell parts apart -/
def Lab (n : Nat) (p lab : Nat → Nat) : Prop := ∀ u v, u < n → v < n → (p u = p v ↔ lab u = lab v)
theorem phi_all {a b s t : Nat} (hab : a < b) : phi a b s = phi a b t ↔ s = t ∨ (s = a ∧ t = b) ∨ (s = b ∧ t = a) := by
  constructor
  · exact phi_inj hab
  · unfold phi
    rintro (rfl | ⟨rfl, rfl⟩ | ⟨rfl, rfl⟩)
    · rfl
    · rw [if_neg (by omega), if_neg (by omega), if_pos rfl]
    · rw [if_pos rfl, if_neg (by omega), if_neg (by omega)]
theorem lab_join {n : Nat} {p lab : Nat → Nat} {e : Nat × Nat} (h : Lab n p lab) (he : e.1 < n ∧ e.2 < n) (hne : lab e.1 ≠ lab e.2) :
    Lab n (joinP p e) (fun v => phi (min (lab e.1) (lab e.2)) (max (lab e.1) (lab e.2)) (lab v)) := by
  intro u v hu hv
  have e1 := h u e.2 hu he.2
  have e2 := h v e.2 hv he.2
  have e3 := h u e.1 hu he.1
  have e4 := h v e.1 hv he.1
  have e5 := h u v hu hv
  show joinP p e u = joinP p e v ↔ phi _ _ (lab u) = phi _ _ (lab v)
  rw [phi_all (by omega)]
  unfold joinP
  by_cases h1 : p u = p e.2
  · rw [if_pos h1]
    by_cases h2 : p v = p e.2
    · rw [if_pos h2]; omega
    · rw [if_neg h2]; omega
  · rw [if_neg h1]
    by_cases h2 : p v = p e.2
    · rw [if_pos h2]; omega
    · rw [if_neg h2]; omega
def labE (lab : Nat → Nat) (e : Nat × Nat) : Nat × Nat := (lab e.1, lab e.2)
theorem labE_join (lab : Nat → Nat) (a b : Nat) (r : Edges) : (r.map (labE lab)).map (joinE a b) = r.map (labE fun v => phi a b (lab v)) := by
  rw [List.map_map]; rfl
/-- cutting over parts counts as cutting does -/
theorem cutP_cut {n : Nat} : ∀ (E : Edges) (f c : Nat) (p lab : Nat → Nat), Lab n p lab → (∀ v, v < n → lab v < c) → (∀ e ∈ E, e.1 < n ∧ e.2 < n) → E.length ≤ f → cutP c p E = cutF f c (E.map (labE lab))
  | [], f, c, p, lab, _, _, _, _ => by
    rw [cutP, List.map_nil]
    by_cases hc : c = 1
    · subst hc; rw [cutF_one]; rfl
    · rw [if_neg hc, cutF_nil _ _ hc]
  | e :: r, 0, c, p, lab, _, _, _, hf => by simp at hf
  | e :: r, f + 1, c, p, lab, hl, hlt, hE, hf => by
    simp only [List.length_cons] at hf
    have hr : ∀ x ∈ r, x.1 < n ∧ x.2 < n := fun x hx => hE x (by simp [hx])
    obtain ⟨l1, l2⟩ := hE e (by simp)
    have i1 := cutP_cut r f c p lab hl hlt hr (by omega)
    have hpe := hl e.1 e.2 l1 l2
    have b1 := hlt e.1 l1
    have b2 := hlt e.2 l2
    rw [cutP]
    by_cases hc : c = 1
    · subst hc
      rw [cutF_one] at i1 ⊢
      rw [i1, if_pos (hpe.2 (by omega))]
    · rw [List.map_cons]
      by_cases he : lab e.1 = lab e.2
      · rw [if_pos (hpe.2 he), cutF_loop hc (by exact he), i1]; rfl
      · rw [if_neg (fun h => he (hpe.1 h)), cutF_edge hc (by exact he), i1]
        congr 1
        show _ = cutF f (c - 1) ((r.map (labE lab)).map (joinE (min (lab e.1) (lab e.2)) (max (lab e.1) (lab e.2))))
        rw [labE_join]
        exact cutP_cut r f (c - 1) _ _ (lab_join hl ⟨l1, l2⟩ he) (fun v hv => join_lt (by omega) (by omega) (hlt v hv)) hr (by omega)
/-- a set of edges without a ring, one fewer than parts, joins all -/
theorem free_span {n : Nat} : ∀ (F : Edges) (c : Nat) (p lab : Nat → Nat), Lab n p lab → (∀ v, v < n → lab v < c) → (∀ e ∈ F, e.1 < n ∧ e.2 < n) → F.length + 1 = c → (freeP p F = true ↔ Span c (F.map (labE lab)))
  | [], c, p, lab, _, _, _, hc => by
    subst hc
    rw [freeP]
    refine ⟨fun _ => ⟨rfl, fun v hv => ?_⟩, fun _ => rfl⟩
    obtain rfl : v = 0 := by simp at hv; exact hv
    exact .refl _
  | e :: r, c, p, lab, hl, hlt, hF, hc => by
    simp only [List.length_cons] at hc
    have hr : ∀ x ∈ r, x.1 < n ∧ x.2 < n := fun x hx => hF x (by simp [hx])
    obtain ⟨l1, l2⟩ := hF e (by simp)
    have hpe := hl e.1 e.2 l1 l2
    have b1 := hlt e.1 l1
    have b2 := hlt e.2 l2
    rw [freeP, List.map_cons]
    by_cases he : lab e.1 = lab e.2
    · rw [decide_eq_true (hpe.2 he)]
      refine ⟨fun h => by simp at h, fun h => absurd h (span_loop (by exact he) fun x hx => ?_)⟩
      obtain ⟨y, hy, rfl⟩ := List.mem_map.1 hx
      exact ⟨hlt _ (hr y hy).1, hlt _ (hr y hy).2⟩
    · rw [decide_eq_false (fun h => he (hpe.1 h))]
      rw [span_edge (n := c) (e := labE lab e) (by exact he) ⟨b1, b2⟩]
      show (true && freeP (joinP p e) r) = true ↔ Span (c - 1) ((r.map (labE lab)).map (joinE (min (lab e.1) (lab e.2)) (max (lab e.1) (lab e.2))))
      rw [labE_join, Bool.true_and]
      exact free_span r (c - 1) _ _ (lab_join hl ⟨l1, l2⟩ he) (fun v hv => join_lt (by omega) (by omega) (hlt v hv)) hr (by omega)
theorem lab_id (n : Nat) : Lab n (fun v => v) (fun v => v) := fun _ _ _ _ => Iff.rfl
theorem map_labE (E : Edges) : E.map (labE fun v => v) = E := by
  have : labE (fun v => v) = id := rfl
  rw [this, List.map_id]
theorem reach_norm (F : Edges) (u v : Nat) : Reach (F.map norm) u v ↔ Reach F u v := by
  constructor
  · intro h
    induction h with
    | refl => exact .refl _
    | step p q _ hpq ih =>
      refine .step _ _ _ ih ?_
      have key : ∀ x y, (x, y) ∈ F.map norm → (x, y) ∈ F ∨ (y, x) ∈ F := fun x y hm => by
        obtain ⟨⟨a, b⟩, hz, he⟩ := List.mem_map.1 hm
        rcases norm_cases (a, b) with h1 | h1
        · rw [h1] at he; cases he; exact .inl hz
        · rw [h1] at he; cases he; exact .inr hz
      rcases hpq with h | h
      · exact key _ _ h
      · exact (key _ _ h).symm
  · intro h
    induction h with
    | refl => exact .refl _
    | step p q _ hpq ih =>
      refine .step _ _ _ ih ?_
      have key : ∀ x y, (x, y) ∈ F → (x, y) ∈ F.map norm ∨ (y, x) ∈ F.map norm := fun x y hm => by
        rcases norm_cases (x, y) with h1 | h1
        · exact .inl (List.mem_map.2 ⟨_, hm, h1⟩)
        · exact .inr (List.mem_map.2 ⟨_, hm, h1⟩)
      rcases hpq with h | h
      · exact key _ _ h
      · exact (key _ _ h).symm
theorem norm_lt {n : Nat} {E : Edges} (hE : ∀ e ∈ E, e.1 < n ∧ e.2 < n) : ∀ e ∈ E.map norm, e.1 < n ∧ e.2 < n := by
  intro e he
  obtain ⟨x, hx, rfl⟩ := List.mem_map.1 he
  have := hE x hx
  unfold norm
  simp only
  omega
theorem span_norm {n : Nat} {F : Edges} : Span n (F.map norm) ↔ Span n F := by
  unfold Span
  rw [List.length_map]
  exact and_congr Iff.rfl (forall_congr' fun v => imp_congr Iff.rfl (reach_norm F 0 v))
theorem spans_norm {n : Nat} {E : Edges} (h1 : 1 ≤ n) (hE : ∀ e ∈ E, e.1 < n ∧ e.2 < n) : spansN n (E.map norm) = spansN n E := by
  unfold spansN
  rw [List.length_map]
  refine List.filter_congr fun s _ => ?_
  rw [Bool.eq_iff_iff, spanB_iff h1 (fun x hx => norm_lt hE x (pickE_mem _ _ _ hx)), spanB_iff h1 (fun x hx => hE x (pickE_mem _ _ _ hx)), pickE_map]
  exact span_norm
/-- the program's cutting counts the spans -/
theorem cutP_spans {n : Nat} {E : Edges} (h1 : 1 ≤ n) (hE : ∀ e ∈ E, e.1 < n ∧ e.2 < n) : cutP n (fun v => v) (E.map norm) = (spansN n E).length := by
  rw [cutP_cut (E.map norm) (E.map norm).length n _ _ (lab_id n) (fun v hv => hv) (norm_lt hE) (Nat.le_refl _), map_labE, cut_count _ n _ (Nat.le_refl _) h1 (norm_lt hE), spans_norm h1 hE]
/-- the program's sets are the spans -/
theorem free_spans {n : Nat} {E : Edges} (h1 : 1 ≤ n) (hE : ∀ e ∈ E, e.1 < n ∧ e.2 < n) : ((List.range (2 ^ E.length)).filter fun s => decide (sumTo (bitD s) E.length + 1 = n) && freeP (fun v => v) (pickE (E.map norm) s)) = spansN n E := by
  rw [← spans_norm h1 hE]
  unfold spansN
  rw [List.length_map]
  refine List.filter_congr fun s _ => ?_
  have hl : (pickE (E.map norm) s).length = sumTo (bitD s) E.length := by
    have := bits_len (E.map norm) s (E.map norm).length (Nat.le_refl _)
    rwa [List.take_length, List.length_map] at this
  have hp : ∀ x ∈ pickE (E.map norm) s, x.1 < n ∧ x.2 < n := fun x hx => norm_lt hE x (pickE_mem _ _ _ hx)
  rw [Bool.eq_iff_iff, spanB_iff h1 hp, ← hl, Bool.and_eq_true, decide_eq_true_iff]
  constructor
  · rintro ⟨h2, h3⟩
    have := (free_span _ n _ _ (lab_id n) (fun v hv => hv) hp h2).1 h3
    rwa [map_labE] at this
  · intro h
    refine ⟨h.1, (free_span _ n _ _ (lab_id n) (fun v hv => hv) hp h.1).2 ?_⟩
    rwa [map_labE]
end Go.Proofs.Ytfdalmeimhcdjaa
