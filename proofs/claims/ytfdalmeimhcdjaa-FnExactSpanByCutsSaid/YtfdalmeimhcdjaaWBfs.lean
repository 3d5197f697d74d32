/-
  Plain facts: the nodes that are reached, found one behind the other; rows of numbers that are a tree. Nothing of the program is named here.
-/
import Derived.Test.YtfdalmeimhcdjaaWTreeC
namespace Go.Proofs.Ytfdalmeimhcdjaa

def side1 (x : Nat) (out : List Nat) (e : Nat × Nat) : List Nat := if e.1 = x ∧ e.2 ∉ out then out ++ [e.2] else out
def side2 (x : Nat) (out : List Nat) (e : Nat × Nat) : List Nat := if e.2 = x ∧ e.1 ∉ out then out ++ [e.1] else out
def bstepE (x : Nat) (out : List Nat) (e : Nat × Nat) : List Nat := side2 x (side1 x out e) e
def roundB (E : Edges) (x : Nat) (out : List Nat) : List Nat := E.foldl (bstepE x) out
def bfs (E : Edges) : Nat → Nat → List Nat → List Nat
  | 0, _, out => out
  | f + 1, i, out => if i < out.length then bfs E f (i + 1) (roundB E (out.getD i 0) out) else out
def reachedN (n : Nat) (E : Edges) : List Nat := bfs E (n + 1) 0 [0]

theorem side1_pre (x : Nat) (out : List Nat) (e : Nat × Nat) : out <+: side1 x out e := by
  unfold side1; split
  · exact List.prefix_append _ _
  · exact List.prefix_refl _
theorem side2_pre (x : Nat) (out : List Nat) (e : Nat × Nat) : out <+: side2 x out e := by
  unfold side2; split
  · exact List.prefix_append _ _
  · exact List.prefix_refl _
theorem step_pre (x : Nat) (out : List Nat) (e : Nat × Nat) : out <+: bstepE x out e := (side1_pre x out e).trans (side2_pre x _ e)
theorem round_pre (E : Edges) (x : Nat) : ∀ out, out <+: roundB E x out := by
  induction E with
  | nil => intro out; exact List.prefix_refl _
  | cons e r ih => intro out; exact (step_pre x out e).trans (ih _)
/-- what every step keeps: no node twice, each one reached, none too great -/
structure BInv (n : Nat) (E : Edges) (out : List Nat) : Prop where
  nd : out.Nodup
  rch : ∀ v ∈ out, Reach E 0 v
  lt : ∀ v ∈ out, v < n
theorem binv_add {n : Nat} {E : Edges} {out : List Nat} (h : BInv n E out) {x y : Nat} (hx : x ∈ out) (hy : y ∉ out) (hyn : y < n) (he : (x, y) ∈ E ∨ (y, x) ∈ E) : BInv n E (out ++ [y]) := by
  refine ⟨?_, fun v hv => ?_, fun v hv => ?_⟩
  · rw [List.nodup_append]
    refine ⟨h.nd, by simp, fun a ha b hb => ?_⟩
    simp only [List.mem_singleton] at hb
    rintro rfl
    rw [hb] at ha; exact hy ha
  · rcases List.mem_append.1 hv with hv | hv
    · exact h.rch v hv
    · simp only [List.mem_singleton] at hv
      rw [hv]
      exact .step _ _ _ (h.rch x hx) he
  · rcases List.mem_append.1 hv with hv | hv
    · exact h.lt v hv
    · simp only [List.mem_singleton] at hv; rw [hv]; exact hyn
theorem binv_step {n : Nat} {E : Edges} (hE : ∀ e ∈ E, e.1 < n ∧ e.2 < n) {out : List Nat} (h : BInv n E out) {x : Nat} (hx : x ∈ out) {e : Nat × Nat} (he : e ∈ E) : BInv n E (bstepE x out e) ∧ (∀ y, (e = (x, y) ∨ e = (y, x)) → y ∈ bstepE x out e) := by
  have h1 : BInv n E (side1 x out e) ∧ (e.1 = x → e.2 ∈ side1 x out e) := by
    unfold side1
    split
    · rename_i hc
      exact ⟨binv_add h hx hc.2 (hE e he).2 (.inl (by rw [← hc.1]; exact he)), fun _ => by simp⟩
    · rename_i hc
      refine ⟨h, fun hh => Classical.byContradiction fun hn => hc ⟨hh, hn⟩⟩
  have hx1 : x ∈ side1 x out e := (side1_pre x out e).subset hx
  have h2 : BInv n E (bstepE x out e) ∧ (e.2 = x → e.1 ∈ bstepE x out e) := by
    unfold bstepE side2
    split
    · rename_i hc
      exact ⟨binv_add h1.1 hx1 hc.2 (hE e he).1 (.inr (by rw [← hc.1]; exact he)), fun _ => by simp⟩
    · rename_i hc
      refine ⟨h1.1, fun hh => Classical.byContradiction fun hn => hc ⟨hh, hn⟩⟩
  refine ⟨h2.1, fun y hy => ?_⟩
  rcases hy with rfl | rfl
  · exact (side2_pre x _ _).subset (h1.2 rfl)
  · exact h2.2 rfl
theorem binv_round {n : Nat} {E : Edges} (hE : ∀ e ∈ E, e.1 < n ∧ e.2 < n) {x : Nat} : ∀ (L : Edges), (∀ e ∈ L, e ∈ E) → ∀ out, BInv n E out → x ∈ out → BInv n E (roundB L x out) ∧ ∀ y, ((x, y) ∈ L ∨ (y, x) ∈ L) → y ∈ roundB L x out := by
  intro L
  induction L with
  | nil => intro _ out h _; exact ⟨h, fun y hy => by simp at hy⟩
  | cons e r ih =>
    intro hL out h hx
    obtain ⟨s1, s2⟩ := binv_step hE h hx (hL e (by simp))
    obtain ⟨i1, i2⟩ := ih (fun z hz => hL z (List.mem_cons_of_mem _ hz)) _ s1 ((step_pre x out e).subset hx)
    refine ⟨i1, fun y hy => ?_⟩
    have hc : (e = (x, y) ∨ e = (y, x)) ∨ ((x, y) ∈ r ∨ (y, x) ∈ r) := by
      rcases hy with hy | hy <;> rcases List.mem_cons.1 hy with hy | hy
      · exact .inl (.inl hy.symm)
      · exact .inr (.inl hy)
      · exact .inl (.inr hy.symm)
      · exact .inr (.inr hy)
    rcases hc with hc | hc
    · exact (round_pre r x _).subset (s2 y hc)
    · exact i2 y hc
theorem binv_len {n : Nat} {E : Edges} {out : List Nat} (h : BInv n E out) : out.length ≤ n := by
  have := List.Nodup.length_le_of_subset (l₂ := List.range n) h.nd fun v hv => List.mem_range.2 (h.lt v hv)
  rwa [List.length_range] at this
theorem bfs_inv {n : Nat} {E : Edges} (hE : ∀ e ∈ E, e.1 < n ∧ e.2 < n) : ∀ (f i : Nat) (out : List Nat), BInv n E out → 0 ∈ out → (∀ j (_ : j < i) (hj : j < out.length) y, ((out[j], y) ∈ E ∨ (y, out[j]) ∈ E) → y ∈ out) → n < f + i →
    BInv n E (bfs E f i out) ∧ 0 ∈ bfs E f i out ∧ ∀ x ∈ bfs E f i out, ∀ y, ((x, y) ∈ E ∨ (y, x) ∈ E) → y ∈ bfs E f i out := by
  intro f
  induction f with
  | zero =>
    intro i out h h0 hc hf
    refine ⟨h, h0, fun x hx y hy => ?_⟩
    obtain ⟨j, hj, rfl⟩ := List.getElem_of_mem hx
    have hj' : j < out.length := hj
    have := binv_len h
    exact hc j (by omega) hj' y hy
  | succ f ih =>
    intro i out h h0 hc hf
    rw [bfs]
    split
    · rename_i hi
      have hx : out.getD i 0 ∈ out := by
        rw [List.getD_eq_getElem?_getD, List.getElem?_eq_getElem hi]
        exact List.getElem_mem hi
      obtain ⟨r1, r2⟩ := binv_round hE E (fun _ h => h) out h hx
      have hpre := round_pre E (out.getD i 0) out
      refine ih (i + 1) _ r1 (hpre.subset h0) (fun j hj hjl y hy => ?_) (by omega)
      have hjo : j < out.length := by omega
      have e1 : (roundB E (out.getD i 0) out)[j] = out[j] := (List.IsPrefix.getElem hpre hjo).symm
      rw [e1] at hy
      by_cases hji : j = i
      · subst hji
        have e2 : out.getD j 0 = out[j] := by rw [List.getD_eq_getElem?_getD, List.getElem?_eq_getElem hjo]; rfl
        rw [e2] at r2 ⊢
        exact r2 y hy
      · exact hpre.subset (hc j (by omega) hjo y hy)
    · rename_i hi
      refine ⟨h, h0, fun x hx y hy => ?_⟩
      obtain ⟨j, hj, rfl⟩ := List.getElem_of_mem hx
      exact hc j (by omega) hj y hy
theorem reachedN_iff {n : Nat} {E : Edges} (hn : 0 < n) (hE : ∀ e ∈ E, e.1 < n ∧ e.2 < n) : (reachedN n E).length = n ↔ ∀ v, v < n → Reach E 0 v := by
  have h0 : BInv n E [0] := ⟨by simp, fun v hv => by simp at hv; rw [hv]; exact .refl _, fun v hv => by simp at hv; omega⟩
  obtain ⟨b1, b2, b3⟩ := bfs_inv hE (n + 1) 0 [0] h0 (by simp) (fun j hj => absurd hj (by omega)) (by omega)
  show (bfs E (n + 1) 0 [0]).length = n ↔ _
  constructor
  · intro hl v hv
    refine b1.rch v ?_
    apply Classical.byContradiction
    intro hno
    have hsub : ∀ x ∈ v :: bfs E (n + 1) 0 [0], x ∈ List.range n := fun x hx => by
      rcases List.mem_cons.1 hx with rfl | hx
      · exact List.mem_range.2 hv
      · exact List.mem_range.2 (b1.lt x hx)
    have := List.Nodup.length_le_of_subset (List.nodup_cons.2 ⟨hno, b1.nd⟩) hsub
    rw [List.length_range, List.length_cons] at this
    omega
  · intro hall
    have hmem : ∀ v, Reach E 0 v → v ∈ bfs E (n + 1) 0 [0] := by
      have key : ∀ z v, Reach E z v → z ∈ bfs E (n + 1) 0 [0] → v ∈ bfs E (n + 1) 0 [0] := by
        intro z v hv hz
        induction hv with
        | refl => exact hz
        | step p q hp he ih => exact b3 _ ih _ he
      exact fun v hv => key 0 v hv b2
    have h1 := List.Nodup.length_le_of_subset (List.nodup_range (n := n)) fun v hv => hmem v (hall v (List.mem_range.1 hv))
    rw [List.length_range] at h1
    have := binv_len b1
    omega
theorem bfs_len {n : Nat} {E : Edges} (hn : 0 < n) (hE : ∀ e ∈ E, e.1 < n ∧ e.2 < n) : (reachedN n E).length ≤ n := by
  have h0 : BInv n E [0] := ⟨by simp, fun v hv => by simp at hv; rw [hv]; exact .refl _, fun v hv => by simp at hv; omega⟩
  exact binv_len (bfs_inv hE (n + 1) 0 [0] h0 (by simp) (fun j hj => absurd hj (by omega)) (by omega)).1

/-! ### rows of numbers -/
def rowsE (E : Edges) : List (List Int) := E.map fun e => [(e.1 : Int), (e.2 : Int)]
def edgesR (rows : List (List Int)) : Edges := rows.map fun r => ((r.getD 0 0).toNat, (r.getD 1 0).toNat)
theorem edges_rows (E : Edges) : edgesR (rowsE E) = E := by
  unfold edgesR rowsE
  rw [List.map_map]
  exact (List.map_congr_left fun e _ => by simp).trans (List.map_id _)
/-- a row is two nodes, the lesser one first, behind the row ahead of it -/
def okRow (n : Int) (r : List Int) : Bool := match r with
  | [a, b] => decide (0 ≤ a) && decide (a + 1 ≤ b) && decide (b ≤ n - 1)
  | _ => false
def okNext (p r : List Int) : Bool := match p, r with
  | [a, b], [c, d] => decide (a < c) || (decide (a = c) && decide (b < d))
  | _, _ => false
def okAt (n : Int) (rows : List (List Int)) (i : Nat) : Bool := okRow n (rows.getD i []) && (decide (i = 0) || okNext (rows.getD (i - 1) []) (rows.getD i []))
def okUp (n : Int) (rows : List (List Int)) (k : Nat) : Bool := (List.range k).all (okAt n rows)
theorem okUp_step (n : Int) (rows : List (List Int)) (k : Nat) : okUp n rows (k + 1) = (okUp n rows k && okAt n rows k) := by
  unfold okUp
  rw [List.range_succ, List.all_append]
  simp
theorem okUp_at {n : Int} {rows : List (List Int)} {k i : Nat} (h : okUp n rows k = true) (hi : i < k) : okAt n rows i = true :=
  List.all_eq_true.1 h i (List.mem_range.2 hi)
theorem okUp_no {n : Int} {rows : List (List Int)} {k i : Nat} (h : okAt n rows i = false) (hi : i < k) : okUp n rows k = false := by
  cases hh : okUp n rows k with
  | false => rfl
  | true => rw [okUp_at hh hi] at h; cases h
theorem okRow_eq {n : Int} {r : List Int} (h : okRow n r = true) : ∃ a b : Nat, r = [(a : Int), (b : Int)] ∧ a < b ∧ (b : Int) ≤ n - 1 := by
  unfold okRow at h
  split at h
  · rename_i a b
    simp only [Bool.and_eq_true, decide_eq_true_eq] at h
    obtain ⟨⟨h1, h2⟩, h3⟩ := h
    exact ⟨a.toNat, b.toNat, by rw [Int.toNat_of_nonneg h1, Int.toNat_of_nonneg (by omega)], by omega, by omega⟩
  · cases h
/-- are the rows a tree of so many nodes? -/
def treeB (n : Int) (rows : List (List Int)) : Bool :=
  decide (1 ≤ n ∧ n ≤ 7) && decide ((rows.length : Int) = n - 1) && okUp n rows rows.length && decide (((reachedN n.toNat (edgesR rows)).length : Int) = n)
theorem ok_rows {n : Int} {rows : List (List Int)} (h : okUp n rows rows.length = true) : rows = rowsE (edgesR rows) ∧ (∀ e ∈ edgesR rows, e.1 < e.2 ∧ (e.2 : Int) < n) ∧ AscP (edgesR rows) := by
  have hrow : ∀ r ∈ rows, ∃ a b : Nat, r = [(a : Int), (b : Int)] ∧ a < b ∧ (b : Int) ≤ n - 1 := by
    intro r hr
    obtain ⟨i, hi, rfl⟩ := List.getElem_of_mem hr
    have h1 := okUp_at h hi
    unfold okAt at h1
    rw [Bool.and_eq_true] at h1
    have e : rows.getD i [] = rows[i] := by rw [List.getD_eq_getElem?_getD, List.getElem?_eq_getElem hi]; rfl
    rw [e] at h1
    exact okRow_eq h1.1
  refine ⟨?_, ?_, ?_⟩
  · unfold rowsE edgesR
    rw [List.map_map]
    refine (List.map_id rows).symm.trans (List.map_congr_left fun r hr => ?_)
    obtain ⟨a, b, rfl, _, _⟩ := hrow r hr
    simp
  · intro e he
    obtain ⟨r, hr, rfl⟩ := List.mem_map.1 he
    obtain ⟨a, b, rfl, h1, h2⟩ := hrow r hr
    simp
    omega
  · show List.Pairwise _ (rows.map _)
    have key : ∀ (L : List (List Int)), (∀ i (hi : i + 1 < L.length), okNext (L.getD i []) (L.getD (i + 1) []) = true) → (∀ r ∈ L, ∃ a b : Nat, r = [(a : Int), (b : Int)] ∧ a < b ∧ (b : Int) ≤ n - 1) → AscP (edgesR L) := by
      intro L
      induction L with
      | nil => intro _ _; exact List.Pairwise.nil
      | cons r t ih =>
        intro h1 h2
        have iht := ih (fun i hi => h1 (i + 1) (by simp; omega)) (fun z hz => h2 z (List.mem_cons_of_mem _ hz))
        show AscP (_ :: edgesR t)
        refine List.pairwise_cons.2 ⟨fun y hy => ?_, iht⟩
        cases t with
        | nil => simp [edgesR] at hy
        | cons s u =>
          obtain ⟨a, b, rfl, _, _⟩ := h2 r (by simp)
          obtain ⟨c, d, rfl, _, _⟩ := h2 s (by simp)
          have h3 := h1 0 (by simp)
          have h4 : ltP (((([(a : Int), (b : Int)] : List Int).getD 0 0).toNat), ((([(a : Int), (b : Int)] : List Int).getD 1 0).toNat)) (c, d) = true := by
            rw [ltP_iff]
            simp [okNext] at h3
            simp
            omega
          have hcd : edgesR ([(c : Int), (d : Int)] :: u) = (c, d) :: edgesR u := by simp [edgesR]
          rw [hcd] at hy iht
          rcases List.mem_cons.1 hy with rfl | hy
          · exact h4
          · exact ltP_trans h4 ((List.pairwise_cons.1 iht).1 y hy)
    refine key rows (fun i hi => ?_) hrow
    have h1 := okUp_at h hi
    unfold okAt at h1
    simp only [Bool.and_eq_true, Bool.or_eq_true, decide_eq_true_eq] at h1
    rcases h1.2 with h2 | h2
    · omega
    · exact h2
theorem rows_ok {n : Int} {E : Edges} (ho : ∀ e ∈ E, e.1 < e.2 ∧ (e.2 : Int) < n) (ha : AscP E) : okUp n (rowsE E) (rowsE E).length = true := by
  unfold okUp
  rw [List.all_eq_true]
  intro i hi
  rw [List.mem_range] at hi
  have hiE : i < E.length := by simpa [rowsE] using hi
  have e1 : (rowsE E).getD i [] = [(E[i].1 : Int), (E[i].2 : Int)] := by
    rw [List.getD_eq_getElem?_getD, List.getElem?_eq_getElem hi]; simp [rowsE]
  obtain ⟨o1, o2⟩ := ho _ (List.getElem_mem hiE)
  unfold okAt
  rw [e1, Bool.and_eq_true, Bool.or_eq_true, decide_eq_true_eq]
  refine ⟨?_, ?_⟩
  · simp [okRow]; omega
  · by_cases h0 : i = 0
    · exact .inl h0
    · right
      have hp : i - 1 < E.length := by omega
      have e2 : (rowsE E).getD (i - 1) [] = [(E[i - 1].1 : Int), (E[i - 1].2 : Int)] := by
        rw [List.getD_eq_getElem?_getD, List.getElem?_eq_getElem (by simp [rowsE]; omega)]; simp [rowsE]
      rw [e2]
      have := (List.pairwise_iff_getElem.1 ha) (i - 1) i hp hiE (by omega)
      rw [ltP_iff] at this
      simp [okNext]
      omega
/-- the rows are a tree just if they are the rows of one -/
theorem treeB_iff {n : Int} {rows : List (List Int)} : treeB n rows = true ↔ (1 ≤ n ∧ n ≤ 7) ∧ rows = rowsE (edgesR rows) ∧ ValidT n.toNat (edgesR rows) := by
  have hlen : (edgesR rows).length = rows.length := by simp [edgesR]
  unfold treeB
  simp only [Bool.and_eq_true, decide_eq_true_eq]
  constructor
  · rintro ⟨⟨⟨h1, h2⟩, h3⟩, h4⟩
    obtain ⟨r1, r2, r3⟩ := ok_rows h3
    have hE : ∀ e ∈ edgesR rows, e.1 < n.toNat ∧ e.2 < n.toNat := fun e he => by have := r2 e he; omega
    exact ⟨h1, r1, by omega, fun e he => ⟨(r2 e he).1, (hE e he).2⟩, r3, (reachedN_iff (by omega) hE).1 (by omega)⟩
  · rintro ⟨h1, h2, h3⟩
    have hE : ∀ e ∈ edgesR rows, e.1 < n.toNat ∧ e.2 < n.toNat := fun e he => by have := h3.ord e he; omega
    have hl := h3.len
    refine ⟨⟨⟨h1, by omega⟩, ?_⟩, ?_⟩
    · have := rows_ok (n := n) (fun e he => ⟨(h3.ord e he).1, by have := (h3.ord e he).2; omega⟩) h3.asc
      rw [← h2] at this
      exact this
    · have := (reachedN_iff (n := n.toNat) (by omega) hE).2 h3.conn
      omega
end Go.Proofs.Ytfdalmeimhcdjaa
