/-
  Plain facts on trees of edges whose rows ascend: what is a tree, its code, and the tree of a code. Nothing of the program is named here.
-/
import Derived.Test.YtfdalmeimhcdjaaWPruf
namespace Go.Proofs.Ytfdalmeimhcdjaa

/-- the rows' order -/
def ltP (x y : Nat × Nat) : Bool := decide (x.1 < y.1) || (decide (x.1 = y.1) && decide (x.2 < y.2))
theorem ltP_iff (x y : Nat × Nat) : ltP x y = true ↔ x.1 < y.1 ∨ (x.1 = y.1 ∧ x.2 < y.2) := by simp [ltP]
theorem ltP_trans {x y z : Nat × Nat} (h : ltP x y = true) (k : ltP y z = true) : ltP x z = true := by
  rw [ltP_iff] at *; omega
theorem ltP_total (x y : Nat × Nat) : ltP x y = true ∨ x = y ∨ ltP y x = true := by
  rw [ltP_iff, ltP_iff, Prod.ext_iff]; omega
theorem ltP_irr (x : Nat × Nat) : ltP x x = false := by
  cases h : ltP x x with
  | false => rfl
  | true => rw [ltP_iff] at h; omega
def AscP (L : Edges) : Prop := L.Pairwise fun x y => ltP x y = true
theorem ascP_uniq : ∀ (L M : Edges), AscP L → AscP M → (∀ x, x ∈ L ↔ x ∈ M) → L = M
  | [], [], _, _, _ => rfl
  | [], y :: M, _, _, h => by have := (h y).2 (by simp); simp at this
  | x :: L, [], _, _, h => by have := (h x).1 (by simp); simp at this
  | x :: L, y :: M, h1, h2, h => by
    obtain ⟨a1, a2⟩ := List.pairwise_cons.1 h1
    obtain ⟨b1, b2⟩ := List.pairwise_cons.1 h2
    have hxy : x = y := by
      rcases List.mem_cons.1 ((h x).1 (by simp)) with e | m1
      · exact e
      · rcases List.mem_cons.1 ((h y).2 (by simp)) with e | m2
        · exact e.symm
        · have q := ltP_trans (b1 x m1) (a1 y m2)
          rw [ltP_irr] at q; cases q
    subst hxy
    have : L = M := ascP_uniq L M a2 b2 (fun z => by
      have hz := h z
      simp only [List.mem_cons] at hz
      constructor
      · intro m
        rcases hz.1 (.inr m) with e | m'
        · subst e; have := a1 z m; rw [ltP_irr] at this; cases this
        · exact m'
      · intro m
        rcases hz.2 (.inr m) with e | m'
        · subst e; have := b1 z m; rw [ltP_irr] at this; cases this
        · exact m')
    rw [this]
/-- an edge goes to its place -/
def insP (out : Edges) (x : Nat × Nat) : Edges := out.takeWhile (fun y => ltP y x) ++ x :: out.dropWhile (fun y => ltP y x)
def sortP (L : Edges) : Edges := L.foldl insP []
theorem insP_perm (out : Edges) (x : Nat × Nat) : (insP out x).Perm (x :: out) := by
  have e := List.takeWhile_append_dropWhile (p := fun y => ltP y x) (l := out)
  unfold insP
  refine List.perm_middle.trans ?_
  rw [e]
theorem fold_perm (L : Edges) : ∀ out, (L.foldl insP out).Perm (L ++ out) := by
  induction L with
  | nil => intro out; exact List.Perm.refl _
  | cons x r ih =>
    intro out
    rw [List.foldl_cons]
    refine (ih _).trans ?_
    refine ((insP_perm out x).append_left r).trans ?_
    exact List.perm_middle
theorem sortP_perm (L : Edges) : (sortP L).Perm L := by
  have := fold_perm L []
  rwa [List.append_nil] at this
theorem dropP_gt (x : Nat × Nat) : ∀ (out : Edges), AscP out → x ∉ out → ∀ y ∈ out.dropWhile (fun y => ltP y x), ltP x y = true
  | [], _, _, y, hy => by simp at hy
  | z :: r, h, hx, y, hy => by
    obtain ⟨h1, h2⟩ := List.pairwise_cons.1 h
    have hxz : x ≠ z := fun e => hx (by simp [e])
    have hxr : x ∉ r := fun e => hx (by simp [e])
    by_cases hz : ltP z x = true
    · rw [List.dropWhile_cons, if_pos hz] at hy
      exact dropP_gt x r h2 hxr y hy
    · rw [List.dropWhile_cons, if_neg hz] at hy
      have hzx : ltP x z = true := by
        rcases ltP_total x z with e | e | e
        · exact e
        · exact absurd e hxz
        · exact absurd e hz
      rcases List.mem_cons.1 hy with e | e
      · rw [e]; exact hzx
      · exact ltP_trans hzx (h1 y e)
theorem asc_insP {out : Edges} {x : Nat × Nat} (h : AscP out) (hx : x ∉ out) : AscP (insP out x) := by
  unfold insP
  have e := List.takeWhile_append_dropWhile (p := fun y => ltP y x) (l := out)
  have ht : AscP (out.takeWhile (fun y => ltP y x) ++ out.dropWhile (fun y => ltP y x)) := by rw [e]; exact h
  obtain ⟨t1, t2, t3⟩ := List.pairwise_append.1 ht
  have tx : ∀ y ∈ out.takeWhile (fun y => ltP y x), ltP y x = true := fun y hy => by
    have := List.all_takeWhile (l := out) (p := fun y => ltP y x)
    exact List.all_eq_true.1 this y hy
  have dx := dropP_gt x out h hx
  refine List.pairwise_append.2 ⟨t1, List.pairwise_cons.2 ⟨dx, t2⟩, fun a ha b hb => ?_⟩
  rcases List.mem_cons.1 hb with hb | hb
  · rw [hb]; exact tx a ha
  · exact t3 a ha b hb
theorem asc_fold : ∀ (L out : Edges), AscP out → L.Nodup → (∀ x ∈ L, x ∉ out) → AscP (L.foldl insP out)
  | [], out, h, _, _ => h
  | x :: r, out, h, hn, hd => by
    obtain ⟨n1, n2⟩ := List.nodup_cons.1 hn
    rw [List.foldl_cons]
    refine asc_fold r (insP out x) (asc_insP h (hd x (by simp))) n2 fun y hy => ?_
    rw [(insP_perm out x).mem_iff, List.mem_cons]
    rintro (e | e)
    · subst e; exact n1 hy
    · exact hd y (by simp [hy]) e
theorem asc_sortP {L : Edges} (h : L.Nodup) : AscP (sortP L) := asc_fold L [] List.Pairwise.nil h (fun _ _ => by simp)
theorem sortP_uniq {L M : Edges} (hM : AscP M) (hL : L.Nodup) (h : L.Perm M) : sortP L = M :=
  ascP_uniq _ _ (asc_sortP hL) hM fun x => by rw [(sortP_perm L).mem_iff, h.mem_iff]

/-! ### what is a tree -/
/-- rows of a tree of n nodes -/
structure ValidT (n : Nat) (E : Edges) : Prop where
  len : E.length + 1 = n
  ord : ∀ e ∈ E, e.1 < e.2 ∧ e.2 < n
  asc : AscP E
  conn : ∀ v, v < n → Reach E 0 v
theorem norm_of {e : Nat × Nat} (h : e.1 < e.2) : norm e = e := by
  unfold norm
  rw [Nat.min_eq_left (by omega), Nat.max_eq_right (by omega)]
theorem map_norm {E : Edges} (h : ∀ e ∈ E, e.1 < e.2) : E.map norm = E := by
  induction E with
  | nil => rfl
  | cons e r ih => rw [List.map_cons, norm_of (h e (by simp)), ih fun y hy => h y (List.mem_cons_of_mem _ hy)]
theorem ValidT.tree {n : Nat} {E : Edges} (h : ValidT n E) : Tree n (List.range n) E := by
  refine ⟨List.pairwise_lt_range, fun v hv => List.mem_range.1 hv, fun e he => ?_, fun u hu v hv => ?_⟩
  · obtain ⟨h1, h2⟩ := h.ord e he
    exact ⟨List.mem_range.2 (by omega), List.mem_range.2 h2, by omega⟩
  · exact (h.conn u (List.mem_range.1 hu)).symm.trans (h.conn v (List.mem_range.1 hv))
/-- the code of a tree, the tree of a code -/
def codeN (n : Nat) (E : Edges) : List Nat := codeE n (n - 2) E
def degC (n : Nat) (c : List Nat) : Nat → Nat := fun v => (if v < n then 1 else 0) + c.count v
def treeN (n : Nat) (c : List Nat) : Edges := sortP ((treeE n c (degC n c)).map norm)
theorem valid_peel {n : Nat} {E : Edges} (h : ValidT n E) (h2 : 2 ≤ n) : ∃ es c, Pl n es c ∧ SameE E es ∧ c.length = n - 2 ∧ codeN n E = c := by
  have hl := h.len
  obtain ⟨es, c, hp, hs⟩ := tree_peel (n - 2) (List.range n) E h.tree (by rw [List.length_range]; omega) (by omega)
  have h3 := hp.length
  have h4 := hs.length
  have hc : c.length = n - 2 := by omega
  refine ⟨es, c, hp, hs, hc, ?_⟩
  have := hp.code E hs
  rw [hc] at this
  exact this
/-- degrees are told by codes -/
theorem valid_deg {n : Nat} {E : Edges} (h : ValidT n E) (h2 : 2 ≤ n) (v : Nat) (hv : v < n) : deg E v = 1 + (codeN n E).count v := by
  obtain ⟨es, c, hp, hs, hc, he⟩ := valid_peel h h2
  have hpos := h.tree.pos (by rw [List.length_range]; exact h2) (List.mem_range.2 hv)
  have := hp.deg_count v
  rw [← hs.deg, if_neg hpos] at this
  rw [he]; exact this
theorem valid_out {n : Nat} {E : Edges} (h : ValidT n E) (v : Nat) (hv : n ≤ v) : deg E v = 0 := by
  apply Classical.byContradiction
  intro hh
  obtain ⟨e, he, hd⟩ := deg_mem hh
  obtain ⟨h1, h2⟩ := h.ord e he
  rcases deg1_end hd with h3 | h3 <;> omega
theorem valid_sum {n : Nat} {E : Edges} (h : ValidT n E) : ((List.range n).map (deg E)).sum = 2 * (n - 1) := by
  have := deg_sum List.nodup_range E fun e he => ⟨(h.tree.ends e he).1, (h.tree.ends e he).2.1⟩
  rw [this]
  have := h.len
  congr 1; omega
theorem code_len {n : Nat} {E : Edges} (h : ValidT n E) : (codeN n E).length = n - 2 := by
  by_cases h2 : 2 ≤ n
  · obtain ⟨es, c, _, _, hc, he⟩ := valid_peel h h2
    rw [he, hc]
  · unfold codeN
    rw [show n - 2 = 0 by omega]; rfl
theorem code_lt {n : Nat} {E : Edges} (h : ValidT n E) : ∀ x ∈ codeN n E, x < n := by
  by_cases h2 : 2 ≤ n
  · obtain ⟨es, c, hp, hs, hc, he⟩ := valid_peel h h2
    rw [he]
    intro x hx
    clear he hc hs
    induction hp with
    | last => simp at hx
    | step l x' es c _ hx' _ _ _ _ _ ih =>
      rcases List.mem_cons.1 hx with rfl | hx
      · exact hx'
      · exact ih hx
  · unfold codeN
    rw [show n - 2 = 0 by omega]
    intro x hx
    simp [codeE] at hx
/-- the tree of a tree's code is the tree -/
theorem tree_code {n : Nat} {E : Edges} (h : ValidT n E) (h2 : 2 ≤ n) : treeN n (codeN n E) = E := by
  obtain ⟨es, c, hp, hs, hc, he⟩ := valid_peel h h2
  have hd : degC n (codeN n E) = deg es := by
    funext v
    unfold degC
    by_cases hv : v < n
    · rw [if_pos hv, ← valid_deg h h2 v hv, hs.deg]
    · rw [if_neg hv, ← hs.deg, valid_out h v (by omega), List.count_eq_zero.2 (fun hm => by have := code_lt h v hm; omega)]
  rw [treeN, hd, he, hp.tree]
  have hE := map_norm (E := E) fun e he => (h.ord e he).1
  have hperm : (es.map norm).Perm E := by
    have := hs.symm
    unfold SameE at this
    rw [hE] at this
    exact this
  exact sortP_uniq h.asc hp.nodup hperm
/-- a code's tree is a tree, and the code is its code -/
theorem code_tree {n : Nat} {c : List Nat} (hn : n = c.length + 2) (hc : ∀ x ∈ c, x < n) : ValidT n (treeN n c) ∧ codeN n (treeN n c) = c := by
  have hf := fits_code hn hc
  obtain ⟨hp, hq⟩ := fits_pl c (List.range n) (degC n c) hf
  have hnd := hp.nodup
  have hperm := sortP_perm ((treeE n c (degC n c)).map norm)
  have hnorm : ∀ e ∈ treeN n c, e.1 < e.2 ∧ e.2 < n := by
    intro e he
    obtain ⟨e', he', rfl⟩ := List.mem_map.1 (hperm.mem_iff.1 he)
    obtain ⟨h1, h2, h3⟩ := hp.lt e' he'
    unfold norm
    simp only
    omega
  have hsame : SameE (treeN n c) (treeE n c (degC n c)) := by
    unfold SameE
    rw [map_norm fun e he => (hnorm e he).1]
    exact hperm
  refine ⟨⟨?_, hnorm, asc_sortP hnd, fun v hv => ?_⟩, ?_⟩
  · rw [hsame.length, hp.length]; omega
  · refine hsame.symm.reach (hp.reach 0 v ?_ ?_)
    · rw [hq]; unfold degC; rw [if_pos (by omega)]; omega
    · rw [hq]; unfold degC; rw [if_pos hv]; omega
  · have := hp.code _ hsame
    unfold codeN
    rw [show n - 2 = c.length by omega]
    exact this
end Go.Proofs.Ytfdalmeimhcdjaa
