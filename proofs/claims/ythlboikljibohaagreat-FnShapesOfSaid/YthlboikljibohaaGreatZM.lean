/-
  Plain facts: maps of a tree to itself, tried one by one: those that keep edges, and those that keep neighbours, are the same ones. Nothing of the program is named here.
  Plain facts: the codes of trees by their numbers. Nothing of the program is named here.
  Plain facts: maps of a tree to itself, tried one by one with the neighbours as bits of a number: the same count. Every code has a number. Nothing of the program is named here.
-/
import Derived.Test.YthlboikljibohaaGreatZW
import Derived.Test.YthlboikljibohaaGreatZJ
namespace Go.Proofs.YthlboikljibohaaGreat

/-- do edges go to edges, as far as images are there? -/
def keepsB (E : Edges) (im : List Nat) : Bool := E.all fun e => !decide (e.2 < im.length) || decide (norm (im.getD e.1 0, im.getD e.2 0) ∈ E)
def tryP (E : Edges) (n : Nat) : Nat → List Nat → Nat
  | 0, im => if keepsB E im then 1 else 0
  | k + 1, im => if keepsB E im then ((List.range n).map fun x => if x ∈ im then 0 else tryP E n k (im ++ [x])).sum else 0
/-- may a node go to x, as far as its neighbours tell? -/
def adjB (E : Edges) (u v : Nat) : Bool := decide (v ∈ nb E u)
def goodB (E : Edges) (im : List Nat) (x : Nat) : Bool := (List.range im.length).all fun u => adjB E u im.length == adjB E (im.getD u 0) x
def tryM (E : Edges) (n : Nat) : Nat → List Nat → Nat
  | 0, _ => 1
  | k + 1, im => ((List.range n).map fun x => if x ∈ im then 0 else if goodB E im x then tryM E n k (im ++ [x]) else 0).sum
/-- whole maps, counted -/
def cntQ (Q : List Nat → Bool) (n : Nat) : Nat → List Nat → Nat
  | 0, im => if Q im then 1 else 0
  | k + 1, im => ((List.range n).map fun x => if x ∈ im then 0 else cntQ Q n k (im ++ [x])).sum
theorem cntQ_none {Q : List Nat → Bool} (hQ : ∀ im x, Q (im ++ [x]) = true → Q im = true) {n : Nat} : ∀ (k : Nat) (im : List Nat), Q im = false → cntQ Q n k im = 0 := by
  intro k
  induction k with
  | zero => intro im h; rw [cntQ, h]; rfl
  | succ k ih =>
    intro im h
    rw [cntQ]
    have : ∀ x ∈ List.range n, (if x ∈ im then 0 else cntQ Q n k (im ++ [x])) = 0 := fun x _ => by
      split
      · rfl
      · refine ih _ ?_
        cases hb : Q (im ++ [x]) with
        | false => rfl
        | true => rw [hQ _ _ hb] at h; cases h
    rw [List.map_congr_left this]
    induction List.range n with
    | nil => rfl
    | cons a r ihr => rw [List.map_cons, List.sum_cons, ihr]
theorem keeps_step {E : Edges} (ho : ∀ e ∈ E, e.1 < e.2) (im : List Nat) (x : Nat) (h : keepsB E (im ++ [x]) = true) : keepsB E im = true := by
  unfold keepsB at h ⊢
  rw [List.all_eq_true] at h ⊢
  intro e he
  have h1 := h e he
  have h2 := ho e he
  by_cases hl : e.2 < im.length
  · have e1 : (im ++ [x]).getD e.1 0 = im.getD e.1 0 := by rw [List.getD_eq_getElem?_getD, List.getD_eq_getElem?_getD, List.getElem?_append_left (by omega)]
    have e2 : (im ++ [x]).getD e.2 0 = im.getD e.2 0 := by rw [List.getD_eq_getElem?_getD, List.getD_eq_getElem?_getD, List.getElem?_append_left hl]
    rw [e1, e2] at h1
    rw [decide_eq_true (show e.2 < (im ++ [x]).length by rw [List.length_append]; omega)] at h1
    rw [decide_eq_true hl]
    exact h1
  · rw [decide_eq_false hl]; rfl
theorem tryP_cnt {E : Edges} (ho : ∀ e ∈ E, e.1 < e.2) (n : Nat) : ∀ (k : Nat) (im : List Nat), tryP E n k im = cntQ (keepsB E) n k im := by
  intro k
  induction k with
  | zero => intro im; rfl
  | succ k ih =>
    intro im
    rw [tryP]
    cases hb : keepsB E im with
    | false => rw [cntQ_none (keeps_step ho) _ _ hb]; rfl
    | true =>
      rw [if_pos rfl, cntQ]
      congr 1
      refine List.map_congr_left fun x _ => ?_
      split
      · rfl
      · rw [ih]
/-- a map keeps neighbours -/
def goodA (E : Edges) (im : List Nat) : Bool := (List.range im.length).all fun v => goodB E (im.take v) (im.getD v 0)
theorem goodA_step (E : Edges) (im : List Nat) (x : Nat) : goodA E (im ++ [x]) = (goodA E im && goodB E im x) := by
  unfold goodA
  rw [List.length_append, List.length_singleton, List.range_succ, List.all_append]
  congr 1
  · rw [Bool.eq_iff_iff, List.all_eq_true, List.all_eq_true]
    have key : ∀ v ∈ List.range im.length, goodB E ((im ++ [x]).take v) ((im ++ [x]).getD v 0) = goodB E (im.take v) (im.getD v 0) := fun v hv => by
      have hv := List.mem_range.1 hv
      rw [List.take_append_of_le_length (by omega), List.getD_eq_getElem?_getD, List.getD_eq_getElem?_getD, List.getElem?_append_left hv]
    exact ⟨fun h v hv => by rw [← key v hv]; exact h v hv, fun h v hv => by rw [key v hv]; exact h v hv⟩
  · simp only [List.all_cons, List.all_nil, Bool.and_true]
    rw [List.take_left, List.getD_eq_getElem?_getD, List.getElem?_append_right (Nat.le_refl _), Nat.sub_self]; rfl
theorem tryM_cnt (E : Edges) (n : Nat) : ∀ (k : Nat) (im : List Nat), goodA E im = true → tryM E n k im = cntQ (goodA E) n k im := by
  intro k
  induction k with
  | zero => intro im h; rw [tryM, cntQ, h]; rfl
  | succ k ih =>
    intro im h
    rw [tryM, cntQ]
    congr 1
    refine List.map_congr_left fun x _ => ?_
    split
    · rfl
    · have hs := goodA_step E im x
      rw [h, Bool.true_and] at hs
      cases hg : goodB E im x with
      | true => rw [if_pos rfl, ih _ (by rw [hs, hg])]
      | false =>
        rw [if_neg (by decide), cntQ_none (fun im x hh => ?_) _ _ (by rw [hs, hg])]
        rw [goodA_step, Bool.and_eq_true] at hh
        exact hh.1
/-- the same count, where the same whole maps are counted -/
theorem cnt_same {Q R : List Nat → Bool} {n : Nat} (h : ∀ im : List Nat, im.length = n → im.Nodup → (∀ x ∈ im, x < n) → Q im = R im) : ∀ (k : Nat) (im : List Nat), im.length + k = n → im.Nodup → (∀ x ∈ im, x < n) → cntQ Q n k im = cntQ R n k im := by
  intro k
  induction k with
  | zero => intro im hl hn hm; rw [cntQ, cntQ, h im (by omega) hn hm]
  | succ k ih =>
    intro im hl hn hm
    rw [cntQ, cntQ]
    congr 1
    refine List.map_congr_left fun x hx => ?_
    split
    · rfl
    · rename_i hxi
      refine ih _ (by rw [List.length_append, List.length_singleton]; omega) ?_ ?_
      · rw [List.nodup_append]
        refine ⟨hn, by simp, fun a ha b hb => ?_⟩
        simp only [List.mem_singleton] at hb
        rintro rfl
        rw [hb] at ha; exact hxi ha
      · intro y hy
        rcases List.mem_append.1 hy with hy | hy
        · exact hm y hy
        · simp only [List.mem_singleton] at hy; rw [hy]; exact List.mem_range.1 hx
theorem getD_inj {im : List Nat} (hn : im.Nodup) {u v : Nat} (hu : u < im.length) (hv : v < im.length) (h : im.getD u 0 = im.getD v 0) : u = v := by
  rw [List.getD_eq_getElem?_getD, List.getD_eq_getElem?_getD, List.getElem?_eq_getElem hu, List.getElem?_eq_getElem hv] at h
  have hp := List.pairwise_iff_getElem.1 hn
  rcases Nat.lt_trichotomy u v with q | q | q
  · exact absurd h (hp u v hu hv q)
  · exact q
  · exact absurd h.symm (hp v u hv hu q)
theorem norm_mem {E : Edges} (ho : ∀ e ∈ E, e.1 < e.2) {a b : Nat} : norm (a, b) ∈ E ↔ Adj E a b := by
  have h := mem_norm (E := E) (a := a) (b := b)
  rw [map_norm ho] at h
  exact h
theorem adjB_iff {E : Edges} {u v : Nat} : adjB E u v = true ↔ Adj E u v := by unfold adjB; rw [decide_eq_true_eq, mem_nb]
theorem keeps_good {n : Nat} {E : Edges} (ho : ∀ e ∈ E, e.1 < e.2 ∧ e.2 < n) (hE : E.Nodup) {im : List Nat} (hl : im.length = n) (hn : im.Nodup) : keepsB E im = goodA E im := by
  have ho1 : ∀ e ∈ E, e.1 < e.2 := fun e he => (ho e he).1
  have hG : goodA E im = true ↔ ∀ u v, u < v → v < n → (Adj E u v ↔ Adj E (im.getD u 0) (im.getD v 0)) := by
    unfold goodA
    rw [List.all_eq_true]
    constructor
    · intro h u v huv hv
      have h1 := h v (List.mem_range.2 (by omega))
      unfold goodB at h1
      rw [List.all_eq_true] at h1
      have h2 := h1 u (List.mem_range.2 (by rw [List.length_take]; omega))
      rw [beq_iff_eq, List.length_take, Nat.min_eq_left (by omega)] at h2
      rw [List.getD_eq_getElem?_getD (l := im.take v), List.getElem?_take_of_lt huv, ← List.getD_eq_getElem?_getD] at h2
      rw [← adjB_iff, ← adjB_iff, h2]
    · intro h v hv
      have hv := List.mem_range.1 hv
      unfold goodB
      rw [List.all_eq_true]
      intro u hu
      have hu := List.mem_range.1 hu
      rw [List.length_take] at hu
      rw [beq_iff_eq, List.length_take, Nat.min_eq_left (by omega)]
      rw [List.getD_eq_getElem?_getD (l := im.take v), List.getElem?_take_of_lt (by omega), ← List.getD_eq_getElem?_getD]
      rw [Bool.eq_iff_iff, adjB_iff, adjB_iff]
      exact h u v (by omega) (by omega)
  have hK : keepsB E im = true ↔ ∀ e ∈ E, norm (im.getD e.1 0, im.getD e.2 0) ∈ E := by
    unfold keepsB
    rw [List.all_eq_true]
    constructor
    · intro h e he
      have h1 := h e he
      rw [decide_eq_true (by have := ho e he; omega)] at h1
      simpa using h1
    · intro h e he
      rw [decide_eq_true (h e he)]; simp
  rw [Bool.eq_iff_iff, hG, hK]
  constructor
  · intro h u v huv hv
    constructor
    · intro ha
      have he : (u, v) ∈ E := by
        rcases ha with q | q
        · exact q
        · have := ho1 _ q; simp only at this; omega
      exact (norm_mem ho1).1 (h _ he)
    · intro ha
      -- edges go to all edges
      have hinj : ∀ e ∈ E, ∀ f ∈ E, norm (im.getD e.1 0, im.getD e.2 0) = norm (im.getD f.1 0, im.getD f.2 0) → e = f := by
        intro e he f hf q
        have e1 := ho e he
        have f1 := ho f hf
        rcases norm_eq q with ⟨q1, q2⟩ | ⟨q1, q2⟩
        · have p1 := getD_inj hn (by omega) (by omega) q1
          have p2 := getD_inj hn (by omega) (by omega) q2
          exact Prod.ext p1 p2
        · have p1 := getD_inj hn (by omega) (by omega) q1
          have p2 := getD_inj hn (by omega) (by omega) q2
          omega
      have hmem : norm (im.getD u 0, im.getD v 0) ∈ E.map fun e => norm (im.getD e.1 0, im.getD e.2 0) := by
        apply Classical.byContradiction
        intro hno
        have hnd : (norm (im.getD u 0, im.getD v 0) :: E.map fun e => norm (im.getD e.1 0, im.getD e.2 0)).Nodup := by
          rw [List.nodup_cons]
          refine ⟨hno, ?_⟩
          rw [List.Nodup, List.pairwise_map]
          refine List.Pairwise.imp_of_mem ?_ hE
          intro a b ha hb hne q
          exact hne (hinj a ha b hb q)
        have := List.Nodup.length_le_of_subset (l₂ := E) hnd (fun x hx => by
          rcases List.mem_cons.1 hx with rfl | hx
          · exact (norm_mem ho1).2 ha
          · obtain ⟨e, he, rfl⟩ := List.mem_map.1 hx
            exact h e he)
        rw [List.length_cons, List.length_map] at this
        omega
      obtain ⟨e, he, q⟩ := List.mem_map.1 hmem
      have e1 := ho e he
      rcases norm_eq q with ⟨q1, q2⟩ | ⟨q1, q2⟩
      · have p1 := getD_inj hn (by omega) (by omega) q1
        have p2 := getD_inj hn (by omega) (by omega) q2
        left; rw [← p1, ← p2]; exact he
      · have p1 := getD_inj hn (by omega) (by omega) q1
        have p2 := getD_inj hn (by omega) (by omega) q2
        right; rw [← p1, ← p2]; exact he
  · intro h e he
    have e1 := ho e he
    exact (norm_mem ho1).2 ((h e.1 e.2 e1.1 e1.2).1 (.inl he))
theorem ascP_nodup {E : Edges} (h : AscP E) : E.Nodup := List.Pairwise.imp (fun {a b} hab => by
  rintro rfl
  rw [ltP_irr] at hab; cases hab) h
theorem tried_same {n : Nat} {E : Edges} (h : ValidT n E) : tryP E n n [] = tryM E n n [] := by
  rw [tryP_cnt (fun e he => (h.ord e he).1), tryM_cnt E n n [] rfl]
  exact cnt_same (fun im hl hn _ => keeps_good h.ord (ascP_nodup h.asc) hl hn) n [] (by simp) List.nodup_nil (by simp)
theorem sum_le_mul {L : List Nat} {f : Nat → Nat} {b : Nat} (h : ∀ x ∈ L, f x ≤ b) : (L.map f).sum ≤ L.length * b := by
  induction L with
  | nil => simp
  | cons a r ih =>
    have h1 := ih fun x hx => h x (List.mem_cons_of_mem _ hx)
    have h2 := h a (by simp)
    rw [List.map_cons, List.sum_cons, List.length_cons, Nat.add_mul]; omega
theorem tryP_le (E : Edges) (n : Nat) : ∀ (k : Nat) (im : List Nat), tryP E n k im ≤ n ^ k := by
  intro k
  induction k with
  | zero => intro im; rw [tryP]; split <;> simp
  | succ k ih =>
    intro im
    rw [tryP]
    split
    · have := sum_le_mul (L := List.range n) (f := fun x => if x ∈ im then 0 else tryP E n k (im ++ [x])) (b := n ^ k) (fun x _ => by
        split
        · exact Nat.zero_le _
        · exact ih _)
      rw [List.length_range] at this
      rw [Nat.pow_succ, Nat.mul_comm]; exact this
    · exact Nat.zero_le _
end Go.Proofs.YthlboikljibohaaGreat

namespace Go.Proofs.YthlboikljibohaaGreat

/-- the first digits of a number, the least first -/
def codeK (n w k : Nat) : List Nat := (List.range k).map fun i => w / n ^ i % n
/-- the code of that number -/
def codeD (n w : Nat) : List Nat := codeK n w (n - 2)
theorem codeK_next (n w k : Nat) : codeK n w (k + 1) = codeK n w k ++ [w / n ^ k % n] := by
  unfold codeK; rw [List.range_succ, List.map_append]; rfl
theorem codeK_len (n w k : Nat) : (codeK n w k).length = k := by simp [codeK]
theorem codeD_lt {n w : Nat} (hn : 0 < n) : ∀ x ∈ codeD n w, x < n := by
  intro x hx
  obtain ⟨i, _, rfl⟩ := List.mem_map.1 hx
  exact Nat.mod_lt _ hn
theorem div_next (n w k : Nat) : w / n ^ k / n = w / n ^ (k + 1) := by rw [Nat.div_div_eq_div_mul, Nat.pow_succ]
theorem div_le_self' (w m : Nat) : w / m ≤ w := Nat.div_le_self w m
end Go.Proofs.YthlboikljibohaaGreat

namespace Go.Proofs.YthlboikljibohaaGreat

def maskE : Edges → Nat
  | [] => 0
  | e :: r => (1 <<< (8 * e.1 + e.2)) ||| ((1 <<< (8 * e.2 + e.1)) ||| maskE r)
def bitF (A u v : Nat) : Bool := Nat.beq ((A >>> (8 * u + v)) % 2) 1
def memF (x : Nat) : List Nat → Bool
  | [] => false
  | y :: r => bif Nat.beq y x then true else memF x r
def goodF (A l x : Nat) : Nat → List Nat → Bool
  | _, [] => true
  | u, y :: r => bif (bif bitF A u l then bitF A y x else !bitF A y x) then goodF A l x (u + 1) r else false
def tryF (A : Nat) (xs : List Nat) : Nat → Nat → List Nat → Nat
  | 0, _, _ => 1
  | k + 1, l, im => xs.foldr (fun x s => bif memF x im then s else bif goodF A l x 0 im then tryF A xs k (l + 1) (im ++ [x]) + s else s) 0

theorem bitF_test (A u v : Nat) : bitF A u v = A.testBit (8 * u + v) := by
  unfold bitF Nat.testBit
  rw [Nat.one_and_eq_mod_two]
  have h := Nat.mod_lt (A >>> (8 * u + v)) (show 0 < 2 by decide)
  generalize (A >>> (8 * u + v)) % 2 = m at *
  rcases m with _ | _ | m
  · rfl
  · rfl
  · omega
theorem bit_one (i j : Nat) : (1 <<< i).testBit j = decide (i = j) := by
  rw [Nat.one_shiftLeft, Nat.testBit_two_pow]
theorem adjB_cons (e : Nat × Nat) (r : Edges) (u v : Nat) : adjB (e :: r) u v = (decide (e.1 = u ∧ e.2 = v) || decide (e.2 = u ∧ e.1 = v) || adjB r u v) := by
  rw [Bool.eq_iff_iff, adjB_iff, Bool.or_eq_true, Bool.or_eq_true, adjB_iff, decide_eq_true_eq, decide_eq_true_eq]
  unfold Adj
  simp only [List.mem_cons]
  constructor
  · rintro ((h | h) | (h | h))
    · subst h; exact .inl (.inl ⟨rfl, rfl⟩)
    · exact .inr (.inl h)
    · subst h; exact .inl (.inr ⟨rfl, rfl⟩)
    · exact .inr (.inr h)
  · rintro ((⟨h1, h2⟩ | ⟨h1, h2⟩) | (h | h))
    · subst h1; subst h2; exact .inl (.inl rfl)
    · subst h1; subst h2; exact .inr (.inl rfl)
    · exact .inl (.inr h)
    · exact .inr (.inr h)
theorem bit_adj : ∀ (E : Edges), (∀ e ∈ E, e.1 < 8 ∧ e.2 < 8) → ∀ u v, u < 8 → v < 8 → bitF (maskE E) u v = adjB E u v
  | [], _, u, v, _, _ => by
    rw [bitF_test]
    simp [maskE, adjB, nb]
  | e :: r, h, u, v, hu, hv => by
    have ih := bit_adj r (fun x hx => h x (List.mem_cons_of_mem _ hx)) u v hu hv
    have he := h e (by simp)
    rw [bitF_test] at ih ⊢
    rw [maskE, Nat.testBit_or, Nat.testBit_or, ih, bit_one, bit_one, adjB_cons]
    have d1 : decide (8 * e.1 + e.2 = 8 * u + v) = decide (e.1 = u ∧ e.2 = v) := by rw [decide_eq_decide]; omega
    have d2 : decide (8 * e.2 + e.1 = 8 * u + v) = decide (e.2 = u ∧ e.1 = v) := by rw [decide_eq_decide]; omega
    rw [d1, d2, Bool.or_assoc]
theorem memF_iff (x : Nat) : ∀ L : List Nat, memF x L = decide (x ∈ L)
  | [] => by simp [memF]
  | y :: r => by
    rw [memF, memF_iff x r]
    by_cases h : y = x
    · subst h; rw [show Nat.beq y y = true from Nat.beq_refl y]; simp
    · have : Nat.beq y x = false := by rw [Bool.eq_false_iff]; intro e; exact h (Nat.eq_of_beq_eq_true e)
      rw [this]
      simp [Ne.symm h]
theorem goodF_iff {E : Edges} (h8 : ∀ e ∈ E, e.1 < 8 ∧ e.2 < 8) {l x : Nat} (hl : l < 8) (hx : x < 8) : ∀ (L : List Nat) (u : Nat), (∀ y ∈ L, y < 8) → u + L.length ≤ 8 →
    goodF (maskE E) l x u L = (List.range L.length).all fun i => adjB E (u + i) l == adjB E (L.getD i 0) x
  | [], u, _, _ => rfl
  | y :: r, u, hy, hu => by
    have ih := goodF_iff h8 hl hx r (u + 1) (fun z hz => hy z (List.mem_cons_of_mem _ hz)) (by simp at hu; omega)
    rw [goodF, ih, bit_adj E h8 u l (by simp at hu; omega) hl, bit_adj E h8 y x (hy y (by simp)) hx, List.length_cons, List.range_succ_eq_map, List.all_cons, List.all_map]
    have e1 : (bif adjB E u l then adjB E y x else !adjB E y x) = (adjB E (u + 0) l == adjB E ((y :: r).getD 0 0) x) := by
      rw [Nat.add_zero]
      show _ = (adjB E u l == adjB E y x)
      cases adjB E u l <;> cases adjB E y x <;> rfl
    rw [e1]
    have e2 : ((fun i => adjB E (u + i) l == adjB E ((y :: r).getD i 0) x) ∘ Nat.succ) = fun i => adjB E (u + 1 + i) l == adjB E (r.getD i 0) x := by
      funext i
      simp only [Function.comp, Nat.succ_eq_add_one, List.getD_cons_succ]
      rw [show u + (i + 1) = u + 1 + i by omega]
    rw [e2]
    cases (adjB E (u + 0) l == adjB E ((y :: r).getD 0 0) x) <;> rfl
theorem tryF_iff {E : Edges} (h8 : ∀ e ∈ E, e.1 < 8 ∧ e.2 < 8) {n : Nat} (hn : n ≤ 7) : ∀ (k : Nat) (im : List Nat), (∀ y ∈ im, y < 8) → im.length + k ≤ 8 → tryF (maskE E) (List.range n) k im.length im = tryM E n k im := by
  intro k
  induction k with
  | zero => intro im _ _; rfl
  | succ k ih =>
    intro im hy hl
    rw [tryF, tryM]
    have key : ∀ xs : List Nat, (∀ x ∈ xs, x < n) → (xs.foldr (fun x s => bif memF x im then s else bif goodF (maskE E) im.length x 0 im then tryF (maskE E) (List.range n) k (im.length + 1) (im ++ [x]) + s else s) 0) = (xs.map fun x => if x ∈ im then 0 else if goodB E im x then tryM E n k (im ++ [x]) else 0).sum := by
      intro xs
      induction xs with
      | nil => intro _; rfl
      | cons x r ihx =>
        intro hx
        have hx0 := hx x (by simp)
        rw [List.foldr_cons, ihx (fun z hz => hx z (List.mem_cons_of_mem _ hz)), List.map_cons, List.sum_cons, memF_iff]
        by_cases hm : x ∈ im
        · rw [decide_eq_true hm, if_pos hm]; simp
        · rw [decide_eq_false hm, if_neg hm]
          have hg : goodF (maskE E) im.length x 0 im = goodB E im x := by
            rw [goodF_iff h8 (by omega) (by omega) im 0 hy (by omega)]
            unfold goodB
            simp only [Nat.zero_add]
          rw [hg]
          have e := ih (im ++ [x]) (fun y h => by
            rcases List.mem_append.1 h with h | h
            · exact hy y h
            · simp at h; omega) (by simp; omega)
          rw [List.length_append, List.length_singleton] at e
          rw [e]
          cases goodB E im x <;> simp
    exact key _ (fun x hx => List.mem_range.1 hx)

/-- every list of digits has a number -/
theorem code_num {n : Nat} (hn : 0 < n) : ∀ (c : List Nat), (∀ x ∈ c, x < n) → ∃ w, w < n ^ c.length ∧ codeK n w c.length = c
  | [], _ => ⟨0, by simp, rfl⟩
  | x :: r, h => by
    obtain ⟨w, hw, hc⟩ := code_num hn r (fun y hy => h y (List.mem_cons_of_mem _ hy))
    have hx := h x (by simp)
    refine ⟨x + n * w, ?_, ?_⟩
    · rw [List.length_cons, Nat.pow_succ, Nat.mul_comm (n ^ r.length) n]
      have : n * w + n ≤ n * n ^ r.length := by
        rw [← Nat.mul_succ]; exact Nat.mul_le_mul_left n hw
      omega
    · rw [List.length_cons]
      unfold codeK at hc ⊢
      rw [List.range_succ_eq_map, List.map_cons, List.map_map]
      congr 1
      · rw [Nat.pow_zero, Nat.div_one, Nat.add_mul_mod_self_left, Nat.mod_eq_of_lt hx]
      · conv => rhs; rw [← hc]
        apply List.map_congr_left
        intro i _
        simp only [Function.comp, Nat.succ_eq_add_one]
        rw [Nat.pow_succ, Nat.mul_comm (n ^ i) n, ← Nat.div_div_eq_div_mul, Nat.add_mul_div_left _ _ hn, Nat.div_eq_of_lt hx, Nat.zero_add]
theorem tree_num {n : Nat} {E : Edges} (h : ValidT n E) (h2 : 2 ≤ n) : ∃ w, w < n ^ (n - 2) ∧ treeN n (codeD n w) = E := by
  obtain ⟨w, hw, hc⟩ := code_num (show 0 < n by omega) (codeN n E) (code_lt h)
  rw [code_len h] at hw hc
  exact ⟨w, hw, by unfold codeD; rw [hc, tree_code h h2]⟩
theorem one_num {E : Edges} (h : ValidT 1 E) : E = [] := by
  cases E with
  | nil => rfl
  | cons e r => have := h.ord e (by simp); omega
/-- are the maps tried as many as those told by texts, of the tree of this number -/
def sameF (n w : Nat) : Bool := let E := treeN n (codeD n w); Nat.beq (tryF (maskE E) (List.range n) n 0 []) (mapsN n E)
def samesF (n from_ len : Nat) : Bool := (List.range len).all fun i => sameF n (from_ + i)
theorem sames_at {n a len w : Nat} (h : samesF n a len = true) (h1 : a ≤ w) (h2 : w < a + len) : sameF n w = true := by
  have := List.all_eq_true.1 h (w - a) (List.mem_range.2 (by omega))
  rwa [show a + (w - a) = w by omega] at this
theorem same_maps {n : Nat} {E : Edges} (h : ValidT n E) (hn : n ≤ 7) {w : Nat} (hw : treeN n (codeD n w) = E) (hs : sameF n w = true) : tryP E n n [] = mapsN n E := by
  have h8 : ∀ e ∈ E, e.1 < 8 ∧ e.2 < 8 := fun e he => by have := h.ord e he; omega
  unfold sameF at hs
  rw [hw] at hs
  have := Nat.eq_of_beq_eq_true hs
  rw [tried_same h, ← this]
  exact (tryF_iff h8 hn n [] (by simp) (by simp; omega)).symm
end Go.Proofs.YthlboikljibohaaGreat
