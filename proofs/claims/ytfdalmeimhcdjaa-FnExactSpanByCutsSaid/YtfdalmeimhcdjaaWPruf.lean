/-
  Plain facts on trees of edges and their codes: a tree is peeled leaf by leaf, and built back. Nothing of the program is named here.
-/
import Derived.WalkKit
namespace Go.Proofs.Ytfdalmeimhcdjaa

abbrev Edges := List (Nat × Nat)
/-- how often a node is an end -/
def deg1 (e : Nat × Nat) (v : Nat) : Nat := (if e.1 = v then 1 else 0) + (if e.2 = v then 1 else 0)
def deg (E : Edges) (v : Nat) : Nat := (E.map fun e => deg1 e v).sum
theorem deg_nil (v : Nat) : deg [] v = 0 := rfl
theorem deg_cons (e : Nat × Nat) (E : Edges) (v : Nat) : deg (e :: E) v = deg1 e v + deg E v := by simp [deg]
theorem deg_append (A B : Edges) (v : Nat) : deg (A ++ B) v = deg A v + deg B v := by simp [deg]
def touches (v : Nat) (e : Nat × Nat) : Bool := decide (e.1 = v) || decide (e.2 = v)
def other (v : Nat) (e : Nat × Nat) : Nat := if e.1 = v then e.2 else e.1
theorem touch_iff (e : Nat × Nat) (v : Nat) : touches v e = true ↔ deg1 e v ≠ 0 := by
  unfold touches deg1
  by_cases h1 : e.1 = v <;> by_cases h2 : e.2 = v <;> simp [h1, h2]
/-- the lesser one first -/
def norm (e : Nat × Nat) : Nat × Nat := (min e.1 e.2, max e.1 e.2)
theorem norm_cases (e : Nat × Nat) : norm e = e ∨ norm e = (e.2, e.1) := by
  unfold norm
  by_cases h : e.1 ≤ e.2
  · left; rw [Nat.min_eq_left h, Nat.max_eq_right h]
  · right; rw [Nat.min_eq_right (by omega), Nat.max_eq_left (by omega)]
theorem deg1_flip (a b v : Nat) : deg1 (a, b) v = deg1 (b, a) v := by unfold deg1; simp only; omega
theorem deg1_norm (e : Nat × Nat) (v : Nat) : deg1 (norm e) v = deg1 e v := by
  rcases norm_cases e with h | h
  · rw [h]
  · rw [h]; exact deg1_flip _ _ _
theorem other_norm (e : Nat × Nat) (v : Nat) (h : deg1 e v = 1) : other v (norm e) = other v e := by
  rcases norm_cases e with k | k
  · rw [k]
  · rw [k]
    unfold other deg1 at *
    simp only at *
    by_cases h1 : e.1 = v <;> by_cases h2 : e.2 = v <;> simp_all
theorem norm_eq {a b c d : Nat} (h : norm (a, b) = norm (c, d)) : (a = c ∧ b = d) ∨ (a = d ∧ b = c) := by
  unfold norm at h
  simp only [Prod.mk.injEq] at h
  omega
theorem deg_perm {A B : Edges} (h : A.Perm B) (v : Nat) : deg A v = deg B v := (h.map _).sum_nat
theorem deg_norm (A : Edges) (v : Nat) : deg (A.map norm) v = deg A v := by
  induction A with
  | nil => rfl
  | cons e r ih => rw [List.map_cons, deg_cons, deg_cons, deg1_norm, ih]
/-- the same edges, in whatever order, each in whatever direction -/
def SameE (A B : Edges) : Prop := (A.map norm).Perm (B.map norm)
theorem SameE.deg {A B : Edges} (h : SameE A B) (v : Nat) : deg A v = deg B v := by rw [← deg_norm A, ← deg_norm B, deg_perm h]
theorem SameE.length {A B : Edges} (h : SameE A B) : A.length = B.length := by simpa using List.Perm.length_eq h
theorem SameE.symm {A B : Edges} (h : SameE A B) : SameE B A := List.Perm.symm h
theorem SameE.trans {A B C : Edges} (h : SameE A B) (k : SameE B C) : SameE A C := List.Perm.trans h k
theorem SameE.refl (A : Edges) : SameE A A := List.Perm.refl _
theorem norm_norm (e : Nat × Nat) : norm (norm e) = norm e := by unfold norm; simp only [Prod.mk.injEq]; omega
theorem same_norm (A : Edges) : SameE (A.map norm) A := by
  show ((A.map norm).map norm).Perm (A.map norm)
  rw [List.map_map, show (norm ∘ norm) = norm from funext norm_norm]

/-- the least node with one edge -/
def leastL (n : Nat) (d : Nat → Nat) : Option Nat := (List.range n).find? fun v => decide (d v = 1)
theorem least_some {n : Nat} {d : Nat → Nat} {l : Nat} : leastL n d = some l ↔ l < n ∧ d l = 1 ∧ ∀ v, v < l → d v ≠ 1 := by
  unfold leastL
  induction n with
  | zero => simp
  | succ n ih =>
    rw [List.range_succ, List.find?_append]
    cases hf : (List.range n).find? (fun v => decide (d v = 1)) with
    | some k =>
      have hk := ih
      rw [hf] at hk
      simp only [Option.some_or]
      constructor
      · intro e
        obtain ⟨h1, h2, h3⟩ := hk.1 e
        exact ⟨by omega, h2, h3⟩
      · rintro ⟨h1, h2, h3⟩
        by_cases hl : l < n
        · exact hk.2 ⟨hl, h2, h3⟩
        · exfalso
          have := List.find?_some hf
          have hm := List.mem_of_find?_eq_some hf
          rw [List.mem_range] at hm
          exact h3 k (by omega) (by simpa using this)
    | none =>
      have hno : ∀ v, v < n → d v ≠ 1 := fun v hv => by simpa using List.find?_eq_none.1 hf v (List.mem_range.2 hv)
      simp only [Option.none_or, List.find?_cons, List.find?_nil]
      by_cases hn : d n = 1
      · simp only [hn, decide_true, Option.some.injEq]
        constructor
        · rintro rfl; exact ⟨by omega, hn, hno⟩
        · rintro ⟨h1, h2, h3⟩
          have : ¬ l < n := fun h => hno l h h2
          omega
      · simp only [hn, decide_false]
        constructor
        · intro h; cases h
        · rintro ⟨h1, h2, h3⟩
          by_cases hl : l < n
          · exact absurd h2 (hno l hl)
          · obtain rfl : l = n := by omega
            exact absurd h2 hn
theorem least_congr {n : Nat} {d d' : Nat → Nat} (h : ∀ v, d v = d' v) : leastL n d = leastL n d' := by
  rw [show d = d' from funext h]

/-- a code: leaf by leaf -/
def codeE (n : Nat) : Nat → Edges → List Nat
  | 0, _ => []
  | k + 1, E => match leastL n (deg E) with
    | none => []
    | some l => (E.filter (touches l)).map (other l) ++ codeE n k (E.filter fun e => !touches l e)
def down (d : Nat → Nat) (l c : Nat) : Nat → Nat := fun v => if v = l then 0 else if v = c then d v - 1 else d v
/-- the edges of a code, in the order in which they are found -/
def treeE (n : Nat) : List Nat → (Nat → Nat) → Edges
  | [], d => match (List.range n).filter fun v => decide (d v = 1) with
    | [a, b] => [(a, b)]
    | _ => []
  | c :: r, d => match leastL n d with
    | none => []
    | some l => (l, c) :: treeE n r (down d l c)

/-- edges in the order in which they are left out, and the code that they give -/
inductive Pl (n : Nat) : Edges → List Nat → Prop where
  | last (a b : Nat) : a < b → b < n → Pl n [(a, b)] []
  | step (l x : Nat) (es : Edges) (c : List Nat) : l < n → x < n → l ≠ x → deg es l = 0 → deg es x ≠ 0 → leastL n (deg ((l, x) :: es)) = some l → Pl n es c → Pl n ((l, x) :: es) (x :: c)
theorem Pl.length {n : Nat} {es : Edges} {c : List Nat} (h : Pl n es c) : es.length = c.length + 1 := by
  induction h with
  | last => rfl
  | step _ _ _ _ _ _ _ _ _ _ _ ih => simp [ih]
theorem deg1_self {l x : Nat} (h : l ≠ x) : deg1 (l, x) l = 1 := by unfold deg1; simp [Ne.symm h]
theorem deg1_other {l x : Nat} (h : l ≠ x) : deg1 (l, x) x = 1 := by unfold deg1; simp [h]
theorem deg1_none {l x v : Nat} (h1 : v ≠ l) (h2 : v ≠ x) : deg1 (l, x) v = 0 := by unfold deg1; simp [Ne.symm h1, Ne.symm h2]
/-- degrees are told by codes -/
theorem Pl.deg_count {n : Nat} {es : Edges} {c : List Nat} (h : Pl n es c) (v : Nat) : deg es v = (if deg es v = 0 then 0 else 1) + c.count v := by
  induction h with
  | last a b hab hb =>
    rw [deg_cons, deg_nil, List.count_nil]
    by_cases h1 : v = a
    · subst h1; rw [deg1_self (by omega)]; rfl
    · by_cases h2 : v = b
      · subst h2; rw [deg1_other (by omega)]; rfl
      · rw [deg1_none h1 h2]; rfl
  | step l x es c hl hx hlx hdl hdx _ hp ih =>
    rw [deg_cons, List.count_cons]
    by_cases h1 : v = l
    · subst h1
      have hc : c.count v = 0 := by rw [hdl] at ih; simp at ih; exact ih.symm
      rw [deg1_self hlx, hdl, hc]
      simp [Ne.symm hlx]
    · by_cases h2 : v = x
      · subst h2
        rw [if_neg hdx] at ih
        rw [deg1_other hlx]
        simp
        omega
      · rw [deg1_none h1 h2, Nat.zero_add]
        have : (x == v) = false := by simp [Ne.symm h2]
        rw [this]
        simpa using ih
theorem Pl.lt {n : Nat} {es : Edges} {c : List Nat} (h : Pl n es c) : ∀ e ∈ es, e.1 < n ∧ e.2 < n ∧ e.1 ≠ e.2 := by
  induction h with
  | last a b hab hb => intro e he; simp at he; subst he; simp only; omega
  | step l x es c hl hx hlx _ _ _ _ ih =>
    intro e he
    rcases List.mem_cons.1 he with rfl | he
    · exact ⟨hl, hx, hlx⟩
    · exact ih e he
theorem asc_nat : ∀ (L M : List Nat), L.Pairwise (· < ·) → M.Pairwise (· < ·) → (∀ x, x ∈ L ↔ x ∈ M) → L = M
  | [], [], _, _, _ => rfl
  | [], y :: M, _, _, h => by have := (h y).2 (by simp); simp at this
  | x :: L, [], _, _, h => by have := (h x).1 (by simp); simp at this
  | x :: L, y :: M, h1, h2, h => by
    obtain ⟨a1, a2⟩ := List.pairwise_cons.1 h1
    obtain ⟨b1, b2⟩ := List.pairwise_cons.1 h2
    have hxy : x = y := by
      rcases List.mem_cons.1 ((h x).1 (by simp)) with e | m1
      · exact e
      · rcases List.mem_cons.1 ((h y).2 (by simp)) with e | m2
        · exact e.symm
        · have q1 := b1 x m1
          have q2 := a1 y m2
          omega
    subst hxy
    have : L = M := asc_nat L M a2 b2 (fun z => by
      have hz := h z
      simp only [List.mem_cons] at hz
      constructor
      · intro m
        rcases hz.1 (.inr m) with e | m'
        · subst e; have := a1 z m; omega
        · exact m'
      · intro m
        rcases hz.2 (.inr m) with e | m'
        · subst e; have := b1 z m; omega
        · exact m')
    rw [this]
theorem filter_two {n a b : Nat} (hab : a < b) (hb : b < n) : ((List.range n).filter fun v => decide (deg [(a, b)] v = 1)) = [a, b] := by
  have hd : ∀ v, deg [(a, b)] v = 1 ↔ v = a ∨ v = b := by
    intro v
    rw [deg_cons, deg_nil]
    by_cases h1 : v = a
    · subst h1; rw [deg1_self (by omega)]; simp
    · by_cases h2 : v = b
      · subst h2; rw [deg1_other (by omega)]; simp
      · rw [deg1_none h1 h2]; simp [h1, h2]
  apply asc_nat
  · exact (List.pairwise_lt_range).filter _
  · simpa using hab
  · intro v
    rw [List.mem_filter, List.mem_range, decide_eq_true_iff, hd]
    simp only [List.mem_cons, List.mem_nil_iff, or_false]
    omega
/-- a code gives the edges back -/
theorem Pl.tree {n : Nat} {es : Edges} {c : List Nat} (h : Pl n es c) : treeE n c (deg es) = es := by
  induction h with
  | last a b hab hb => rw [treeE, filter_two hab hb]
  | step l x es c hl hx hlx hdl hdx hm hp ih =>
    rw [treeE, hm]
    simp only
    have e1 : down (deg ((l, x) :: es)) l x = deg es := by
      funext v
      unfold down
      rw [deg_cons]
      by_cases h1 : v = l
      · subst h1; rw [if_pos rfl, hdl]
      · rw [if_neg h1]
        by_cases h2 : v = x
        · subst h2; rw [if_pos rfl, deg1_other hlx]; omega
        · rw [if_neg h2, deg1_none h1 h2]; omega
    rw [e1, ih]

/-! ### a code is told by the edges, in whatever order they stand -/
theorem filter_same {A B : Edges} (h : SameE A B) (l : Nat) : SameE (A.filter fun e => !touches l e) (B.filter fun e => !touches l e) := by
  have key : ∀ X : Edges, (X.filter fun e => !touches l e).map norm = (X.map norm).filter fun e => !touches l e := by
    intro X
    rw [List.filter_map]
    congr 1
    apply List.filter_congr
    intro e _
    have : touches l (norm e) = touches l e := by
      rw [Bool.eq_iff_iff, touch_iff, touch_iff, deg1_norm]
    simp [this]
  show (List.map norm _).Perm (List.map norm _)
  rw [key, key]
  exact List.Perm.filter _ h
theorem touch_same {A B : Edges} (h : SameE A B) (l : Nat) (hd : deg B l = 1) : ((A.filter (touches l)).map (other l)).Perm ((B.filter (touches l)).map (other l)) := by
  have key : ∀ X : Edges, deg X l = 1 → (X.filter (touches l)).map (other l) = ((X.map norm).filter (touches l)).map (other l) := by
    intro X hX
    rw [List.filter_map, List.map_map]
    have e1 : (touches l ∘ norm) = touches l := by
      funext e
      rw [Bool.eq_iff_iff]
      show touches l (norm e) = true ↔ _
      rw [touch_iff, touch_iff, deg1_norm]
    rw [e1]
    apply List.map_congr_left
    intro e he
    obtain ⟨he1, he2⟩ := List.mem_filter.1 he
    have hle : deg1 e l ≤ deg X l := by
      clear hX he he2 e1
      induction X with
      | nil => simp at he1
      | cons y r ih =>
        rw [deg_cons]
        rcases List.mem_cons.1 he1 with rfl | h
        · omega
        · have := ih h; omega
    rw [touch_iff] at he2
    exact (other_norm e l (by omega)).symm
  rw [key A (by rw [h.deg, hd]), key B hd]
  exact (List.Perm.filter _ h).map _
theorem filter_out {es : Edges} {l : Nat} (h : deg es l = 0) : es.filter (touches l) = [] ∧ (es.filter fun e => !touches l e) = es := by
  have hno : ∀ e ∈ es, touches l e = false := by
    intro e he
    cases ht : touches l e with
    | false => rfl
    | true =>
      exfalso
      rw [touch_iff] at ht
      induction es with
      | nil => simp at he
      | cons y r ih =>
        rw [deg_cons] at h
        rcases List.mem_cons.1 he with rfl | he
        · omega
        · exact ih (by omega) he
  exact ⟨List.filter_eq_nil_iff.2 fun e he => by rw [hno e he]; simp, List.filter_eq_self.2 fun e he => by rw [hno e he]; rfl⟩
theorem Pl.code {n : Nat} {es : Edges} {c : List Nat} (h : Pl n es c) : ∀ F, SameE F es → codeE n c.length F = c := by
  induction h with
  | last a b _ _ => intro F _; rfl
  | step l x es c hl hx hlx hdl hdx hm hp ih =>
    intro F hF
    rw [List.length_cons, codeE, least_congr (hF.deg), hm]
    simp only
    have t1 : touches l (l, x) = true := by simp [touches]
    obtain ⟨f1, f2⟩ := filter_out hdl
    have hd1 : deg ((l, x) :: es) l = 1 := by rw [deg_cons, deg1_self hlx, hdl]
    have e1 := touch_same hF l hd1
    rw [List.filter_cons_of_pos t1, f1] at e1
    have e2 : (F.filter (touches l)).map (other l) = [x] := by
      have e3 := List.perm_singleton.1 e1
      rw [e3]
      simp [other]
    have s2 := filter_same hF l
    have e4 : (((l, x) :: es).filter fun e => !touches l e) = es := by
      rw [List.filter_cons_of_neg (by simp [t1]), f2]
    rw [e4] at s2
    rw [e2, ih _ s2]
    rfl

/-- one round of leaving out -/
theorem Pl.round {n x : Nat} {es : Edges} {c : List Nat} (h : Pl n es (x :: c)) {F : Edges} (hF : SameE F es) :
    ∃ l es', leastL n (deg F) = some l ∧ (F.filter (touches l)).map (other l) = [x] ∧ Pl n es' c ∧ SameE (F.filter fun e => !touches l e) es' := by
  cases h with
  | step l _ es' _ hl hx hlx hdl hdx hm hp =>
    have t1 : touches l (l, x) = true := by simp [touches]
    obtain ⟨f1, f2⟩ := filter_out hdl
    have hd1 : deg ((l, x) :: es') l = 1 := by rw [deg_cons, deg1_self hlx, hdl]
    have e1 := touch_same hF l hd1
    rw [List.filter_cons_of_pos t1, f1] at e1
    have s2 := filter_same hF l
    have e4 : (((l, x) :: es').filter fun e => !touches l e) = es' := by
      rw [List.filter_cons_of_neg (by simp [t1]), f2]
    rw [e4] at s2
    refine ⟨l, es', by rw [least_congr (hF.deg)]; exact hm, ?_, hp, s2⟩
    rw [List.perm_singleton.1 e1]
    simp [other]

/-! ### each code has edges -/
/-- degrees that fit a code: those that are there have one more than they are written down -/
def Fits (n : Nat) (S : List Nat) (c : List Nat) (d : Nat → Nat) : Prop :=
  S.Pairwise (· < ·) ∧ (∀ v ∈ S, v < n) ∧ (∀ x ∈ c, x ∈ S) ∧ S.length = c.length + 2 ∧ ∀ v, d v = (if v ∈ S then 1 else 0) + c.count v
theorem fits_leaf {n : Nat} {S c : List Nat} {d : Nat → Nat} (h : Fits n S c d) : ∃ l, leastL n d = some l ∧ l ∈ S ∧ l ∉ c := by
  obtain ⟨h1, h2, h3, h4, h5⟩ := h
  have hex : ∃ v ∈ S, v ∉ c := by
    apply Classical.byContradiction
    intro hno
    have hsub : ∀ v ∈ S, v ∈ c := fun v hv => Classical.byContradiction fun hc => hno ⟨v, hv, hc⟩
    have hnd : S.Nodup := h1.imp fun hab => by omega
    have := List.Nodup.length_le_of_subset hnd hsub
    omega
  obtain ⟨v, hv, hc⟩ := hex
  have hdv : d v = 1 := by rw [h5, if_pos hv, List.count_eq_zero.2 hc]
  cases hl : leastL n d with
  | none =>
    exfalso
    unfold leastL at hl
    have := List.find?_eq_none.1 hl v (List.mem_range.2 (h2 v hv))
    simp [hdv] at this
  | some l =>
    obtain ⟨l1, l2, l3⟩ := least_some.1 hl
    rw [h5] at l2
    by_cases hls : l ∈ S
    · rw [if_pos hls] at l2
      exact ⟨l, rfl, hls, List.count_eq_zero.1 (by omega)⟩
    · rw [if_neg hls] at l2
      exfalso
      have : l ∈ c := List.count_pos_iff.1 (by omega)
      exact hls (h3 l this)
theorem fits_two {n a b : Nat} {d : Nat → Nat} (h : Fits n [a, b] [] d) : (List.range n).filter (fun v => decide (d v = 1)) = [a, b] ∧ a < b ∧ b < n := by
  obtain ⟨h1, h2, h3, h4, h5⟩ := h
  have hab : a < b := by simpa using h1
  have hb := h2 b (by simp)
  refine ⟨?_, hab, hb⟩
  apply asc_nat
  · exact (List.pairwise_lt_range).filter _
  · exact h1
  · intro v
    rw [List.mem_filter, List.mem_range, decide_eq_true_iff, h5, List.count_nil]
    constructor
    · rintro ⟨_, h⟩
      by_cases hm : v ∈ [a, b]
      · exact hm
      · rw [if_neg hm] at h; simp at h
    · intro hm
      exact ⟨h2 v hm, by rw [if_pos hm]⟩
theorem fits_down {n l x : Nat} {S c : List Nat} {d : Nat → Nat} (h : Fits n S (x :: c) d) (hl : l ∈ S) (hlc : l ∉ x :: c) : Fits n (S.filter fun v => decide (v ≠ l)) c (down d l x) := by
  obtain ⟨h1, h2, h3, h4, h5⟩ := h
  have hx : x ≠ l := fun e => hlc (by simp [e])
  have hc : l ∉ c := fun e => hlc (by simp [e])
  refine ⟨h1.filter _, fun v hv => h2 v (List.mem_filter.1 hv).1, fun y hy => ?_, ?_, fun v => ?_⟩
  · exact List.mem_filter.2 ⟨h3 y (by simp [hy]), decide_eq_true (fun e => hc (by rw [← e]; exact hy))⟩
  · have hnd : S.Nodup := h1.imp fun hab => by omega
    have e1 : (S.filter fun v => decide (v ≠ l)) = S.erase l := by
      rw [List.Nodup.erase_eq_filter hnd]
      apply List.filter_congr
      intro y _
      by_cases h : y = l <;> simp [h]
    rw [e1, List.length_erase_of_mem hl, h4]
    simp
  · unfold down
    by_cases e1 : v = l
    · subst e1
      rw [if_pos rfl, if_neg (by simp), List.count_eq_zero.2 hc]
    · rw [if_neg e1]
      have hm : v ∈ (S.filter fun v => decide (v ≠ l)) ↔ v ∈ S := by simp [e1]
      by_cases e2 : v = x
      · subst e2
        rw [if_pos rfl, h5, List.count_cons_self]
        have hvS : v ∈ S := h3 v (by simp)
        rw [if_pos hvS, if_pos (hm.2 hvS)]
        omega
      · rw [if_neg e2, h5, List.count_cons_of_ne (Ne.symm e2)]
        by_cases hvS : v ∈ S
        · rw [if_pos hvS, if_pos (hm.2 hvS)]
        · rw [if_neg hvS, if_neg (fun h => hvS (hm.1 h))]
theorem fits_pl {n : Nat} : ∀ (c S : List Nat) (d : Nat → Nat), Fits n S c d → Pl n (treeE n c d) c ∧ ∀ v, deg (treeE n c d) v = d v := by
  intro c
  induction c with
  | nil =>
    intro S d h
    obtain ⟨a, b, rfl⟩ : ∃ a b, S = [a, b] := by
      have := h.2.2.2.1
      match S, this with
      | [a, b], _ => exact ⟨a, b, rfl⟩
    obtain ⟨h1, h2, h3⟩ := fits_two h
    rw [treeE, h1]
    refine ⟨Pl.last a b h2 h3, fun v => ?_⟩
    rw [h.2.2.2.2 v, deg_cons, deg_nil, List.count_nil]
    simp only [List.mem_cons, List.mem_nil_iff, or_false]
    by_cases e1 : v = a
    · subst e1; rw [deg1_self (by omega), if_pos (.inl rfl)]
    · by_cases e2 : v = b
      · subst e2; rw [deg1_other (by omega), if_pos (.inr rfl)]
      · rw [deg1_none e1 e2, if_neg (by simp [e1, e2])]
  | cons x c ih =>
    intro S d h
    obtain ⟨l, hl, hlS, hlc⟩ := fits_leaf h
    have hd := fits_down h hlS hlc
    obtain ⟨p, q⟩ := ih _ _ hd
    have hx : x ≠ l := fun e => hlc (by simp [e])
    have hxS : x ∈ S := h.2.2.1 x (by simp)
    have qd : ∀ v, deg ((l, x) :: treeE n c (down d l x)) v = d v := by
      intro v
      rw [deg_cons, q v]
      unfold down
      have h5 := h.2.2.2.2
      by_cases e1 : v = l
      · subst e1
        rw [deg1_self (Ne.symm hx), if_pos rfl, h5, if_pos hlS, List.count_eq_zero.2 hlc]
      · rw [if_neg e1]
        by_cases e2 : v = x
        · subst e2
          have : d v ≥ 1 := by rw [h5, if_pos hxS]; omega
          rw [deg1_other (Ne.symm hx), if_pos rfl]
          omega
        · rw [deg1_none e1 e2, if_neg e2]; omega
    rw [treeE, hl]
    refine ⟨Pl.step l x _ c (h.2.1 l hlS) (h.2.1 x hxS) (Ne.symm hx) ?_ ?_ (by rw [least_congr qd]; exact hl) p, qd⟩
    · rw [q l]; unfold down; rw [if_pos rfl]
    · rw [q x]
      unfold down
      rw [if_neg hx, if_pos rfl, h.2.2.2.2 x, if_pos hxS, List.count_cons_self]
      omega
/-- a code of n nodes -/
theorem fits_code {n : Nat} {c : List Nat} (hn : n = c.length + 2) (hc : ∀ x ∈ c, x < n) : Fits n (List.range n) c (fun v => (if v < n then 1 else 0) + c.count v) := by
  refine ⟨List.pairwise_lt_range, fun v hv => List.mem_range.1 hv, fun x hx => List.mem_range.2 (hc x hx), by rw [List.length_range, hn], fun v => ?_⟩
  simp only [List.mem_range]

/-! ### nodes that are reached -/
inductive Reach (E : Edges) : Nat → Nat → Prop where
  | refl (u : Nat) : Reach E u u
  | step (u v w : Nat) : Reach E u v → (v, w) ∈ E ∨ (w, v) ∈ E → Reach E u w
theorem Reach.trans {E : Edges} {u v w : Nat} (h : Reach E u v) (k : Reach E v w) : Reach E u w := by
  induction k with
  | refl => exact h
  | step _ _ _ he ih => exact .step _ _ _ ih he
theorem Reach.one {E : Edges} {u v : Nat} (h : (u, v) ∈ E ∨ (v, u) ∈ E) : Reach E u v := .step _ _ _ (.refl u) h
theorem Reach.symm {E : Edges} {u v : Nat} (h : Reach E u v) : Reach E v u := by
  induction h with
  | refl => exact .refl _
  | step _ _ _ he ih => exact (Reach.one he.symm).trans ih
theorem Reach.mono {A B : Edges} (hs : ∀ a b, ((a, b) ∈ A ∨ (b, a) ∈ A) → ((a, b) ∈ B ∨ (b, a) ∈ B)) {u v : Nat} (h : Reach A u v) : Reach B u v := by
  induction h with
  | refl => exact .refl _
  | step _ _ _ he ih => exact .step _ _ _ ih (hs _ _ he)
theorem mem_norm {E : Edges} {a b : Nat} : norm (a, b) ∈ E.map norm ↔ (a, b) ∈ E ∨ (b, a) ∈ E := by
  rw [List.mem_map]
  constructor
  · rintro ⟨⟨c, d⟩, hm, he⟩
    rcases norm_eq he with ⟨rfl, rfl⟩ | ⟨rfl, rfl⟩
    · exact .inl hm
    · exact .inr hm
  · rintro (h | h)
    · exact ⟨_, h, rfl⟩
    · refine ⟨_, h, ?_⟩
      unfold norm; simp only [Prod.mk.injEq]; omega
theorem SameE.ends {A B : Edges} (h : SameE A B) (a b : Nat) : ((a, b) ∈ A ∨ (b, a) ∈ A) ↔ ((a, b) ∈ B ∨ (b, a) ∈ B) := by
  rw [← mem_norm, ← mem_norm, List.Perm.mem_iff h]
theorem SameE.reach {A B : Edges} (h : SameE A B) {u v : Nat} (hr : Reach A u v) : Reach B u v := hr.mono fun a b => (h.ends a b).1
theorem deg_edge {E : Edges} {u v : Nat} (h : (u, v) ∈ E ∨ (v, u) ∈ E) : deg E v ≠ 0 := by
  have key : ∀ (e : Nat × Nat) (E : Edges), e ∈ E → deg1 e v ≤ deg E v := by
    intro e E
    induction E with
    | nil => intro h; simp at h
    | cons y r ih =>
      intro h
      rw [deg_cons]
      rcases List.mem_cons.1 h with rfl | h
      · omega
      · have := ih h; omega
  rcases h with h | h
  · have := key _ _ h
    unfold deg1 at this
    simp at this
    omega
  · have := key _ _ h
    unfold deg1 at this
    simp at this
    omega
theorem reach_deg {E : Edges} {u v : Nat} (h : Reach E u v) (hne : u ≠ v) : deg E v ≠ 0 := by
  cases h with
  | refl => exact absurd rfl hne
  | step p _ hp he => exact deg_edge he
theorem deg_mem {E : Edges} {v : Nat} (h : deg E v ≠ 0) : ∃ e ∈ E, deg1 e v ≠ 0 := by
  induction E with
  | nil => exact absurd rfl h
  | cons y r ih =>
    rw [deg_cons] at h
    by_cases hy : deg1 y v = 0
    · obtain ⟨e, he, h2⟩ := ih (by omega)
      exact ⟨e, List.mem_cons_of_mem _ he, h2⟩
    · exact ⟨y, by simp, hy⟩
theorem deg1_end {e : Nat × Nat} {v : Nat} (h : deg1 e v ≠ 0) : e.1 = v ∨ e.2 = v := by
  unfold deg1 at h
  by_cases h1 : e.1 = v
  · exact .inl h1
  · by_cases h2 : e.2 = v
    · exact .inr h2
    · simp [h1, h2] at h

/-- what a peel leaves hangs together -/
theorem Pl.reach {n : Nat} {es : Edges} {c : List Nat} (h : Pl n es c) : ∀ u v, deg es u ≠ 0 → deg es v ≠ 0 → Reach es u v := by
  induction h with
  | last a b hab hb =>
    intro u v hu hv
    have hend : ∀ w, deg [(a, b)] w ≠ 0 → w = a ∨ w = b := fun w hw => by
      obtain ⟨e, he, hd⟩ := deg_mem hw
      simp at he; subst he
      rcases deg1_end hd with h | h
      · exact .inl h.symm
      · exact .inr h.symm
    rcases hend u hu with rfl | rfl <;> rcases hend v hv with rfl | rfl
    · exact .refl _
    · exact .one (.inl (by simp))
    · exact .one (.inr (by simp))
    · exact .refl _
  | step l x es c hl hx hlx hdl hdx _ _ ih =>
    have hub : ∀ w, deg ((l, x) :: es) w ≠ 0 → Reach ((l, x) :: es) w x := fun w hw => by
      by_cases e1 : w = l
      · subst e1; exact .one (.inl (by simp))
      · by_cases e2 : w = x
        · subst e2; exact .refl _
        · rw [deg_cons, deg1_none e1 e2, Nat.zero_add] at hw
          exact (ih w x hw hdx).mono fun a b h => h.imp (List.mem_cons_of_mem _) (List.mem_cons_of_mem _)
    intro u v hu hv
    exact (hub u hu).trans (hub v hv).symm
theorem Pl.nodup {n : Nat} {es : Edges} {c : List Nat} (h : Pl n es c) : (es.map norm).Nodup := by
  induction h with
  | last => simp
  | step l x es c _ _ hlx hdl _ _ _ ih =>
    rw [List.map_cons, List.nodup_cons]
    refine ⟨fun hm => ?_, ih⟩
    rw [mem_norm] at hm
    exact deg_edge hm.symm hdl

/-! ### what hangs together can be peeled -/
theorem sum_zero (S : List Nat) : (S.map fun _ => 0).sum = 0 := by
  induction S with
  | nil => rfl
  | cons y r ih => rw [List.map_cons, List.sum_cons, ih]
theorem sum_one {S : List Nat} (hS : S.Nodup) {a : Nat} (ha : a ∈ S) : (S.map fun v => if a = v then 1 else 0).sum = 1 := by
  induction S with
  | nil => simp at ha
  | cons y r ih =>
    obtain ⟨h1, h2⟩ := List.nodup_cons.1 hS
    rw [List.map_cons, List.sum_cons]
    rcases List.mem_cons.1 ha with rfl | h
    · rw [if_pos rfl]
      have : (r.map fun v => if a = v then 1 else 0).sum = 0 := by
        have hz : (r.map fun v => if a = v then 1 else 0) = r.map fun _ => 0 := by
          apply List.map_congr_left
          intro v hv
          rw [if_neg]
          rintro rfl; exact h1 hv
        rw [hz, sum_zero]
      omega
    · rw [if_neg (by rintro rfl; exact h1 h), ih h2 h]
theorem sum_add (S : List Nat) (f g : Nat → Nat) : (S.map fun v => f v + g v).sum = (S.map f).sum + (S.map g).sum := by
  induction S with
  | nil => rfl
  | cons y r ih => simp only [List.map_cons, List.sum_cons, ih]; omega
theorem deg_sum {S : List Nat} (hS : S.Nodup) : ∀ F : Edges, (∀ e ∈ F, e.1 ∈ S ∧ e.2 ∈ S) → (S.map (deg F)).sum = 2 * F.length := by
  intro F
  induction F with
  | nil =>
    intro _
    have : (S.map (deg [])) = S.map fun _ => 0 := rfl
    rw [this, sum_zero]; rfl
  | cons e r ih =>
    intro h
    have e1 : (S.map (deg (e :: r))) = S.map fun v => deg1 e v + deg r v := rfl
    rw [e1, sum_add, ih fun y hy => h y (List.mem_cons_of_mem _ hy)]
    have e2 : (S.map (deg1 e)) = S.map fun v => (if e.1 = v then 1 else 0) + (if e.2 = v then 1 else 0) := rfl
    obtain ⟨h1, h2⟩ := h e (by simp)
    rw [e2, sum_add, sum_one hS h1, sum_one hS h2, List.length_cons]
    omega
theorem touch_len {F : Edges} (hne : ∀ e ∈ F, e.1 ≠ e.2) (l : Nat) : (F.filter (touches l)).length = deg F l := by
  induction F with
  | nil => rfl
  | cons e r ih =>
    have hr := ih fun y hy => hne y (List.mem_cons_of_mem _ hy)
    have he := hne e (by simp)
    rw [deg_cons]
    by_cases ht : touches l e = true
    · rw [List.filter_cons_of_pos ht, List.length_cons, hr]
      rw [touch_iff] at ht
      have : deg1 e l = 1 := by
        unfold deg1 at *
        by_cases h1 : e.1 = l <;> by_cases h2 : e.2 = l <;> simp_all
      omega
    · rw [List.filter_cons_of_neg ht, hr]
      have : deg1 e l = 0 := Classical.byContradiction fun h => ht ((touch_iff e l).2 h)
      omega
/-- a tree over some nodes -/
structure Tree (n : Nat) (S : List Nat) (F : Edges) : Prop where
  asc : S.Pairwise (· < ·)
  lt : ∀ v ∈ S, v < n
  ends : ∀ e ∈ F, e.1 ∈ S ∧ e.2 ∈ S ∧ e.1 ≠ e.2
  conn : ∀ u ∈ S, ∀ v ∈ S, Reach F u v
theorem Tree.nodup {n : Nat} {S : List Nat} {F : Edges} (h : Tree n S F) : S.Nodup := h.asc.imp fun hab => by omega
theorem Tree.pos {n : Nat} {S : List Nat} {F : Edges} (h : Tree n S F) (h2 : 2 ≤ S.length) {v : Nat} (hv : v ∈ S) : deg F v ≠ 0 := by
  obtain ⟨u, hu, hne⟩ : ∃ u ∈ S, u ≠ v := by
    apply Classical.byContradiction
    intro hno
    have hsub : ∀ u ∈ S, u ∈ [v] := fun u hu => by
      rw [List.mem_singleton]
      exact Classical.byContradiction fun hc => hno ⟨u, hu, hc⟩
    have := List.Nodup.length_le_of_subset h.nodup hsub
    simp at this; omega
  exact reach_deg (h.conn u hu v hv) hne
theorem tree_peel {n : Nat} : ∀ (m : Nat) (S : List Nat) (F : Edges), Tree n S F → S.length = m + 2 → F.length = m + 1 → ∃ es c, Pl n es c ∧ SameE F es := by
  intro m
  induction m with
  | zero =>
    intro S F h hS hF
    match S, hS with
    | [a, b], _ =>
      match F, hF with
      | [e], _ =>
        have hab : a < b := by simpa using h.asc
        obtain ⟨h1, h2, h3⟩ := h.ends e (by simp)
        simp only [List.mem_cons, List.mem_nil_iff, or_false] at h1 h2
        refine ⟨[(a, b)], [], Pl.last a b hab (h.lt b (by simp)), ?_⟩
        have : norm e = norm (a, b) := by
          unfold norm
          simp only [Prod.mk.injEq]
          omega
        show ([e].map norm).Perm ([(a, b)].map norm)
        rw [List.map_cons, List.map_cons, this]
  | succ m ih =>
    intro S F h hS hF
    have hpos : ∀ v ∈ S, deg F v ≠ 0 := fun v hv => h.pos (by omega) hv
    have hsum := deg_sum h.nodup F fun e he => ⟨(h.ends e he).1, (h.ends e he).2.1⟩
    obtain ⟨w, hwS, hw1⟩ : ∃ w ∈ S, deg F w = 1 := by
      apply Classical.byContradiction
      intro hno
      have hge : ∀ v ∈ S, 2 ≤ deg F v := fun v hv => by
        have h1 := hpos v hv
        have h2 : deg F v ≠ 1 := fun e => hno ⟨v, hv, e⟩
        omega
      have key : ∀ T : List Nat, (∀ v ∈ T, 2 ≤ deg F v) → 2 * T.length ≤ (T.map (deg F)).sum := by
        intro T
        induction T with
        | nil => intro _; simp
        | cons y r ih2 =>
          intro hT
          have h1 := hT y (by simp)
          have h2 := ih2 fun v hv => hT v (List.mem_cons_of_mem _ hv)
          simp only [List.map_cons, List.sum_cons, List.length_cons]
          omega
      have := key S hge
      omega
    obtain ⟨l, hl⟩ : ∃ l, leastL n (deg F) = some l := by
      cases hl : leastL n (deg F) with
      | some l => exact ⟨l, rfl⟩
      | none =>
        exfalso
        unfold leastL at hl
        have := List.find?_eq_none.1 hl w (List.mem_range.2 (h.lt w hwS))
        simp [hw1] at this
    obtain ⟨l1, l2, _⟩ := least_some.1 hl
    obtain ⟨e, he, hed⟩ := deg_mem (E := F) (v := l) (by omega)
    have hlS : l ∈ S := by
      rcases deg1_end hed with h1 | h1
      · rw [← h1]; exact (h.ends e he).1
      · rw [← h1]; exact (h.ends e he).2.1
    have hone := touch_len (fun e he => (h.ends e he).2.2) l (F := F)
    rw [l2] at hone
    obtain ⟨e0, he0⟩ := List.length_eq_one_iff.1 hone
    have hm0 : e0 ∈ F ∧ touches l e0 = true := List.mem_filter.1 (by rw [he0]; simp)
    obtain ⟨x, hx⟩ : ∃ x, x = other l e0 := ⟨_, rfl⟩
    obtain ⟨q1, q2, q3⟩ := h.ends e0 hm0.1
    have hdir : e0 = (l, x) ∨ e0 = (x, l) := by
      rcases deg1_end ((touch_iff e0 l).1 hm0.2) with h1 | h1
      · left
        rw [hx]; unfold other; rw [if_pos h1, ← h1]
      · right
        rw [hx]; unfold other; rw [if_neg (by rw [← h1]; exact q3)]; rw [← h1]
    have hlx : l ≠ x := by
      rcases hdir with h1 | h1 <;> rw [h1] at q3 <;> simp only at q3
      · exact q3
      · exact Ne.symm q3
    have hxS : x ∈ S := by
      rcases hdir with h1 | h1 <;> rw [h1] at q1 q2
      · exact q2
      · exact q1
    obtain ⟨F', hF'⟩ : ∃ F', F' = F.filter fun e => !touches l e := ⟨_, rfl⟩
    have hperm : F.Perm (e0 :: F') := by
      have := (List.filter_append_perm (touches l) F).symm
      rw [he0, ← hF'] at this
      exact this
    have hn0 : norm e0 = norm (l, x) := by
      rcases hdir with h1 | h1
      · rw [h1]
      · rw [h1]; unfold norm; simp only [Prod.mk.injEq]; omega
    have hlen : F'.length = m + 1 := by
      have := hperm.length_eq
      rw [hF, List.length_cons] at this; omega
    obtain ⟨S', hS'⟩ : ∃ S', S' = S.filter fun v => decide (v ≠ l) := ⟨_, rfl⟩
    have hmS : ∀ v, v ∈ S' ↔ v ∈ S ∧ v ≠ l := fun v => by rw [hS', List.mem_filter, decide_eq_true_iff]
    have hlS' : S'.length = m + 2 := by
      have e1 : S' = S.erase l := by
        rw [hS', List.Nodup.erase_eq_filter h.nodup]
        apply List.filter_congr
        intro y _
        by_cases h : y = l <;> simp [h]
      rw [e1, List.length_erase_of_mem hlS, hS]; rfl
    have hnt : ∀ e ∈ F', deg1 e l = 0 := fun e he => by
      rw [hF'] at he
      have h1 := (List.mem_filter.1 he).2
      apply Classical.byContradiction
      intro h2
      rw [(touch_iff e l).2 h2] at h1
      cases h1
    have hmF : ∀ e, e ∈ F' → e ∈ F := fun e he => by rw [hF'] at he; exact (List.mem_filter.1 he).1
    have hT' : Tree n S' F' := by
      refine ⟨by rw [hS']; exact h.asc.filter _, fun v hv => h.lt v ((hmS v).1 hv).1, fun e he => ?_, fun u hu v hv => ?_⟩
      · obtain ⟨r1, r2, r3⟩ := h.ends e (hmF e he)
        have h0 := hnt e he
        refine ⟨(hmS _).2 ⟨r1, fun hh => ?_⟩, (hmS _).2 ⟨r2, fun hh => ?_⟩, r3⟩
        · unfold deg1 at h0; rw [if_pos hh] at h0; omega
        · unfold deg1 at h0; rw [if_pos hh] at h0; omega
      · have hr := h.conn u ((hmS u).1 hu).1 v ((hmS v).1 hv).1
        have key : ∀ a b, Reach F a b → Reach F' (if a = l then x else a) (if b = l then x else b) := by
          intro a b hab
          induction hab with
          | refl => exact .refl _
          | step p q hp hpq ih2 =>
            refine ih2.trans ?_
            have hstep : ∀ y z, (y, z) ∈ F → Reach F' (if y = l then x else y) (if z = l then x else z) := by
              intro y z hyz
              rcases List.mem_cons.1 (hperm.mem_iff.1 hyz) with h1 | h1
              · rcases hdir with h2 | h2
                · rw [h2] at h1
                  obtain ⟨rfl, rfl⟩ := Prod.mk.inj h1
                  rw [if_pos rfl, if_neg (Ne.symm hlx)]; exact .refl _
                · rw [h2] at h1
                  obtain ⟨rfl, rfl⟩ := Prod.mk.inj h1
                  rw [if_pos rfl, if_neg (Ne.symm hlx)]; exact .refl _
              · have h0 := hnt _ h1
                unfold deg1 at h0
                simp only at h0
                have hy : y ≠ l := fun hh => by rw [if_pos hh] at h0; omega
                have hz : z ≠ l := fun hh => by rw [if_pos hh] at h0; omega
                rw [if_neg hy, if_neg hz]
                exact .one (.inl h1)
            rcases hpq with h1 | h1
            · exact hstep p q h1
            · exact (hstep q p h1).symm
        have := key u v hr
        rw [if_neg ((hmS u).1 hu).2, if_neg ((hmS v).1 hv).2] at this
        exact this
    obtain ⟨es, c, hp, hs⟩ := ih S' F' hT' hlS' hlen
    have hsame : SameE F ((l, x) :: es) := by
      have h1 := hperm.map norm
      rw [List.map_cons, hn0] at h1
      show (F.map norm).Perm (List.map norm ((l, x) :: es))
      rw [List.map_cons]
      exact h1.trans (List.Perm.cons _ hs)
    have hdl : deg F' l = 0 := by
      apply Classical.byContradiction
      intro hh
      obtain ⟨e, he, h2⟩ := deg_mem hh
      exact h2 (hnt e he)
    refine ⟨(l, x) :: es, x :: c, Pl.step l x es c l1 (h.lt x hxS) hlx (by rw [← hs.deg]; exact hdl) ?_ ?_ hp, hsame⟩
    · rw [← hs.deg]
      exact hT'.pos (by omega) ((hmS x).2 ⟨hxS, Ne.symm hlx⟩)
    · rw [← least_congr (fun v => hsame.deg v)]; exact hl
end Go.Proofs.Ytfdalmeimhcdjaa
