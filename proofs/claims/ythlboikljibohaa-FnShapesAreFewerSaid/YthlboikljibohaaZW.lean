/-
  Plain facts on trees of edges and their codes: a tree is peeled leaf by leaf, and built back. Nothing of the program is named here.
  Plain facts on trees of edges whose rows ascend: what is a tree, its code, and the tree of a code. Nothing of the program is named here.
  Plain facts: the nodes that are reached, found one behind the other; rows of numbers that are a tree. Nothing of the program is named here.
  Plain facts: the nodes beside a node, the branches of a tree, how far they reach, the nodes in them. Nothing of the program is named here.
  Plain facts: how many nodes a tree has seen from a node, the longest ways, and its centers: one, or two beside each other. Nothing of the program is named here.
  Words on slices that a call itself makes: where they lie, and what keeps them.
  Words on lists of numbers in the call's own memory.
  Words on lists of rows of numbers in the call's own memory.
  Words on a slice of numbers that came in.
  Plain facts on how many words there are of each number of pairs.
  Nodes marked over edges, round by round; when edges that ascend, not strictly, are a tree. Plain facts.
  Plain facts on the program's way from a code to its tree: the last node is never the least leaf, so it ends the last edge. Nothing of the program is named here.
-/
import Derived.WalkKit
import Derived.Deep.AppendLies
import Derived.Laws.CopyOwn
import Derived.Lib.OthersKept
import Derived.Deep.QuietTactic
namespace Go.Proofs.Ythlboikljibohaa

abbrev Edges := List (Nat × Nat)
/-- how often a node is an end -/
def deg1 (e : Nat × Nat) (v : Nat) : Nat := (if e.1 = v then 1 else 0) + (if e.2 = v then 1 else 0)
def deg (E : Edges) (v : Nat) : Nat := (E.map fun e => deg1 e v).sum
theorem deg_nil (v : Nat) : deg [] v = 0 := rfl
theorem deg_cons (e : Nat × Nat) (E : Edges) (v : Nat) : deg (e :: E) v = deg1 e v + deg E v := by simp [deg]
theorem deg_append (A B : Edges) (v : Nat) : deg (A ++ B) v = deg A v + deg B v := by simp [deg]
def touches (v : Nat) (e : Nat × Nat) : Bool := decide (e.1 = v) || decide (e.2 = v)
def other (v : Nat) (e : Nat × Nat) : Nat := if e.1 = v then e.2 else e.1
theorem touch_iff (e : Nat × Nat) (v : Nat) : touches v e = true ↔ deg1 e v ≠ 0 := by
  unfold touches deg1
  by_cases h1 : e.1 = v <;> by_cases h2 : e.2 = v <;> simp [h1, h2]
/-- the lesser one first -/
def norm (e : Nat × Nat) : Nat × Nat := (min e.1 e.2, max e.1 e.2)
theorem norm_cases (e : Nat × Nat) : norm e = e ∨ norm e = (e.2, e.1) := by
  unfold norm
  by_cases h : e.1 ≤ e.2
  · left; rw [Nat.min_eq_left h, Nat.max_eq_right h]
  · right; rw [Nat.min_eq_right (by omega), Nat.max_eq_left (by omega)]
theorem deg1_flip (a b v : Nat) : deg1 (a, b) v = deg1 (b, a) v := by unfold deg1; simp only; omega
theorem deg1_norm (e : Nat × Nat) (v : Nat) : deg1 (norm e) v = deg1 e v := by
  rcases norm_cases e with h | h
  · rw [h]
  · rw [h]; exact deg1_flip _ _ _
theorem other_norm (e : Nat × Nat) (v : Nat) (h : deg1 e v = 1) : other v (norm e) = other v e := by
  rcases norm_cases e with k | k
  · rw [k]
  · rw [k]
    unfold other deg1 at *
    simp only at *
    by_cases h1 : e.1 = v <;> by_cases h2 : e.2 = v <;> simp_all
theorem norm_eq {a b c d : Nat} (h : norm (a, b) = norm (c, d)) : (a = c ∧ b = d) ∨ (a = d ∧ b = c) := by
  unfold norm at h
  simp only [Prod.mk.injEq] at h
  omega
theorem deg_perm {A B : Edges} (h : A.Perm B) (v : Nat) : deg A v = deg B v := (h.map _).sum_nat
theorem deg_norm (A : Edges) (v : Nat) : deg (A.map norm) v = deg A v := by
  induction A with
  | nil => rfl
  | cons e r ih => rw [List.map_cons, deg_cons, deg_cons, deg1_norm, ih]
/-- the same edges, in whatever order, each in whatever direction -/
def SameE (A B : Edges) : Prop := (A.map norm).Perm (B.map norm)
theorem SameE.deg {A B : Edges} (h : SameE A B) (v : Nat) : deg A v = deg B v := by rw [← deg_norm A, ← deg_norm B, deg_perm h]
theorem SameE.length {A B : Edges} (h : SameE A B) : A.length = B.length := by simpa using List.Perm.length_eq h
theorem SameE.symm {A B : Edges} (h : SameE A B) : SameE B A := List.Perm.symm h
theorem SameE.trans {A B C : Edges} (h : SameE A B) (k : SameE B C) : SameE A C := List.Perm.trans h k
theorem SameE.refl (A : Edges) : SameE A A := List.Perm.refl _
theorem norm_norm (e : Nat × Nat) : norm (norm e) = norm e := by unfold norm; simp only [Prod.mk.injEq]; omega
theorem same_norm (A : Edges) : SameE (A.map norm) A := by
  show ((A.map norm).map norm).Perm (A.map norm)
  rw [List.map_map, show (norm ∘ norm) = norm from funext norm_norm]

/-- the least node with one edge -/
def leastL (n : Nat) (d : Nat → Nat) : Option Nat := (List.range n).find? fun v => decide (d v = 1)
theorem least_some {n : Nat} {d : Nat → Nat} {l : Nat} : leastL n d = some l ↔ l < n ∧ d l = 1 ∧ ∀ v, v < l → d v ≠ 1 := by
  unfold leastL
  induction n with
  | zero => simp
  | succ n ih =>
    rw [List.range_succ, List.find?_append]
    cases hf : (List.range n).find? (fun v => decide (d v = 1)) with
    | some k =>
      have hk := ih
      rw [hf] at hk
      simp only [Option.some_or]
      constructor
      · intro e
        obtain ⟨h1, h2, h3⟩ := hk.1 e
        exact ⟨by omega, h2, h3⟩
      · rintro ⟨h1, h2, h3⟩
        by_cases hl : l < n
        · exact hk.2 ⟨hl, h2, h3⟩
        · exfalso
          have := List.find?_some hf
          have hm := List.mem_of_find?_eq_some hf
          rw [List.mem_range] at hm
          exact h3 k (by omega) (by simpa using this)
    | none =>
      have hno : ∀ v, v < n → d v ≠ 1 := fun v hv => by simpa using List.find?_eq_none.1 hf v (List.mem_range.2 hv)
      simp only [Option.none_or, List.find?_cons, List.find?_nil]
      by_cases hn : d n = 1
      · simp only [hn, decide_true, Option.some.injEq]
        constructor
        · rintro rfl; exact ⟨by omega, hn, hno⟩
        · rintro ⟨h1, h2, h3⟩
          have : ¬ l < n := fun h => hno l h h2
          omega
      · simp only [hn, decide_false]
        constructor
        · intro h; cases h
        · rintro ⟨h1, h2, h3⟩
          by_cases hl : l < n
          · exact absurd h2 (hno l hl)
          · obtain rfl : l = n := by omega
            exact absurd h2 hn
theorem least_congr {n : Nat} {d d' : Nat → Nat} (h : ∀ v, d v = d' v) : leastL n d = leastL n d' := by
  rw [show d = d' from funext h]

/-- a code: leaf by leaf -/
def codeE (n : Nat) : Nat → Edges → List Nat
  | 0, _ => []
  | k + 1, E => match leastL n (deg E) with
    | none => []
    | some l => (E.filter (touches l)).map (other l) ++ codeE n k (E.filter fun e => !touches l e)
def down (d : Nat → Nat) (l c : Nat) : Nat → Nat := fun v => if v = l then 0 else if v = c then d v - 1 else d v
/-- the edges of a code, in the order in which they are found -/
def treeE (n : Nat) : List Nat → (Nat → Nat) → Edges
  | [], d => match (List.range n).filter fun v => decide (d v = 1) with
    | [a, b] => [(a, b)]
    | _ => []
  | c :: r, d => match leastL n d with
    | none => []
    | some l => (l, c) :: treeE n r (down d l c)

/-- edges in the order in which they are left out, and the code that they give -/
inductive Pl (n : Nat) : Edges → List Nat → Prop where
  | last (a b : Nat) : a < b → b < n → Pl n [(a, b)] []
  | step (l x : Nat) (es : Edges) (c : List Nat) : l < n → x < n → l ≠ x → deg es l = 0 → deg es x ≠ 0 → leastL n (deg ((l, x) :: es)) = some l → Pl n es c → Pl n ((l, x) :: es) (x :: c)
theorem Pl.length {n : Nat} {es : Edges} {c : List Nat} (h : Pl n es c) : es.length = c.length + 1 := by
  induction h with
  | last => rfl
  | step _ _ _ _ _ _ _ _ _ _ _ ih => simp [ih]
theorem deg1_self {l x : Nat} (h : l ≠ x) : deg1 (l, x) l = 1 := by unfold deg1; simp [Ne.symm h]
theorem deg1_other {l x : Nat} (h : l ≠ x) : deg1 (l, x) x = 1 := by unfold deg1; simp [h]
theorem deg1_none {l x v : Nat} (h1 : v ≠ l) (h2 : v ≠ x) : deg1 (l, x) v = 0 := by unfold deg1; simp [Ne.symm h1, Ne.symm h2]
/-- degrees are told by codes -/
theorem Pl.deg_count {n : Nat} {es : Edges} {c : List Nat} (h : Pl n es c) (v : Nat) : deg es v = (if deg es v = 0 then 0 else 1) + c.count v := by
  induction h with
  | last a b hab hb =>
    rw [deg_cons, deg_nil, List.count_nil]
    by_cases h1 : v = a
    · subst h1; rw [deg1_self (by omega)]; rfl
    · by_cases h2 : v = b
      · subst h2; rw [deg1_other (by omega)]; rfl
      · rw [deg1_none h1 h2]; rfl
  | step l x es c hl hx hlx hdl hdx _ hp ih =>
    rw [deg_cons, List.count_cons]
    by_cases h1 : v = l
    · subst h1
      have hc : c.count v = 0 := by rw [hdl] at ih; simp at ih; exact ih.symm
      rw [deg1_self hlx, hdl, hc]
      simp [Ne.symm hlx]
    · by_cases h2 : v = x
      · subst h2
        rw [if_neg hdx] at ih
        rw [deg1_other hlx]
        simp
        omega
      · rw [deg1_none h1 h2, Nat.zero_add]
        have : (x == v) = false := by simp [Ne.symm h2]
        rw [this]
        simpa using ih
theorem Pl.lt {n : Nat} {es : Edges} {c : List Nat} (h : Pl n es c) : ∀ e ∈ es, e.1 < n ∧ e.2 < n ∧ e.1 ≠ e.2 := by
  induction h with
  | last a b hab hb => intro e he; simp at he; subst he; simp only; omega
  | step l x es c hl hx hlx _ _ _ _ ih =>
    intro e he
    rcases List.mem_cons.1 he with rfl | he
    · exact ⟨hl, hx, hlx⟩
    · exact ih e he
theorem asc_nat : ∀ (L M : List Nat), L.Pairwise (· < ·) → M.Pairwise (· < ·) → (∀ x, x ∈ L ↔ x ∈ M) → L = M
  | [], [], _, _, _ => rfl
  | [], y :: M, _, _, h => by have := (h y).2 (by simp); simp at this
  | x :: L, [], _, _, h => by have := (h x).1 (by simp); simp at this
  | x :: L, y :: M, h1, h2, h => by
    obtain ⟨a1, a2⟩ := List.pairwise_cons.1 h1
    obtain ⟨b1, b2⟩ := List.pairwise_cons.1 h2
    have hxy : x = y := by
      rcases List.mem_cons.1 ((h x).1 (by simp)) with e | m1
      · exact e
      · rcases List.mem_cons.1 ((h y).2 (by simp)) with e | m2
        · exact e.symm
        · have q1 := b1 x m1
          have q2 := a1 y m2
          omega
    subst hxy
    have : L = M := asc_nat L M a2 b2 (fun z => by
      have hz := h z
      simp only [List.mem_cons] at hz
      constructor
      · intro m
        rcases hz.1 (.inr m) with e | m'
        · subst e; have := a1 z m; omega
        · exact m'
      · intro m
        rcases hz.2 (.inr m) with e | m'
        · subst e; have := b1 z m; omega
        · exact m')
    rw [this]
theorem filter_two {n a b : Nat} (hab : a < b) (hb : b < n) : ((List.range n).filter fun v => decide (deg [(a, b)] v = 1)) = [a, b] := by
  have hd : ∀ v, deg [(a, b)] v = 1 ↔ v = a ∨ v = b := by
    intro v
    rw [deg_cons, deg_nil]
    by_cases h1 : v = a
    · subst h1; rw [deg1_self (by omega)]; simp
    · by_cases h2 : v = b
      · subst h2; rw [deg1_other (by omega)]; simp
      · rw [deg1_none h1 h2]; simp [h1, h2]
  apply asc_nat
  · exact (List.pairwise_lt_range).filter _
  · simpa using hab
  · intro v
    rw [List.mem_filter, List.mem_range, decide_eq_true_iff, hd]
    simp only [List.mem_cons, List.mem_nil_iff, or_false]
    omega
/-- a code gives the edges back -/
theorem Pl.tree {n : Nat} {es : Edges} {c : List Nat} (h : Pl n es c) : treeE n c (deg es) = es := by
  induction h with
  | last a b hab hb => rw [treeE, filter_two hab hb]
  | step l x es c hl hx hlx hdl hdx hm hp ih =>
    rw [treeE, hm]
    simp only
    have e1 : down (deg ((l, x) :: es)) l x = deg es := by
      funext v
      unfold down
      rw [deg_cons]
      by_cases h1 : v = l
      · subst h1; rw [if_pos rfl, hdl]
      · rw [if_neg h1]
        by_cases h2 : v = x
        · subst h2; rw [if_pos rfl, deg1_other hlx]; omega
        · rw [if_neg h2, deg1_none h1 h2]; omega
    rw [e1, ih]

/-! ### a code is told by the edges, in whatever order they stand -/
theorem filter_same {A B : Edges} (h : SameE A B) (l : Nat) : SameE (A.filter fun e => !touches l e) (B.filter fun e => !touches l e) := by
  have key : ∀ X : Edges, (X.filter fun e => !touches l e).map norm = (X.map norm).filter fun e => !touches l e := by
    intro X
    rw [List.filter_map]
    congr 1
    apply List.filter_congr
    intro e _
    have : touches l (norm e) = touches l e := by
      rw [Bool.eq_iff_iff, touch_iff, touch_iff, deg1_norm]
    simp [this]
  show (List.map norm _).Perm (List.map norm _)
  rw [key, key]
  exact List.Perm.filter _ h
theorem touch_same {A B : Edges} (h : SameE A B) (l : Nat) (hd : deg B l = 1) : ((A.filter (touches l)).map (other l)).Perm ((B.filter (touches l)).map (other l)) := by
  have key : ∀ X : Edges, deg X l = 1 → (X.filter (touches l)).map (other l) = ((X.map norm).filter (touches l)).map (other l) := by
    intro X hX
    rw [List.filter_map, List.map_map]
    have e1 : (touches l ∘ norm) = touches l := by
      funext e
      rw [Bool.eq_iff_iff]
      show touches l (norm e) = true ↔ _
      rw [touch_iff, touch_iff, deg1_norm]
    rw [e1]
    apply List.map_congr_left
    intro e he
    obtain ⟨he1, he2⟩ := List.mem_filter.1 he
    have hle : deg1 e l ≤ deg X l := by
      clear hX he he2 e1
      induction X with
      | nil => simp at he1
      | cons y r ih =>
        rw [deg_cons]
        rcases List.mem_cons.1 he1 with rfl | h
        · omega
        · have := ih h; omega
    rw [touch_iff] at he2
    exact (other_norm e l (by omega)).symm
  rw [key A (by rw [h.deg, hd]), key B hd]
  exact (List.Perm.filter _ h).map _
theorem filter_out {es : Edges} {l : Nat} (h : deg es l = 0) : es.filter (touches l) = [] ∧ (es.filter fun e => !touches l e) = es := by
  have hno : ∀ e ∈ es, touches l e = false := by
    intro e he
    cases ht : touches l e with
    | false => rfl
    | true =>
      exfalso
      rw [touch_iff] at ht
      induction es with
      | nil => simp at he
      | cons y r ih =>
        rw [deg_cons] at h
        rcases List.mem_cons.1 he with rfl | he
        · omega
        · exact ih (by omega) he
  exact ⟨List.filter_eq_nil_iff.2 fun e he => by rw [hno e he]; simp, List.filter_eq_self.2 fun e he => by rw [hno e he]; rfl⟩
theorem Pl.code {n : Nat} {es : Edges} {c : List Nat} (h : Pl n es c) : ∀ F, SameE F es → codeE n c.length F = c := by
  induction h with
  | last a b _ _ => intro F _; rfl
  | step l x es c hl hx hlx hdl hdx hm hp ih =>
    intro F hF
    rw [List.length_cons, codeE, least_congr (hF.deg), hm]
    simp only
    have t1 : touches l (l, x) = true := by simp [touches]
    obtain ⟨f1, f2⟩ := filter_out hdl
    have hd1 : deg ((l, x) :: es) l = 1 := by rw [deg_cons, deg1_self hlx, hdl]
    have e1 := touch_same hF l hd1
    rw [List.filter_cons_of_pos t1, f1] at e1
    have e2 : (F.filter (touches l)).map (other l) = [x] := by
      have e3 := List.perm_singleton.1 e1
      rw [e3]
      simp [other]
    have s2 := filter_same hF l
    have e4 : (((l, x) :: es).filter fun e => !touches l e) = es := by
      rw [List.filter_cons_of_neg (by simp [t1]), f2]
    rw [e4] at s2
    rw [e2, ih _ s2]
    rfl

/-- one round of leaving out -/
theorem Pl.round {n x : Nat} {es : Edges} {c : List Nat} (h : Pl n es (x :: c)) {F : Edges} (hF : SameE F es) :
    ∃ l es', leastL n (deg F) = some l ∧ (F.filter (touches l)).map (other l) = [x] ∧ Pl n es' c ∧ SameE (F.filter fun e => !touches l e) es' := by
  cases h with
  | step l _ es' _ hl hx hlx hdl hdx hm hp =>
    have t1 : touches l (l, x) = true := by simp [touches]
    obtain ⟨f1, f2⟩ := filter_out hdl
    have hd1 : deg ((l, x) :: es') l = 1 := by rw [deg_cons, deg1_self hlx, hdl]
    have e1 := touch_same hF l hd1
    rw [List.filter_cons_of_pos t1, f1] at e1
    have s2 := filter_same hF l
    have e4 : (((l, x) :: es').filter fun e => !touches l e) = es' := by
      rw [List.filter_cons_of_neg (by simp [t1]), f2]
    rw [e4] at s2
    refine ⟨l, es', by rw [least_congr (hF.deg)]; exact hm, ?_, hp, s2⟩
    rw [List.perm_singleton.1 e1]
    simp [other]

/-! ### each code has edges -/
/-- degrees that fit a code: those that are there have one more than they are written down -/
def Fits (n : Nat) (S : List Nat) (c : List Nat) (d : Nat → Nat) : Prop :=
  S.Pairwise (· < ·) ∧ (∀ v ∈ S, v < n) ∧ (∀ x ∈ c, x ∈ S) ∧ S.length = c.length + 2 ∧ ∀ v, d v = (if v ∈ S then 1 else 0) + c.count v
theorem fits_leaf {n : Nat} {S c : List Nat} {d : Nat → Nat} (h : Fits n S c d) : ∃ l, leastL n d = some l ∧ l ∈ S ∧ l ∉ c := by
  obtain ⟨h1, h2, h3, h4, h5⟩ := h
  have hex : ∃ v ∈ S, v ∉ c := by
    apply Classical.byContradiction
    intro hno
    have hsub : ∀ v ∈ S, v ∈ c := fun v hv => Classical.byContradiction fun hc => hno ⟨v, hv, hc⟩
    have hnd : S.Nodup := h1.imp fun hab => by omega
    have := List.Nodup.length_le_of_subset hnd hsub
    omega
  obtain ⟨v, hv, hc⟩ := hex
  have hdv : d v = 1 := by rw [h5, if_pos hv, List.count_eq_zero.2 hc]
  cases hl : leastL n d with
  | none =>
    exfalso
    unfold leastL at hl
    have := List.find?_eq_none.1 hl v (List.mem_range.2 (h2 v hv))
    simp [hdv] at this
  | some l =>
    obtain ⟨l1, l2, l3⟩ := least_some.1 hl
    rw [h5] at l2
    by_cases hls : l ∈ S
    · rw [if_pos hls] at l2
      exact ⟨l, rfl, hls, List.count_eq_zero.1 (by omega)⟩
    · rw [if_neg hls] at l2
      exfalso
      have : l ∈ c := List.count_pos_iff.1 (by omega)
      exact hls (h3 l this)
theorem fits_two {n a b : Nat} {d : Nat → Nat} (h : Fits n [a, b] [] d) : (List.range n).filter (fun v => decide (d v = 1)) = [a, b] ∧ a < b ∧ b < n := by
  obtain ⟨h1, h2, h3, h4, h5⟩ := h
  have hab : a < b := by simpa using h1
  have hb := h2 b (by simp)
  refine ⟨?_, hab, hb⟩
  apply asc_nat
  · exact (List.pairwise_lt_range).filter _
  · exact h1
  · intro v
    rw [List.mem_filter, List.mem_range, decide_eq_true_iff, h5, List.count_nil]
    constructor
    · rintro ⟨_, h⟩
      by_cases hm : v ∈ [a, b]
      · exact hm
      · rw [if_neg hm] at h; simp at h
    · intro hm
      exact ⟨h2 v hm, by rw [if_pos hm]⟩
theorem fits_down {n l x : Nat} {S c : List Nat} {d : Nat → Nat} (h : Fits n S (x :: c) d) (hl : l ∈ S) (hlc : l ∉ x :: c) : Fits n (S.filter fun v => decide (v ≠ l)) c (down d l x) := by
  obtain ⟨h1, h2, h3, h4, h5⟩ := h
  have hx : x ≠ l := fun e => hlc (by simp [e])
  have hc : l ∉ c := fun e => hlc (by simp [e])
  refine ⟨h1.filter _, fun v hv => h2 v (List.mem_filter.1 hv).1, fun y hy => ?_, ?_, fun v => ?_⟩
  · exact List.mem_filter.2 ⟨h3 y (by simp [hy]), decide_eq_true (fun e => hc (by rw [← e]; exact hy))⟩
  · have hnd : S.Nodup := h1.imp fun hab => by omega
    have e1 : (S.filter fun v => decide (v ≠ l)) = S.erase l := by
      rw [List.Nodup.erase_eq_filter hnd]
      apply List.filter_congr
      intro y _
      by_cases h : y = l <;> simp [h]
    rw [e1, List.length_erase_of_mem hl, h4]
    simp
  · unfold down
    by_cases e1 : v = l
    · subst e1
      rw [if_pos rfl, if_neg (by simp), List.count_eq_zero.2 hc]
    · rw [if_neg e1]
      have hm : v ∈ (S.filter fun v => decide (v ≠ l)) ↔ v ∈ S := by simp [e1]
      by_cases e2 : v = x
      · subst e2
        rw [if_pos rfl, h5, List.count_cons_self]
        have hvS : v ∈ S := h3 v (by simp)
        rw [if_pos hvS, if_pos (hm.2 hvS)]
        omega
      · rw [if_neg e2, h5, List.count_cons_of_ne (Ne.symm e2)]
        by_cases hvS : v ∈ S
        · rw [if_pos hvS, if_pos (hm.2 hvS)]
        · rw [if_neg hvS, if_neg (fun h => hvS (hm.1 h))]
theorem fits_pl {n : Nat} : ∀ (c S : List Nat) (d : Nat → Nat), Fits n S c d → Pl n (treeE n c d) c ∧ ∀ v, deg (treeE n c d) v = d v := by
  intro c
  induction c with
  | nil =>
    intro S d h
    obtain ⟨a, b, rfl⟩ : ∃ a b, S = [a, b] := by
      have := h.2.2.2.1
      match S, this with
      | [a, b], _ => exact ⟨a, b, rfl⟩
    obtain ⟨h1, h2, h3⟩ := fits_two h
    rw [treeE, h1]
    refine ⟨Pl.last a b h2 h3, fun v => ?_⟩
    rw [h.2.2.2.2 v, deg_cons, deg_nil, List.count_nil]
    simp only [List.mem_cons, List.mem_nil_iff, or_false]
    by_cases e1 : v = a
    · subst e1; rw [deg1_self (by omega), if_pos (.inl rfl)]
    · by_cases e2 : v = b
      · subst e2; rw [deg1_other (by omega), if_pos (.inr rfl)]
      · rw [deg1_none e1 e2, if_neg (by simp [e1, e2])]
  | cons x c ih =>
    intro S d h
    obtain ⟨l, hl, hlS, hlc⟩ := fits_leaf h
    have hd := fits_down h hlS hlc
    obtain ⟨p, q⟩ := ih _ _ hd
    have hx : x ≠ l := fun e => hlc (by simp [e])
    have hxS : x ∈ S := h.2.2.1 x (by simp)
    have qd : ∀ v, deg ((l, x) :: treeE n c (down d l x)) v = d v := by
      intro v
      rw [deg_cons, q v]
      unfold down
      have h5 := h.2.2.2.2
      by_cases e1 : v = l
      · subst e1
        rw [deg1_self (Ne.symm hx), if_pos rfl, h5, if_pos hlS, List.count_eq_zero.2 hlc]
      · rw [if_neg e1]
        by_cases e2 : v = x
        · subst e2
          have : d v ≥ 1 := by rw [h5, if_pos hxS]; omega
          rw [deg1_other (Ne.symm hx), if_pos rfl]
          omega
        · rw [deg1_none e1 e2, if_neg e2]; omega
    rw [treeE, hl]
    refine ⟨Pl.step l x _ c (h.2.1 l hlS) (h.2.1 x hxS) (Ne.symm hx) ?_ ?_ (by rw [least_congr qd]; exact hl) p, qd⟩
    · rw [q l]; unfold down; rw [if_pos rfl]
    · rw [q x]
      unfold down
      rw [if_neg hx, if_pos rfl, h.2.2.2.2 x, if_pos hxS, List.count_cons_self]
      omega
/-- a code of n nodes -/
theorem fits_code {n : Nat} {c : List Nat} (hn : n = c.length + 2) (hc : ∀ x ∈ c, x < n) : Fits n (List.range n) c (fun v => (if v < n then 1 else 0) + c.count v) := by
  refine ⟨List.pairwise_lt_range, fun v hv => List.mem_range.1 hv, fun x hx => List.mem_range.2 (hc x hx), by rw [List.length_range, hn], fun v => ?_⟩
  simp only [List.mem_range]

/-! ### nodes that are reached -/
inductive Reach (E : Edges) : Nat → Nat → Prop where
  | refl (u : Nat) : Reach E u u
  | step (u v w : Nat) : Reach E u v → (v, w) ∈ E ∨ (w, v) ∈ E → Reach E u w
theorem Reach.trans {E : Edges} {u v w : Nat} (h : Reach E u v) (k : Reach E v w) : Reach E u w := by
  induction k with
  | refl => exact h
  | step _ _ _ he ih => exact .step _ _ _ ih he
theorem Reach.one {E : Edges} {u v : Nat} (h : (u, v) ∈ E ∨ (v, u) ∈ E) : Reach E u v := .step _ _ _ (.refl u) h
theorem Reach.symm {E : Edges} {u v : Nat} (h : Reach E u v) : Reach E v u := by
  induction h with
  | refl => exact .refl _
  | step _ _ _ he ih => exact (Reach.one he.symm).trans ih
theorem Reach.mono {A B : Edges} (hs : ∀ a b, ((a, b) ∈ A ∨ (b, a) ∈ A) → ((a, b) ∈ B ∨ (b, a) ∈ B)) {u v : Nat} (h : Reach A u v) : Reach B u v := by
  induction h with
  | refl => exact .refl _
  | step _ _ _ he ih => exact .step _ _ _ ih (hs _ _ he)
theorem mem_norm {E : Edges} {a b : Nat} : norm (a, b) ∈ E.map norm ↔ (a, b) ∈ E ∨ (b, a) ∈ E := by
  rw [List.mem_map]
  constructor
  · rintro ⟨⟨c, d⟩, hm, he⟩
    rcases norm_eq he with ⟨rfl, rfl⟩ | ⟨rfl, rfl⟩
    · exact .inl hm
    · exact .inr hm
  · rintro (h | h)
    · exact ⟨_, h, rfl⟩
    · refine ⟨_, h, ?_⟩
      unfold norm; simp only [Prod.mk.injEq]; omega
theorem SameE.ends {A B : Edges} (h : SameE A B) (a b : Nat) : ((a, b) ∈ A ∨ (b, a) ∈ A) ↔ ((a, b) ∈ B ∨ (b, a) ∈ B) := by
  rw [← mem_norm, ← mem_norm, List.Perm.mem_iff h]
theorem SameE.reach {A B : Edges} (h : SameE A B) {u v : Nat} (hr : Reach A u v) : Reach B u v := hr.mono fun a b => (h.ends a b).1
theorem deg_edge {E : Edges} {u v : Nat} (h : (u, v) ∈ E ∨ (v, u) ∈ E) : deg E v ≠ 0 := by
  have key : ∀ (e : Nat × Nat) (E : Edges), e ∈ E → deg1 e v ≤ deg E v := by
    intro e E
    induction E with
    | nil => intro h; simp at h
    | cons y r ih =>
      intro h
      rw [deg_cons]
      rcases List.mem_cons.1 h with rfl | h
      · omega
      · have := ih h; omega
  rcases h with h | h
  · have := key _ _ h
    unfold deg1 at this
    simp at this
    omega
  · have := key _ _ h
    unfold deg1 at this
    simp at this
    omega
theorem reach_deg {E : Edges} {u v : Nat} (h : Reach E u v) (hne : u ≠ v) : deg E v ≠ 0 := by
  cases h with
  | refl => exact absurd rfl hne
  | step p _ hp he => exact deg_edge he
theorem deg_mem {E : Edges} {v : Nat} (h : deg E v ≠ 0) : ∃ e ∈ E, deg1 e v ≠ 0 := by
  induction E with
  | nil => exact absurd rfl h
  | cons y r ih =>
    rw [deg_cons] at h
    by_cases hy : deg1 y v = 0
    · obtain ⟨e, he, h2⟩ := ih (by omega)
      exact ⟨e, List.mem_cons_of_mem _ he, h2⟩
    · exact ⟨y, by simp, hy⟩
theorem deg1_end {e : Nat × Nat} {v : Nat} (h : deg1 e v ≠ 0) : e.1 = v ∨ e.2 = v := by
  unfold deg1 at h
  by_cases h1 : e.1 = v
  · exact .inl h1
  · by_cases h2 : e.2 = v
    · exact .inr h2
    · simp [h1, h2] at h

/-- what a peel leaves hangs together -/
theorem Pl.reach {n : Nat} {es : Edges} {c : List Nat} (h : Pl n es c) : ∀ u v, deg es u ≠ 0 → deg es v ≠ 0 → Reach es u v := by
  induction h with
  | last a b hab hb =>
    intro u v hu hv
    have hend : ∀ w, deg [(a, b)] w ≠ 0 → w = a ∨ w = b := fun w hw => by
      obtain ⟨e, he, hd⟩ := deg_mem hw
      simp at he; subst he
      rcases deg1_end hd with h | h
      · exact .inl h.symm
      · exact .inr h.symm
    rcases hend u hu with rfl | rfl <;> rcases hend v hv with rfl | rfl
    · exact .refl _
    · exact .one (.inl (by simp))
    · exact .one (.inr (by simp))
    · exact .refl _
  | step l x es c hl hx hlx hdl hdx _ _ ih =>
    have hub : ∀ w, deg ((l, x) :: es) w ≠ 0 → Reach ((l, x) :: es) w x := fun w hw => by
      by_cases e1 : w = l
      · subst e1; exact .one (.inl (by simp))
      · by_cases e2 : w = x
        · subst e2; exact .refl _
        · rw [deg_cons, deg1_none e1 e2, Nat.zero_add] at hw
          exact (ih w x hw hdx).mono fun a b h => h.imp (List.mem_cons_of_mem _) (List.mem_cons_of_mem _)
    intro u v hu hv
    exact (hub u hu).trans (hub v hv).symm
theorem Pl.nodup {n : Nat} {es : Edges} {c : List Nat} (h : Pl n es c) : (es.map norm).Nodup := by
  induction h with
  | last => simp
  | step l x es c _ _ hlx hdl _ _ _ ih =>
    rw [List.map_cons, List.nodup_cons]
    refine ⟨fun hm => ?_, ih⟩
    rw [mem_norm] at hm
    exact deg_edge hm.symm hdl

/-! ### what hangs together can be peeled -/
theorem sum_zero (S : List Nat) : (S.map fun _ => 0).sum = 0 := by
  induction S with
  | nil => rfl
  | cons y r ih => rw [List.map_cons, List.sum_cons, ih]
theorem sum_one {S : List Nat} (hS : S.Nodup) {a : Nat} (ha : a ∈ S) : (S.map fun v => if a = v then 1 else 0).sum = 1 := by
  induction S with
  | nil => simp at ha
  | cons y r ih =>
    obtain ⟨h1, h2⟩ := List.nodup_cons.1 hS
    rw [List.map_cons, List.sum_cons]
    rcases List.mem_cons.1 ha with rfl | h
    · rw [if_pos rfl]
      have : (r.map fun v => if a = v then 1 else 0).sum = 0 := by
        have hz : (r.map fun v => if a = v then 1 else 0) = r.map fun _ => 0 := by
          apply List.map_congr_left
          intro v hv
          rw [if_neg]
          rintro rfl; exact h1 hv
        rw [hz, sum_zero]
      omega
    · rw [if_neg (by rintro rfl; exact h1 h), ih h2 h]
theorem sum_add (S : List Nat) (f g : Nat → Nat) : (S.map fun v => f v + g v).sum = (S.map f).sum + (S.map g).sum := by
  induction S with
  | nil => rfl
  | cons y r ih => simp only [List.map_cons, List.sum_cons, ih]; omega
theorem deg_sum {S : List Nat} (hS : S.Nodup) : ∀ F : Edges, (∀ e ∈ F, e.1 ∈ S ∧ e.2 ∈ S) → (S.map (deg F)).sum = 2 * F.length := by
  intro F
  induction F with
  | nil =>
    intro _
    have : (S.map (deg [])) = S.map fun _ => 0 := rfl
    rw [this, sum_zero]; rfl
  | cons e r ih =>
    intro h
    have e1 : (S.map (deg (e :: r))) = S.map fun v => deg1 e v + deg r v := rfl
    rw [e1, sum_add, ih fun y hy => h y (List.mem_cons_of_mem _ hy)]
    have e2 : (S.map (deg1 e)) = S.map fun v => (if e.1 = v then 1 else 0) + (if e.2 = v then 1 else 0) := rfl
    obtain ⟨h1, h2⟩ := h e (by simp)
    rw [e2, sum_add, sum_one hS h1, sum_one hS h2, List.length_cons]
    omega
theorem touch_len {F : Edges} (hne : ∀ e ∈ F, e.1 ≠ e.2) (l : Nat) : (F.filter (touches l)).length = deg F l := by
  induction F with
  | nil => rfl
  | cons e r ih =>
    have hr := ih fun y hy => hne y (List.mem_cons_of_mem _ hy)
    have he := hne e (by simp)
    rw [deg_cons]
    by_cases ht : touches l e = true
    · rw [List.filter_cons_of_pos ht, List.length_cons, hr]
      rw [touch_iff] at ht
      have : deg1 e l = 1 := by
        unfold deg1 at *
        by_cases h1 : e.1 = l <;> by_cases h2 : e.2 = l <;> simp_all
      omega
    · rw [List.filter_cons_of_neg ht, hr]
      have : deg1 e l = 0 := Classical.byContradiction fun h => ht ((touch_iff e l).2 h)
      omega
/-- a tree over some nodes -/
structure Tree (n : Nat) (S : List Nat) (F : Edges) : Prop where
  asc : S.Pairwise (· < ·)
  lt : ∀ v ∈ S, v < n
  ends : ∀ e ∈ F, e.1 ∈ S ∧ e.2 ∈ S ∧ e.1 ≠ e.2
  conn : ∀ u ∈ S, ∀ v ∈ S, Reach F u v
theorem Tree.nodup {n : Nat} {S : List Nat} {F : Edges} (h : Tree n S F) : S.Nodup := h.asc.imp fun hab => by omega
theorem Tree.pos {n : Nat} {S : List Nat} {F : Edges} (h : Tree n S F) (h2 : 2 ≤ S.length) {v : Nat} (hv : v ∈ S) : deg F v ≠ 0 := by
  obtain ⟨u, hu, hne⟩ : ∃ u ∈ S, u ≠ v := by
    apply Classical.byContradiction
    intro hno
    have hsub : ∀ u ∈ S, u ∈ [v] := fun u hu => by
      rw [List.mem_singleton]
      exact Classical.byContradiction fun hc => hno ⟨u, hu, hc⟩
    have := List.Nodup.length_le_of_subset h.nodup hsub
    simp at this; omega
  exact reach_deg (h.conn u hu v hv) hne
theorem tree_peel {n : Nat} : ∀ (m : Nat) (S : List Nat) (F : Edges), Tree n S F → S.length = m + 2 → F.length = m + 1 → ∃ es c, Pl n es c ∧ SameE F es := by
  intro m
  induction m with
  | zero =>
    intro S F h hS hF
    match S, hS with
    | [a, b], _ =>
      match F, hF with
      | [e], _ =>
        have hab : a < b := by simpa using h.asc
        obtain ⟨h1, h2, h3⟩ := h.ends e (by simp)
        simp only [List.mem_cons, List.mem_nil_iff, or_false] at h1 h2
        refine ⟨[(a, b)], [], Pl.last a b hab (h.lt b (by simp)), ?_⟩
        have : norm e = norm (a, b) := by
          unfold norm
          simp only [Prod.mk.injEq]
          omega
        show ([e].map norm).Perm ([(a, b)].map norm)
        rw [List.map_cons, List.map_cons, this]
  | succ m ih =>
    intro S F h hS hF
    have hpos : ∀ v ∈ S, deg F v ≠ 0 := fun v hv => h.pos (by omega) hv
    have hsum := deg_sum h.nodup F fun e he => ⟨(h.ends e he).1, (h.ends e he).2.1⟩
    obtain ⟨w, hwS, hw1⟩ : ∃ w ∈ S, deg F w = 1 := by
      apply Classical.byContradiction
      intro hno
      have hge : ∀ v ∈ S, 2 ≤ deg F v := fun v hv => by
        have h1 := hpos v hv
        have h2 : deg F v ≠ 1 := fun e => hno ⟨v, hv, e⟩
        omega
      have key : ∀ T : List Nat, (∀ v ∈ T, 2 ≤ deg F v) → 2 * T.length ≤ (T.map (deg F)).sum := by
        intro T
        induction T with
        | nil => intro _; simp
        | cons y r ih2 =>
          intro hT
          have h1 := hT y (by simp)
          have h2 := ih2 fun v hv => hT v (List.mem_cons_of_mem _ hv)
          simp only [List.map_cons, List.sum_cons, List.length_cons]
          omega
      have := key S hge
      omega
    obtain ⟨l, hl⟩ : ∃ l, leastL n (deg F) = some l := by
      cases hl : leastL n (deg F) with
      | some l => exact ⟨l, rfl⟩
      | none =>
        exfalso
        unfold leastL at hl
        have := List.find?_eq_none.1 hl w (List.mem_range.2 (h.lt w hwS))
        simp [hw1] at this
    obtain ⟨l1, l2, _⟩ := least_some.1 hl
    obtain ⟨e, he, hed⟩ := deg_mem (E := F) (v := l) (by omega)
    have hlS : l ∈ S := by
      rcases deg1_end hed with h1 | h1
      · rw [← h1]; exact (h.ends e he).1
      · rw [← h1]; exact (h.ends e he).2.1
    have hone := touch_len (fun e he => (h.ends e he).2.2) l (F := F)
    rw [l2] at hone
    obtain ⟨e0, he0⟩ := List.length_eq_one_iff.1 hone
    have hm0 : e0 ∈ F ∧ touches l e0 = true := List.mem_filter.1 (by rw [he0]; simp)
    obtain ⟨x, hx⟩ : ∃ x, x = other l e0 := ⟨_, rfl⟩
    obtain ⟨q1, q2, q3⟩ := h.ends e0 hm0.1
    have hdir : e0 = (l, x) ∨ e0 = (x, l) := by
      rcases deg1_end ((touch_iff e0 l).1 hm0.2) with h1 | h1
      · left
        rw [hx]; unfold other; rw [if_pos h1, ← h1]
      · right
        rw [hx]; unfold other; rw [if_neg (by rw [← h1]; exact q3)]; rw [← h1]
    have hlx : l ≠ x := by
      rcases hdir with h1 | h1 <;> rw [h1] at q3 <;> simp only at q3
      · exact q3
      · exact Ne.symm q3
    have hxS : x ∈ S := by
      rcases hdir with h1 | h1 <;> rw [h1] at q1 q2
      · exact q2
      · exact q1
    obtain ⟨F', hF'⟩ : ∃ F', F' = F.filter fun e => !touches l e := ⟨_, rfl⟩
    have hperm : F.Perm (e0 :: F') := by
      have := (List.filter_append_perm (touches l) F).symm
      rw [he0, ← hF'] at this
      exact this
    have hn0 : norm e0 = norm (l, x) := by
      rcases hdir with h1 | h1
      · rw [h1]
      · rw [h1]; unfold norm; simp only [Prod.mk.injEq]; omega
    have hlen : F'.length = m + 1 := by
      have := hperm.length_eq
      rw [hF, List.length_cons] at this; omega
    obtain ⟨S', hS'⟩ : ∃ S', S' = S.filter fun v => decide (v ≠ l) := ⟨_, rfl⟩
    have hmS : ∀ v, v ∈ S' ↔ v ∈ S ∧ v ≠ l := fun v => by rw [hS', List.mem_filter, decide_eq_true_iff]
    have hlS' : S'.length = m + 2 := by
      have e1 : S' = S.erase l := by
        rw [hS', List.Nodup.erase_eq_filter h.nodup]
        apply List.filter_congr
        intro y _
        by_cases h : y = l <;> simp [h]
      rw [e1, List.length_erase_of_mem hlS, hS]; rfl
    have hnt : ∀ e ∈ F', deg1 e l = 0 := fun e he => by
      rw [hF'] at he
      have h1 := (List.mem_filter.1 he).2
      apply Classical.byContradiction
      intro h2
      rw [(touch_iff e l).2 h2] at h1
      cases h1
    have hmF : ∀ e, e ∈ F' → e ∈ F := fun e he => by rw [hF'] at he; exact (List.mem_filter.1 he).1
    have hT' : Tree n S' F' := by
      refine ⟨by rw [hS']; exact h.asc.filter _, fun v hv => h.lt v ((hmS v).1 hv).1, fun e he => ?_, fun u hu v hv => ?_⟩
      · obtain ⟨r1, r2, r3⟩ := h.ends e (hmF e he)
        have h0 := hnt e he
        refine ⟨(hmS _).2 ⟨r1, fun hh => ?_⟩, (hmS _).2 ⟨r2, fun hh => ?_⟩, r3⟩
        · unfold deg1 at h0; rw [if_pos hh] at h0; omega
        · unfold deg1 at h0; rw [if_pos hh] at h0; omega
      · have hr := h.conn u ((hmS u).1 hu).1 v ((hmS v).1 hv).1
        have key : ∀ a b, Reach F a b → Reach F' (if a = l then x else a) (if b = l then x else b) := by
          intro a b hab
          induction hab with
          | refl => exact .refl _
          | step p q hp hpq ih2 =>
            refine ih2.trans ?_
            have hstep : ∀ y z, (y, z) ∈ F → Reach F' (if y = l then x else y) (if z = l then x else z) := by
              intro y z hyz
              rcases List.mem_cons.1 (hperm.mem_iff.1 hyz) with h1 | h1
              · rcases hdir with h2 | h2
                · rw [h2] at h1
                  obtain ⟨rfl, rfl⟩ := Prod.mk.inj h1
                  rw [if_pos rfl, if_neg (Ne.symm hlx)]; exact .refl _
                · rw [h2] at h1
                  obtain ⟨rfl, rfl⟩ := Prod.mk.inj h1
                  rw [if_pos rfl, if_neg (Ne.symm hlx)]; exact .refl _
              · have h0 := hnt _ h1
                unfold deg1 at h0
                simp only at h0
                have hy : y ≠ l := fun hh => by rw [if_pos hh] at h0; omega
                have hz : z ≠ l := fun hh => by rw [if_pos hh] at h0; omega
                rw [if_neg hy, if_neg hz]
                exact .one (.inl h1)
            rcases hpq with h1 | h1
            · exact hstep p q h1
            · exact (hstep q p h1).symm
        have := key u v hr
        rw [if_neg ((hmS u).1 hu).2, if_neg ((hmS v).1 hv).2] at this
        exact this
    obtain ⟨es, c, hp, hs⟩ := ih S' F' hT' hlS' hlen
    have hsame : SameE F ((l, x) :: es) := by
      have h1 := hperm.map norm
      rw [List.map_cons, hn0] at h1
      show (F.map norm).Perm (List.map norm ((l, x) :: es))
      rw [List.map_cons]
      exact h1.trans (List.Perm.cons _ hs)
    have hdl : deg F' l = 0 := by
      apply Classical.byContradiction
      intro hh
      obtain ⟨e, he, h2⟩ := deg_mem hh
      exact h2 (hnt e he)
    refine ⟨(l, x) :: es, x :: c, Pl.step l x es c l1 (h.lt x hxS) hlx (by rw [← hs.deg]; exact hdl) ?_ ?_ hp, hsame⟩
    · rw [← hs.deg]
      exact hT'.pos (by omega) ((hmS x).2 ⟨hxS, Ne.symm hlx⟩)
    · rw [← least_congr (fun v => hsame.deg v)]; exact hl
end Go.Proofs.Ythlboikljibohaa

namespace Go.Proofs.Ythlboikljibohaa

/-- the rows' order -/
def ltP (x y : Nat × Nat) : Bool := decide (x.1 < y.1) || (decide (x.1 = y.1) && decide (x.2 < y.2))
theorem ltP_iff (x y : Nat × Nat) : ltP x y = true ↔ x.1 < y.1 ∨ (x.1 = y.1 ∧ x.2 < y.2) := by simp [ltP]
theorem ltP_trans {x y z : Nat × Nat} (h : ltP x y = true) (k : ltP y z = true) : ltP x z = true := by
  rw [ltP_iff] at *; omega
theorem ltP_total (x y : Nat × Nat) : ltP x y = true ∨ x = y ∨ ltP y x = true := by
  rw [ltP_iff, ltP_iff, Prod.ext_iff]; omega
theorem ltP_irr (x : Nat × Nat) : ltP x x = false := by
  cases h : ltP x x with
  | false => rfl
  | true => rw [ltP_iff] at h; omega
def AscP (L : Edges) : Prop := L.Pairwise fun x y => ltP x y = true
theorem ascP_uniq : ∀ (L M : Edges), AscP L → AscP M → (∀ x, x ∈ L ↔ x ∈ M) → L = M
  | [], [], _, _, _ => rfl
  | [], y :: M, _, _, h => by have := (h y).2 (by simp); simp at this
  | x :: L, [], _, _, h => by have := (h x).1 (by simp); simp at this
  | x :: L, y :: M, h1, h2, h => by
    obtain ⟨a1, a2⟩ := List.pairwise_cons.1 h1
    obtain ⟨b1, b2⟩ := List.pairwise_cons.1 h2
    have hxy : x = y := by
      rcases List.mem_cons.1 ((h x).1 (by simp)) with e | m1
      · exact e
      · rcases List.mem_cons.1 ((h y).2 (by simp)) with e | m2
        · exact e.symm
        · have q := ltP_trans (b1 x m1) (a1 y m2)
          rw [ltP_irr] at q; cases q
    subst hxy
    have : L = M := ascP_uniq L M a2 b2 (fun z => by
      have hz := h z
      simp only [List.mem_cons] at hz
      constructor
      · intro m
        rcases hz.1 (.inr m) with e | m'
        · subst e; have := a1 z m; rw [ltP_irr] at this; cases this
        · exact m'
      · intro m
        rcases hz.2 (.inr m) with e | m'
        · subst e; have := b1 z m; rw [ltP_irr] at this; cases this
        · exact m')
    rw [this]
/-- an edge goes to its place -/
def insP (out : Edges) (x : Nat × Nat) : Edges := out.takeWhile (fun y => ltP y x) ++ x :: out.dropWhile (fun y => ltP y x)
def sortP (L : Edges) : Edges := L.foldl insP []
theorem insP_perm (out : Edges) (x : Nat × Nat) : (insP out x).Perm (x :: out) := by
  have e := List.takeWhile_append_dropWhile (p := fun y => ltP y x) (l := out)
  unfold insP
  refine List.perm_middle.trans ?_
  rw [e]
theorem fold_perm (L : Edges) : ∀ out, (L.foldl insP out).Perm (L ++ out) := by
  induction L with
  | nil => intro out; exact List.Perm.refl _
  | cons x r ih =>
    intro out
    rw [List.foldl_cons]
    refine (ih _).trans ?_
    refine ((insP_perm out x).append_left r).trans ?_
    exact List.perm_middle
theorem sortP_perm (L : Edges) : (sortP L).Perm L := by
  have := fold_perm L []
  rwa [List.append_nil] at this
theorem dropP_gt (x : Nat × Nat) : ∀ (out : Edges), AscP out → x ∉ out → ∀ y ∈ out.dropWhile (fun y => ltP y x), ltP x y = true
  | [], _, _, y, hy => by simp at hy
  | z :: r, h, hx, y, hy => by
    obtain ⟨h1, h2⟩ := List.pairwise_cons.1 h
    have hxz : x ≠ z := fun e => hx (by simp [e])
    have hxr : x ∉ r := fun e => hx (by simp [e])
    by_cases hz : ltP z x = true
    · rw [List.dropWhile_cons, if_pos hz] at hy
      exact dropP_gt x r h2 hxr y hy
    · rw [List.dropWhile_cons, if_neg hz] at hy
      have hzx : ltP x z = true := by
        rcases ltP_total x z with e | e | e
        · exact e
        · exact absurd e hxz
        · exact absurd e hz
      rcases List.mem_cons.1 hy with e | e
      · rw [e]; exact hzx
      · exact ltP_trans hzx (h1 y e)
theorem asc_insP {out : Edges} {x : Nat × Nat} (h : AscP out) (hx : x ∉ out) : AscP (insP out x) := by
  unfold insP
  have e := List.takeWhile_append_dropWhile (p := fun y => ltP y x) (l := out)
  have ht : AscP (out.takeWhile (fun y => ltP y x) ++ out.dropWhile (fun y => ltP y x)) := by rw [e]; exact h
  obtain ⟨t1, t2, t3⟩ := List.pairwise_append.1 ht
  have tx : ∀ y ∈ out.takeWhile (fun y => ltP y x), ltP y x = true := fun y hy => by
    have := List.all_takeWhile (l := out) (p := fun y => ltP y x)
    exact List.all_eq_true.1 this y hy
  have dx := dropP_gt x out h hx
  refine List.pairwise_append.2 ⟨t1, List.pairwise_cons.2 ⟨dx, t2⟩, fun a ha b hb => ?_⟩
  rcases List.mem_cons.1 hb with hb | hb
  · rw [hb]; exact tx a ha
  · exact t3 a ha b hb
theorem asc_fold : ∀ (L out : Edges), AscP out → L.Nodup → (∀ x ∈ L, x ∉ out) → AscP (L.foldl insP out)
  | [], out, h, _, _ => h
  | x :: r, out, h, hn, hd => by
    obtain ⟨n1, n2⟩ := List.nodup_cons.1 hn
    rw [List.foldl_cons]
    refine asc_fold r (insP out x) (asc_insP h (hd x (by simp))) n2 fun y hy => ?_
    rw [(insP_perm out x).mem_iff, List.mem_cons]
    rintro (e | e)
    · subst e; exact n1 hy
    · exact hd y (by simp [hy]) e
theorem asc_sortP {L : Edges} (h : L.Nodup) : AscP (sortP L) := asc_fold L [] List.Pairwise.nil h (fun _ _ => by simp)
theorem sortP_uniq {L M : Edges} (hM : AscP M) (hL : L.Nodup) (h : L.Perm M) : sortP L = M :=
  ascP_uniq _ _ (asc_sortP hL) hM fun x => by rw [(sortP_perm L).mem_iff, h.mem_iff]

/-! ### what is a tree -/
/-- rows of a tree of n nodes -/
structure ValidT (n : Nat) (E : Edges) : Prop where
  len : E.length + 1 = n
  ord : ∀ e ∈ E, e.1 < e.2 ∧ e.2 < n
  asc : AscP E
  conn : ∀ v, v < n → Reach E 0 v
theorem norm_of {e : Nat × Nat} (h : e.1 < e.2) : norm e = e := by
  unfold norm
  rw [Nat.min_eq_left (by omega), Nat.max_eq_right (by omega)]
theorem map_norm {E : Edges} (h : ∀ e ∈ E, e.1 < e.2) : E.map norm = E := by
  induction E with
  | nil => rfl
  | cons e r ih => rw [List.map_cons, norm_of (h e (by simp)), ih fun y hy => h y (List.mem_cons_of_mem _ hy)]
theorem ValidT.tree {n : Nat} {E : Edges} (h : ValidT n E) : Tree n (List.range n) E := by
  refine ⟨List.pairwise_lt_range, fun v hv => List.mem_range.1 hv, fun e he => ?_, fun u hu v hv => ?_⟩
  · obtain ⟨h1, h2⟩ := h.ord e he
    exact ⟨List.mem_range.2 (by omega), List.mem_range.2 h2, by omega⟩
  · exact (h.conn u (List.mem_range.1 hu)).symm.trans (h.conn v (List.mem_range.1 hv))
/-- the code of a tree, the tree of a code -/
def codeN (n : Nat) (E : Edges) : List Nat := codeE n (n - 2) E
def degC (n : Nat) (c : List Nat) : Nat → Nat := fun v => (if v < n then 1 else 0) + c.count v
def treeN (n : Nat) (c : List Nat) : Edges := sortP ((treeE n c (degC n c)).map norm)
theorem valid_peel {n : Nat} {E : Edges} (h : ValidT n E) (h2 : 2 ≤ n) : ∃ es c, Pl n es c ∧ SameE E es ∧ c.length = n - 2 ∧ codeN n E = c := by
  have hl := h.len
  obtain ⟨es, c, hp, hs⟩ := tree_peel (n - 2) (List.range n) E h.tree (by rw [List.length_range]; omega) (by omega)
  have h3 := hp.length
  have h4 := hs.length
  have hc : c.length = n - 2 := by omega
  refine ⟨es, c, hp, hs, hc, ?_⟩
  have := hp.code E hs
  rw [hc] at this
  exact this
/-- degrees are told by codes -/
theorem valid_deg {n : Nat} {E : Edges} (h : ValidT n E) (h2 : 2 ≤ n) (v : Nat) (hv : v < n) : deg E v = 1 + (codeN n E).count v := by
  obtain ⟨es, c, hp, hs, hc, he⟩ := valid_peel h h2
  have hpos := h.tree.pos (by rw [List.length_range]; exact h2) (List.mem_range.2 hv)
  have := hp.deg_count v
  rw [← hs.deg, if_neg hpos] at this
  rw [he]; exact this
theorem valid_out {n : Nat} {E : Edges} (h : ValidT n E) (v : Nat) (hv : n ≤ v) : deg E v = 0 := by
  apply Classical.byContradiction
  intro hh
  obtain ⟨e, he, hd⟩ := deg_mem hh
  obtain ⟨h1, h2⟩ := h.ord e he
  rcases deg1_end hd with h3 | h3 <;> omega
theorem valid_sum {n : Nat} {E : Edges} (h : ValidT n E) : ((List.range n).map (deg E)).sum = 2 * (n - 1) := by
  have := deg_sum List.nodup_range E fun e he => ⟨(h.tree.ends e he).1, (h.tree.ends e he).2.1⟩
  rw [this]
  have := h.len
  congr 1; omega
theorem code_len {n : Nat} {E : Edges} (h : ValidT n E) : (codeN n E).length = n - 2 := by
  by_cases h2 : 2 ≤ n
  · obtain ⟨es, c, _, _, hc, he⟩ := valid_peel h h2
    rw [he, hc]
  · unfold codeN
    rw [show n - 2 = 0 by omega]; rfl
theorem code_lt {n : Nat} {E : Edges} (h : ValidT n E) : ∀ x ∈ codeN n E, x < n := by
  by_cases h2 : 2 ≤ n
  · obtain ⟨es, c, hp, hs, hc, he⟩ := valid_peel h h2
    rw [he]
    intro x hx
    clear he hc hs
    induction hp with
    | last => simp at hx
    | step l x' es c _ hx' _ _ _ _ _ ih =>
      rcases List.mem_cons.1 hx with rfl | hx
      · exact hx'
      · exact ih hx
  · unfold codeN
    rw [show n - 2 = 0 by omega]
    intro x hx
    simp [codeE] at hx
/-- the tree of a tree's code is the tree -/
theorem tree_code {n : Nat} {E : Edges} (h : ValidT n E) (h2 : 2 ≤ n) : treeN n (codeN n E) = E := by
  obtain ⟨es, c, hp, hs, hc, he⟩ := valid_peel h h2
  have hd : degC n (codeN n E) = deg es := by
    funext v
    unfold degC
    by_cases hv : v < n
    · rw [if_pos hv, ← valid_deg h h2 v hv, hs.deg]
    · rw [if_neg hv, ← hs.deg, valid_out h v (by omega), List.count_eq_zero.2 (fun hm => by have := code_lt h v hm; omega)]
  rw [treeN, hd, he, hp.tree]
  have hE := map_norm (E := E) fun e he => (h.ord e he).1
  have hperm : (es.map norm).Perm E := by
    have := hs.symm
    unfold SameE at this
    rw [hE] at this
    exact this
  exact sortP_uniq h.asc hp.nodup hperm
/-- a code's tree is a tree, and the code is its code -/
theorem code_tree {n : Nat} {c : List Nat} (hn : n = c.length + 2) (hc : ∀ x ∈ c, x < n) : ValidT n (treeN n c) ∧ codeN n (treeN n c) = c := by
  have hf := fits_code hn hc
  obtain ⟨hp, hq⟩ := fits_pl c (List.range n) (degC n c) hf
  have hnd := hp.nodup
  have hperm := sortP_perm ((treeE n c (degC n c)).map norm)
  have hnorm : ∀ e ∈ treeN n c, e.1 < e.2 ∧ e.2 < n := by
    intro e he
    obtain ⟨e', he', rfl⟩ := List.mem_map.1 (hperm.mem_iff.1 he)
    obtain ⟨h1, h2, h3⟩ := hp.lt e' he'
    unfold norm
    simp only
    omega
  have hsame : SameE (treeN n c) (treeE n c (degC n c)) := by
    unfold SameE
    rw [map_norm fun e he => (hnorm e he).1]
    exact hperm
  refine ⟨⟨?_, hnorm, asc_sortP hnd, fun v hv => ?_⟩, ?_⟩
  · rw [hsame.length, hp.length]; omega
  · refine hsame.symm.reach (hp.reach 0 v ?_ ?_)
    · rw [hq]; unfold degC; rw [if_pos (by omega)]; omega
    · rw [hq]; unfold degC; rw [if_pos hv]; omega
  · have := hp.code _ hsame
    unfold codeN
    rw [show n - 2 = c.length by omega]
    exact this
end Go.Proofs.Ythlboikljibohaa

namespace Go.Proofs.Ythlboikljibohaa

def side1 (x : Nat) (out : List Nat) (e : Nat × Nat) : List Nat := if e.1 = x ∧ e.2 ∉ out then out ++ [e.2] else out
def side2 (x : Nat) (out : List Nat) (e : Nat × Nat) : List Nat := if e.2 = x ∧ e.1 ∉ out then out ++ [e.1] else out
def bstepE (x : Nat) (out : List Nat) (e : Nat × Nat) : List Nat := side2 x (side1 x out e) e
def roundB (E : Edges) (x : Nat) (out : List Nat) : List Nat := E.foldl (bstepE x) out
def bfs (E : Edges) : Nat → Nat → List Nat → List Nat
  | 0, _, out => out
  | f + 1, i, out => if i < out.length then bfs E f (i + 1) (roundB E (out.getD i 0) out) else out
def reachedN (n : Nat) (E : Edges) : List Nat := bfs E (n + 1) 0 [0]

theorem side1_pre (x : Nat) (out : List Nat) (e : Nat × Nat) : out <+: side1 x out e := by
  unfold side1; split
  · exact List.prefix_append _ _
  · exact List.prefix_refl _
theorem side2_pre (x : Nat) (out : List Nat) (e : Nat × Nat) : out <+: side2 x out e := by
  unfold side2; split
  · exact List.prefix_append _ _
  · exact List.prefix_refl _
theorem step_pre (x : Nat) (out : List Nat) (e : Nat × Nat) : out <+: bstepE x out e := (side1_pre x out e).trans (side2_pre x _ e)
theorem round_pre (E : Edges) (x : Nat) : ∀ out, out <+: roundB E x out := by
  induction E with
  | nil => intro out; exact List.prefix_refl _
  | cons e r ih => intro out; exact (step_pre x out e).trans (ih _)
/-- what every step keeps: no node twice, each one reached, none too great -/
structure BInv (n : Nat) (E : Edges) (out : List Nat) : Prop where
  nd : out.Nodup
  rch : ∀ v ∈ out, Reach E 0 v
  lt : ∀ v ∈ out, v < n
theorem binv_add {n : Nat} {E : Edges} {out : List Nat} (h : BInv n E out) {x y : Nat} (hx : x ∈ out) (hy : y ∉ out) (hyn : y < n) (he : (x, y) ∈ E ∨ (y, x) ∈ E) : BInv n E (out ++ [y]) := by
  refine ⟨?_, fun v hv => ?_, fun v hv => ?_⟩
  · rw [List.nodup_append]
    refine ⟨h.nd, by simp, fun a ha b hb => ?_⟩
    simp only [List.mem_singleton] at hb
    rintro rfl
    rw [hb] at ha; exact hy ha
  · rcases List.mem_append.1 hv with hv | hv
    · exact h.rch v hv
    · simp only [List.mem_singleton] at hv
      rw [hv]
      exact .step _ _ _ (h.rch x hx) he
  · rcases List.mem_append.1 hv with hv | hv
    · exact h.lt v hv
    · simp only [List.mem_singleton] at hv; rw [hv]; exact hyn
theorem binv_step {n : Nat} {E : Edges} (hE : ∀ e ∈ E, e.1 < n ∧ e.2 < n) {out : List Nat} (h : BInv n E out) {x : Nat} (hx : x ∈ out) {e : Nat × Nat} (he : e ∈ E) : BInv n E (bstepE x out e) ∧ (∀ y, (e = (x, y) ∨ e = (y, x)) → y ∈ bstepE x out e) := by
  have h1 : BInv n E (side1 x out e) ∧ (e.1 = x → e.2 ∈ side1 x out e) := by
    unfold side1
    split
    · rename_i hc
      exact ⟨binv_add h hx hc.2 (hE e he).2 (.inl (by rw [← hc.1]; exact he)), fun _ => by simp⟩
    · rename_i hc
      refine ⟨h, fun hh => Classical.byContradiction fun hn => hc ⟨hh, hn⟩⟩
  have hx1 : x ∈ side1 x out e := (side1_pre x out e).subset hx
  have h2 : BInv n E (bstepE x out e) ∧ (e.2 = x → e.1 ∈ bstepE x out e) := by
    unfold bstepE side2
    split
    · rename_i hc
      exact ⟨binv_add h1.1 hx1 hc.2 (hE e he).1 (.inr (by rw [← hc.1]; exact he)), fun _ => by simp⟩
    · rename_i hc
      refine ⟨h1.1, fun hh => Classical.byContradiction fun hn => hc ⟨hh, hn⟩⟩
  refine ⟨h2.1, fun y hy => ?_⟩
  rcases hy with rfl | rfl
  · exact (side2_pre x _ _).subset (h1.2 rfl)
  · exact h2.2 rfl
theorem binv_round {n : Nat} {E : Edges} (hE : ∀ e ∈ E, e.1 < n ∧ e.2 < n) {x : Nat} : ∀ (L : Edges), (∀ e ∈ L, e ∈ E) → ∀ out, BInv n E out → x ∈ out → BInv n E (roundB L x out) ∧ ∀ y, ((x, y) ∈ L ∨ (y, x) ∈ L) → y ∈ roundB L x out := by
  intro L
  induction L with
  | nil => intro _ out h _; exact ⟨h, fun y hy => by simp at hy⟩
  | cons e r ih =>
    intro hL out h hx
    obtain ⟨s1, s2⟩ := binv_step hE h hx (hL e (by simp))
    obtain ⟨i1, i2⟩ := ih (fun z hz => hL z (List.mem_cons_of_mem _ hz)) _ s1 ((step_pre x out e).subset hx)
    refine ⟨i1, fun y hy => ?_⟩
    have hc : (e = (x, y) ∨ e = (y, x)) ∨ ((x, y) ∈ r ∨ (y, x) ∈ r) := by
      rcases hy with hy | hy <;> rcases List.mem_cons.1 hy with hy | hy
      · exact .inl (.inl hy.symm)
      · exact .inr (.inl hy)
      · exact .inl (.inr hy.symm)
      · exact .inr (.inr hy)
    rcases hc with hc | hc
    · exact (round_pre r x _).subset (s2 y hc)
    · exact i2 y hc
theorem binv_len {n : Nat} {E : Edges} {out : List Nat} (h : BInv n E out) : out.length ≤ n := by
  have := List.Nodup.length_le_of_subset (l₂ := List.range n) h.nd fun v hv => List.mem_range.2 (h.lt v hv)
  rwa [List.length_range] at this
theorem bfs_inv {n : Nat} {E : Edges} (hE : ∀ e ∈ E, e.1 < n ∧ e.2 < n) : ∀ (f i : Nat) (out : List Nat), BInv n E out → 0 ∈ out → (∀ j (_ : j < i) (hj : j < out.length) y, ((out[j], y) ∈ E ∨ (y, out[j]) ∈ E) → y ∈ out) → n < f + i →
    BInv n E (bfs E f i out) ∧ 0 ∈ bfs E f i out ∧ ∀ x ∈ bfs E f i out, ∀ y, ((x, y) ∈ E ∨ (y, x) ∈ E) → y ∈ bfs E f i out := by
  intro f
  induction f with
  | zero =>
    intro i out h h0 hc hf
    refine ⟨h, h0, fun x hx y hy => ?_⟩
    obtain ⟨j, hj, rfl⟩ := List.getElem_of_mem hx
    have hj' : j < out.length := hj
    have := binv_len h
    exact hc j (by omega) hj' y hy
  | succ f ih =>
    intro i out h h0 hc hf
    rw [bfs]
    split
    · rename_i hi
      have hx : out.getD i 0 ∈ out := by
        rw [List.getD_eq_getElem?_getD, List.getElem?_eq_getElem hi]
        exact List.getElem_mem hi
      obtain ⟨r1, r2⟩ := binv_round hE E (fun _ h => h) out h hx
      have hpre := round_pre E (out.getD i 0) out
      refine ih (i + 1) _ r1 (hpre.subset h0) (fun j hj hjl y hy => ?_) (by omega)
      have hjo : j < out.length := by omega
      have e1 : (roundB E (out.getD i 0) out)[j] = out[j] := (List.IsPrefix.getElem hpre hjo).symm
      rw [e1] at hy
      by_cases hji : j = i
      · subst hji
        have e2 : out.getD j 0 = out[j] := by rw [List.getD_eq_getElem?_getD, List.getElem?_eq_getElem hjo]; rfl
        rw [e2] at r2 ⊢
        exact r2 y hy
      · exact hpre.subset (hc j (by omega) hjo y hy)
    · rename_i hi
      refine ⟨h, h0, fun x hx y hy => ?_⟩
      obtain ⟨j, hj, rfl⟩ := List.getElem_of_mem hx
      exact hc j (by omega) hj y hy
theorem reachedN_iff {n : Nat} {E : Edges} (hn : 0 < n) (hE : ∀ e ∈ E, e.1 < n ∧ e.2 < n) : (reachedN n E).length = n ↔ ∀ v, v < n → Reach E 0 v := by
  have h0 : BInv n E [0] := ⟨by simp, fun v hv => by simp at hv; rw [hv]; exact .refl _, fun v hv => by simp at hv; omega⟩
  obtain ⟨b1, b2, b3⟩ := bfs_inv hE (n + 1) 0 [0] h0 (by simp) (fun j hj => absurd hj (by omega)) (by omega)
  show (bfs E (n + 1) 0 [0]).length = n ↔ _
  constructor
  · intro hl v hv
    refine b1.rch v ?_
    apply Classical.byContradiction
    intro hno
    have hsub : ∀ x ∈ v :: bfs E (n + 1) 0 [0], x ∈ List.range n := fun x hx => by
      rcases List.mem_cons.1 hx with rfl | hx
      · exact List.mem_range.2 hv
      · exact List.mem_range.2 (b1.lt x hx)
    have := List.Nodup.length_le_of_subset (List.nodup_cons.2 ⟨hno, b1.nd⟩) hsub
    rw [List.length_range, List.length_cons] at this
    omega
  · intro hall
    have hmem : ∀ v, Reach E 0 v → v ∈ bfs E (n + 1) 0 [0] := by
      have key : ∀ z v, Reach E z v → z ∈ bfs E (n + 1) 0 [0] → v ∈ bfs E (n + 1) 0 [0] := by
        intro z v hv hz
        induction hv with
        | refl => exact hz
        | step p q hp he ih => exact b3 _ ih _ he
      exact fun v hv => key 0 v hv b2
    have h1 := List.Nodup.length_le_of_subset (List.nodup_range (n := n)) fun v hv => hmem v (hall v (List.mem_range.1 hv))
    rw [List.length_range] at h1
    have := binv_len b1
    omega
theorem bfs_len {n : Nat} {E : Edges} (hn : 0 < n) (hE : ∀ e ∈ E, e.1 < n ∧ e.2 < n) : (reachedN n E).length ≤ n := by
  have h0 : BInv n E [0] := ⟨by simp, fun v hv => by simp at hv; rw [hv]; exact .refl _, fun v hv => by simp at hv; omega⟩
  exact binv_len (bfs_inv hE (n + 1) 0 [0] h0 (by simp) (fun j hj => absurd hj (by omega)) (by omega)).1

/-! ### rows of numbers -/
def rowsE (E : Edges) : List (List Int) := E.map fun e => [(e.1 : Int), (e.2 : Int)]
def edgesR (rows : List (List Int)) : Edges := rows.map fun r => ((r.getD 0 0).toNat, (r.getD 1 0).toNat)
theorem edges_rows (E : Edges) : edgesR (rowsE E) = E := by
  unfold edgesR rowsE
  rw [List.map_map]
  exact (List.map_congr_left fun e _ => by simp).trans (List.map_id _)
/-- a row is two nodes, the lesser one first, behind the row ahead of it -/
def okRow (n : Int) (r : List Int) : Bool := match r with
  | [a, b] => decide (0 ≤ a) && decide (a + 1 ≤ b) && decide (b ≤ n - 1)
  | _ => false
def okNext (p r : List Int) : Bool := match p, r with
  | [a, b], [c, d] => decide (a < c) || (decide (a = c) && decide (b < d))
  | _, _ => false
def okAt (n : Int) (rows : List (List Int)) (i : Nat) : Bool := okRow n (rows.getD i []) && (decide (i = 0) || okNext (rows.getD (i - 1) []) (rows.getD i []))
def okUp (n : Int) (rows : List (List Int)) (k : Nat) : Bool := (List.range k).all (okAt n rows)
theorem okUp_step (n : Int) (rows : List (List Int)) (k : Nat) : okUp n rows (k + 1) = (okUp n rows k && okAt n rows k) := by
  unfold okUp
  rw [List.range_succ, List.all_append]
  simp
theorem okUp_at {n : Int} {rows : List (List Int)} {k i : Nat} (h : okUp n rows k = true) (hi : i < k) : okAt n rows i = true :=
  List.all_eq_true.1 h i (List.mem_range.2 hi)
theorem okUp_no {n : Int} {rows : List (List Int)} {k i : Nat} (h : okAt n rows i = false) (hi : i < k) : okUp n rows k = false := by
  cases hh : okUp n rows k with
  | false => rfl
  | true => rw [okUp_at hh hi] at h; cases h
theorem okRow_eq {n : Int} {r : List Int} (h : okRow n r = true) : ∃ a b : Nat, r = [(a : Int), (b : Int)] ∧ a < b ∧ (b : Int) ≤ n - 1 := by
  unfold okRow at h
  split at h
  · rename_i a b
    simp only [Bool.and_eq_true, decide_eq_true_eq] at h
    obtain ⟨⟨h1, h2⟩, h3⟩ := h
    exact ⟨a.toNat, b.toNat, by rw [Int.toNat_of_nonneg h1, Int.toNat_of_nonneg (by omega)], by omega, by omega⟩
  · cases h
/-- are the rows a tree of so many nodes? -/
def treeB (n : Int) (rows : List (List Int)) : Bool :=
  decide (1 ≤ n ∧ n ≤ 7) && decide ((rows.length : Int) = n - 1) && okUp n rows rows.length && decide (((reachedN n.toNat (edgesR rows)).length : Int) = n)
theorem ok_rows {n : Int} {rows : List (List Int)} (h : okUp n rows rows.length = true) : rows = rowsE (edgesR rows) ∧ (∀ e ∈ edgesR rows, e.1 < e.2 ∧ (e.2 : Int) < n) ∧ AscP (edgesR rows) := by
  have hrow : ∀ r ∈ rows, ∃ a b : Nat, r = [(a : Int), (b : Int)] ∧ a < b ∧ (b : Int) ≤ n - 1 := by
    intro r hr
    obtain ⟨i, hi, rfl⟩ := List.getElem_of_mem hr
    have h1 := okUp_at h hi
    unfold okAt at h1
    rw [Bool.and_eq_true] at h1
    have e : rows.getD i [] = rows[i] := by rw [List.getD_eq_getElem?_getD, List.getElem?_eq_getElem hi]; rfl
    rw [e] at h1
    exact okRow_eq h1.1
  refine ⟨?_, ?_, ?_⟩
  · unfold rowsE edgesR
    rw [List.map_map]
    refine (List.map_id rows).symm.trans (List.map_congr_left fun r hr => ?_)
    obtain ⟨a, b, rfl, _, _⟩ := hrow r hr
    simp
  · intro e he
    obtain ⟨r, hr, rfl⟩ := List.mem_map.1 he
    obtain ⟨a, b, rfl, h1, h2⟩ := hrow r hr
    simp
    omega
  · show List.Pairwise _ (rows.map _)
    have key : ∀ (L : List (List Int)), (∀ i (hi : i + 1 < L.length), okNext (L.getD i []) (L.getD (i + 1) []) = true) → (∀ r ∈ L, ∃ a b : Nat, r = [(a : Int), (b : Int)] ∧ a < b ∧ (b : Int) ≤ n - 1) → AscP (edgesR L) := by
      intro L
      induction L with
      | nil => intro _ _; exact List.Pairwise.nil
      | cons r t ih =>
        intro h1 h2
        have iht := ih (fun i hi => h1 (i + 1) (by simp; omega)) (fun z hz => h2 z (List.mem_cons_of_mem _ hz))
        show AscP (_ :: edgesR t)
        refine List.pairwise_cons.2 ⟨fun y hy => ?_, iht⟩
        cases t with
        | nil => simp [edgesR] at hy
        | cons s u =>
          obtain ⟨a, b, rfl, _, _⟩ := h2 r (by simp)
          obtain ⟨c, d, rfl, _, _⟩ := h2 s (by simp)
          have h3 := h1 0 (by simp)
          have h4 : ltP (((([(a : Int), (b : Int)] : List Int).getD 0 0).toNat), ((([(a : Int), (b : Int)] : List Int).getD 1 0).toNat)) (c, d) = true := by
            rw [ltP_iff]
            simp [okNext] at h3
            simp
            omega
          have hcd : edgesR ([(c : Int), (d : Int)] :: u) = (c, d) :: edgesR u := by simp [edgesR]
          rw [hcd] at hy iht
          rcases List.mem_cons.1 hy with rfl | hy
          · exact h4
          · exact ltP_trans h4 ((List.pairwise_cons.1 iht).1 y hy)
    refine key rows (fun i hi => ?_) hrow
    have h1 := okUp_at h hi
    unfold okAt at h1
    simp only [Bool.and_eq_true, Bool.or_eq_true, decide_eq_true_eq] at h1
    rcases h1.2 with h2 | h2
    · omega
    · exact h2
theorem rows_ok {n : Int} {E : Edges} (ho : ∀ e ∈ E, e.1 < e.2 ∧ (e.2 : Int) < n) (ha : AscP E) : okUp n (rowsE E) (rowsE E).length = true := by
  unfold okUp
  rw [List.all_eq_true]
  intro i hi
  rw [List.mem_range] at hi
  have hiE : i < E.length := by simpa [rowsE] using hi
  have e1 : (rowsE E).getD i [] = [(E[i].1 : Int), (E[i].2 : Int)] := by
    rw [List.getD_eq_getElem?_getD, List.getElem?_eq_getElem hi]; simp [rowsE]
  obtain ⟨o1, o2⟩ := ho _ (List.getElem_mem hiE)
  unfold okAt
  rw [e1, Bool.and_eq_true, Bool.or_eq_true, decide_eq_true_eq]
  refine ⟨?_, ?_⟩
  · simp [okRow]; omega
  · by_cases h0 : i = 0
    · exact .inl h0
    · right
      have hp : i - 1 < E.length := by omega
      have e2 : (rowsE E).getD (i - 1) [] = [(E[i - 1].1 : Int), (E[i - 1].2 : Int)] := by
        rw [List.getD_eq_getElem?_getD, List.getElem?_eq_getElem (by simp [rowsE]; omega)]; simp [rowsE]
      rw [e2]
      have := (List.pairwise_iff_getElem.1 ha) (i - 1) i hp hiE (by omega)
      rw [ltP_iff] at this
      simp [okNext]
      omega
/-- the rows are a tree just if they are the rows of one -/
theorem treeB_iff {n : Int} {rows : List (List Int)} : treeB n rows = true ↔ (1 ≤ n ∧ n ≤ 7) ∧ rows = rowsE (edgesR rows) ∧ ValidT n.toNat (edgesR rows) := by
  have hlen : (edgesR rows).length = rows.length := by simp [edgesR]
  unfold treeB
  simp only [Bool.and_eq_true, decide_eq_true_eq]
  constructor
  · rintro ⟨⟨⟨h1, h2⟩, h3⟩, h4⟩
    obtain ⟨r1, r2, r3⟩ := ok_rows h3
    have hE : ∀ e ∈ edgesR rows, e.1 < n.toNat ∧ e.2 < n.toNat := fun e he => by have := r2 e he; omega
    exact ⟨h1, r1, by omega, fun e he => ⟨(r2 e he).1, (hE e he).2⟩, r3, (reachedN_iff (by omega) hE).1 (by omega)⟩
  · rintro ⟨h1, h2, h3⟩
    have hE : ∀ e ∈ edgesR rows, e.1 < n.toNat ∧ e.2 < n.toNat := fun e he => by have := h3.ord e he; omega
    have hl := h3.len
    refine ⟨⟨⟨h1, by omega⟩, ?_⟩, ?_⟩
    · have := rows_ok (n := n) (fun e he => ⟨(h3.ord e he).1, by have := (h3.ord e he).2; omega⟩) h3.asc
      rw [← h2] at this
      exact this
    · have := (reachedN_iff (n := n.toNat) (by omega) hE).2 h3.conn
      omega
end Go.Proofs.Ythlboikljibohaa

namespace Go.Proofs.Ythlboikljibohaa

def Adj (E : Edges) (v x : Nat) : Prop := (v, x) ∈ E ∨ (x, v) ∈ E
theorem Adj.symm {E : Edges} {v x : Nat} (h : Adj E v x) : Adj E x v := Or.symm h
/-- the nodes beside a node, edge by edge -/
def nb1 (v : Nat) (e : Nat × Nat) : List Nat := (if e.1 = v then [e.2] else []) ++ (if e.2 = v then [e.1] else [])
def nb (E : Edges) (v : Nat) : List Nat := E.flatMap (nb1 v)
theorem mem_nb {E : Edges} {v x : Nat} : x ∈ nb E v ↔ Adj E v x := by
  unfold nb Adj
  rw [List.mem_flatMap]
  constructor
  · rintro ⟨⟨a, b⟩, he, hx⟩
    unfold nb1 at hx
    simp only [List.mem_append] at hx
    rcases hx with hx | hx
    · split at hx
      · rename_i h1
        simp only [List.mem_singleton] at hx
        subst hx; left; rw [← h1]; exact he
      · simp at hx
    · split at hx
      · rename_i h1
        simp only [List.mem_singleton] at hx
        subst hx; right; rw [← h1]; exact he
      · simp at hx
  · rintro (h | h)
    · exact ⟨_, h, by simp [nb1]⟩
    · exact ⟨_, h, by simp [nb1]⟩
/-- .. node by node -/
def bes1 (v x : Nat) (e : Nat × Nat) : List Nat := if (e.1 = v ∧ e.2 = x) ∨ (e.2 = v ∧ e.1 = x) then [x] else []
def besN (n : Nat) (E : Edges) (v : Nat) : List Nat := (List.range n).flatMap fun x => E.flatMap (bes1 v x)
theorem nb_asc {E : Edges} (ho : ∀ e ∈ E, e.1 < e.2) (ha : AscP E) (v : Nat) : (nb E v).Pairwise (· < ·) := by
  induction E with
  | nil => exact List.Pairwise.nil
  | cons e r ih =>
    obtain ⟨a1, a2⟩ := List.pairwise_cons.1 ha
    have h1 := ho e (by simp)
    show (nb1 v e ++ nb r v).Pairwise _
    rw [List.pairwise_append]
    refine ⟨?_, ih (fun y hy => ho y (List.mem_cons_of_mem _ hy)) a2, fun x hx y hy => ?_⟩
    · unfold nb1
      by_cases e1 : e.1 = v
      · rw [if_pos e1, if_neg (by omega)]; simp
      · rw [if_neg e1]; split <;> simp
    · have hx1 : (e.1 = v ∧ x = e.2) ∨ (e.2 = v ∧ x = e.1) := by
        unfold nb1 at hx
        simp only [List.mem_append] at hx
        rcases hx with hx | hx
        · split at hx
          · rename_i q; simp only [List.mem_singleton] at hx; exact .inl ⟨q, hx⟩
          · simp at hx
        · split at hx
          · rename_i q; simp only [List.mem_singleton] at hx; exact .inr ⟨q, hx⟩
          · simp at hx
      rcases mem_nb.1 hy with hm | hm
      · have q1 := (ltP_iff _ _).1 (a1 _ hm)
        have q2 := ho _ (List.mem_cons_of_mem _ hm)
        simp only at q1 q2
        omega
      · have q1 := (ltP_iff _ _).1 (a1 _ hm)
        have q2 := ho _ (List.mem_cons_of_mem _ hm)
        simp only at q1 q2
        omega
theorem bes_at {E : Edges} (ho : ∀ e ∈ E, e.1 < e.2) (v x : Nat) : E.flatMap (bes1 v x) = (nb E v).filter fun y => decide (y = x) := by
  induction E with
  | nil => rfl
  | cons e r ih =>
    have h1 := ho e (by simp)
    show bes1 v x e ++ r.flatMap (bes1 v x) = (nb1 v e ++ nb r v).filter _
    rw [List.filter_append, ih fun y hy => ho y (List.mem_cons_of_mem _ hy)]
    congr 1
    unfold bes1 nb1
    by_cases e1 : e.1 = v
    · rw [if_pos e1, if_neg (c := e.2 = v) (by omega)]
      by_cases e2 : e.2 = x
      · rw [if_pos (.inl ⟨e1, e2⟩)]; simp [e2]
      · rw [if_neg (by omega)]; simp [e2]
    · rw [if_neg e1]
      by_cases e2 : e.2 = v
      · rw [if_pos e2]
        by_cases e3 : e.1 = x
        · rw [if_pos (.inr ⟨e2, e3⟩)]; simp [e3]
        · rw [if_neg (by omega)]; simp [e3]
      · rw [if_neg e2, if_neg (by omega)]; rfl
theorem asc_parts : ∀ (L : List Nat), L.Pairwise (· < ·) → ∀ n, (List.range n).flatMap (fun x => L.filter fun y => decide (y = x)) = L.filter fun y => decide (y < n) := by
  intro L hL n
  induction n with
  | zero => symm; simp
  | succ n ih =>
    rw [List.range_succ, List.flatMap_append, ih]
    simp only [List.flatMap_cons, List.flatMap_nil, List.append_nil]
    clear ih
    induction L with
    | nil => rfl
    | cons a r ih =>
      obtain ⟨a1, a2⟩ := List.pairwise_cons.1 hL
      have ih := ih a2
      rcases Nat.lt_trichotomy a n with h | h | h
      · rw [List.filter_cons_of_pos (by simp [h]), List.filter_cons_of_neg (by simp; omega), List.filter_cons_of_pos (by simp; omega), List.cons_append, ih]
      · subst h
        rw [List.filter_cons_of_neg (by simp), List.filter_cons_of_pos (by simp), List.filter_cons_of_pos (by simp)]
        have e1 : (r.filter fun y => decide (y < a)) = [] := by
          rw [List.filter_eq_nil_iff]; intro y hy; have := a1 y hy; simp; omega
        rw [e1] at ih ⊢
        rw [← ih]; rfl
      · rw [List.filter_cons_of_neg (by simp; omega), List.filter_cons_of_neg (by simp; omega), List.filter_cons_of_neg (by simp; omega), ih]
theorem bes_nb {n : Nat} {E : Edges} (ho : ∀ e ∈ E, e.1 < e.2 ∧ e.2 < n) (ha : AscP E) (v : Nat) : besN n E v = nb E v := by
  unfold besN
  have h1 : (fun x => E.flatMap (bes1 v x)) = fun x => (nb E v).filter fun y => decide (y = x) := funext fun x => bes_at (fun e he => (ho e he).1) v x
  rw [h1, asc_parts _ (nb_asc (fun e he => (ho e he).1) ha v), List.filter_eq_self]
  intro y hy
  rcases mem_nb.1 hy with h | h
  · have := ho _ h; simp at this ⊢; omega
  · have := ho _ h; simp at this ⊢; omega

/-! ### branches -/
def away (E : Edges) (v : Nat) (fr : Int) : List Nat := (nb E v).filter fun x => !decide ((x : Int) = fr)
theorem mem_away {E : Edges} {v x : Nat} {fr : Int} : x ∈ away E v fr ↔ Adj E v x ∧ (x : Int) ≠ fr := by
  unfold away
  rw [List.mem_filter, mem_nb]; simp
/-- a branch has an end -/
def Brn (E : Edges) : Nat → Nat → Int → Prop
  | 0, _, _ => False
  | d + 1, v, fr => ∀ x ∈ away E v fr, Brn E d x v
theorem brn_mono {E : Edges} : ∀ (d : Nat) (v : Nat) (fr : Int), Brn E d v fr → Brn E (d + 1) v fr := by
  intro d
  induction d with
  | zero => intro v fr h; exact h.elim
  | succ d ih => intro v fr h x hx; exact ih _ _ (h x hx)
theorem brn_le {E : Edges} {d d' : Nat} (h : d ≤ d') {v : Nat} {fr : Int} (hb : Brn E d v fr) : Brn E d' v fr := by
  induction h with
  | refl => exact hb
  | step _ ih => exact brn_mono _ _ _ ih
theorem brn_congr {E F : Edges} (h : ∀ a b, Adj E a b ↔ Adj F a b) : ∀ (d v : Nat) (fr : Int), Brn E d v fr → Brn F d v fr := by
  intro d
  induction d with
  | zero => intro v fr hb; exact hb
  | succ d ih => intro v fr hb x hx; rw [mem_away, ← h] at hx; exact ih _ _ (hb x (mem_away.2 hx))
theorem brn_from {E : Edges} {d v : Nat} (h : Brn E d v (-1)) (fr : Int) : Brn E d v fr := by
  cases d with
  | zero => exact h
  | succ d => exact fun x hx => h x (mem_away.2 ⟨(mem_away.1 hx).1, by omega⟩)
theorem adj_new {es : Edges} {l x v y : Nat} (h : Adj ((l, x) :: es) v y) : Adj es v y ∨ (v = l ∧ y = x) ∨ (v = x ∧ y = l) := by
  rcases h with h | h <;> rcases List.mem_cons.1 h with h | h
  · cases h; exact .inr (.inl ⟨rfl, rfl⟩)
  · exact .inl (.inl h)
  · cases h; exact .inr (.inr ⟨rfl, rfl⟩)
  · exact .inl (.inr h)
theorem adj_deg {es : Edges} {l y : Nat} (hl : deg es l = 0) : ¬ Adj es l y ∧ ¬ Adj es y l := ⟨fun h => deg_edge (u := y) (Or.symm h) hl, fun h => deg_edge (u := y) h hl⟩
theorem brn_add {es : Edges} {l x : Nat} (hl : deg es l = 0) : ∀ (d v : Nat) (fr : Int), Brn es d v fr → v ≠ l → Brn ((l, x) :: es) (d + 1) v fr := by
  intro d
  induction d with
  | zero => intro v fr h; exact h.elim
  | succ d ih =>
    intro v fr h hv y hy
    obtain ⟨h1, h2⟩ := mem_away.1 hy
    rcases adj_new h1 with h1 | ⟨h1, _⟩ | ⟨rfl, rfl⟩
    · exact ih y v (h y (mem_away.2 ⟨h1, h2⟩)) (fun e => (adj_deg hl).2 (e ▸ h1))
    · exact absurd h1 hv
    · intro z hz
      obtain ⟨z1, z2⟩ := mem_away.1 hz
      exfalso
      rcases adj_new z1 with z1 | ⟨_, z1⟩ | ⟨z1, _⟩
      · exact (adj_deg hl).1 z1
      · exact z2 (by rw [z1])
      · exact hv z1.symm
theorem brn_pl {n : Nat} {es : Edges} {c : List Nat} (h : Pl n es c) : ∀ v, Brn es (2 * es.length) v (-1) := by
  induction h with
  | last a b hab hb =>
    intro v y hy z hz
    obtain ⟨h1, _⟩ := mem_away.1 hy
    obtain ⟨h3, h4⟩ := mem_away.1 hz
    exfalso
    simp only [Adj, List.mem_singleton, Prod.mk.injEq] at h1 h3
    omega
  | step l x es c _ _ hlx hl hx _ hp ih =>
    intro v
    have e : 2 * ((l, x) :: es).length = 2 * es.length + 1 + 1 := by simp; omega
    rw [e]
    by_cases hv : v = l
    · subst hv
      intro y hy
      obtain ⟨h1, _⟩ := mem_away.1 hy
      rcases adj_new h1 with h1 | ⟨_, rfl⟩ | ⟨h1, _⟩
      · exact ((adj_deg hl).1 h1).elim
      · exact brn_add hl _ _ _ (brn_from (ih y) _) (Ne.symm hlx)
      · exact absurd h1 hlx
    · exact brn_mono _ _ _ (brn_add hl _ _ _ (ih v) hv)
theorem valid_brn {n : Nat} {E : Edges} (h : ValidT n E) (h7 : n ≤ 7) (v : Nat) (fr : Int) : Brn E 14 v fr := by
  by_cases h2 : 2 ≤ n
  · obtain ⟨es, c, hp, hs, hc, _⟩ := valid_peel h h2
    have h1 := brn_pl hp v
    have hl := hp.length
    exact brn_from (brn_congr (fun a b => (hs.ends a b).symm) _ _ _ (brn_le (d' := 14) (by omega) h1)) fr
  · have h0 : E = [] := List.eq_nil_of_length_eq_zero (by have := h.len; omega)
    subst h0
    intro x hx
    have := (mem_away.1 hx).1
    simp [Adj] at this

/-! ### the nodes of a branch -/
def nds (E : Edges) : Nat → Nat → Int → List Nat
  | 0, _, _ => []
  | d + 1, v, fr => v :: (away E v fr).flatMap fun x => nds E d x v
theorem cnt_flat {α : Type} (f : α → List Nat) (y : Nat) (L : List α) : (L.flatMap f).count y = (L.map fun z => (f z).count y).sum := by
  induction L with
  | nil => rfl
  | cons a r ih => rw [List.flatMap_cons, List.count_append, ih, List.map_cons, List.sum_cons]
theorem count_perm {α : Type} (f : α → List Nat) (y : Nat) {L M : List α} (h : L.Perm M) : (L.flatMap f).count y = (M.flatMap f).count y := (h.flatMap_right f).count_eq y
theorem nb_new (es : Edges) (l x v : Nat) : nb ((l, x) :: es) v = nb1 v (l, x) ++ nb es v := rfl
theorem nb_none {es : Edges} {l : Nat} (hl : deg es l = 0) : nb es l = [] := by
  cases h : nb es l with
  | nil => rfl
  | cons y r =>
    have : Adj es l y := mem_nb.1 (by rw [h]; simp)
    exact ((adj_deg hl).1 this).elim
theorem away_same {es : Edges} {l x v : Nat} (h1 : v ≠ l) (h2 : v ≠ x) (fr : Int) : away ((l, x) :: es) v fr = away es v fr := by
  unfold away
  rw [nb_new, nb1, if_neg (fun e => h1 e.symm), if_neg (fun e => h2 e.symm)]; rfl
theorem away_leaf {es : Edges} {l x : Nat} (hl : deg es l = 0) (hlx : l ≠ x) : away ((l, x) :: es) l x = [] := by
  unfold away
  rw [nb_new, nb_none hl, nb1, if_pos rfl, if_neg (fun e => hlx e.symm)]; simp
theorem away_stem {es : Edges} {l x : Nat} (hlx : l ≠ x) {fr : Int} (hf : fr ≠ l) : away ((l, x) :: es) x fr = l :: away es x fr := by
  unfold away
  rw [nb_new, nb1, if_neg hlx, if_pos rfl]
  simp only [List.nil_append, List.singleton_append]
  rw [List.filter_cons_of_pos (by simp; omega)]
theorem away_back {es : Edges} {l x : Nat} (hl : deg es l = 0) (hlx : l ≠ x) : away ((l, x) :: es) x l = away es x (-1) := by
  unfold away
  rw [nb_new, nb1, if_neg hlx, if_pos rfl]
  simp only [List.nil_append, List.singleton_append]
  rw [List.filter_cons_of_neg (by simp)]
  refine List.filter_congr fun y hy => ?_
  have h1 : y ≠ l := fun e => (adj_deg hl).2 (e ▸ mem_nb.1 hy)
  simp; omega
theorem sum_map_eq {α : Type} {f g : α → Nat} {L : List α} (h : ∀ x ∈ L, f x = g x) : (L.map f).sum = (L.map g).sum := by rw [List.map_congr_left h]
theorem nds_add {es : Edges} {l x : Nat} (hl : deg es l = 0) (hlx : l ≠ x) : ∀ (d v : Nat) (fr : Int), Brn es d v fr → v ≠ l → fr ≠ l →
    (nds ((l, x) :: es) (d + 1) v fr).count l = (nds es d v fr).count x ∧ ∀ y, y ≠ l → (nds ((l, x) :: es) (d + 1) v fr).count y = (nds es d v fr).count y := by
  intro d
  induction d with
  | zero => intro v fr h; exact h.elim
  | succ d ih =>
    intro v fr h hv hf
    have key : ∀ z ∈ away es v fr, (nds ((l, x) :: es) (d + 1) z v).count l = (nds es d z v).count x ∧ ∀ y, y ≠ l → (nds ((l, x) :: es) (d + 1) z v).count y = (nds es d z v).count y := by
      intro z hz
      exact ih z v (h z hz) (fun e => (adj_deg hl).2 (e ▸ (mem_away.1 hz).1)) (by omega)
    rw [nds, nds]
    by_cases hvx : v = x
    · subst hvx
      rw [away_stem hlx hf]
      rw [List.flatMap_cons]
      have hleaf : nds ((l, v) :: es) (d + 1) l v = [l] := by rw [nds, away_leaf hl hlx]; rfl
      rw [hleaf]
      have s1 := sum_map_eq (L := away es v fr) (f := fun z => (nds ((l, v) :: es) (d + 1) z v).count l) (g := fun z => (nds es d z v).count v) fun z hz => (key z hz).1
      constructor
      · rw [List.count_cons_of_ne (fun e => hv e), List.count_append, List.count_cons_self, List.count_cons_self, cnt_flat, cnt_flat, s1, List.count_nil]
        omega
      · intro y hy
        have s2 := sum_map_eq (L := away es v fr) (f := fun z => (nds ((l, v) :: es) (d + 1) z v).count y) (g := fun z => (nds es d z v).count y) fun z hz => (key z hz).2 y hy
        have s3 : List.count y [l] = 0 := by rw [List.count_eq_zero]; simpa using hy
        rw [List.count_cons, List.count_cons, List.count_append, cnt_flat, cnt_flat, s2, s3, Nat.zero_add]
    · rw [away_same hv hvx]
      constructor
      · rw [List.count_cons_of_ne (fun e => hv e), List.count_cons_of_ne (fun e => hvx e), cnt_flat, cnt_flat]
        exact sum_map_eq fun z hz => (key z hz).1
      · intro y hy
        rw [List.count_cons, List.count_cons, cnt_flat, cnt_flat]
        congr 1
        exact sum_map_eq fun z hz => (key z hz).2 y hy
theorem flat_eq {α β : Type} {f g : α → List β} : ∀ {L : List α}, (∀ x ∈ L, f x = g x) → L.flatMap f = L.flatMap g
  | [], _ => rfl
  | a :: r, h => by rw [List.flatMap_cons, List.flatMap_cons, h a (by simp), flat_eq fun x hx => h x (List.mem_cons_of_mem _ hx)]
theorem nds_more {E : Edges} : ∀ (d v : Nat) (fr : Int), Brn E d v fr → nds E (d + 1) v fr = nds E d v fr := by
  intro d
  induction d with
  | zero => intro v fr h; exact h.elim
  | succ d ih =>
    intro v fr h
    rw [nds, nds]
    congr 1
    exact flat_eq fun x hx => ih x v (h x hx)
theorem nds_le {E : Edges} {d d' : Nat} (hd : d ≤ d') {v : Nat} {fr : Int} (h : Brn E d v fr) : nds E d' v fr = nds E d v fr := by
  induction hd with
  | refl => rfl
  | step hd ih => rw [nds_more _ _ _ (brn_le hd h), ih]
theorem nds_pl {n : Nat} {es : Edges} {c : List Nat} (h : Pl n es c) : ∀ v, deg es v ≠ 0 → ∀ y, (nds es (2 * es.length) v (-1)).count y = if deg es y = 0 then 0 else 1 := by
  induction h with
  | last a b hab hb =>
    intro v hv y
    have hv : v = a ∨ v = b := by
      obtain ⟨e, he, h1⟩ := deg_mem hv
      simp only [List.mem_singleton] at he
      subst he
      rcases deg1_end h1 with h | h <;> simp at h <;> omega
    have hd : deg [(a, b)] y = (if a = y then 1 else 0) + (if b = y then 1 else 0) := by unfold deg deg1; simp
    have key : nds [(a, b)] 2 v (-1) = if v = a then [a, b] else [b, a] := by
      have n1 : nb [(a, b)] a = [b] := by unfold nb nb1; rw [List.flatMap_cons, List.flatMap_nil, if_pos rfl, if_neg (by simp; omega)]; rfl
      have n2 : nb [(a, b)] b = [a] := by unfold nb nb1; rw [List.flatMap_cons, List.flatMap_nil, if_neg (by simp; omega), if_pos rfl]; rfl
      have f1 : ∀ u : Nat, (([u] : List Nat).filter fun (x : Nat) => !decide ((x : Int) = (-1 : Int))) = [u] := fun u => by rw [List.filter_cons_of_pos (by simp)]; rfl
      have f2 : ∀ u : Nat, (([u] : List Nat).filter fun (x : Nat) => !decide ((x : Int) = (u : Int))) = [] := fun u => by rw [List.filter_cons_of_neg (by simp)]; rfl
      rcases hv with rfl | rfl
      · rw [if_pos rfl, nds, away, n1, f1, List.flatMap_cons, List.flatMap_nil, nds, away, n2, f2]; rfl
      · rw [if_neg (by omega), nds, away, n2, f1, List.flatMap_cons, List.flatMap_nil, nds, away, n1, f2]; rfl
    show (nds [(a, b)] 2 v (-1)).count y = _
    rw [key, hd]
    have c2 : ∀ p q : Nat, List.count y [p, q] = (if q = y then 1 else 0) + (if p = y then 1 else 0) := fun p q => by
      rw [List.count_cons, List.count_cons, List.count_nil]; simp
    by_cases ha : a = y
    · have hb' : b ≠ y := by omega
      split <;> rw [c2] <;> simp [ha, hb']
    · by_cases hb' : b = y
      · split <;> rw [c2] <;> simp [ha, hb']
      · split <;> rw [c2] <;> simp [ha, hb']
  | step l x es c _ _ hlx hl hx _ hp ih =>
    intro v hv y
    have e : 2 * ((l, x) :: es).length = 2 * es.length + 1 + 1 := by simp; omega
    rw [e]
    have hdy : deg ((l, x) :: es) y = deg1 (l, x) y + deg es y := deg_cons _ _ _
    have B : ∀ u, Brn es (2 * es.length) u (-1) := brn_pl hp
    have main : ∀ u, deg es u ≠ 0 → ∀ y, (nds ((l, x) :: es) (2 * es.length + 1) u (-1)).count y = if deg ((l, x) :: es) y = 0 then 0 else 1 := by
      intro u hu y
      have hul : u ≠ l := fun e => hu (e ▸ hl)
      obtain ⟨c1, c2⟩ := nds_add hl hlx _ u (-1) (B u) hul (by omega)
      by_cases hy : y = l
      · subst hy
        rw [c1, ih u hu x, if_neg hx, if_neg (by rw [deg_cons, deg1_self hlx]; omega)]
      · rw [c2 y hy, ih u hu y]
        by_cases hyx : y = x
        · subst hyx
          rw [if_neg hx, if_neg (by rw [deg_cons]; omega)]
        · rw [deg_cons, deg1_none hy hyx, Nat.zero_add]
    by_cases hvl : v = l
    · subst hvl
      have a1 : away ((v, x) :: es) v (-1) = [x] := by
        unfold away
        rw [nb_new, nb_none hl, nb1, if_pos rfl, if_neg (fun e => hlx e.symm)]
        simp
      obtain ⟨D, hD⟩ : ∃ D, 2 * es.length = D + 1 := ⟨2 * es.length - 1, by have := hp.length; omega⟩
      have B1 := B x
      have I1 := ih x hx
      rw [hD] at B1 I1 ⊢
      rw [nds, a1, List.flatMap_cons, List.flatMap_nil, List.append_nil, nds, away_back hl hlx, List.count_cons, List.count_cons, cnt_flat]
      have key : ∀ z ∈ away es x (-1), (nds ((v, x) :: es) (D + 1) z x).count v = (nds es D z x).count x ∧ ∀ y, y ≠ v → (nds ((v, x) :: es) (D + 1) z x).count y = (nds es D z x).count y := by
        intro z hz
        exact nds_add hl hlx D z x (B1 z hz) (fun e => (adj_deg hl).2 (e ▸ (mem_away.1 hz).1)) (by omega)
      have I2 := I1 y
      have I3 := I1 x
      rw [nds, List.count_cons, cnt_flat] at I2 I3
      rw [if_neg hx] at I3
      simp only [beq_iff_eq] at I2 I3 ⊢
      by_cases hy : y = v
      · subst hy
        rw [sum_map_eq (L := away es x (-1)) (f := fun z => (nds ((y, x) :: es) (D + 1) z x).count y) (g := fun z => (nds es D z x).count x) fun z hz => (key z hz).1]
        rw [if_neg (c := deg ((y, x) :: es) y = 0) (by rw [deg_cons, deg1_self hlx]; omega), if_neg (c := x = y) (by omega), if_pos rfl]
        rw [if_pos trivial] at I3
        omega
      · rw [sum_map_eq (L := away es x (-1)) (f := fun z => (nds ((v, x) :: es) (D + 1) z x).count y) (g := fun z => (nds es D z x).count y) fun z hz => (key z hz).2 y hy]
        have hde : deg ((v, x) :: es) y = 0 ↔ deg es y = 0 := by
          rw [deg_cons]
          by_cases hyx : y = x
          · subst hyx
            rw [deg1_other hlx]
            constructor
            · omega
            · intro h; exact absurd h hx
          · rw [deg1_none hy hyx, Nat.zero_add]
        simp only [hde]
        rw [← I2, if_neg (c := v = y) (by omega)]
        rfl
    · rw [nds_more]
      · refine main v ?_ y
        obtain ⟨e0, he, h1⟩ := deg_mem hv
        rcases List.mem_cons.1 he with rfl | he
        · rcases deg1_end h1 with h | h
          · exact absurd h.symm hvl
          · simp only at h; rw [← h]; exact hx
        · have := deg1_end h1
          obtain ⟨e1, e2⟩ := e0
          rcases this with h | h
          · simp only at h; subst h; exact deg_edge (u := e2) (.inr he)
          · simp only at h; subst h; exact deg_edge (u := e1) (.inl he)
      · exact brn_add hl _ _ _ (B v) hvl
end Go.Proofs.Ythlboikljibohaa

namespace Go.Proofs.Ythlboikljibohaa

theorem nd_cnt {n : Nat} {E : Edges} (h : ValidT n E) (h7 : n ≤ 7) {v : Nat} (hv : v < n) (y : Nat) : (nds E 14 v (-1)).count y = if y < n then 1 else 0 := by
  by_cases h2 : 2 ≤ n
  · obtain ⟨es, c, hp, hs, hc, _⟩ := valid_peel h h2
    have hl := hp.length
    have key : ∀ (d v : Nat) (fr : Int) (y : Nat), (nds E d v fr).count y = (nds es d v fr).count y := by
      have hnb : ∀ v, (nb E v).Perm (nb es v) := by
        intro v
        have e1 : ∀ F : Edges, (nb F v).Perm ((F.filter (touches v)).flatMap (nb1 v)) := by
          intro F
          unfold nb
          induction F with
          | nil => exact List.Perm.refl _
          | cons e r ih =>
            by_cases ht : touches v e = true
            · rw [List.filter_cons_of_pos ht, List.flatMap_cons, List.flatMap_cons]; exact ih.append_left _
            · rw [List.filter_cons_of_neg ht, List.flatMap_cons]
              have : nb1 v e = [] := by
                unfold touches at ht
                simp only [Bool.or_eq_true, decide_eq_true_eq] at ht
                unfold nb1
                rw [if_neg (fun h => ht (.inl h)), if_neg (fun h => ht (.inr h))]; rfl
              rw [this]; exact ih
        have e2 : ∀ F : Edges, (∀ e ∈ F, e.1 ≠ e.2) → (nb F v).Perm (nb (F.map norm) v) := by
          intro F
          unfold nb
          induction F with
          | nil => intro _; exact List.Perm.refl _
          | cons e r ih =>
            intro hne
            rw [List.map_cons, List.flatMap_cons, List.flatMap_cons]
            refine List.Perm.append ?_ (ih fun y hy => hne y (List.mem_cons_of_mem _ hy))
            rcases norm_cases e with q | q
            · rw [q]
            · rw [q]; unfold nb1; exact List.perm_append_comm
        have n1 : ∀ e ∈ E, e.1 ≠ e.2 := fun e he => by have := h.ord e he; omega
        have n2 : ∀ e ∈ es, e.1 ≠ e.2 := fun e he => (hp.lt e he).2.2
        exact (e2 E n1).trans ((List.Perm.flatMap_right _ hs).trans (e2 es n2).symm)
      intro d
      induction d with
      | zero => intro v fr y; rfl
      | succ d ih =>
        intro v fr y
        rw [nds, nds, List.count_cons, List.count_cons]
        congr 1
        rw [cnt_flat, cnt_flat, sum_map_eq fun z _ => ih z v y]
        exact ((hnb v).filter _ |>.map _).sum_nat
    have hdv : ∀ u, u < n → deg es u ≠ 0 := fun u hu => by rw [← hs.deg]; have := valid_deg h h2 u hu; omega
    rw [key, nds_le (d := 2 * es.length) (by omega) (brn_pl hp v), nds_pl hp v (hdv v hv) y]
    by_cases hy : y < n
    · rw [if_pos hy, if_neg (hdv y hy)]
    · rw [if_neg hy, if_pos (by rw [← hs.deg]; exact valid_out h y (by omega))]
  · have h0 : E = [] := List.eq_nil_of_length_eq_zero (by have := h.len; omega)
    subst h0
    have hl := h.len
    have hv0 : v = 0 := by simp at hl; omega
    subst hv0
    show List.count y [0] = _
    simp at hl
    rw [List.count_cons, List.count_nil]
    by_cases hy : y < n
    · rw [if_pos hy, if_pos (by simp; omega)]
    · rw [if_neg hy, if_neg (by simp; omega)]
theorem nd_perm {n : Nat} {E : Edges} (h : ValidT n E) (h7 : n ≤ 7) {v : Nat} (hv : v < n) : (nds E 14 v (-1)).Perm (List.range n) := by
  rw [List.perm_iff_count]
  intro y
  rw [nd_cnt h h7 hv, List.count_range]
theorem nd_len {n : Nat} {E : Edges} (h : ValidT n E) (h7 : n ≤ 7) {v : Nat} (hv : v < n) : (nds E 14 v (-1)).length = n := by
  rw [(nd_perm h h7 hv).length_eq, List.length_range]

/-! ### the longest ways -/
def far (E : Edges) : Nat → Nat → Int → Nat
  | 0, _, _ => 0
  | d + 1, v, fr => (away E v fr).foldl (fun m x => max m (1 + far E d x v)) 0
theorem fold_max {α : Type} (f : α → Nat) : ∀ (L : List α) (m k : Nat), L.foldl (fun m x => max m (f x)) m ≤ k ↔ m ≤ k ∧ ∀ x ∈ L, f x ≤ k
  | [], m, k => by simp
  | a :: r, m, k => by
    rw [List.foldl_cons, fold_max f r, Nat.max_le]
    simp only [List.mem_cons, forall_eq_or_imp]
    exact ⟨fun ⟨⟨a, b⟩, c⟩ => ⟨a, b, c⟩, fun ⟨a, b, c⟩ => ⟨⟨a, b⟩, c⟩⟩
theorem le_sum_mem : ∀ {L : List Nat} {k : Nat}, k ∈ L → k ≤ L.sum
  | a :: r, k, h => by
    rw [List.sum_cons]
    rcases List.mem_cons.1 h with rfl | h
    · omega
    · have := le_sum_mem h; omega
theorem fold_eq {α β : Type} {f g : β → α → β} : ∀ {L : List α} {b : β}, (∀ m, ∀ x ∈ L, f m x = g m x) → L.foldl f b = L.foldl g b
  | [], _, _ => rfl
  | a :: r, b, h => by rw [List.foldl_cons, List.foldl_cons, h b a (by simp)]; exact fold_eq fun m x hx => h m x (List.mem_cons_of_mem _ hx)
theorem far_len {E : Edges} : ∀ (d v : Nat) (fr : Int), Brn E d v fr → far E d v fr + 1 ≤ (nds E d v fr).length := by
  intro d
  induction d with
  | zero => intro v fr h; exact h.elim
  | succ d ih =>
    intro v fr h
    rw [far, nds, List.length_cons]
    have h1 : far E (d + 1) v fr ≤ ((away E v fr).flatMap fun x => nds E d x v).length := by
      rw [far, fold_max]
      refine ⟨by omega, fun x hx => ?_⟩
      have h2 := ih x v (h x hx)
      have h3 : (nds E d x v).length ≤ ((away E v fr).flatMap fun x => nds E d x v).length := by
        rw [List.length_flatMap]
        exact le_sum_mem (List.mem_map.2 ⟨x, hx, rfl⟩)
      omega
    rw [far] at h1
    omega
theorem far_more {E : Edges} : ∀ (d v : Nat) (fr : Int), Brn E d v fr → far E (d + 1) v fr = far E d v fr := by
  intro d
  induction d with
  | zero => intro v fr h; exact h.elim
  | succ d ih =>
    intro v fr h
    rw [far, far]
    exact fold_eq fun m x hx => by rw [ih x v (h x hx)]
section
variable {n : Nat} {E : Edges}
/-- every way out of every branch has an end -/
def AllB (E : Edges) : Prop := ∀ v fr, Brn E 14 v fr
theorem far_le (h : ValidT n E) (h7 : n ≤ 7) {v : Nat} (hv : v < n) : far E 14 v (-1) + 1 ≤ n := by
  have := far_len 14 v (-1) (valid_brn h h7 v _)
  rwa [nd_len h h7 hv] at this
theorem far_step (hB : AllB E) {v x : Nat} {fr : Int} (hx : x ∈ away E v fr) : 1 + far E 14 x v ≤ far E 14 v fr := by
  rw [← far_more 14 v fr (hB v fr), far]
  exact ((fold_max (fun x => 1 + far E 14 x v) _ _ _).1 (Nat.le_refl _)).2 x hx
theorem far_to (hB : AllB E) {v k : Nat} {fr : Int} (h : ∀ x ∈ away E v fr, 1 + far E 14 x v ≤ k) : far E 14 v fr ≤ k := by
  rw [← far_more 14 v fr (hB v fr), far]
  exact (fold_max (fun x => 1 + far E 14 x v) _ _ _).2 ⟨by omega, h⟩
/-- a way that never turns back: where it is, where it was before, how long it is -/
inductive Way2 (E : Edges) (u : Nat) : Nat → Int → Nat → Prop where
  | start : Way2 E u u (-1) 0
  | step (v : Nat) (p : Int) (k w : Nat) : Way2 E u v p k → w ∈ away E v p → Way2 E u w v (k + 1)
theorem way_reach {u v : Nat} (h : Reach E u v) : ∃ p k, Way2 E u v p k := by
  induction h with
  | refl => exact ⟨_, _, .start⟩
  | step v w h he ih =>
    obtain ⟨p, k, hw⟩ := ih
    by_cases hp : (w : Int) = p
    · cases hw with
      | start => omega
      | step v' p' k' _ hw' hv' =>
        have : w = v' := by omega
        subst this
        exact ⟨_, _, hw'⟩
    · exact ⟨_, _, .step _ _ _ _ hw (mem_away.2 ⟨he, hp⟩)⟩
theorem way_far (hB : AllB E) {u v : Nat} {p : Int} {k : Nat} (h : Way2 E u v p k) (hk : 0 < k) : ∃ (x q : Nat), Adj E u x ∧ p = q ∧ Adj E q v ∧ k - 1 + far E 14 u x ≤ far E 14 q v := by
  induction h with
  | start => omega
  | step v p k w hv hw ih =>
    obtain ⟨h1, h2⟩ := mem_away.1 hw
    rcases Nat.eq_zero_or_pos k with h0 | h0
    · subst h0
      cases hv
      exact ⟨w, u, h1, rfl, h1, by omega⟩
    · obtain ⟨x, q, a1, rfl, a3, a4⟩ := ih h0
      refine ⟨x, v, a1, rfl, h1, ?_⟩
      have := far_step hB (v := v) (x := q) (fr := (w : Int)) (mem_away.2 ⟨a3.symm, by omega⟩)
      omega
/-- the nodes beside each other of which none turns farther -/
theorem centers_adj (hB : AllB E) {r : Nat} (hmin : ∀ v, Adj E v v ∨ True → r ≤ far E 14 v (-1) ∨ ∀ w, ¬ Adj E v w) {c c' : Nat} (hc : far E 14 c (-1) = r) (hc' : far E 14 c' (-1) = r) (hne : c ≠ c') (hr : Reach E c c') : Adj E c c' := by
  obtain ⟨p, k, hw⟩ := way_reach hr
  rcases Nat.eq_zero_or_pos k with h0 | h0
  · subst h0; cases hw; exact absurd rfl hne
  apply Classical.byContradiction
  intro hna
  obtain ⟨x, q, a1, rfl, a3, a4⟩ := way_far hB hw h0
  have hk2 : 2 ≤ k := by
    apply Classical.byContradiction
    intro hk
    obtain rfl : k = 1 := by omega
    cases hw with
    | step _ _ _ _ hv hx =>
      cases hv
      exact hna (mem_away.1 hx).1
  have h1 : 1 + far E 14 q c' ≤ r := by rw [← hc']; exact far_step hB (mem_away.2 ⟨a3.symm, by omega⟩)
  have h2 : 1 + far E 14 x c ≤ r := by rw [← hc]; exact far_step hB (mem_away.2 ⟨a1, by omega⟩)
  have h3 : far E 14 x (-1) ≤ r - 1 := by
    refine far_to hB fun y hy => ?_
    obtain ⟨y1, _⟩ := mem_away.1 hy
    by_cases hyc : y = c
    · subst hyc; omega
    · have := far_step hB (v := x) (x := y) (fr := (c : Int)) (mem_away.2 ⟨y1, by omega⟩)
      omega
  rcases hmin x (.inr trivial) with h4 | h4
  · omega
  · exact h4 c a1.symm
theorem no_three : ∀ (d a b c : Nat), Adj E a b → Adj E b c → Adj E c a → a ≠ b → b ≠ c → c ≠ a → ¬ Brn E d a c := by
  intro d
  induction d with
  | zero => intro _ _ _ _ _ _ _ _ _ h; exact h
  | succ d ih =>
    intro a b c h1 h2 h3 n1 n2 n3 h
    exact ih b c a h2 h3 h1 n2 n3 n1 (h b (mem_away.2 ⟨h1, by omega⟩))

/-! ### centers -/
def cstep (E : Edges) (st : List Nat × Nat) (v : Nat) : List Nat × Nat :=
  let x := far E 14 v (-1)
  if x < st.2 then ([v], x) else if x = st.2 then (st.1 ++ [v], st.2) else st
def cfold (E : Edges) (n k : Nat) : List Nat × Nat := (List.range k).foldl (cstep E) ([], n)
def cents (n : Nat) (E : Edges) : List Nat := (cfold E n n).1
theorem cfold_next (E : Edges) (n k : Nat) : cfold E n (k + 1) = cstep E (cfold E n k) k := by unfold cfold; rw [List.range_succ, List.foldl_append]; rfl
theorem cfold_le (E : Edges) (n k : Nat) : (cfold E n k).1.length ≤ k ∧ (cfold E n k).2 ≤ n := by
  induction k with
  | zero => exact ⟨Nat.le_refl _, Nat.le_refl _⟩
  | succ k ih =>
    rw [cfold_next]; unfold cstep; simp only
    split
    · exact ⟨by simp, by simp only; omega⟩
    · split
      · exact ⟨by simp only [List.length_append, List.length_cons, List.length_nil]; omega, ih.2⟩
      · exact ⟨by omega, ih.2⟩
theorem cfold_spec (E : Edges) (n k : Nat) : (∀ v, v < k → (cfold E n k).2 ≤ far E 14 v (-1)) ∧ (cfold E n k).1 = (List.range k).filter fun v => decide (far E 14 v (-1) = (cfold E n k).2) := by
  induction k with
  | zero => exact ⟨fun v hv => by omega, rfl⟩
  | succ k ih =>
    obtain ⟨i1, i2⟩ := ih
    rw [cfold_next, List.range_succ, List.filter_append]
    unfold cstep
    simp only
    by_cases h1 : far E 14 k (-1) < (cfold E n k).2
    · rw [if_pos h1]
      refine ⟨fun v hv => ?_, ?_⟩
      · by_cases e : v = k
        · subst e; exact Nat.le_refl _
        · have := i1 v (by omega); simp only; omega
      · simp only
        rw [List.filter_eq_nil_iff.2 (fun v hv => by have := i1 v (List.mem_range.1 hv); simp; omega)]
        simp
    · rw [if_neg h1]
      by_cases h2 : far E 14 k (-1) = (cfold E n k).2
      · rw [if_pos h2]
        refine ⟨fun v hv => ?_, ?_⟩
        · by_cases e : v = k
          · subst e; simp only; omega
          · exact i1 v (by omega)
        · simp only
          rw [List.filter_cons_of_pos (by simpa using h2), List.filter_nil, ← i2]
      · rw [if_neg h2]
        refine ⟨fun v hv => ?_, ?_⟩
        · by_cases e : v = k
          · subst e; omega
          · exact i1 v (by omega)
        · rw [List.filter_cons_of_neg (by simpa using h2), List.filter_nil, List.append_nil]; exact i2
theorem cents_spec (h : ValidT n E) (h7 : n ≤ 7) : ∃ r, (∀ v, v < n → r ≤ far E 14 v (-1)) ∧ cents n E = ((List.range n).filter fun v => decide (far E 14 v (-1) = r)) ∧ cents n E ≠ [] := by
  obtain ⟨s1, s2⟩ := cfold_spec E n n
  refine ⟨_, s1, s2, ?_⟩
  have hn : 0 < n := by have := h.len; omega
  intro hnil
  unfold cents at hnil
  rw [s2] at hnil
  -- the least is taken by some node
  have key : ∀ k, 0 < k → k ≤ n → ∃ v, v < k ∧ far E 14 v (-1) = (cfold E n k).2 := by
    intro k
    induction k with
    | zero => intro h; omega
    | succ k ih =>
      intro _ hk
      rw [cfold_next]; unfold cstep; simp only
      by_cases h1 : far E 14 k (-1) < (cfold E n k).2
      · rw [if_pos h1]; exact ⟨k, by omega, rfl⟩
      · rw [if_neg h1]
        by_cases h2 : far E 14 k (-1) = (cfold E n k).2
        · rw [if_pos h2]; exact ⟨k, by omega, h2⟩
        · rw [if_neg h2]
          rcases Nat.eq_zero_or_pos k with h0 | h0
          · subst h0
            have := far_le h h7 (v := 0) hn
            have e : (cfold E n 0).2 = n := rfl
            rw [e] at h1; omega
          · obtain ⟨v, hv, e⟩ := ih h0 (by omega)
            exact ⟨v, by omega, e⟩
  obtain ⟨v, hv, e⟩ := key n hn (Nat.le_refl _)
  have := (List.filter_eq_nil_iff.1 hnil) v (List.mem_range.2 hv)
  simp at this
  exact this e
/-- one center, or two beside each other -/
theorem cents_two (h : ValidT n E) (h7 : n ≤ 7) : (∃ a, cents n E = [a] ∧ a < n) ∨ ∃ a b, cents n E = [a, b] ∧ a < b ∧ b < n ∧ (a, b) ∈ E := by
  obtain ⟨r, h1, h2, h3⟩ := cents_spec h h7
  have hB : AllB E := fun v fr => valid_brn h h7 v fr
  have hmem : ∀ v, v ∈ cents n E ↔ v < n ∧ far E 14 v (-1) = r := fun v => by rw [h2, List.mem_filter, List.mem_range, decide_eq_true_eq]
  have hasc : (cents n E).Pairwise (· < ·) := by rw [h2]; exact List.pairwise_lt_range.filter _
  have hlt : ∀ {a b : Nat}, Adj E a b → a < n ∧ b < n := fun {a b} hab => by
    rcases hab with q | q <;> (have := h.ord _ q; simp only at this; omega)
  have hadj : ∀ a b, a ∈ cents n E → b ∈ cents n E → a ≠ b → Adj E a b := by
    intro a b ha hb hne
    obtain ⟨a1, a2⟩ := (hmem a).1 ha
    obtain ⟨b1, b2⟩ := (hmem b).1 hb
    refine centers_adj hB (fun v _ => ?_) a2 b2 hne ((h.conn a a1).symm.trans (h.conn b b1))
    by_cases hv : v < n
    · exact .inl (h1 v hv)
    · exact .inr fun w hw => hv (hlt hw).1
  match hc : cents n E with
  | [] => exact absurd hc h3
  | [a] => exact .inl ⟨a, rfl, ((hmem a).1 (by rw [hc]; simp)).1⟩
  | [a, b] =>
    right
    rw [hc] at hasc
    have hab : a < b := by simpa using hasc
    have q := hadj a b (by rw [hc]; simp) (by rw [hc]; simp) (by omega)
    refine ⟨a, b, rfl, hab, (hlt q).2, ?_⟩
    rcases q with q | q
    · exact q
    · have := h.ord _ q; simp only at this; omega
  | a :: b :: c :: t =>
    rw [hc] at hasc
    simp only [List.pairwise_cons, List.mem_cons] at hasc
    have l1 : a < b := hasc.1 b (.inl rfl)
    have l2 : b < c := hasc.2.1 c (.inl rfl)
    exact (no_three 14 a b c (hadj a b (by rw [hc]; simp) (by rw [hc]; simp) (by omega)) (hadj b c (by rw [hc]; simp) (by rw [hc]; simp) (by omega)) (hadj c a (by rw [hc]; simp) (by rw [hc]; simp) (by omega)) (by omega) (by omega) (by omega) (hB a c)).elim
end
end Go.Proofs.Ythlboikljibohaa

namespace Go.Proofs.Ythlboikljibohaa
open Go.RowKit

/-- a row of the call's own that lies in blocks from B on and below H -/
def Own (w : World) (B H : Nat) (t : TypeId) (v : Value) (xs : List Value) : Prop :=
  w.ownsRow B t 1 v xs.length xs ∧ ∀ g, v.ownBlock = some g → g < H

section
variable {w w' : World} {B H H' : Nat} {t t' : TypeId} {v v' : Value} {xs ys : List Value}

theorem Own.more (h : Own w B H t v xs) (hH : H ≤ H') : Own w B H' t v xs := ⟨h.1, fun g hg => Nat.lt_of_lt_of_le (h.2 g hg) hH⟩
theorem Own.of_own (h : w.ownsRow B t 1 v xs.length xs) : Own w B w.heap.size t v xs := ⟨h, fun g hg => (h.lt g hg).2⟩
theorem own_of_blocks {n : Nat} (h : w.ownsRow B t 1 v n xs) (hb : ∀ g, v.ownBlock = some g → w'.heap[g]? = w.heap[g]?) : w'.ownsRow B t 1 v n xs := by
  refine ⟨h.1, ?_⟩
  rcases h.2 with hn | ⟨g, cap, cur, rfl, h1, h2, rest⟩
  · exact .inl hn
  · exact .inr ⟨g, cap, cur, rfl, h1, by rw [hb g rfl]; exact h2, rest⟩
theorem Own.below (h : Own w B H t v xs) (hb : Below H w w') : Own w' B H t v xs :=
  ⟨own_of_blocks h.1 fun g hg => hb.block g (h.2 g hg), h.2⟩
theorem Own.grown {row : Option Nat} (h : Own w B H t v xs) (hg : w.grownBy w' row) (hne : v.ownBlock = none ∨ v.ownBlock ≠ row) : Own w' B H t v xs :=
  ⟨h.1.kept hg hne, h.2⟩
theorem Own.alloc (h : Own w B H t v xs) (o : Obj) : Own (w.alloc o) B H t v xs := ⟨h.1.alloc o, h.2⟩
/-- rows of different element types never share a block -/
theorem Own.ne {B' : Nat} (h : Own w B H t v xs) (h' : Own w B' H' t' v' ys) (ht : t ≠ t') : v.ownBlock = none ∨ v.ownBlock ≠ v'.ownBlock := by
  rcases h.1.2 with ⟨rfl, _⟩ | ⟨g, cap, cur, rfl, _, h2, _⟩
  · exact .inl rfl
  · right
    rcases h'.1.2 with ⟨rfl, _⟩ | ⟨g', cap', cur', rfl, _, h2', _⟩
    · simp [Value.ownBlock]
    · intro e
      simp only [Value.ownBlock, Option.some.injEq] at e
      subst e
      rw [h2] at h2'
      simp only [Option.some.injEq, Obj.cells.injEq] at h2'
      exact ht h2'.2.1
theorem Own.slice (h : Own w B H t v xs) : ∃ ao cap, v = .slice ao xs.length cap ∧ (ao = none → xs.length = 0 ∧ cap = 0) ∧ xs.length ≤ cap ∧ cap ≤ maxLen ∧ ∀ a, ao = some a → ∃ g, a = ⟨g, 0, none⟩ ∧ B ≤ g ∧ g < H := by
  rcases h.1.2 with ⟨rfl, h0⟩ | ⟨g, cap, cur, rfl, h1, h2, h3, h4, _⟩
  · exact ⟨none, 0, by rw [h0], fun _ => ⟨h0, rfl⟩, by omega, by simp [maxLen], fun a ha => by cases ha⟩
  · exact ⟨some ⟨g, 0, none⟩, cap, rfl, (fun e => by cases e), h3, h4, fun a ha => ⟨g, by cases ha; rfl, h1, h.2 g rfl⟩⟩
/-- a cell of it, wherever it lies -/
theorem Own.cell (h : Own w B H t v xs) (j : Nat) (hj : j < xs.length) : ∃ g cap, v = .slice (some ⟨g, 0, none⟩) xs.length cap ∧ B ≤ g ∧ g < H ∧ w.cell? ⟨g, j, none⟩ = xs[j]? ∧ w.frozen? ⟨g, j, none⟩ = false := by
  rcases h.1.2 with ⟨rfl, h0⟩ | ⟨g, cap, cur, rfl, h1, h2, h3, h4, _⟩
  · omega
  · exact ⟨g, cap, rfl, h1, h.2 g rfl, h.1.cellAt j (by omega), h.1.frozenAt j⟩
/-- its last element dropped -/
theorem Own.pop {g cap n m : Nat} (h : Own w B H t (.slice (some ⟨g, 0, none⟩) m cap) xs) (hl : xs.length = n + 1) : Own w B H t (.slice (some ⟨g, 0, none⟩) n cap) xs.dropLast := by
  obtain ⟨⟨_, h7⟩, h8⟩ := h
  rcases h7 with ⟨h0, _⟩ | ⟨g', cap', cur, hv, h1, h2, h3, h4, h5, h6⟩
  · cases h0
  · have hg : g = g' ∧ cap = cap' := by simp only [Value.slice.injEq, Option.some.injEq, Addr.mk.injEq, and_true] at hv; exact ⟨hv.1, hv.2.2⟩
    obtain ⟨rfl, rfl⟩ := hg
    have hd : xs.dropLast.length = n := by rw [List.length_dropLast, hl]; rfl
    refine ⟨⟨by rw [hd]; omega, .inr ⟨g, cap, cur, by rw [hd], h1, h2, by rw [hd]; omega, h4, h5, ?_⟩⟩, fun q hq => h8 q hq⟩
    have e : xs.dropLast = xs.take n := by rw [List.dropLast_eq_take, hl]; rfl
    rw [hd, e, ← h6, List.take_take, hl]
    congr 1
    omega
/-- a row that is full is known whole -/
theorem own_full {g n : Nat} (h : w.ownsRow B t 1 (.slice (some ⟨g, 0, none⟩) n n) n xs) : w.heap[g]? = some (.cells xs.toArray t (0, 0)) := by
  rcases h.2 with ⟨h0, _⟩ | ⟨g', cap', cur, hv, h1, h2, h3, h4, h5, h6⟩
  · cases h0
  · cases hv
    rw [h2, ← h6, List.take_of_length_le (by simp [h5])]
theorem own_of_full {g n : Nat} (hB : B ≤ g) (hn : n ≤ maxLen) (hl : xs.length = n) (h : w.heap[g]? = some (.cells xs.toArray t (0, 0))) : w.ownsRow B t 1 (.slice (some ⟨g, 0, none⟩) n n) n xs :=
  ⟨by simp [hl], .inr ⟨g, n, xs.toArray, rfl, hB, h, Nat.le_refl _, hn, by simp [hl], by simp [hl.symm]⟩⟩
end
end Go.Proofs.Ythlboikljibohaa

namespace Go.Proofs.Ythlboikljibohaa
open Go.RowKit

def iv (l : List Int) : List Value := l.map (Value.int .i64)
theorem iv_length (l : List Int) : (iv l).length = l.length := by simp [iv]
theorem iv_at (l : List Int) (k : Nat) (h : k < l.length) : (iv l)[k]? = some (.int .i64 l[k]) := by simp [iv, h]
theorem iv_set (l : List Int) (k : Nat) (n : Int) : (iv l).set k (.int .i64 n) = iv (l.set k n) := by simp [iv, List.map_set]
theorem iv_snoc (l : List Int) (n : Int) : iv l ++ [.int .i64 n] = iv (l ++ [n]) := by simp [iv]

/-- nothing but draws -/
def Same (w w' : World) : Prop := w'.heap = w.heap ∧ Below w.heap.size w w'
theorem Same.refl (w : World) : Same w w := ⟨rfl, Below.refl _ _⟩
theorem Same.drewN {w w' : World} (h : Same w w') (n : Nat) : Same w (w'.drewN n) := ⟨h.1, h.2.trans ⟨rfl, rfl, rfl, Nat.le_refl _, fun _ _ => rfl⟩⟩
theorem Same.below {w w' : World} (h : Same w w') (B : Nat) : Below B w w' := ⟨h.2.os, h.2.tape, h.2.output, h.2.size, fun k _ => by rw [h.1]⟩
theorem Own.same {w w' : World} {B H : Nat} {t : TypeId} {v : Value} {xs : List Value} (h : Own w B H t v xs) (e : w'.heap = w.heap) : Own w' B H t v xs :=
  ⟨own_of_blocks h.1 fun g _ => by rw [e], h.2⟩
/-- the cell at a place, of a slice whose shape is known -/
theorem Own.at_ {w : World} {B H : Nat} {t : TypeId} {ao : Option Addr} {n c : Nat} {xs : List Value} (h : Own w B H t (.slice ao n c) xs) (k : Nat) (hk : k < xs.length) :
    ∃ g, ao = some ⟨g, 0, none⟩ ∧ B ≤ g ∧ g < H ∧ w.cell? ⟨g, k, none⟩ = xs[k]? ∧ w.frozen? ⟨g, k, none⟩ = false := by
  obtain ⟨g, cap, hv, h1, h2, h3, h4⟩ := h.cell k hk
  simp only [Value.slice.injEq] at hv
  exact ⟨g, hv.1, h1, h2, h3, h4⟩

end Go.Proofs.Ythlboikljibohaa

namespace Go.Proofs.Ythlboikljibohaa
open Go.RowKit

/-- each row holds its numbers -/
def RowsI (w : World) (B H : Nat) (RV : List Value) (rows : List (List Int)) : Prop :=
  RV.length = rows.length ∧ ∀ (i : Nat) (v : Value) (r : List Int), RV[i]? = some v → rows[i]? = some r → Own w B H 3 v (iv r)
/-- no two rows share a block -/
def Dist (RV : List Value) : Prop := ∀ (i j : Nat) (u v : Value), i < j → RV[i]? = some u → RV[j]? = some v → u.ownBlock = none ∨ u.ownBlock ≠ v.ownBlock
/-- a list of rows -/
def Grid (w : World) (B H : Nat) (v : Value) (RV : List Value) (rows : List (List Int)) : Prop := Own w B H 34 v RV ∧ RowsI w B H RV rows

section
variable {w w' : World} {B H H' : Nat} {v : Value} {RV RV' : List Value} {rows rows' : List (List Int)}
theorem RowsI.more (h : RowsI w B H RV rows) (hH : H ≤ H') : RowsI w B H' RV rows := ⟨h.1, fun i v r h1 h2 => (h.2 i v r h1 h2).more hH⟩
theorem RowsI.below (h : RowsI w B H RV rows) (hb : Below H w w') : RowsI w' B H RV rows := ⟨h.1, fun i v r h1 h2 => (h.2 i v r h1 h2).below hb⟩
theorem RowsI.same (h : RowsI w B H RV rows) (e : w'.heap = w.heap) : RowsI w' B H RV rows := ⟨h.1, fun i v r h1 h2 => (h.2 i v r h1 h2).same e⟩
theorem Grid.more (h : Grid w B H v RV rows) (hH : H ≤ H') : Grid w B H' v RV rows := ⟨h.1.more hH, h.2.more hH⟩
theorem Grid.below (h : Grid w B H v RV rows) (hb : Below H w w') : Grid w' B H v RV rows := ⟨h.1.below hb, h.2.below hb⟩
theorem Grid.same (h : Grid w B H v RV rows) (e : w'.heap = w.heap) : Grid w' B H v RV rows := ⟨h.1.same e, h.2.same e⟩
theorem own_lo {B' : Nat} {t : TypeId} {xs : List Value} (h : Own w B H t v xs) (hB : B' ≤ B) : Own w B' H t v xs :=
  ⟨⟨h.1.1, h.1.2.imp id (fun ⟨g, cap, cur, e1, hg, r⟩ => ⟨g, cap, cur, e1, by omega, r⟩)⟩, h.2⟩
theorem RowsI.lo {B' : Nat} (h : RowsI w B H RV rows) (hB : B' ≤ B) : RowsI w B' H RV rows := ⟨h.1, fun i v r h1 h2 => own_lo (h.2 i v r h1 h2) hB⟩
theorem Grid.lo {B' : Nat} (h : Grid w B H v RV rows) (hB : B' ≤ B) : Grid w B' H v RV rows := ⟨own_lo h.1 hB, h.2.lo hB⟩
theorem RowsI.nil : RowsI w B H [] [] := ⟨rfl, fun i v r h => by simp at h⟩
theorem RowsI.append (h : RowsI w B H RV rows) (h' : RowsI w B H RV' rows') : RowsI w B H (RV ++ RV') (rows ++ rows') := by
  refine ⟨by rw [List.length_append, List.length_append, h.1, h'.1], fun i u r h1 h2 => ?_⟩
  by_cases hi : i < RV.length
  · rw [List.getElem?_append_left hi] at h1
    rw [List.getElem?_append_left (by rw [← h.1]; exact hi)] at h2
    exact h.2 i u r h1 h2
  · rw [List.getElem?_append_right (by omega)] at h1
    rw [List.getElem?_append_right (by rw [← h.1]; omega)] at h2
    rw [← h.1] at h2
    exact h'.2 _ u r h1 h2
theorem RowsI.one {u : Value} {r : List Int} (h : Own w B H 3 u (iv r)) : RowsI w B H [u] [r] := by
  refine ⟨rfl, fun i x y h1 h2 => ?_⟩
  cases i with
  | zero => simp at h1 h2; subst h1; subst h2; exact h
  | succ i => simp at h1
theorem RowsI.at_ (h : RowsI w B H RV rows) (i : Nat) (hi : i < rows.length) : ∃ u, RV[i]? = some u ∧ Own w B H 3 u (iv rows[i]) := by
  have hi' : i < RV.length := by rw [h.1]; exact hi
  exact ⟨_, List.getElem?_eq_getElem hi', h.2 i _ _ (List.getElem?_eq_getElem hi') (List.getElem?_eq_getElem hi)⟩
/-- rows of numbers are no rows of rows: a change of the one leaves the other -/
theorem RowsI.grown {t : TypeId} {u : Value} {xs : List Value} {B₁ H₁ : Nat} (h : RowsI w B H RV rows) (hu : Own w B₁ H₁ t u xs) (ht : 3 ≠ t) (hg : w.grownBy w' u.ownBlock) : RowsI w' B H RV rows :=
  ⟨h.1, fun i v r h1 h2 => (h.2 i v r h1 h2).grown hg ((h.2 i v r h1 h2).ne hu ht)⟩
theorem RowsI.fresh (h : RowsI w B H RV rows) (hb : Below w.heap.size w w') (hH : H ≤ w.heap.size) : RowsI w' B H RV rows := h.below (hb.mono hH)
end
end Go.Proofs.Ythlboikljibohaa

namespace Go.Proofs.Ythlboikljibohaa
open Go.RowKit

/-- what is told of a slice of numbers that came in: nil, or a row of cap cells that hold zs -/
def IsRow (k : IntKind) (w : World) (a : Option Addr) (len cap : Nat) (zs : List Int) : Prop :=
  (a = none ∧ len = 0 ∧ cap = 0 ∧ zs = []) ∨
  ∃ x, a = some x ∧ len ≤ cap ∧ cap ≤ maxLen ∧ zs.length = cap ∧ (∀ i, i < zs.length → w.cell? (x.add i) = some (.int k (zs.getD i 0))) ∧ ∀ n ∈ zs, (Lit.int k n).wf = true

theorem IsRow.below {k : IntKind} {w w' : World} {a : Option Addr} {len cap : Nat} {zs : List Int} (h : IsRow k w a len cap zs) (hb : Below w.heap.size w w') : IsRow k w' a len cap zs := by
  rcases h with h | ⟨x, h1, h2, h3, h4, h5, h6⟩
  · exact .inl h
  · refine .inr ⟨x, h1, h2, h3, h4, fun i hi => ?_, h6⟩
    have hc := h5 i hi
    exact (hb.cell (World.block_lt_of_cell? w _ hc)).trans hc
theorem IsRow.at_ {k : IntKind} {w : World} {a : Option Addr} {len cap : Nat} {zs : List Int} (h : IsRow k w a len cap zs) (i : Nat) (hi : i < len) :
    ∃ b off, a = some ⟨b, off, none⟩ ∧ w.cell? ⟨b, off + i, none⟩ = some (.int k (zs.getD i 0)) := by
  rcases h with ⟨_, h0, _⟩ | ⟨x, h1, h2, h3, h4, h5, h6⟩
  · omega
  · obtain ⟨b, off, spot⟩ := x
    have hc0 := h5 0 (by omega)
    have hspot : spot = none := by simpa [Addr.add] using World.cell?_spot hc0
    subst hspot
    exact ⟨b, off, h1, by have := h5 i (by omega); rwa [Addr.add_lit] at this⟩
theorem IsRow.len {k : IntKind} {w : World} {a : Option Addr} {len cap : Nat} {zs : List Int} (h : IsRow k w a len cap zs) : len ≤ zs.length ∧ len ≤ cap := by
  rcases h with ⟨_, h0, h1, h2⟩ | ⟨x, h1, h2, h3, h4, h5, h6⟩
  · subst h2; simp; omega
  · omega

end Go.Proofs.Ythlboikljibohaa

namespace Go.Proofs.Ythlboikljibohaa

/-- how many words there are of k pairs, up to nine -/
def cat (k : Nat) : Int := [1, 1, 2, 5, 14, 42, 132, 429, 1430, 4862].getD k 0
/-- the sum of the first i products -/
def ps (k : Nat) : Nat → Int
  | 0 => 0
  | i + 1 => ps k i + cat i * cat (k - 1 - i)

theorem ps_full (k : Nat) (h1 : 1 ≤ k) (h9 : k ≤ 9) : ps k k = cat k := (by decide : ∀ k, k ≤ 9 → 1 ≤ k → ps k k = cat k) k h9 h1
theorem ps_bd : ∀ k, k ≤ 9 → ∀ i, i ≤ k → 0 ≤ ps k i ∧ ps k i ≤ 4862 := by decide
theorem cat_bd : ∀ k, k ≤ 9 → 0 ≤ cat k ∧ cat k ≤ 4862 := by decide
theorem prod_bd : ∀ k, k ≤ 9 → ∀ i, i < k → 0 ≤ cat i * cat (k - 1 - i) ∧ cat i * cat (k - 1 - i) ≤ 4862 := by decide

def catV (m : Nat) : List Value := (List.range m).map fun k => .int .i64 (cat k)
theorem catV_length (m : Nat) : (catV m).length = m := by simp [catV]
theorem catV_at (m j : Nat) (h : j < m) : (catV m)[j]? = some (.int .i64 (cat j)) := by simp [catV, h]
theorem catV_snoc (m : Nat) : catV m ++ [.int .i64 (cat m)] = catV (m + 1) := by simp [catV, List.range_succ]

/-- the row of the program's function: p numbers done, i products added of the next -/
def arrV (n p i : Nat) : List Value := (List.range (n + 1)).map fun j => .int .i64 (if j < p then cat j else if j = p then ps p i else 0)
theorem arrV_length (n p i : Nat) : (arrV n p i).length = n + 1 := by simp [arrV]
theorem arrV_at (n p i j : Nat) (h : j < n + 1) : (arrV n p i)[j]? = some (.int .i64 (if j < p then cat j else if j = p then ps p i else 0)) := by simp [arrV, h]
theorem arrV_lo (n p i j : Nat) (h : j < n + 1) (hj : j < p) : (arrV n p i)[j]? = some (.int .i64 (cat j)) := by rw [arrV_at n p i j h, if_pos hj]
theorem arrV_mid (n p i : Nat) (h : p < n + 1) : (arrV n p i)[p]? = some (.int .i64 (ps p i)) := by rw [arrV_at n p i p h, if_neg (by omega), if_pos rfl]
theorem arrV_set (n p i : Nat) : (arrV n p i).set p (.int .i64 (ps p i + cat i * cat (p - 1 - i))) = arrV n p (i + 1) := by
  apply List.ext_getElem?
  intro j
  rw [List.getElem?_set]
  by_cases hj : j < n + 1
  · by_cases he : p = j
    · subst he
      rw [if_pos rfl, if_pos (by rw [arrV_length]; exact hj), arrV_mid n p (i + 1) hj]; rfl
    · rw [if_neg he, arrV_at n p i j hj, arrV_at n p (i + 1) j hj]
      by_cases h1 : j < p
      · rw [if_pos h1, if_pos h1]
      · rw [if_neg h1, if_neg h1, if_neg (fun e => he e.symm), if_neg (fun e => he e.symm)]
  · have e1 : (arrV n p i)[j]? = none := List.getElem?_eq_none (by rw [arrV_length]; omega)
    have e2 : (arrV n p (i + 1))[j]? = none := List.getElem?_eq_none (by rw [arrV_length]; omega)
    rw [e1, e2]
    split
    · rename_i h; subst h; rw [if_neg (by rw [arrV_length]; exact hj)]
    · rfl
theorem arrV_next (n p : Nat) (h1 : 1 ≤ p) (h9 : p ≤ 9) : arrV n p p = arrV n (p + 1) 0 := by
  unfold arrV
  apply List.map_congr_left
  intro j _
  by_cases a : j < p
  · rw [if_pos a, if_pos (by omega)]
  · by_cases b : j = p
    · subst b; rw [if_neg a, if_pos rfl, if_pos (by omega), ps_full j h1 h9]
    · rw [if_neg a, if_neg b, if_neg (by omega)]; split <;> simp [ps]
theorem arrV_start (n : Nat) : (List.replicate (n + 1) (Value.int .i64 0)).set 0 (.int .i64 1) = arrV n 1 0 := by
  apply List.ext_getElem?
  intro j
  rw [List.getElem?_set]
  by_cases hj : j < n + 1
  · rw [arrV_at n 1 0 j hj]
    by_cases h0 : 0 = j
    · subst h0; simp [cat]
    · rw [if_neg h0, List.getElem?_replicate, if_pos hj, if_neg (by omega)]; split <;> simp [ps]
  · rw [List.getElem?_eq_none (by rw [arrV_length]; omega : (arrV n 1 0).length ≤ j)]
    split
    · rename_i h; subst h; omega
    · rw [List.getElem?_replicate, if_neg hj]

/-- the answer -/
def catOut (n : Int) : Int := if 0 ≤ n ∧ n ≤ 9 then cat n.toNat else -1
theorem catOut_in (n : Nat) (h : n ≤ 9) : catOut n = cat n := by rw [catOut, if_pos ⟨by omega, by omega⟩]; rfl
theorem catOut_out (n : Int) (h : n < 0 ∨ 9 < n) : catOut n = -1 := by rw [catOut, if_neg (by omega)]
end Go.Proofs.Ythlboikljibohaa

namespace Go.Proofs.Ythlboikljibohaa

/-- one edge: both its nodes are marked if one of them is -/
def bstep (r : Nat → Bool) (e : Nat × Nat) : Nat → Bool := fun v => if v = e.2 then (r e.1 || r e.2) else if v = e.1 then (r e.1 || r e.2) else r v
def bround (E : Edges) (r : Nat → Bool) : Nat → Bool := E.foldl bstep r
theorem bstep_mono {r : Nat → Bool} {e : Nat × Nat} {v : Nat} (h : r v = true) : bstep r e v = true := by
  unfold bstep
  split
  · next h1 => rw [← h1, h]; simp
  · split
    · next h1 => rw [← h1, h]; simp
    · exact h
theorem bround_mono (E : Edges) : ∀ (r : Nat → Bool) (v : Nat), r v = true → bround E r v = true := by
  induction E with
  | nil => intro r v h; exact h
  | cons e E ih => intro r v h; exact ih _ v (bstep_mono h)
theorem bround_take (E : Edges) (r : Nat → Bool) (k : Nat) (h : k < E.length) : bround (E.take (k + 1)) r = bstep (bround (E.take k) r) E[k] := by
  rw [bround, List.take_succ_eq_append_getElem h, List.foldl_append]; rfl
theorem bstep_congr {r s : Nat → Bool} {e : Nat × Nat} {n : Nat} (he : e.1 < n ∧ e.2 < n) (h : ∀ v, v < n → r v = s v) : ∀ v, v < n → bstep r e v = bstep s e v := by
  intro v hv
  unfold bstep
  rw [h _ he.1, h _ he.2, h v hv]
theorem bround_congr {n : Nat} (E : Edges) : ∀ (r s : Nat → Bool), (∀ e ∈ E, e.1 < n ∧ e.2 < n) → (∀ v, v < n → r v = s v) → ∀ v, v < n → bround E r v = bround E s v := by
  induction E with
  | nil => intro r s _ h; exact h
  | cons e E ih => intro r s he h; exact ih _ _ (fun x hx => he x (List.mem_cons_of_mem _ hx)) (bstep_congr (he e (by simp)) h)
/-- a round that changes nothing: each edge's nodes are marked alike -/
theorem bround_fix {n : Nat} (E : Edges) : ∀ (r : Nat → Bool), (∀ e ∈ E, e.1 < n ∧ e.2 < n) → (∀ v, v < n → bround E r v = r v) → ∀ e ∈ E, r e.1 = r e.2 := by
  induction E with
  | nil => intro r _ _ e he; simp at he
  | cons e E ih =>
    intro r he h x hx
    have hs : ∀ v, v < n → bstep r e v = r v := by
      intro v hv
      cases hr : r v with
      | true => exact bstep_mono hr
      | false =>
        cases hb : bstep r e v with
        | false => rfl
        | true =>
          have := bround_mono E _ v hb
          have h2 := h v hv
          rw [bround, List.foldl_cons] at h2
          rw [bround] at this
          rw [this, hr] at h2
          cases h2
    have h0 := he e (by simp)
    rcases List.mem_cons.1 hx with rfl | hx
    · have a := hs x.1 h0.1
      have b := hs x.2 h0.2
      unfold bstep at a b
      rw [if_pos rfl] at b
      by_cases e1 : x.1 = x.2
      · rw [e1]
      · rw [if_neg e1, if_pos rfl] at a
        exact a.symm.trans b
    · refine ih r (fun y hy => he y (List.mem_cons_of_mem _ hy)) (fun v hv => ?_) x hx
      have := h v hv
      rw [bround, List.foldl_cons] at this
      exact (bround_congr E r (bstep r e) (fun y hy => he y (List.mem_cons_of_mem _ hy)) (fun u hu => (hs u hu).symm) v hv).trans this
theorem bstep_sound {E : Edges} {r : Nat → Bool} {e : Nat × Nat} (he : e ∈ E) (h : ∀ v, r v = true → Reach E 0 v) : ∀ v, bstep r e v = true → Reach E 0 v := by
  have hor : (r e.1 || r e.2) = true → Reach E 0 e.1 ∧ Reach E 0 e.2 := fun ho => by
    rcases (by simpa using ho : r e.1 = true ∨ r e.2 = true) with h1 | h1
    · exact ⟨h _ h1, .step _ _ _ (h _ h1) (.inl he)⟩
    · exact ⟨.step _ _ _ (h _ h1) (.inr he), h _ h1⟩
  intro v hv
  unfold bstep at hv
  split at hv
  · next h1 => rw [h1]; exact (hor hv).2
  · split at hv
    · next h1 => rw [h1]; exact (hor hv).1
    · exact h v hv
theorem bround_sound {E : Edges} (F : Edges) : (∀ e ∈ F, e ∈ E) → ∀ (r : Nat → Bool), (∀ v, r v = true → Reach E 0 v) → ∀ v, bround F r v = true → Reach E 0 v := by
  induction F with
  | nil => intro _ r h; exact h
  | cons e F ih => intro hs r h; exact ih (fun x hx => hs x (List.mem_cons_of_mem _ hx)) _ (bstep_sound (hs e (by simp)) h)
theorem marked_reach {E : Edges} {r : Nat → Bool} (h0 : r 0 = true) (h : ∀ e ∈ E, r e.1 = r e.2) {v : Nat} (hr : Reach E 0 v) : r v = true := by
  induction hr with
  | refl => exact h0
  | step u w _ he ih =>
    rcases he with he | he
    · have := h _ he
      exact this.symm.trans ih
    · have := h _ he
      exact this.trans ih
/-- how many of seven are not marked -/
def unm (r : Nat → Bool) : Nat := ((List.range 7).filter fun v => !r v).length
theorem filter_lt {p q : Nat → Bool} : ∀ (l : List Nat), (∀ v ∈ l, p v = true → q v = true) → (l.filter p).length ≤ (l.filter q).length ∧ ((∃ v ∈ l, p v = false ∧ q v = true) → (l.filter p).length < (l.filter q).length) := by
  intro l
  induction l with
  | nil => intro _; exact ⟨Nat.le_refl _, fun ⟨v, hv, _⟩ => by simp at hv⟩
  | cons a l ih =>
    intro h
    obtain ⟨i1, i2⟩ := ih fun v hv => h v (List.mem_cons_of_mem _ hv)
    have ha := h a (by simp)
    rw [List.filter_cons, List.filter_cons]
    cases hp : p a with
    | true =>
      rw [ha hp]
      simp only [if_true, List.length_cons]
      refine ⟨by omega, fun ⟨v, hv, h1, h2⟩ => ?_⟩
      rcases List.mem_cons.1 hv with rfl | hv
      · rw [hp] at h1; cases h1
      · have := i2 ⟨v, hv, h1, h2⟩; omega
    | false =>
      cases hq : q a with
      | true =>
        simp only [if_true, Bool.false_eq_true, if_false, List.length_cons]
        exact ⟨by omega, fun _ => by omega⟩
      | false =>
        simp only [Bool.false_eq_true, if_false]
        refine ⟨i1, fun ⟨v, hv, h1, h2⟩ => ?_⟩
        rcases List.mem_cons.1 hv with rfl | hv
        · rw [hq] at h2; cases h2
        · exact i2 ⟨v, hv, h1, h2⟩
theorem unm_lt {r s : Nat → Bool} (h : ∀ v, r v = true → s v = true) (hne : ¬ ∀ v, v < 7 → r v = s v) : unm s < unm r := by
  refine (filter_lt (p := fun v => !s v) (q := fun v => !r v) (List.range 7) fun v _ hv => ?_).2 ?_
  · cases hr : r v with
    | false => rfl
    | true => rw [h v hr] at hv; cases hv
  · apply Classical.byContradiction
    intro hno
    refine hne fun v hv => ?_
    cases hr : r v with
    | true => exact (h v hr).symm
    | false =>
      cases hs : s v with
      | false => rfl
      | true => exact absurd ⟨v, List.mem_range.2 hv, by rw [hs]; rfl, by rw [hr]; rfl⟩ hno
/-- edges that ascend, not strictly, one fewer than nodes, over which all is reached: none is there twice -/
theorem valid_up {n : Nat} {E : Edges} (hn : 0 < n) (hl : E.length + 1 = n) (ho : ∀ e ∈ E, e.1 < e.2 ∧ e.2 < n) (hup : ∀ (i : Nat) (h : i + 1 < E.length), ltP E[i + 1] (E[i]'(by omega)) = false) (hc : ∀ v, v < n → Reach E 0 v) : ValidT n E := by
  refine ⟨hl, ho, ?_, hc⟩
  have hnd : E.Nodup := by
    rcases Nat.lt_or_ge 1 n with h1 | h1
    · have ht : Tree n (List.range n) E := by
        refine ⟨List.pairwise_lt_range, fun v hv => List.mem_range.1 hv, fun e he => ?_, fun u hu v hv => ?_⟩
        · obtain ⟨h1, h2⟩ := ho e he
          exact ⟨List.mem_range.2 (by omega), List.mem_range.2 h2, by omega⟩
        · exact (hc u (List.mem_range.1 hu)).symm.trans (hc v (List.mem_range.1 hv))
      obtain ⟨es, c, hp, hs⟩ := tree_peel (n - 2) (List.range n) E ht (by rw [List.length_range]; omega) (by omega)
      have h2 : (E.map norm).Nodup := (List.Perm.nodup_iff hs).2 hp.nodup
      rwa [map_norm fun e he => (ho e he).1] at h2
    · have : E = [] := List.eq_nil_of_length_eq_zero (by omega)
      rw [this]; exact List.nodup_nil
  have hle : ∀ (i j : Nat) (hj : j < E.length) (hij : i < j), ltP E[j] (E[i]'(by omega)) = false := by
    intro i j hj hij
    induction j with
    | zero => omega
    | succ j ih =>
      by_cases e : i = j
      · subst e; exact hup i hj
      · have a := ih (by omega) (by omega)
        have b := hup j hj
        cases hh : ltP E[j + 1] (E[i]'(by omega)) with
        | false => rfl
        | true =>
          rcases ltP_total (E[j]'(by omega)) (E[j + 1]) with h | h | h
          · rw [ltP_trans h hh] at a; cases a
          · rw [← h, a] at hh; cases hh
          · rw [b] at h; cases h
  unfold AscP
  rw [List.pairwise_iff_getElem]
  intro i j hi hj hij
  rcases ltP_total E[i] E[j] with h | h | h
  · exact h
  · exact absurd h ((List.pairwise_iff_getElem.1 hnd) i j hi hj hij)
  · rw [hle i j hj hij] at h; cases h
theorem valid_upB {n : Nat} {E : Edges} (h : ValidT n E) : ∀ (i : Nat) (h : i + 1 < E.length), ltP E[i + 1] (E[i]'(by omega)) = false := by
  intro i hi
  have := (List.pairwise_iff_getElem.1 h.asc) i (i + 1) (by omega) hi (by omega)
  cases hh : ltP E[i + 1] E[i] with
  | false => rfl
  | true => have := ltP_trans this hh; rw [ltP_irr] at this; cases this
end Go.Proofs.Ythlboikljibohaa

namespace Go.Proofs.Ythlboikljibohaa

theorem leaf_low {n l : Nat} {S c : List Nat} {d : Nat → Nat} (h : Fits n S c d) (hl : leastL n d = some l) : l + 1 < n := by
  obtain ⟨h1, h2, h3, h4, h5⟩ := h
  obtain ⟨l1, l2, l3⟩ := least_some.1 hl
  have hnd : S.Nodup := h1.imp fun hab => by omega
  have hex : ∃ v ∈ S, v ∉ c ∧ v ≠ l := by
    apply Classical.byContradiction
    intro hno
    have hsub : ∀ v ∈ S.erase l, v ∈ c := fun v hv => Classical.byContradiction fun hc => hno ⟨v, List.mem_of_mem_erase hv, hc, fun e => by
      subst e; exact (List.Nodup.mem_erase_iff hnd).1 hv |>.1 rfl⟩
    have := List.Nodup.length_le_of_subset (hnd.erase l) hsub
    have h6 := List.length_erase_of_mem (a := l) (l := S)
    by_cases hm : l ∈ S
    · rw [h6 hm] at this; omega
    · rw [List.erase_of_not_mem hm] at this; omega
  obtain ⟨v, hv, hc, hvl⟩ := hex
  have hd : d v = 1 := by rw [h5, if_pos hv, List.count_eq_zero.2 hc]
  have hvn := h2 v hv
  have : ¬ v < l := fun hlt => l3 v hlt hd
  omega
/-- after q edges: those found so far, and the degrees that are left -/
def Tip (n : Nat) (c : List Nat) (T : Edges) (q : Nat) (es : Edges) (d : Nat → Nat) : Prop :=
  es.length = q ∧ ((q ≤ c.length ∧ ∃ S, Fits n S (c.drop q) d ∧ n - 1 ∈ S ∧ es ++ treeE n (c.drop q) d = T) ∨ (q = c.length + 1 ∧ es = T))
theorem tip_start {n : Nat} {c : List Nat} (hn : n = c.length + 2) (hc : ∀ x ∈ c, x < n) : Tip n c (treeE n c (degC n c)) 0 [] (degC n c) :=
  ⟨rfl, .inl ⟨Nat.zero_le _, _, fits_code hn hc, List.mem_range.2 (by omega), rfl⟩⟩
theorem tip_end {n : Nat} {c : List Nat} {T es : Edges} {d : Nat → Nat} (h : Tip n c T (c.length + 1) es d) : es = T := by
  rcases h.2 with ⟨h1, _⟩ | ⟨_, h2⟩
  · omega
  · exact h2
theorem tip_step {n q x : Nat} {c : List Nat} {T es : Edges} {d : Nat → Nat} (h : Tip n c T q es d) (hq : q < c.length + 1) (hx : (c ++ [n - 1])[q]? = some x) :
    ∃ l, leastL n d = some l ∧ l < n ∧ d l = 1 ∧ x < n ∧ x ≠ l ∧ 1 ≤ d x ∧ d x ≤ c.length + 2 ∧ Tip n c T (q + 1) (es ++ [(l, x)]) (down d l x) := by
  obtain ⟨hes, h⟩ := h
  rcases h with ⟨_, S, hf, hn1, hT⟩ | ⟨h1, _⟩
  · obtain ⟨l, hl, hlS, hlc⟩ := fits_leaf hf
    obtain ⟨l1, l2, _⟩ := least_some.1 hl
    have hlow := leaf_low hf hl
    by_cases hqc : q < c.length
    · have hdrop : c.drop q = c[q] :: c.drop (q + 1) := List.drop_eq_getElem_cons hqc
      rw [List.getElem?_append_left hqc, List.getElem?_eq_getElem hqc] at hx
      simp only [Option.some.injEq] at hx
      rw [hx] at hdrop
      rw [hdrop] at hf hT hlc
      have hxl : x ≠ l := fun e => hlc (by simp [e])
      have hxS : x ∈ S := hf.2.2.1 x (by simp)
      have h5 := hf.2.2.2.2 x
      rw [if_pos hxS] at h5
      have h6 := List.count_le_length (a := x) (l := x :: c.drop (q + 1))
      rw [List.length_cons, List.length_drop] at h6
      refine ⟨l, hl, l1, l2, hf.2.1 x hxS, hxl, by omega, by omega, by rw [List.length_append, hes]; rfl, .inl ⟨by omega, _, fits_down hf hlS hlc, ?_, ?_⟩⟩
      · exact List.mem_filter.2 ⟨hn1, decide_eq_true (by omega)⟩
      · rw [← hT, treeE, hl]; simp
    · obtain rfl : q = c.length := by omega
      rw [List.getElem?_append_right (Nat.le_refl _)] at hx
      simp only [Nat.sub_self, List.getElem?_cons_zero, Option.some.injEq] at hx
      have hd0 : c.drop c.length = [] := List.drop_eq_nil_of_le (Nat.le_refl _)
      rw [hd0] at hf hT
      obtain ⟨a, b, rfl⟩ : ∃ a b, S = [a, b] := by
        have := hf.2.2.2.1
        match S, this with
        | [a, b], _ => exact ⟨a, b, rfl⟩
      obtain ⟨h1, h2, h3⟩ := fits_two hf
      simp only [List.mem_cons, List.mem_nil_iff, or_false] at hn1 hlS
      have hb : b = n - 1 := by omega
      have ha : l = a := by omega
      subst ha
      rw [← hb] at hx
      subst hx
      have h5 := hf.2.2.2.2 b
      rw [if_pos (by simp), List.count_nil] at h5
      refine ⟨l, hl, l1, l2, h3, by omega, by omega, by omega, by rw [List.length_append, hes]; rfl, .inr ⟨rfl, ?_⟩⟩
      rw [← hT, treeE, h1]
  · omega
theorem tip_bound {n q : Nat} {c : List Nat} {T es : Edges} {d : Nat → Nat} (h : Tip n c T q es d) : es.length = q := h.1
end Go.Proofs.Ythlboikljibohaa
