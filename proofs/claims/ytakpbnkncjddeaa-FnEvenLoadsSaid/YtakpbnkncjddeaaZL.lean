/-
  Plain facts for loads: depths of leaves of two-armed trees, and that joining the two least loads each time costs least. Nothing of the program is named here.
  Plain facts for loads: the least of numbers; loads joined beside each other; loads found in two-armed trees. Nothing of the program is named here.
  Plain facts for loads: loads found in two-armed trees, the least by parts is the least of all trees; loads doubled. Nothing of the program is named here.
  Loads: at most seven numbers from 0 to 20; what they are as numbers that count.
  Loads joined, the two least ones first: in order, as the code puts them; what it costs at most.
  Costs by parts: what the table of parts holds, place by place.
  Joining tried: the least over all pairs is what joining the two least first costs.
  Plain facts for the program's ways with loads: the least of costs; loads cut out of a pile; steps to the nodes of a tree.
  What a word costs to find loads by it; the least over all words is the least by parts.
-/
import Derived.Test.YtakpbnkncjddeaaWords
import Derived.Test.YtakpbnkncjddeaaZY
import Derived.Test.YtakpbnkncjddeaaZW
import Derived.Lib.Slices
namespace Go.Proofs.Ytakpbnkncjddeaa

/-- depths of the leaves of a two-armed tree, in any order -/
inductive Kr : List Nat → Prop where
  | one : Kr [0]
  | split (d : Nat) (r : List Nat) : Kr (d :: r) → Kr ((d + 1) :: (d + 1) :: r)
  | perm (a b : List Nat) : a.Perm b → Kr a → Kr b
theorem Kr.pos {ds : List Nat} (h : Kr ds) : ds ≠ [] := by
  induction h with
  | one => simp
  | split => simp
  | perm a b p _ ih => intro e; subst e; exact ih (List.Perm.eq_nil p)
theorem perm_cons {α : Type} [DecidableEq α] {x y : α} {a b : List α} (h : (x :: a).Perm (y :: b)) (hne : x ≠ y) : ∃ c, a.Perm (y :: c) ∧ b.Perm (x :: c) := by
  have hy : y ∈ a := by
    have : y ∈ x :: a := h.mem_iff.2 (List.mem_cons_self ..)
    exact (List.mem_cons.1 this).resolve_left fun e => hne e.symm
  refine ⟨a.erase y, List.perm_cons_erase hy, ?_⟩
  have h2 : (x :: y :: a.erase y).Perm (y :: b) := ((List.perm_cons_erase hy).symm.cons x |>.symm.symm).trans h
  exact (((List.Perm.swap x y (a.erase y)).trans h2).cons_inv).symm
/-- the deepest two leaves hang together -/
theorem Kr.deep {ds : List Nat} (h : Kr ds) : 2 ≤ ds.length → ∃ (d : Nat) (r : List Nat), ds.Perm ((d + 1) :: (d + 1) :: r) ∧ Kr (d :: r) ∧ ∀ x ∈ ds, x ≤ d + 1 := by
  induction h with
  | one => intro h; simp at h
  | perm a b p _ ih =>
    intro hl
    obtain ⟨d, r, h1, h2, h3⟩ := ih (by rw [p.length_eq]; exact hl)
    exact ⟨d, r, p.symm.trans h1, h2, fun x hx => h3 x (p.mem_iff.2 hx)⟩
  | split d r hk ih =>
    intro _
    by_cases hlen : 2 ≤ (d :: r).length
    · obtain ⟨e, s, h1, h2, h3⟩ := ih hlen
      by_cases hd : d + 1 ≤ e
      · -- the deepest ones are elsewhere
        obtain ⟨c, h4, h5⟩ := perm_cons h1 (by omega : d ≠ e + 1)
        have h6 : ((e + 1) :: s).Perm (d :: c) := h5
        obtain ⟨c2, h7, h8⟩ := perm_cons h6 (by omega : e + 1 ≠ d)
        refine ⟨e, (d + 1) :: (d + 1) :: c2, ?_, ?_, ?_⟩
        · have p1 : r.Perm ((e + 1) :: (e + 1) :: c2) := h4.trans (h8.cons _)
          have p2 : ((d + 1) :: (d + 1) :: r).Perm ((d + 1) :: (d + 1) :: (e + 1) :: (e + 1) :: c2) := (p1.cons _).cons _
          refine p2.trans ?_
          rw [List.perm_iff_count]
          intro a
          simp only [List.count_cons]
          omega
        · have k1 : Kr (d :: e :: c2) := .perm _ _ (((h7.cons e).trans (List.Perm.swap d e c2))) h2
          have k2 := Kr.split d (e :: c2) k1
          refine .perm _ _ ?_ k2
          rw [List.perm_iff_count]
          intro a
          simp only [List.count_cons]
          omega
        · intro x hx
          rcases List.mem_cons.1 hx with rfl | hx
          · omega
          · rcases List.mem_cons.1 hx with rfl | hx
            · omega
            · exact h3 x (List.mem_cons_of_mem _ hx)
      · refine ⟨d, r, List.Perm.refl _, hk, fun x hx => ?_⟩
        rcases List.mem_cons.1 hx with rfl | hx
        · omega
        · rcases List.mem_cons.1 hx with rfl | hx
          · omega
          · have := h3 x (List.mem_cons_of_mem _ hx); omega
    · have hr : r = [] := by
        cases r with
        | nil => rfl
        | cons a t => simp at hlen
      subst hr
      exact ⟨d, [], List.Perm.refl _, hk, fun x hx => by simp at hx; omega⟩
/-- loads with depths: what they cost -/
def dotP (P : List (Nat × Nat)) : Nat := (P.map fun p => p.1 * p.2).sum
theorem dotP_perm {P Q : List (Nat × Nat)} (h : P.Perm Q) : dotP P = dotP Q := by
  have := (h.map fun p => p.1 * p.2)
  exact this.sum_nat
theorem dotP_cons (p : Nat × Nat) (P : List (Nat × Nat)) : dotP (p :: P) = p.1 * p.2 + dotP P := rfl
theorem mul_swap {a u d e : Nat} (h1 : a ≤ u) (h2 : d ≤ e) : a * e + u * d ≤ u * e + a * d := by
  obtain ⟨x, rfl⟩ := Nat.exists_eq_add_of_le h1
  obtain ⟨y, rfl⟩ := Nat.exists_eq_add_of_le h2
  simp only [Nat.mul_add, Nat.add_mul]
  omega
/-- the least load may hang deepest -/
theorem least_deep {P : List (Nat × Nat)} {a D : Nat} (ha : a ∈ P.map Prod.fst) (hmin : ∀ x ∈ P.map Prod.fst, a ≤ x) (hD : D ∈ P.map Prod.snd) (hmax : ∀ x ∈ P.map Prod.snd, x ≤ D) :
    ∃ Q : List (Nat × Nat), (a :: Q.map Prod.fst).Perm (P.map Prod.fst) ∧ (D :: Q.map Prod.snd).Perm (P.map Prod.snd) ∧ a * D + dotP Q ≤ dotP P := by
  obtain ⟨⟨u, D'⟩, hu, rfl⟩ := List.mem_map.1 hD
  obtain ⟨⟨a', d⟩, hd, rfl⟩ := List.mem_map.1 ha
  simp only at hmin hmax ⊢
  have hp := List.perm_cons_erase hu
  by_cases e : (a', d) = (u, D')
  · injection e with e1 e2
    subst e1; subst e2
    refine ⟨P.erase (a', d), (hp.map Prod.fst).symm, (hp.map Prod.snd).symm, ?_⟩
    rw [dotP_perm hp, dotP_cons]; exact Nat.le_refl _
  · have hd2 : (a', d) ∈ P.erase (u, D') := by
      rw [List.mem_erase_of_ne e]; exact hd
    have hp2 := List.perm_cons_erase hd2
    have hpp : P.Perm ((u, D') :: (a', d) :: (P.erase (u, D')).erase (a', d)) := hp.trans (hp2.cons _)
    refine ⟨(u, d) :: (P.erase (u, D')).erase (a', d), ?_, ?_, ?_⟩
    · refine (List.Perm.trans ?_ (hpp.map Prod.fst).symm)
      exact List.Perm.swap _ _ _
    · exact (hpp.map Prod.snd).symm
    · rw [dotP_perm hpp, dotP_cons, dotP_cons, dotP_cons]
      simp only
      have h1 := hmin u (List.mem_map.2 ⟨_, hu, rfl⟩)
      have h2 := hmax d (List.mem_map.2 ⟨_, hd, rfl⟩)
      have := mul_swap h1 h2
      omega
/-- loads in order -/
def insL (x : Nat) : List Nat → List Nat
  | [] => [x]
  | y :: r => if y ≤ x then y :: insL x r else x :: y :: r
def srtL : List Nat → List Nat
  | [] => []
  | x :: r => insL x (srtL r)
theorem insL_perm (x : Nat) : ∀ L, (insL x L).Perm (x :: L)
  | [] => List.Perm.refl _
  | y :: r => by
    rw [insL]
    split
    · exact ((insL_perm x r).cons y).trans (List.Perm.swap x y r)
    · exact List.Perm.refl _
theorem srtL_perm : ∀ L, (srtL L).Perm L
  | [] => List.Perm.refl _
  | x :: r => (insL_perm x _).trans ((srtL_perm r).cons x)
def AscL (L : List Nat) : Prop := L.Pairwise (· ≤ ·)
theorem insL_asc (x : Nat) : ∀ L, AscL L → AscL (insL x L)
  | [], _ => List.pairwise_singleton _ _
  | y :: r, h => by
    obtain ⟨h1, h2⟩ := List.pairwise_cons.1 h
    rw [insL]
    split
    · next hy =>
      refine List.pairwise_cons.2 ⟨fun z hz => ?_, insL_asc x r h2⟩
      rcases List.mem_cons.1 ((insL_perm x r).mem_iff.1 hz) with rfl | hz
      · exact hy
      · exact h1 z hz
    · next hy =>
      refine List.pairwise_cons.2 ⟨fun z hz => ?_, h⟩
      rcases List.mem_cons.1 hz with rfl | hz
      · omega
      · have := h1 z hz; omega
theorem srtL_asc : ∀ L, AscL (srtL L)
  | [] => List.Pairwise.nil
  | x :: r => insL_asc x _ (srtL_asc r)
theorem asc_same : ∀ {A B : List Nat}, AscL A → AscL B → A.Perm B → A = B
  | [], B, _, _, h => (List.Perm.eq_nil h.symm).symm
  | a :: r, [], _, _, h => absurd (List.Perm.eq_nil h) (by simp)
  | a :: r, b :: s, ha, hb, h => by
    obtain ⟨a1, a2⟩ := List.pairwise_cons.1 ha
    obtain ⟨b1, b2⟩ := List.pairwise_cons.1 hb
    have e : a = b := by
      have h1 : b ∈ a :: r := h.mem_iff.2 (List.mem_cons_self ..)
      have h2 : a ∈ b :: s := h.mem_iff.1 (List.mem_cons_self ..)
      rcases List.mem_cons.1 h1 with h1 | h1 <;> rcases List.mem_cons.1 h2 with h2 | h2
      · exact h2
      · exact h1.symm
      · exact h2
      · have := a1 b h1; have := b1 a h2; omega
    subst e
    rw [asc_same a2 b2 h.cons_inv]
theorem srtL_same {A B : List Nat} (h : A.Perm B) : srtL A = srtL B := asc_same (srtL_asc A) (srtL_asc B) ((srtL_perm A).trans (h.trans (srtL_perm B).symm))
theorem srtL_len (L : List Nat) : (srtL L).length = L.length := (srtL_perm L).length_eq
/-- the two least joined, again and again (of loads in order) -/
def joinA : Nat → List Nat → Nat
  | 0, _ => 0
  | f + 1, a :: b :: r => a + b + joinA f (srtL ((a + b) :: r))
  | _ + 1, _ => 0
theorem joinA_fuel : ∀ (f : Nat) (L : List Nat), L.length ≤ f + 1 → joinA (f + 1) L = joinA f L
  | 0, [], _ => rfl
  | 0, [_], _ => rfl
  | 0, _ :: _ :: _, h => by simp at h
  | f + 1, [], _ => rfl
  | f + 1, [_], _ => rfl
  | f + 1, a :: b :: r, h => by
    rw [joinA, joinA, joinA_fuel f _ (by rw [srtL_len]; simp at h ⊢; omega)]
def joinC (L : List Nat) : Nat := joinA L.length (srtL L)
/-- no tree costs less -/
theorem join_least : ∀ (f : Nat) (L : List Nat) (P : List (Nat × Nat)), AscL L → L.length ≤ f + 1 → Kr (P.map Prod.snd) → (P.map Prod.fst).Perm L → joinA f L ≤ dotP P := by
  intro f
  induction f with
  | zero => intro L P _ _ _ _; exact Nat.zero_le _
  | succ f ih =>
    intro L P hL hlen hK hP
    match L, hL, hlen, hP with
    | [], _, _, _ => exact Nat.zero_le _
    | [_], _, _, _ => exact Nat.zero_le _
    | a :: b :: r, hL, hlen, hP =>
      have hPl : P.length = r.length + 2 := by have := hP.length_eq; simpa using this
      obtain ⟨d, s, h1, h2, h3⟩ := hK.deep (by rw [List.length_map]; omega)
      obtain ⟨hl1, hl2⟩ := List.pairwise_cons.1 hL
      obtain ⟨hl3, _⟩ := List.pairwise_cons.1 hl2
      obtain ⟨Q, q1, q2, q3⟩ := least_deep (P := P) (a := a) (D := d + 1) (hP.mem_iff.2 (List.mem_cons_self ..)) (fun x hx => by
        rcases List.mem_cons.1 (hP.mem_iff.1 hx) with rfl | hx
        · exact Nat.le_refl _
        · exact hl1 x hx) (h1.mem_iff.2 (List.mem_cons_self ..)) h3
      have q4 : (Q.map Prod.fst).Perm (b :: r) := (q1.trans hP).cons_inv
      have q5 : (Q.map Prod.snd).Perm ((d + 1) :: s) := (q2.trans h1).cons_inv
      obtain ⟨R, r1, r2, r3⟩ := least_deep (P := Q) (a := b) (D := d + 1) (q4.mem_iff.2 (List.mem_cons_self ..)) (fun x hx => by
        rcases List.mem_cons.1 (q4.mem_iff.1 hx) with rfl | hx
        · exact Nat.le_refl _
        · exact hl3 x hx) (q5.mem_iff.2 (List.mem_cons_self ..)) (fun x hx => h3 x (q2.mem_iff.1 (List.mem_cons_of_mem _ hx)))
      have r4 : (R.map Prod.fst).Perm r := (r1.trans q4).cons_inv
      have r5 : (R.map Prod.snd).Perm s := (r2.trans q5).cons_inv
      have hK2 : Kr (((a + b, d) :: R).map Prod.snd) := .perm _ _ ((r5.cons d).symm) h2
      have hih := ih (srtL ((a + b) :: r)) ((a + b, d) :: R) (srtL_asc _) (by rw [srtL_len]; simp at hlen ⊢; omega) hK2 (((r4.cons (a + b))).trans (srtL_perm _).symm)
      rw [dotP_cons] at hih
      simp only at hih
      rw [joinA]
      have e1 : a * (d + 1) + b * (d + 1) = a + b + (a + b) * d := by rw [← Nat.add_mul, Nat.mul_add]; omega
      omega
/-- loads joined in some order -/
inductive Mrg : List Nat → Nat → Prop where
  | one (x : Nat) : Mrg [x] 0
  | join (L : List Nat) (x y : Nat) (r : List Nat) (c : Nat) : L.Perm (x :: y :: r) → Mrg ((x + y) :: r) c → Mrg L (x + y + c)
theorem Mrg.tree {L : List Nat} {c : Nat} (h : Mrg L c) : ∃ P : List (Nat × Nat), Kr (P.map Prod.snd) ∧ (P.map Prod.fst).Perm L ∧ dotP P = c := by
  induction h with
  | one x => exact ⟨[(x, 0)], .one, List.Perm.refl _, by simp [dotP]⟩
  | join L x y r c hp _ ih =>
    obtain ⟨P, h1, h2, h3⟩ := ih
    have hm : x + y ∈ P.map Prod.fst := h2.mem_iff.2 (List.mem_cons_self ..)
    obtain ⟨⟨z, d⟩, hz, e⟩ := List.mem_map.1 hm
    simp only at e
    subst e
    have hpe := List.perm_cons_erase hz
    refine ⟨(x, d + 1) :: (y, d + 1) :: P.erase (x + y, d), .split d _ (.perm _ _ (hpe.map Prod.snd) h1), ?_, ?_⟩
    · refine List.Perm.trans ?_ hp.symm
      have h4 : ((P.erase (x + y, d)).map Prod.fst).Perm r := ((hpe.map Prod.fst).symm.trans h2).cons_inv
      exact (h4.cons y).cons x
    · rw [dotP_perm hpe, dotP_cons] at h3
      rw [dotP_cons, dotP_cons]
      simp only at h3 ⊢
      have e1 : x * (d + 1) + y * (d + 1) = x + y + (x + y) * d := by rw [← Nat.add_mul, Nat.mul_add]; omega
      omega
theorem Mrg.least {L : List Nat} {c : Nat} (h : Mrg L c) : joinC L ≤ c := by
  obtain ⟨P, h1, h2, h3⟩ := h.tree
  rw [← h3]
  exact join_least _ (srtL L) P (srtL_asc L) (by rw [srtL_len]; omega) h1 (h2.trans (srtL_perm L).symm)
theorem Mrg.perm {L M : List Nat} {c : Nat} (hp : L.Perm M) (h : Mrg L c) : Mrg M c := by
  cases h with
  | one x =>
    have : M = [x] := (List.perm_singleton.1 hp.symm)
    subst this; exact .one x
  | join _ x y r c h1 h2 => exact .join M x y r c (hp.symm.trans h1) h2
theorem Mrg.greedy : ∀ (f : Nat) (L : List Nat), AscL L → 1 ≤ L.length → L.length ≤ f + 1 → Mrg L (joinA f L) := by
  intro f
  induction f with
  | zero =>
    intro L _ h1 h2
    match L, h1, h2 with
    | [x], _, _ => exact .one x
  | succ f ih =>
    intro L hL h1 h2
    match L, hL, h1, h2 with
    | [x], _, _, _ => exact .one x
    | a :: b :: r, hL, _, h2 =>
      have h3 := ih (srtL ((a + b) :: r)) (srtL_asc _) (by rw [srtL_len]; simp) (by rw [srtL_len]; simp at h2 ⊢; omega)
      rw [joinA]
      refine .join _ a b r _ (List.Perm.refl _) ?_
      exact h3.perm (srtL_perm _)
theorem Mrg.joinC {L : List Nat} (h : 1 ≤ L.length) : Mrg L (joinC L) := (Mrg.greedy L.length (srtL L) (srtL_asc L) (by rw [srtL_len]; exact h) (by rw [srtL_len]; omega)).perm (srtL_perm L)
theorem joinC_perm {A B : List Nat} (h : A.Perm B) : joinC A = joinC B := by unfold Go.Proofs.Ytakpbnkncjddeaa.joinC; rw [h.length_eq, srtL_same h]
theorem joinA_len {f g : Nat} (hg : f ≤ g) {L : List Nat} (hL : L.length ≤ f + 1) : joinA g L = joinA f L := by
  induction hg with
  | refl => rfl
  | step h ih => rw [joinA_fuel _ L (Nat.le_trans hL (Nat.succ_le_succ h)), ih]
/-- the two least ones are joined first -/
theorem joinC_two {L : List Nat} (h : 2 ≤ L.length) : ∃ a b r, L.Perm (a :: b :: r) ∧ joinC L = a + b + joinC ((a + b) :: r) := by
  have hl := srtL_len L
  match hs : srtL L with
  | [] => rw [hs] at hl; simp at hl; omega
  | [x] => rw [hs] at hl; simp at hl; omega
  | a :: b :: r =>
    refine ⟨a, b, r, by rw [← hs]; exact (srtL_perm L).symm, ?_⟩
    rw [hs] at hl
    simp only [List.length_cons] at hl
    unfold Go.Proofs.Ytakpbnkncjddeaa.joinC
    rw [hs, ← hl, joinA, List.length_cons]
theorem joinC_small {L : List Nat} (h : L.length < 2) : joinC L = 0 := by
  match L, h with
  | [], _ => rfl
  | [x], _ => rfl
  | _ :: _ :: _, h => simp at h; omega
/-- a tree hung in the place of a leaf -/
theorem Kr.hang {d : Nat} {r : List Nat} (h : Kr (d :: r)) {B : List Nat} (hB : Kr B) : Kr (B.map (d + ·) ++ r) := by
  induction hB with
  | one => exact h
  | split e s _ ih => exact .split (d + e) (s.map (d + ·) ++ r) ih
  | perm a b p _ ih => exact .perm _ _ ((p.map _).append_right r) ih
theorem Kr.pair {A B : List Nat} (hA : Kr A) (hB : Kr B) : Kr (A.map (1 + ·) ++ B.map (1 + ·)) := by
  have h1 : Kr [1, 1] := .split 0 [] .one
  have h2 := h1.hang hB
  have h3 : Kr (1 :: B.map (1 + ·)) := .perm _ _ (by
    refine List.Perm.trans List.perm_append_comm ?_
    exact List.Perm.refl _) h2
  exact h3.hang hA
end Go.Proofs.Ytakpbnkncjddeaa

namespace Go.Proofs.Ytakpbnkncjddeaa

/-- the least of numbers, -1 for none -/
def leastS (b : Int) (c : Nat) : Int := if b < 0 ∨ (c : Int) < b then (c : Int) else b
def leastI (L : List Nat) : Int := L.foldl leastS (-1)
theorem leastI_snoc (L : List Nat) (c : Nat) : leastI (L ++ [c]) = if leastI L < 0 ∨ (c : Int) < leastI L then (c : Int) else leastI L := by unfold leastI; rw [List.foldl_append]; rfl
theorem leastI_nil : leastI [] = -1 := rfl
theorem leastI_spec : ∀ (L : List Nat), (L = [] ∧ leastI L = -1) ∨ ∃ m ∈ L, leastI L = (m : Int) ∧ ∀ x ∈ L, m ≤ x := by
  intro L
  have key : ∀ n (L : List Nat), L.length = n → (L = [] ∧ leastI L = -1) ∨ ∃ m ∈ L, leastI L = (m : Int) ∧ ∀ x ∈ L, m ≤ x := by
    intro n
    induction n with
    | zero => intro L h; exact .inl ⟨List.eq_nil_of_length_eq_zero h, by rw [List.eq_nil_of_length_eq_zero h]; rfl⟩
    | succ n ih =>
      intro L h
      have hne : L ≠ [] := fun e => by rw [e] at h; simp at h
      obtain ⟨M, c, rfl⟩ : ∃ M c, L = M ++ [c] := ⟨L.dropLast, L.getLast hne, (List.dropLast_concat_getLast hne).symm⟩
      right
      rw [leastI_snoc]
      rcases ih M (by simpa using h) with ⟨rfl, e⟩ | ⟨m, hm, e, hle⟩
      · exact ⟨c, by simp, by rw [e]; simp, by simp⟩
      · rw [e]
        by_cases hc : c < m
        · refine ⟨c, by simp, by rw [if_pos (.inr (by omega))], fun x hx => ?_⟩
          rcases List.mem_append.1 hx with hx | hx
          · have := hle x hx; omega
          · rw [List.mem_singleton] at hx; omega
        · refine ⟨m, by simp [hm], by rw [if_neg (by omega)], fun x hx => ?_⟩
          rcases List.mem_append.1 hx with hx | hx
          · exact hle x hx
          · rw [List.mem_singleton] at hx; omega
  exact key _ L rfl
theorem leastI_is {L : List Nat} {m : Nat} (hm : m ∈ L) (hle : ∀ x ∈ L, m ≤ x) : leastI L = (m : Int) := by
  rcases leastI_spec L with ⟨rfl, _⟩ | ⟨k, hk, e, hk2⟩
  · cases hm
  · have := hle k hk; have := hk2 m hm; rw [e]; omega
def minN (L : List Nat) : Nat := (leastI L).toNat
theorem minN_mem {L : List Nat} (h : L ≠ []) : minN L ∈ L ∧ ∀ x ∈ L, minN L ≤ x := by
  rcases leastI_spec L with ⟨rfl, _⟩ | ⟨m, hm, e, hle⟩
  · exact absurd rfl h
  · unfold minN; rw [e, Int.toNat_natCast]; exact ⟨hm, hle⟩
theorem minN_int {L : List Nat} (h : L ≠ []) : leastI L = (minN L : Int) := by
  rcases leastI_spec L with ⟨rfl, _⟩ | ⟨m, hm, e, hle⟩
  · exact absurd rfl h
  · unfold minN; rw [e, Int.toNat_natCast]

/-! ### beside each other -/
def bsF : Nat → List Nat → Nat
  | 0, _ => 0
  | f + 1, w => if w.length < 2 then 0 else minN ((List.range (w.length - 1)).map fun k => bsF f (w.take (k + 1)) + bsF f (w.drop (k + 1))) + w.sum
def bsC (w : List Nat) : Nat := bsF w.length w
theorem bsF_len : ∀ (f : Nat) (w : List Nat), w.length ≤ f → bsF f w = bsC w := by
  have key : ∀ (n : Nat), ∀ f w, w.length ≤ n → w.length ≤ f → bsF f w = bsF w.length w := by
    intro n
    induction n with
    | zero =>
      intro f w h1 _
      rw [List.eq_nil_of_length_eq_zero (Nat.le_zero.1 h1)]
      cases f <;> rfl
    | succ n ih =>
      intro f w h1 h2
      by_cases h0 : w.length < 2
      · have e : ∀ g, bsF g w = 0 := fun g => by
          cases g with
          | zero => rfl
          | succ g => rw [bsF, if_pos h0]
        rw [e, e]
      · obtain ⟨f', rfl⟩ : ∃ f', f = f' + 1 := ⟨f - 1, by omega⟩
        obtain ⟨g, hg⟩ : ∃ g, w.length = g + 1 := ⟨w.length - 1, by omega⟩
        rw [hg, bsF, bsF, if_neg h0, if_neg h0]
        congr 2
        refine List.map_congr_left fun k hk => ?_
        have hk := List.mem_range.1 hk
        have t1 : (w.take (k + 1)).length = k + 1 := by rw [List.length_take]; omega
        have t2 : (w.drop (k + 1)).length = w.length - (k + 1) := List.length_drop
        rw [ih f' _ (by omega) (by omega), ih g (w.take (k + 1)) (by omega) (by omega), ih f' (w.drop (k + 1)) (by omega) (by omega), ih g (w.drop (k + 1)) (by omega) (by omega)]
  exact fun f w h => key w.length f w (Nat.le_refl _) h
theorem bsC_small {w : List Nat} (h : w.length < 2) : bsC w = 0 := by
  unfold bsC
  cases hw : w.length with
  | zero => rfl
  | succ n => rw [bsF, if_pos h]
theorem bsC_at {w : List Nat} (h : 2 ≤ w.length) : bsC w = minN ((List.range (w.length - 1)).map fun k => bsC (w.take (k + 1)) + bsC (w.drop (k + 1))) + w.sum := by
  obtain ⟨g, hg⟩ : ∃ g, w.length = g + 1 := ⟨w.length - 1, by omega⟩
  have e : bsC w = bsF (g + 1) w := by unfold bsC; rw [hg]
  rw [e, bsF, if_neg (by omega)]
  congr 2
  refine List.map_congr_left fun k hk => ?_
  have hk := List.mem_range.1 hk
  rw [bsF_len g _ (by rw [List.length_take]; omega), bsF_len g _ (by rw [List.length_drop]; omega)]
theorem bsC_le {u v : List Nat} (hu : u ≠ []) (hv : v ≠ []) : bsC (u ++ v) ≤ bsC u + bsC v + (u ++ v).sum := by
  have h1 : 1 ≤ u.length := List.length_pos_iff.2 hu
  have h2 : 1 ≤ v.length := List.length_pos_iff.2 hv
  have hl : 2 ≤ (u ++ v).length := by rw [List.length_append]; omega
  rw [bsC_at hl]
  refine Nat.add_le_add_right ?_ _
  have hm : bsC u + bsC v ∈ (List.range ((u ++ v).length - 1)).map fun k => bsC ((u ++ v).take (k + 1)) + bsC ((u ++ v).drop (k + 1)) :=
    List.mem_map.2 ⟨u.length - 1, List.mem_range.2 (by rw [List.length_append]; omega), by rw [show u.length - 1 + 1 = u.length by omega, List.take_left, List.drop_left]⟩
  exact (minN_mem (List.ne_nil_of_mem hm)).2 _ hm
theorem bsC_is {w : List Nat} (h : 2 ≤ w.length) : ∃ u v, w = u ++ v ∧ u ≠ [] ∧ v ≠ [] ∧ bsC w = bsC u + bsC v + w.sum := by
  have hne : ((List.range (w.length - 1)).map fun k => bsC (w.take (k + 1)) + bsC (w.drop (k + 1))) ≠ [] := fun e => by
    have := congrArg List.length e
    simp at this; omega
  obtain ⟨h1, _⟩ := minN_mem hne
  obtain ⟨k, hk, e⟩ := List.mem_map.1 h1
  have hk := List.mem_range.1 hk
  refine ⟨w.take (k + 1), w.drop (k + 1), (List.take_append_drop _ _).symm, fun e => ?_, fun e => ?_, ?_⟩
  · have := congrArg List.length e; rw [List.length_take, List.length_nil] at this; omega
  · have := congrArg List.length e; rw [List.length_drop, List.length_nil] at this; omega
  · rw [bsC_at h, ← e]
theorem bsC_tree : ∀ (n : Nat) (w : List Nat), w.length ≤ n → w ≠ [] → ∃ P : List (Nat × Nat), Kr (P.map Prod.snd) ∧ P.map Prod.fst = w ∧ dotP P = bsC w := by
  intro n
  induction n with
  | zero => intro w h1 h2; exact absurd (List.eq_nil_of_length_eq_zero (Nat.le_zero.1 h1)) h2
  | succ n ih =>
    intro w h1 h2
    by_cases hl : 2 ≤ w.length
    · obtain ⟨u, v, rfl, hu, hv, e⟩ := bsC_is hl
      have lu := List.length_pos_iff.2 hu
      have lv := List.length_pos_iff.2 hv
      rw [List.length_append] at h1
      obtain ⟨P, p1, p2, p3⟩ := ih u (by omega) hu
      obtain ⟨Q, q1, q2, q3⟩ := ih v (by omega) hv
      have up : ∀ R : List (Nat × Nat), ((R.map fun p => (p.1, 1 + p.2)).map Prod.snd) = (R.map Prod.snd).map (1 + ·) ∧ ((R.map fun p => (p.1, 1 + p.2)).map Prod.fst) = R.map Prod.fst ∧ dotP (R.map fun p => (p.1, 1 + p.2)) = dotP R + (R.map Prod.fst).sum := by
        intro R
        induction R with
        | nil => exact ⟨rfl, rfl, rfl⟩
        | cons a r ihr =>
          obtain ⟨i1, i2, i3⟩ := ihr
          refine ⟨by simp, by simp, ?_⟩
          rw [List.map_cons, dotP_cons, dotP_cons, i3, List.map_cons, List.sum_cons]
          simp only [Nat.mul_add, Nat.mul_one]
          omega
      obtain ⟨a1, a2, a3⟩ := up P
      obtain ⟨b1, b2, b3⟩ := up Q
      refine ⟨(P.map fun p => (p.1, 1 + p.2)) ++ Q.map fun p => (p.1, 1 + p.2), ?_, ?_, ?_⟩
      · rw [List.map_append, a1, b1]; exact p1.pair q1
      · rw [List.map_append, a2, b2, p2, q2]
      · have : dotP ((P.map fun p => (p.1, 1 + p.2)) ++ Q.map fun p => (p.1, 1 + p.2)) = dotP (P.map fun p => (p.1, 1 + p.2)) + dotP (Q.map fun p => (p.1, 1 + p.2)) := by
          unfold dotP; rw [List.map_append, List.sum_append]
        rw [this, a3, b3, p3, q3, p2, q2, e, List.sum_append]
        omega
    · match w, h2, hl with
      | [x], _, _ => exact ⟨[(x, 0)], .one, rfl, by rw [bsC_small (by simp)]; simp [dotP]⟩
      | _ :: _ :: _, _, hl => simp at hl
theorem join_beside (w : List Nat) : joinC w ≤ bsC w := by
  by_cases h : w = []
  · subst h; exact Nat.zero_le _
  · obtain ⟨P, h1, h2, h3⟩ := bsC_tree w.length w (Nat.le_refl _) h
    rw [← h3]
    exact join_least _ (srtL w) P (srtL_asc w) (by rw [srtL_len]; omega) h1 (by rw [h2]; exact (srtL_perm w).symm)
theorem bsC_rev_le : ∀ (n : Nat) (w : List Nat), w.length ≤ n → bsC w.reverse ≤ bsC w := by
  intro n
  induction n with
  | zero => intro w h; rw [List.eq_nil_of_length_eq_zero (Nat.le_zero.1 h)]; exact Nat.le_refl _
  | succ n ih =>
    intro w h1
    by_cases hl : 2 ≤ w.length
    · obtain ⟨u, v, rfl, hu, hv, e⟩ := bsC_is hl
      have lu := List.length_pos_iff.2 hu
      have lv := List.length_pos_iff.2 hv
      rw [List.length_append] at h1
      have i1 := ih u (by omega)
      have i2 := ih v (by omega)
      rw [List.reverse_append]
      have := bsC_le (u := v.reverse) (v := u.reverse) (by simpa using hv) (by simpa using hu)
      rw [List.sum_append, List.sum_reverse, List.sum_reverse] at this
      rw [e, List.sum_append]
      omega
    · rw [bsC_small (by rw [List.length_reverse]; omega)]; exact Nat.zero_le _
theorem bsC_rev (w : List Nat) : bsC w.reverse = bsC w := by
  have h1 := bsC_rev_le w.length w (Nat.le_refl _)
  have h2 := bsC_rev_le w.reverse.length w.reverse (Nat.le_refl _)
  rw [List.reverse_reverse] at h2
  omega
theorem bsC_less : ∀ (n : Nat) (w : List Nat) (x : Nat), w.length ≤ n → bsC w ≤ bsC (w ++ [x]) := by
  intro n
  induction n with
  | zero => intro w x h; rw [List.eq_nil_of_length_eq_zero (Nat.le_zero.1 h)]; exact Nat.zero_le _
  | succ n ih =>
    intro w x h1
    by_cases hl : 2 ≤ w.length
    · obtain ⟨u, v, e0, hu, hv, e⟩ := bsC_is (w := w ++ [x]) (by rw [List.length_append]; omega)
      obtain ⟨v', y, rfl⟩ : ∃ v' y, v = v' ++ [y] := ⟨v.dropLast, v.getLast hv, (List.dropLast_concat_getLast hv).symm⟩
      rw [← List.append_assoc] at e0
      obtain ⟨rfl, e2⟩ := List.append_inj' e0 rfl
      have e2 : x = y := by simpa using e2
      subst e2
      rw [e, List.sum_append]
      by_cases hv' : v' = []
      · subst hv'
        simp only [List.append_nil, List.nil_append] at *
        omega
      · have lu := List.length_pos_iff.2 hu
        rw [List.length_append] at h1
        have i1 := ih v' x (by omega)
        have i2 := bsC_le hu hv'
        rw [List.sum_append] at i2 ⊢
        omega
    · rw [bsC_small (by omega)]; exact Nat.zero_le _
end Go.Proofs.Ytakpbnkncjddeaa

namespace Go.Proofs.Ytakpbnkncjddeaa

def fcF : Nat → List Nat → Nat
  | 0, _ => 0
  | f + 1, w => if w = [] then 0 else minN ((List.range w.length).map fun k => fcF f (w.take k) + fcF f (w.drop (k + 1))) + w.sum
def fcC (w : List Nat) : Nat := fcF w.length w
theorem fcF_nil (f : Nat) : fcF f [] = 0 := by cases f <;> rfl
theorem fcF_len : ∀ (f : Nat) (w : List Nat), w.length ≤ f → fcF f w = fcC w := by
  have key : ∀ (n : Nat), ∀ f w, w.length ≤ n → w.length ≤ f → fcF f w = fcF w.length w := by
    intro n
    induction n with
    | zero =>
      intro f w h1 _
      rw [List.eq_nil_of_length_eq_zero (Nat.le_zero.1 h1), fcF_nil, fcF_nil]
    | succ n ih =>
      intro f w h1 h2
      by_cases h0 : w = []
      · subst h0; rw [fcF_nil, fcF_nil]
      · have hw := List.length_pos_iff.2 h0
        obtain ⟨f', rfl⟩ : ∃ f', f = f' + 1 := ⟨f - 1, by omega⟩
        obtain ⟨g, hg⟩ : ∃ g, w.length = g + 1 := ⟨w.length - 1, by omega⟩
        rw [hg, fcF, fcF, if_neg h0, if_neg h0]
        congr 2
        refine List.map_congr_left fun k hk => ?_
        have hk := List.mem_range.1 hk
        have t1 : (w.take k).length = k := by rw [List.length_take]; omega
        have t2 : (w.drop (k + 1)).length = w.length - (k + 1) := List.length_drop
        rw [ih f' _ (by omega) (by omega), ih g (w.take k) (by omega) (by omega), ih f' (w.drop (k + 1)) (by omega) (by omega), ih g (w.drop (k + 1)) (by omega) (by omega)]
  exact fun f w h => key w.length f w (Nat.le_refl _) h
theorem fcC_at {w : List Nat} (h : w ≠ []) : fcC w = minN ((List.range w.length).map fun k => fcC (w.take k) + fcC (w.drop (k + 1))) + w.sum := by
  have hw := List.length_pos_iff.2 h
  obtain ⟨g, hg⟩ : ∃ g, w.length = g + 1 := ⟨w.length - 1, by omega⟩
  have e : fcC w = fcF (g + 1) w := by unfold fcC; rw [hg]
  rw [e, fcF, if_neg h]
  congr 2
  refine List.map_congr_left fun k hk => ?_
  have hk := List.mem_range.1 hk
  rw [fcF_len g _ (by rw [List.length_take]; omega), fcF_len g _ (by rw [List.length_drop]; omega)]
theorem fcC_nil : fcC [] = 0 := rfl
theorem fcC_le (u v : List Nat) (x : Nat) : fcC (u ++ x :: v) ≤ fcC u + fcC v + (u ++ x :: v).sum := by
  rw [fcC_at (w := u ++ x :: v) (by simp)]
  refine Nat.add_le_add_right ?_ _
  have hm : fcC u + fcC v ∈ (List.range (u ++ x :: v).length).map fun k => fcC ((u ++ x :: v).take k) + fcC ((u ++ x :: v).drop (k + 1)) :=
    List.mem_map.2 ⟨u.length, List.mem_range.2 (by rw [List.length_append, List.length_cons]; omega), by
      rw [List.take_left, ← List.drop_drop, List.drop_left]; rfl⟩
  exact (minN_mem (List.ne_nil_of_mem hm)).2 _ hm
theorem fcC_is {w : List Nat} (h : w ≠ []) : ∃ u x v, w = u ++ x :: v ∧ fcC w = fcC u + fcC v + w.sum := by
  have hw := List.length_pos_iff.2 h
  have hne : ((List.range w.length).map fun k => fcC (w.take k) + fcC (w.drop (k + 1))) ≠ [] := fun e => by
    have := congrArg List.length e
    rw [List.length_map, List.length_range, List.length_nil] at this
    omega
  obtain ⟨h1, _⟩ := minN_mem hne
  obtain ⟨k, hk, e⟩ := List.mem_map.1 h1
  have hk := List.mem_range.1 hk
  refine ⟨w.take k, w[k], w.drop (k + 1), ?_, by rw [fcC_at h, ← e]⟩
  rw [List.getElem_cons_drop, List.take_append_drop]
theorem fcC_rev_le : ∀ (n : Nat) (w : List Nat), w.length ≤ n → fcC w.reverse ≤ fcC w := by
  intro n
  induction n with
  | zero => intro w h; rw [List.eq_nil_of_length_eq_zero (Nat.le_zero.1 h)]; exact Nat.le_refl _
  | succ n ih =>
    intro w h1
    by_cases hw : w = []
    · subst hw; exact Nat.le_refl _
    · obtain ⟨u, x, v, rfl, e⟩ := fcC_is hw
      rw [List.length_append, List.length_cons] at h1
      have i1 := ih u (by omega)
      have i2 := ih v (by omega)
      have h2 : (u ++ x :: v).reverse = v.reverse ++ x :: u.reverse := by simp
      have := fcC_le v.reverse u.reverse x
      rw [h2]
      have h3 : (v.reverse ++ x :: u.reverse).sum = (u ++ x :: v).sum := by rw [← h2, List.sum_reverse]
      rw [h3] at this
      omega
theorem fcC_rev (w : List Nat) : fcC w.reverse = fcC w := by
  have h1 := fcC_rev_le w.length w (Nat.le_refl _)
  have h2 := fcC_rev_le w.reverse.length w.reverse (Nat.le_refl _)
  rw [List.reverse_reverse] at h2
  omega
theorem fcC_sum (w : List Nat) : w.sum ≤ fcC w := by
  by_cases h : w = []
  · subst h; exact Nat.le_refl _
  · rw [fcC_at h]; omega
/-! ### found in a tree -/
def fbT : Tw → List Nat → Nat → Nat
  | .e, _, _ => 0
  | .n a b, w, d => d * w.getD a.size 0 + fbT a (w.take a.size) (d + 1) + fbT b (w.drop (a.size + 1)) (d + 1)
theorem tw_parts {a b : Tw} {w : List Nat} (h : w.length = (Tw.n a b).size) : ∃ u x v, w = u ++ x :: v ∧ u.length = a.size ∧ v.length = b.size ∧ w.getD a.size 0 = x ∧ w.take a.size = u ∧ w.drop (a.size + 1) = v := by
  have hl : w.length = a.size + 1 + b.size := h
  have ha : a.size < w.length := by omega
  refine ⟨w.take a.size, w[a.size], w.drop (a.size + 1), ?_, by rw [List.length_take]; omega, by rw [List.length_drop]; omega, ?_, rfl, rfl⟩
  · rw [List.getElem_cons_drop, List.take_append_drop]
  · rw [List.getD_eq_getElem?_getD, List.getElem?_eq_getElem ha]; rfl
theorem fbT_deep : ∀ (t : Tw) (w : List Nat) (d : Nat), w.length = t.size → fbT t w (d + 1) = fbT t w d + w.sum := by
  intro t
  induction t with
  | e => intro w d h; rw [List.eq_nil_of_length_eq_zero h]; rfl
  | n a b iha ihb =>
    intro w d h
    obtain ⟨u, x, v, rfl, h1, h2, h3, h4, h5⟩ := tw_parts h
    rw [fbT, fbT, h3, h4, h5, iha u (d + 1) h1, ihb v (d + 1) h2, List.sum_append, List.sum_cons, Nat.add_mul]
    omega
theorem fbT_one {a b : Tw} {u v : List Nat} {x : Nat} (h1 : u.length = a.size) (h2 : v.length = b.size) : fbT (.n a b) (u ++ x :: v) 1 = fbT a u 1 + fbT b v 1 + (u ++ x :: v).sum := by
  obtain ⟨u', x', v', e, q1, q2, q3, q4, q5⟩ := tw_parts (a := a) (b := b) (w := u ++ x :: v) (by rw [List.length_append, List.length_cons, h1, h2]; show _ = a.size + 1 + b.size; omega)
  obtain ⟨rfl, e2⟩ := List.append_inj e (by omega)
  injection e2 with e2 e3
  subst e2; subst e3
  rw [fbT, q3, q4, q5, fbT_deep a u 1 h1, fbT_deep b v 1 h2, List.sum_append, List.sum_cons]
  omega
theorem fbT_least : ∀ (t : Tw) (w : List Nat), w.length = t.size → fcC w ≤ fbT t w 1 := by
  intro t
  induction t with
  | e => intro w h; rw [List.eq_nil_of_length_eq_zero h]; exact Nat.le_refl _
  | n a b iha ihb =>
    intro w h
    obtain ⟨u, x, v, rfl, h1, h2, _⟩ := tw_parts h
    rw [fbT_one h1 h2]
    have := fcC_le u v x
    have := iha u h1
    have := ihb v h2
    omega
theorem fbT_there : ∀ (n : Nat) (w : List Nat), w.length ≤ n → ∃ t : Tw, t.size = w.length ∧ fbT t w 1 = fcC w := by
  intro n
  induction n with
  | zero => intro w h; rw [List.eq_nil_of_length_eq_zero (Nat.le_zero.1 h)]; exact ⟨.e, rfl, rfl⟩
  | succ n ih =>
    intro w h
    by_cases hw : w = []
    · subst hw; exact ⟨.e, rfl, rfl⟩
    · obtain ⟨u, x, v, rfl, e⟩ := fcC_is hw
      rw [List.length_append, List.length_cons] at h
      obtain ⟨a, a1, a2⟩ := ih u (by omega)
      obtain ⟨b, b1, b2⟩ := ih v (by omega)
      refine ⟨.n a b, by rw [List.length_append, List.length_cons]; show a.size + 1 + b.size = _; omega, ?_⟩
      rw [fbT_one a1.symm b1.symm, a2, b2, e]
theorem fbT_most : ∀ (t : Tw) (w : List Nat), w.length = t.size → fbT t w 1 ≤ w.length * w.sum := by
  intro t
  induction t with
  | e => intro w h; rw [List.eq_nil_of_length_eq_zero h]; exact Nat.le_refl _
  | n a b iha ihb =>
    intro w h
    obtain ⟨u, x, v, rfl, h1, h2, _⟩ := tw_parts h
    rw [fbT_one h1 h2]
    have i1 := iha u h1
    have i2 := ihb v h2
    have e1 : (u ++ x :: v).length = u.length + v.length + 1 := by simp; omega
    have e2 : (u ++ x :: v).sum = u.sum + x + v.sum := by simp; omega
    rw [e1, e2]
    have k1 : u.length * u.sum ≤ (u.length + v.length) * u.sum := Nat.mul_le_mul_right _ (by omega)
    have k2 : v.length * v.sum ≤ (u.length + v.length) * v.sum := Nat.mul_le_mul_right _ (by omega)
    have k3 : (u.length + v.length + 1) * (u.sum + x + v.sum) = (u.length + v.length) * u.sum + (u.length + v.length) * x + (u.length + v.length) * v.sum + (u.sum + x + v.sum) := by
      rw [Nat.add_mul, Nat.mul_add, Nat.mul_add, Nat.one_mul]
    have k4 := Nat.zero_le ((u.length + v.length) * x)
    omega
/-! ### loads doubled -/
def twice (w : List Nat) : List Nat := w.map (2 * ·)
theorem twice_sum (w : List Nat) : (twice w).sum = 2 * w.sum := by
  induction w with
  | nil => rfl
  | cons a r ih => rw [twice, List.map_cons, List.sum_cons, List.sum_cons]; have : (List.map (2 * ·) r).sum = 2 * r.sum := ih; omega
theorem minN_twice {L : List Nat} (h : L ≠ []) : minN (L.map (2 * ·)) = 2 * minN L := by
  obtain ⟨h1, h2⟩ := minN_mem h
  have := leastI_is (L := L.map (2 * ·)) (m := 2 * minN L) (List.mem_map.2 ⟨_, h1, rfl⟩) (fun x hx => by
    obtain ⟨y, hy, rfl⟩ := List.mem_map.1 hx
    have := h2 y hy
    omega)
  unfold minN at this ⊢
  rw [this]; omega
theorem fcC_twice : ∀ (n : Nat) (w : List Nat), w.length ≤ n → fcC (twice w) = 2 * fcC w := by
  intro n
  induction n with
  | zero => intro w h; rw [List.eq_nil_of_length_eq_zero (Nat.le_zero.1 h)]; rfl
  | succ n ih =>
    intro w h
    by_cases hw : w = []
    · subst hw; rfl
    · have hw2 : twice w ≠ [] := fun e => hw (by simpa [twice] using e)
      have hwl := List.length_pos_iff.2 hw
      rw [fcC_at hw2, fcC_at hw, twice_sum, Nat.mul_add, ← minN_twice (fun e => by have := congrArg List.length e; rw [List.length_map, List.length_range, List.length_nil] at this; omega)]
      congr 2
      rw [List.map_map, show (twice w).length = w.length by simp [twice]]
      refine List.map_congr_left fun k hk => ?_
      have hk := List.mem_range.1 hk
      have t1 : (twice w).take k = twice (w.take k) := by unfold twice; rw [List.map_take]
      have t2 : (twice w).drop (k + 1) = twice (w.drop (k + 1)) := by unfold twice; rw [List.map_drop]
      rw [t1, t2, ih _ (by rw [List.length_take]; omega), ih _ (by rw [List.length_drop]; omega)]
      show _ = 2 * (_ + _)
      omega
theorem bsC_twice : ∀ (n : Nat) (w : List Nat), w.length ≤ n → bsC (twice w) = 2 * bsC w := by
  intro n
  induction n with
  | zero => intro w h; rw [List.eq_nil_of_length_eq_zero (Nat.le_zero.1 h)]; rfl
  | succ n ih =>
    intro w h
    have hl : (twice w).length = w.length := by simp [twice]
    by_cases hw : 2 ≤ w.length
    · rw [bsC_at (by omega), bsC_at hw, twice_sum, Nat.mul_add, ← minN_twice (fun e => by have := congrArg List.length e; rw [List.length_map, List.length_range, List.length_nil] at this; omega)]
      congr 2
      rw [List.map_map, hl]
      refine List.map_congr_left fun k hk => ?_
      have hk := List.mem_range.1 hk
      have t1 : (twice w).take (k + 1) = twice (w.take (k + 1)) := by unfold twice; rw [List.map_take]
      have t2 : (twice w).drop (k + 1) = twice (w.drop (k + 1)) := by unfold twice; rw [List.map_drop]
      rw [t1, t2, ih _ (by rw [List.length_take]; omega), ih _ (by rw [List.length_drop]; omega)]
      show _ = 2 * (_ + _)
      omega
    · rw [bsC_small (by omega), bsC_small (by omega)]
theorem twice_asc {L : List Nat} (h : AscL L) : AscL (twice L) := List.pairwise_map.2 (h.imp fun q => by omega)
theorem srtL_twice (L : List Nat) : srtL (twice L) = twice (srtL L) := asc_same (srtL_asc _) (twice_asc (srtL_asc L)) ((srtL_perm _).trans ((srtL_perm L).symm.map (2 * ·)))
theorem joinA_twice : ∀ (f : Nat) (L : List Nat), joinA f (twice L) = 2 * joinA f L
  | 0, _ => rfl
  | _ + 1, [] => rfl
  | _ + 1, [_] => rfl
  | f + 1, a :: b :: r => by
    show 2 * a + 2 * b + joinA f (srtL ((2 * a + 2 * b) :: twice r)) = 2 * (a + b + joinA f (srtL ((a + b) :: r)))
    have e : (2 * a + 2 * b) :: twice r = twice ((a + b) :: r) := by show _ = 2 * (a + b) :: twice r; rw [Nat.mul_add]
    rw [e, srtL_twice, joinA_twice f]
    omega
theorem joinC_twice (L : List Nat) : joinC (twice L) = 2 * joinC L := by
  unfold Go.Proofs.Ytakpbnkncjddeaa.joinC
  rw [srtL_twice, joinA_twice, show (twice L).length = L.length by simp [twice]]
end Go.Proofs.Ytakpbnkncjddeaa

namespace Go.Proofs.Ytakpbnkncjddeaa
open Go.RowKit

def loadAt (x : Int) : Bool := decide (0 ≤ x ∧ x ≤ 20)
def loadUp (l : List Int) (k : Nat) : Bool := (l.take k).all loadAt
/-- are these numbers loads -/
def loadB (l : List Int) : Bool := l.all loadAt && decide (l.length ≤ 7)
theorem loadUp_step {l : List Int} {k : Nat} (h : k < l.length) : loadUp l (k + 1) = (loadUp l k && loadAt l[k]) := by
  rw [loadUp, loadUp, List.take_succ_eq_append_getElem h, List.all_append]; simp
theorem loadB_full {l : List Int} (h : loadUp l l.length = true) : loadB l = decide (l.length ≤ 7) := by
  rw [loadUp, List.take_length] at h
  rw [loadB, h, Bool.true_and]
theorem loadB_no {l : List Int} {k : Nat} (hk : k < l.length) (h : loadAt l[k] = false) : loadB l = false := by
  have : l.all loadAt = false := List.all_eq_false.2 ⟨l[k], List.getElem_mem hk, by rw [h]; exact Bool.false_ne_true⟩
  rw [loadB, this, Bool.false_and]
theorem loadB_len {l : List Int} (h : loadB l = true) : l.length ≤ 7 := by
  rw [loadB, Bool.and_eq_true, decide_eq_true_eq] at h; exact h.2
theorem loadB_at {l : List Int} (h : loadB l = true) {x : Int} (hx : x ∈ l) : 0 ≤ x ∧ x ≤ 20 := by
  rw [loadB, Bool.and_eq_true] at h
  exact of_decide_eq_true (List.all_eq_true.1 h.1 _ hx)
theorem loadB_reverse (l : List Int) : loadB l.reverse = loadB l := by
  rw [loadB, loadB, List.length_reverse, List.all_reverse]
/-- numbers that count, as the code holds them -/
def ldI (L : List Nat) : List Int := L.map fun (x : Nat) => (x : Int)
theorem ldI_len (L : List Nat) : (ldI L).length = L.length := by simp [ldI]
theorem ldI_get (L : List Nat) (k : Nat) (h : k < L.length) : (ldI L)[k]'(by rw [ldI_len]; exact h) = (L[k] : Int) := by simp [ldI]
theorem ldI_take (L : List Nat) (k : Nat) : (ldI L).take k = ldI (L.take k) := by simp [ldI, List.map_take]
theorem ldI_drop (L : List Nat) (k : Nat) : (ldI L).drop k = ldI (L.drop k) := by simp [ldI, List.map_drop]
theorem ldI_app (A B : List Nat) : ldI (A ++ B) = ldI A ++ ldI B := by simp [ldI]
theorem ldI_rev (L : List Nat) : (ldI L).reverse = ldI L.reverse := by simp [ldI, List.map_reverse]
def natsL (l : List Int) : List Nat := l.map Int.toNat
theorem natsL_len (l : List Int) : (natsL l).length = l.length := by simp [natsL]
theorem natsL_ldI (L : List Nat) : natsL (ldI L) = L := by
  unfold natsL ldI
  rw [List.map_map]
  exact (List.map_congr_left fun x _ => by simp).trans (List.map_id L)
theorem natsL_rev (l : List Int) : natsL l.reverse = (natsL l).reverse := by simp [natsL, List.map_reverse]
theorem ldI_nats : ∀ {l : List Int}, (∀ x ∈ l, 0 ≤ x) → ldI (natsL l) = l
  | [], _ => rfl
  | x :: r, h => by
    have h1 := h x List.mem_cons_self
    have h2 := ldI_nats (l := r) fun y hy => h y (List.mem_cons_of_mem _ hy)
    show (((x.toNat : Nat) : Int)) :: ldI (natsL r) = x :: r
    rw [h2, Int.toNat_of_nonneg h1]
/-- loads are numbers that count, none of them above 20 -/
theorem loadB_nats {l : List Int} (h : loadB l = true) : ∃ L : List Nat, l = ldI L ∧ L = natsL l ∧ L.length ≤ 7 ∧ ∀ x ∈ L, x ≤ 20 := by
  refine ⟨natsL l, (ldI_nats fun x hx => (loadB_at h hx).1).symm, rfl, by rw [natsL_len]; exact loadB_len h, fun x hx => ?_⟩
  obtain ⟨y, hy, rfl⟩ := List.mem_map.1 hx
  have := loadB_at h hy
  omega
theorem loadB_ldI {L : List Nat} (h1 : L.length ≤ 7) (h2 : ∀ x ∈ L, x ≤ 20) : loadB (ldI L) = true := by
  rw [loadB, Bool.and_eq_true, ldI_len]
  refine ⟨List.all_eq_true.2 fun y hy => ?_, decide_eq_true h1⟩
  obtain ⟨x, hx, rfl⟩ := List.mem_map.1 hy
  have := h2 x hx
  exact decide_eq_true (by omega)
theorem sum_bd {L : List Nat} {b : Nat} (h : ∀ x ∈ L, x ≤ b) : L.sum ≤ b * L.length := by
  induction L with
  | nil => simp
  | cons x r ih =>
    have h1 := h x List.mem_cons_self
    have h2 := ih fun y hy => h y (List.mem_cons_of_mem _ hy)
    rw [List.sum_cons, List.length_cons, Nat.mul_add]; omega
/-- what the five costs are -/
def jcI (l : List Int) : Int := if loadB l then ((joinC (natsL l) : Nat) : Int) else -1
def jtI (l : List Int) : Int := if loadB l && decide (l.length ≤ 5) then ((joinC (natsL l) : Nat) : Int) else -1
def bcI (l : List Int) : Int := if loadB l then ((bsC (natsL l) : Nat) : Int) else -1
def fcI (l : List Int) : Int := if loadB l then ((fcC (natsL l) : Nat) : Int) else -1
def ftI (l : List Int) : Int := if loadB l && decide (l.length ≤ 5) then ((fcC (natsL l) : Nat) : Int) else -1
end Go.Proofs.Ytakpbnkncjddeaa

namespace Go.Proofs.Ytakpbnkncjddeaa
open Go.RowKit

theorem joinC_asc {a b : Nat} {r : List Nat} (h : AscL (a :: b :: r)) : joinC (a :: b :: r) = a + b + joinC ((a + b) :: r) := by
  have e : srtL (a :: b :: r) = a :: b :: r := asc_same (srtL_asc _) h (srtL_perm _)
  show joinA (r.length + 1 + 1) (srtL (a :: b :: r)) = _
  rw [e, joinA]
  rfl
theorem joinC_srt (L : List Nat) : joinC (srtL L) = joinC L := joinC_perm (srtL_perm L)
theorem joinC_most : ∀ (n : Nat) (L : List Nat), L.length ≤ n → joinC L ≤ L.length * L.sum
  | 0, L, h => by
    obtain rfl := List.eq_nil_of_length_eq_zero (Nat.le_zero.1 h)
    exact Nat.zero_le _
  | n + 1, L, h => by
    rcases Nat.lt_or_ge L.length 2 with h2 | h2
    · rw [joinC_small h2]; exact Nat.zero_le _
    · obtain ⟨a, b, r, hp, e⟩ := joinC_two h2
      have hl := hp.length_eq
      have hs := hp.sum_nat
      simp only [List.length_cons, List.sum_cons] at hl hs
      have ih := joinC_most n ((a + b) :: r) (by simp only [List.length_cons]; omega)
      simp only [List.length_cons, List.sum_cons] at ih
      rw [e, hl, hs, Nat.add_mul (r.length + 1) 1]
      rw [show a + b + r.sum = a + (b + r.sum) by omega] at ih
      omega
theorem ascS_pair : ∀ {A : List Int}, AscS A → A.Pairwise (· ≤ ·)
  | [], _ => List.Pairwise.nil
  | _ :: _, h => List.pairwise_cons.2 ⟨h.1, ascS_pair h.2⟩
/-- numbers that count, put in order -/
theorem asc_srt (L : List Nat) : ascA (ldI L) = ldI (srtL L) := by
  have hp := ascA_perm (ldI L)
  have h0 : ∀ x ∈ ascA (ldI L), 0 ≤ x := fun x hx => by
    obtain ⟨y, _, rfl⟩ := List.mem_map.1 (hp.mem_iff.1 hx)
    exact Int.natCast_nonneg _
  have e := ldI_nats h0
  have ha : AscL (natsL (ascA (ldI L))) := List.pairwise_map.2 ((ascS_pair (ascA_sorted (ldI L))).imp fun h => by omega)
  have hq : (natsL (ascA (ldI L))).Perm L := (hp.map Int.toNat).trans (by rw [show (ldI L).map Int.toNat = L from natsL_ldI L])
  rw [← e, asc_same ha (srtL_asc L) (hq.trans (srtL_perm L).symm)]
end Go.Proofs.Ytakpbnkncjddeaa

namespace Go.Proofs.Ytakpbnkncjddeaa
open Go.RowKit

/-- the loads from i up to j -/
def segL (L : List Nat) (i j : Nat) : List Nat := (L.drop i).take (j - i)
theorem segL_len {L : List Nat} {i j : Nat} (hj : j ≤ L.length) : (segL L i j).length = j - i := by
  rw [segL, List.length_take, List.length_drop]; omega
theorem segL_take {L : List Nat} {i j q : Nat} (h : i + q ≤ j) : (segL L i j).take q = segL L i (i + q) := by
  rw [segL, segL, List.take_take, Nat.min_eq_left (by omega), Nat.add_sub_cancel_left]
theorem segL_drop {L : List Nat} {i j q : Nat} : (segL L i j).drop q = segL L (i + q) j := by
  rw [segL, segL, List.drop_take, List.drop_drop, Nat.sub_sub]
theorem segL_all (L : List Nat) : segL L 0 L.length = L := by
  rw [segL, List.drop_zero, Nat.sub_zero, List.take_length]
theorem segL_mem {L : List Nat} {i j x : Nat} (h : x ∈ segL L i j) : x ∈ L := List.mem_of_mem_drop (List.mem_of_mem_take h)
/-- the table once all parts shorter than s are there, and of those as long as s the first i0 -/
def cosM (C : List Nat → Nat) (L : List Nat) (s i0 : Nat) : Nat → Nat → Int := fun i j => if i ≤ j ∧ j ≤ L.length ∧ (j - i < s ∨ (j - i = s ∧ i < i0)) then (C (segL L i j) : Int) else 0
theorem cosM_at {C : List Nat → Nat} {L : List Nat} {s i0 i j : Nat} (h1 : i ≤ j) (h2 : j ≤ L.length) (h3 : j - i < s) : cosM C L s i0 i j = (C (segL L i j) : Int) := if_pos ⟨h1, h2, .inl h3⟩
theorem cosM_zero {C : List Nat → Nat} {L : List Nat} {s : Nat} (h : ∀ w : List Nat, w.length < s → C w = 0) : cosM C L s 0 = fun _ _ => 0 := by
  funext i j
  unfold cosM
  split
  · next c =>
    rw [h _ (by rw [segL_len c.2.1]; omega)]; rfl
  · rfl
theorem cosM_put {C : List Nat → Nat} {L : List Nat} {s i0 : Nat} (h : i0 + s ≤ L.length) : (fun i j => if i = i0 ∧ j = i0 + s then (C (segL L i0 (i0 + s)) : Int) else cosM C L s i0 i j) = cosM C L s (i0 + 1) := by
  funext i j
  by_cases e : i = i0 ∧ j = i0 + s
  · obtain ⟨rfl, rfl⟩ := e
    rw [if_pos ⟨rfl, rfl⟩, cosM, if_pos ⟨by omega, h, .inr ⟨by omega, by omega⟩⟩]
  · rw [if_neg e, cosM, cosM]
    by_cases c : i ≤ j ∧ j ≤ L.length ∧ (j - i < s ∨ (j - i = s ∧ i < i0))
    · rw [if_pos c, if_pos ⟨c.1, c.2.1, c.2.2.imp id fun q => ⟨q.1, by omega⟩⟩]
    · rw [if_neg c, if_neg fun d => c ⟨d.1, d.2.1, d.2.2.imp id fun q => ⟨q.1, by omega⟩⟩]
theorem cosM_next {C : List Nat → Nat} {L : List Nat} {s i0 : Nat} (h : L.length < i0 + s) : cosM C L s i0 = cosM C L (s + 1) 0 := by
  funext i j
  unfold cosM
  by_cases c : i ≤ j ∧ j ≤ L.length ∧ (j - i < s ∨ (j - i = s ∧ i < i0))
  · rw [if_pos c, if_pos ⟨c.1, c.2.1, .inl (by omega)⟩]
  · rw [if_neg c, if_neg fun d => c ⟨d.1, d.2.1, by omega⟩]
/-- what parting costs, the part before k and the part behind it -/
def besQ (w : List Nat) (q : Nat) : Nat := bsC (w.take (q + 1)) + bsC (w.drop (q + 1))
def finQ (w : List Nat) (q : Nat) : Nat := fcC (w.take q) + fcC (w.drop (q + 1))
theorem bsC_byQ {w : List Nat} (h : 2 ≤ w.length) : (bsC w : Int) = leastI ((List.range (w.length - 1)).map (besQ w)) + (w.sum : Int) := by
  have e := bsC_at h
  have hne : (List.range (w.length - 1)).map (besQ w) ≠ [] := by
    intro q
    have := congrArg List.length q
    rw [List.length_map, List.length_range, List.length_nil] at this; omega
  rw [minN_int hne, e]
  show _ = ((minN _ : Nat) : Int) + _
  rw [Int.natCast_add]
  rfl
theorem fcC_byQ {w : List Nat} (h : 1 ≤ w.length) : (fcC w : Int) = leastI ((List.range w.length).map (finQ w)) + (w.sum : Int) := by
  have e := fcC_at (w := w) (by intro q; subst q; simp at h)
  have hne : (List.range w.length).map (finQ w) ≠ [] := by
    intro q
    have := congrArg List.length q
    rw [List.length_map, List.length_range, List.length_nil] at this; omega
  rw [minN_int hne, e]
  show _ = ((minN _ : Nat) : Int) + _
  rw [Int.natCast_add]
  rfl
theorem least_up (f : Nat → Nat) (m : Nat) : leastI ((List.range (m + 1)).map f) = if leastI ((List.range m).map f) < 0 ∨ (f m : Int) < leastI ((List.range m).map f) then (f m : Int) else leastI ((List.range m).map f) := by
  rw [List.range_succ, List.map_append]
  exact leastI_snoc _ _
theorem least_low (L : List Nat) : -1 ≤ leastI L := by
  rcases leastI_spec L with ⟨_, e⟩ | ⟨m, _, e, _⟩ <;> rw [e] <;> omega
theorem least_high {L : List Nat} {b : Nat} (h : ∀ x ∈ L, x ≤ b) : leastI L ≤ b := by
  rcases leastI_spec L with ⟨_, e⟩ | ⟨m, hm, e, _⟩
  · rw [e]; omega
  · rw [e]; have := h m hm; omega
theorem mul_two {a b s t : Nat} (ha : 1 ≤ a) (hb : 1 ≤ b) : a * s + b * t + (s + t) ≤ (a + b) * (s + t) := by
  have h1 : s ≤ b * s := Nat.le_mul_of_pos_left s hb
  have h2 : t ≤ a * t := Nat.le_mul_of_pos_left t ha
  rw [Nat.add_mul, Nat.mul_add, Nat.mul_add]; omega
theorem bsC_most : ∀ (n : Nat) (w : List Nat), w.length ≤ n → bsC w ≤ w.length * w.sum
  | 0, w, h => by
    obtain rfl := List.eq_nil_of_length_eq_zero (Nat.le_zero.1 h)
    rw [bsC_small (by simp)]; exact Nat.zero_le _
  | n + 1, w, h => by
    rcases Nat.lt_or_ge w.length 2 with h2 | h2
    · rw [bsC_small h2]; exact Nat.zero_le _
    · obtain ⟨u, v, rfl, hu, hv, e⟩ := bsC_is h2
      have lu := List.length_pos_iff.2 hu
      have lv := List.length_pos_iff.2 hv
      rw [List.length_append] at h
      have i1 := bsC_most n u (by omega)
      have i2 := bsC_most n v (by omega)
      rw [e, List.length_append, List.sum_append]
      have := mul_two (s := u.sum) (t := v.sum) lu lv
      omega
theorem fcC_most : ∀ (n : Nat) (w : List Nat), w.length ≤ n → fcC w ≤ w.length * w.sum
  | 0, w, h => by
    obtain rfl := List.eq_nil_of_length_eq_zero (Nat.le_zero.1 h)
    rw [fcC_nil]; exact Nat.zero_le _
  | n + 1, w, h => by
    by_cases h0 : w = []
    · subst h0; rw [fcC_nil]; exact Nat.zero_le _
    · obtain ⟨u, x, v, rfl, e⟩ := fcC_is h0
      rw [List.length_append, List.length_cons] at h
      have i1 := fcC_most n u (by omega)
      have i2 := fcC_most n v (by omega)
      rw [e, List.length_append, List.length_cons]
      obtain ⟨S, hS⟩ : ∃ S, S = (u ++ x :: v).sum := ⟨_, rfl⟩
      have su : u.sum ≤ S := by rw [hS, List.sum_append]; omega
      have sv : v.sum ≤ S := by rw [hS, List.sum_append, List.sum_cons]; omega
      rw [← hS]
      have j1 := Nat.mul_le_mul_left u.length su
      have j2 := Nat.mul_le_mul_left v.length sv
      rw [show u.length + (v.length + 1) = u.length + v.length + 1 by omega, Nat.add_mul, Nat.add_mul]; omega
theorem seg_cost {C : List Nat → Nat} (hC : ∀ w : List Nat, C w ≤ w.length * w.sum) {L : List Nat} (h7 : L.length ≤ 7) (h20 : ∀ x ∈ L, x ≤ 20) (i j : Nat) : C (segL L i j) ≤ 980 := by
  have h1 : (segL L i j).length ≤ 7 := by rw [segL, List.length_take, List.length_drop]; omega
  have h2 : (segL L i j).sum ≤ 20 * (segL L i j).length := sum_bd fun x hx => h20 x (segL_mem hx)
  have h3 := hC (segL L i j)
  have h4 : (segL L i j).length * (segL L i j).sum ≤ 7 * (20 * 7) := Nat.mul_le_mul h1 (Nat.le_trans h2 (Nat.mul_le_mul_left _ h1))
  omega
end Go.Proofs.Ytakpbnkncjddeaa

namespace Go.Proofs.Ytakpbnkncjddeaa
open Go.RowKit

/-- all but i and k, of the first j -/
def rstM (L : List Nat) (i k j : Nat) : List Nat := (((List.range j).filter (· != i)).filter (· != k)).map fun t => L.getD t 0
def rstN (L : List Nat) (i k : Nat) : List Nat := rstM L i k L.length
theorem rstM_skip {L : List Nat} {i k j : Nat} (h : j = i ∨ j = k) : rstM L i k (j + 1) = rstM L i k j := by
  unfold rstM
  rw [List.range_succ, List.filter_append, List.filter_append]
  have e : ([j].filter (· != i)).filter (· != k) = [] := by
    rcases h with rfl | rfl
    · simp
    · by_cases q : j = i
      · subst q; simp
      · simp [q]
  rw [e, List.append_nil]
theorem rstM_take {L : List Nat} {i k j : Nat} (h1 : j ≠ i) (h2 : j ≠ k) : rstM L i k (j + 1) = rstM L i k j ++ [L.getD j 0] := by
  unfold rstM
  rw [List.range_succ, List.filter_append, List.filter_append, List.map_append]
  have e : ([j].filter (· != i)).filter (· != k) = [j] := by simp [h1, h2]
  rw [e]; rfl
/-- what a pair joined first costs -/
def pjQ (L : List Nat) (i k : Nat) : Nat := L.getD i 0 + L.getD k 0 + joinC ((L.getD i 0 + L.getD k 0) :: rstN L i k)
theorem rst_swap (L : List Nat) (i k : Nat) : rstN L i k = rstN L k i := by
  unfold rstN rstM
  rw [List.filter_filter, List.filter_filter]
  congr 1
  refine List.filter_congr fun t _ => ?_
  exact Bool.and_comm _ _
theorem pj_swap (L : List Nat) (i k : Nat) : pjQ L i k = pjQ L k i := by
  unfold pjQ; rw [rst_swap, Nat.add_comm (L.getD i 0)]
theorem map_getD (L : List Nat) : (List.range L.length).map (fun t => L.getD t 0) = L := by
  apply List.ext_getElem
  · simp
  · intro i h1 h2
    simp [List.getElem?_eq_getElem h2]
theorem one_out {X : List Nat} (hX : X.Nodup) {i : Nat} (hi : i ∈ X) : X.Perm (i :: X.filter (· != i)) := by
  rw [← hX.erase_eq_filter]
  exact List.perm_cons_erase hi
theorem two_out {n i k : Nat} (hi : i < n) (hk : k < n) (hne : k ≠ i) : (List.range n).Perm (i :: k :: ((List.range n).filter (· != i)).filter (· != k)) :=
  (one_out List.nodup_range (List.mem_range.2 hi)).trans ((one_out (List.nodup_range.sublist List.filter_sublist) (List.mem_filter.2 ⟨List.mem_range.2 hk, by simpa using hne⟩)).cons i)
theorem rst_perm {L : List Nat} {i k : Nat} (hi : i < L.length) (hk : k < L.length) (hne : k ≠ i) : L.Perm (L.getD i 0 :: L.getD k 0 :: rstN L i k) := by
  have h := (two_out hi hk hne).map fun t => L.getD t 0
  rw [map_getD] at h
  exact h
theorem rst_len {L : List Nat} {i k : Nat} (hi : i < L.length) (hk : k < L.length) (hne : k ≠ i) : (rstN L i k).length + 2 = L.length := by
  have := (rst_perm hi hk hne).length_eq
  simp only [List.length_cons] at this; omega
theorem pair_there {L : List Nat} (h : 2 ≤ L.length) : ∃ i k, k < i ∧ i < L.length ∧ pjQ L i k = joinC L := by
  obtain ⟨a, b, r, hp, e⟩ := joinC_two h
  have ha : a ∈ L := hp.mem_iff.2 List.mem_cons_self
  obtain ⟨i, hi, rfl⟩ := List.mem_iff_getElem.1 ha
  have gi : L.getD i 0 = L[i] := by simp [List.getElem?_eq_getElem hi]
  have P1 := (one_out (List.nodup_range (n := L.length)) (List.mem_range.2 hi)).map fun t => L.getD t 0
  rw [map_getD, List.map_cons, gi] at P1
  have P2 := (hp.symm.trans P1).cons_inv
  obtain ⟨k, hk, gk⟩ := List.mem_map.1 (P2.mem_iff.1 List.mem_cons_self)
  obtain ⟨hk1, hk2⟩ := List.mem_filter.1 hk
  have hkn := List.mem_range.1 hk1
  have hne : k ≠ i := by simpa using hk2
  have P3 := (rst_perm hi hkn hne)
  rw [gi, gk] at P3
  have P4 := (hp.symm.trans P3).cons_inv.cons_inv
  have E : pjQ L i k = joinC L := by
    unfold pjQ
    rw [gi, gk, e, joinC_perm (P4.cons (L[i] + b))]
  rcases Nat.lt_or_gt_of_ne hne with hlt | hlt
  · exact ⟨i, k, hlt, hi, E⟩
  · exact ⟨k, i, hlt, hkn, by rw [pj_swap]; exact E⟩
/-- the pairs in the order of the code: those of the first i, then the first k of i's -/
def prP (L : List Nat) (i k : Nat) : List Nat := ((List.range i).flatMap fun q => (List.range q).map (pjQ L q)) ++ (List.range k).map (pjQ L i)
theorem prP_next (L : List Nat) (i : Nat) : prP L (i + 1) 0 = prP L i i := by
  unfold prP
  rw [List.range_succ, List.flatMap_append]
  simp
theorem prP_up (L : List Nat) (i k : Nat) : leastI (prP L i (k + 1)) = if leastI (prP L i k) < 0 ∨ (pjQ L i k : Int) < leastI (prP L i k) then (pjQ L i k : Int) else leastI (prP L i k) := by
  have e : prP L i (k + 1) = prP L i k ++ [pjQ L i k] := by
    unfold prP
    rw [List.range_succ, List.map_append, List.append_assoc]; rfl
  rw [e]
  exact leastI_snoc _ _
theorem prP_mem {L : List Nat} {i x : Nat} (h : x ∈ prP L i 0) : ∃ q k, k < q ∧ q < i ∧ x = pjQ L q k := by
  unfold prP at h
  rw [List.range_zero, List.map_nil, List.append_nil] at h
  obtain ⟨q, hq, h2⟩ := List.mem_flatMap.1 h
  obtain ⟨k, hk, rfl⟩ := List.mem_map.1 h2
  exact ⟨q, k, List.mem_range.1 hk, List.mem_range.1 hq, rfl⟩
theorem prP_in {L : List Nat} {i q k : Nat} (hk : k < q) (hq : q < i) : pjQ L q k ∈ prP L i 0 := by
  unfold prP
  exact List.mem_append_left _ (List.mem_flatMap.2 ⟨q, List.mem_range.2 hq, List.mem_map.2 ⟨k, List.mem_range.2 hk, rfl⟩⟩)
theorem pair_le {L : List Nat} {i k : Nat} (hi : i < L.length) (hk : k < L.length) (hne : k ≠ i) : joinC L ≤ pjQ L i k := by
  have h1 : Mrg ((L.getD i 0 + L.getD k 0) :: rstN L i k) (joinC ((L.getD i 0 + L.getD k 0) :: rstN L i k)) := Mrg.joinC (by simp)
  exact (Mrg.join L _ _ _ _ (rst_perm hi hk hne) h1).least
/-- the least of all pairs -/
theorem pairs_least {L : List Nat} (h : 2 ≤ L.length) : leastI (prP L L.length 0) = (joinC L : Int) := by
  obtain ⟨i, k, hk, hi, e⟩ := pair_there h
  refine leastI_is (by rw [← e]; exact prP_in hk hi) fun x hx => ?_
  obtain ⟨q, t, ht, hq, rfl⟩ := prP_mem hx
  exact pair_le hq (by omega) (by omega)
theorem rst_sum {L : List Nat} {i k : Nat} (hi : i < L.length) (hk : k < L.length) (hne : k ≠ i) : ((L.getD i 0 + L.getD k 0) :: rstN L i k).sum = L.sum := by
  have := (rst_perm hi hk hne).sum_nat
  simp only [List.sum_cons] at this ⊢
  omega
theorem pj_bd {L : List Nat} (h5 : L.length ≤ 5) (hs : L.sum ≤ 200) {i k : Nat} (hi : i < L.length) (hk : k < L.length) (hne : k ≠ i) : pjQ L i k ≤ 1200 ∧ joinC ((L.getD i 0 + L.getD k 0) :: rstN L i k) ≤ 1000 ∧ L.getD i 0 + L.getD k 0 ≤ 200 := by
  have e := rst_sum hi hk hne
  have l := rst_len hi hk hne
  have m := joinC_most _ ((L.getD i 0 + L.getD k 0) :: rstN L i k) (Nat.le_refl _)
  rw [e, List.length_cons] at m
  have m2 : ((rstN L i k).length + 1) * L.sum ≤ 5 * 200 := Nat.mul_le_mul (by omega) hs
  rw [List.sum_cons] at e
  unfold pjQ
  omega
end Go.Proofs.Ytakpbnkncjddeaa

namespace Go.Proofs.Ytakpbnkncjddeaa
open Go.RowKit

/-- the least of numbers, as the library has it -/
theorem minOf_mem : ∀ (n : Nat) (zs : List Int), zs.length = n + 1 → Lib.minOf zs ∈ zs ∧ ∀ x ∈ zs, Lib.minOf zs ≤ x := by
  intro n
  induction n with
  | zero =>
    intro zs h
    obtain ⟨z, rfl⟩ := List.length_eq_one_iff.1 h
    simp [Lib.minOf]
  | succ n ih =>
    intro zs h
    have hne : zs ≠ [] := fun e => by rw [e] at h; simp at h
    obtain ⟨M, c, rfl⟩ : ∃ M c, zs = M ++ [c] := ⟨zs.dropLast, zs.getLast hne, (List.dropLast_concat_getLast hne).symm⟩
    have hM : M.length = n + 1 := by simpa using h
    obtain ⟨i1, i2⟩ := ih M hM
    have e : Lib.minOf (M ++ [c]) = min (Lib.minOf M) c := by
      have := Lib.minOf_step (M ++ [c]) M.length (by omega) (by simp)
      rw [List.take_of_length_le (by simp), List.take_left] at this
      rw [this]; congr 1; simp
    rw [e]
    constructor
    · rcases Int.le_total (Lib.minOf M) c with q | q
      · rw [Int.min_eq_left q]; exact List.mem_append_left _ i1
      · rw [Int.min_eq_right q]; simp
    · intro x hx
      rcases List.mem_append.1 hx with hx | hx
      · have := i2 x hx; omega
      · rw [List.mem_singleton] at hx; omega
theorem minOf_ldI {L : List Nat} {m : Nat} (hm : m ∈ L) (hle : ∀ x ∈ L, m ≤ x) : Lib.minOf (ldI L) = (m : Int) := by
  have hl : (ldI L).length = (L.length - 1) + 1 := by
    have := List.length_pos_of_mem hm
    rw [ldI_len]; omega
  obtain ⟨h1, h2⟩ := minOf_mem _ _ hl
  obtain ⟨x, hx, e⟩ := List.mem_map.1 h1
  have a := hle x hx
  have b := h2 (m : Int) (List.mem_map.2 ⟨m, hm, rfl⟩)
  rw [← e] at b ⊢
  omega
theorem minOf_minN {L : List Nat} (h : L ≠ []) : Lib.minOf (ldI L) = (minN L : Int) := minOf_ldI (minN_mem h).1 (minN_mem h).2
theorem ldI_snoc (L : List Nat) (x : Nat) : ldI (L ++ [x]) = ldI L ++ [(x : Int)] := by simp [ldI]

/-! ### a pile -/
def cutL (L : List Nat) (k : Nat) : List Nat := L.take k ++ L.drop (k + 1)
theorem cut_len {L : List Nat} {k : Nat} (h : k < L.length) : (cutL L k).length + 1 = L.length := by
  rw [cutL, List.length_append, List.length_take, List.length_drop]; omega
theorem cut_perm {L : List Nat} {k : Nat} (h : k < L.length) : L.Perm (L.getD k 0 :: cutL L k) := by
  have e : L = L.take k ++ L.getD k 0 :: L.drop (k + 1) := by
    have : L.getD k 0 = L[k] := by simp [List.getElem?_eq_getElem h]
    rw [this, List.getElem_cons_drop, List.take_append_drop]
  exact (List.Perm.of_eq e).trans List.perm_middle
theorem cut_at {L : List Nat} {k j : Nat} (h : j < k) : (cutL L k).getD j 0 = L.getD j 0 := by
  rw [cutL, List.getD_eq_getElem?_getD, List.getD_eq_getElem?_getD]
  by_cases hj : j < L.length
  · rw [List.getElem?_append_left (by rw [List.length_take]; omega), List.getElem?_take_of_lt h]
  · rw [List.getElem?_eq_none (by rw [List.length_append, List.length_take, List.length_drop]; omega), List.getElem?_eq_none (by omega)]
/-- what is left when two are joined -/
def aftL (L : List Nat) (i k : Nat) : List Nat := cutL (cutL L i) k ++ [L.getD i 0 + L.getD k 0]
theorem aft_len {L : List Nat} {i k : Nat} (hk : k < i) (hi : i < L.length) : (aftL L i k).length + 1 = L.length := by
  have h1 := cut_len hi
  have h2 := cut_len (L := cutL L i) (k := k) (by omega)
  rw [aftL, List.length_append, List.length_singleton]; omega
theorem aft_perm {L : List Nat} {i k : Nat} (hk : k < i) (hi : i < L.length) : (aftL L i k).Perm ((L.getD i 0 + L.getD k 0) :: rstN L i k) := by
  have h1 := cut_len hi
  have p1 := cut_perm hi
  have p2 := cut_perm (L := cutL L i) (k := k) (by omega)
  rw [cut_at hk] at p2
  have p3 := rst_perm hi (by omega : k < L.length) (by omega)
  have p4 := ((p2.cons (L.getD i 0)).symm.trans (p1.symm.trans p3)).cons_inv.cons_inv
  exact List.perm_append_comm.trans (p4.cons _)
theorem pj_aft {L : List Nat} {i k : Nat} (hk : k < i) (hi : i < L.length) : pjQ L i k = L.getD i 0 + L.getD k 0 + joinC (aftL L i k) := by
  rw [pjQ, joinC_perm (aft_perm hk hi)]
theorem aft_sum {L : List Nat} {i k : Nat} (hk : k < i) (hi : i < L.length) : (aftL L i k).sum = L.sum := by
  rw [(aft_perm hk hi).sum_nat, rst_sum hi (by omega) (by omega)]
theorem prP_more (L : List Nat) (i k : Nat) : prP L i (k + 1) = prP L i k ++ [pjQ L i k] := by
  unfold prP
  rw [List.range_succ, List.map_append, List.append_assoc]; rfl
theorem prP_nil (L : List Nat) : prP L 0 0 = [] := rfl
theorem prP_min {L : List Nat} (h : 2 ≤ L.length) : Lib.minOf (ldI (prP L L.length 0)) = (joinC L : Int) := by
  obtain ⟨i, k, hk, hi, e⟩ := pair_there h
  refine minOf_ldI (by rw [← e]; exact prP_in hk hi) fun x hx => ?_
  obtain ⟨q, t, ht, hq, rfl⟩ := prP_mem hx
  exact pair_le hq (by omega) (by omega)
theorem prP_len_le (L : List Nat) : ∀ (i k : Nat), (prP L i k).length ≤ i * i + k := by
  intro i
  induction i with
  | zero => intro k; simp [prP]
  | succ i ih =>
    intro k
    have h1 : (prP L (i + 1) k).length = (prP L (i + 1) 0).length + k := by simp [prP]
    rw [h1, prP_next]
    have := ih i
    have : (i + 1) * (i + 1) = i * i + i + (i + 1) := by rw [Nat.add_mul, Nat.mul_add]; omega
    omega

/-! ### parts -/
def bsQ (L : List Nat) (k : Nat) : Nat := bsC (L.take (k + 1)) + bsC (L.drop (k + 1))
def bsR (L : List Nat) (k : Nat) : List Nat := (List.range k).map (bsQ L)
theorem bsR_more (L : List Nat) (k : Nat) : bsR L (k + 1) = bsR L k ++ [bsQ L k] := by rw [bsR, List.range_succ, List.map_append]; rfl
theorem bsR_len (L : List Nat) (k : Nat) : (bsR L k).length = k := by simp [bsR]
theorem bsR_min {L : List Nat} (h : 2 ≤ L.length) : Lib.minOf (ldI (bsR L (L.length - 1))) + (L.sum : Int) = (bsC L : Int) := by
  rw [minOf_minN (by intro e; have := congrArg List.length e; rw [bsR_len, List.length_nil] at this; omega), bsC_at h]
  exact (Int.natCast_add _ _).symm
def fcQ (L : List Nat) (k : Nat) : Nat := fcC (L.take k) + fcC (L.drop (k + 1))
def fcR (L : List Nat) (k : Nat) : List Nat := (List.range k).map (fcQ L)
theorem fcR_more (L : List Nat) (k : Nat) : fcR L (k + 1) = fcR L k ++ [fcQ L k] := by rw [fcR, List.range_succ, List.map_append]; rfl
theorem fcR_len (L : List Nat) (k : Nat) : (fcR L k).length = k := by simp [fcR]
theorem fcR_min {L : List Nat} (h : L ≠ []) : Lib.minOf (ldI (fcR L L.length)) + (L.sum : Int) = (fcC L : Int) := by
  have := List.length_pos_iff.2 h
  rw [minOf_minN (by intro e; have := congrArg List.length e; rw [fcR_len, List.length_nil] at this; omega), fcC_at h]
  exact (Int.natCast_add _ _).symm

/-! ### steps -/
def stI : Tw → Nat → List Nat
  | .e, _ => []
  | .n a b, d => stI a (d + 1) ++ d :: stI b (d + 1)
theorem stI_len : ∀ (t : Tw) (d : Nat), (stI t d).length = t.size
  | .e, _ => rfl
  | .n a b, d => by rw [stI, List.length_append, List.length_cons, stI_len a, stI_len b]; show _ = a.size + 1 + b.size; omega
theorem stI_le : ∀ (t : Tw) (d : Nat), ∀ x ∈ stI t d, x ≤ d + t.size
  | .e, _, _, h => by cases h
  | .n a b, d, x, h => by
    have sz : (Tw.n a b).size = a.size + 1 + b.size := rfl
    rw [stI] at h
    rcases List.mem_append.1 h with h | h
    · have := stI_le a (d + 1) x h; omega
    · rcases List.mem_cons.1 h with h | h
      · omega
      · have := stI_le b (d + 1) x h; omega
def dotN : List Nat → List Nat → Nat
  | x :: s, y :: l => x * y + dotN s l
  | [], _ => 0
  | _ :: _, [] => 0
theorem dot_app : ∀ (s l s' l' : List Nat), s.length = l.length → dotN (s ++ s') (l ++ l') = dotN s l + dotN s' l'
  | [], [], _, _, _ => (Nat.zero_add _).symm
  | x :: s, y :: l, s', l', h => by
    have := dot_app s l s' l' (by simpa using h)
    show x * y + dotN (s ++ s') (l ++ l') = x * y + dotN s l + dotN s' l'
    rw [this]; omega
  | [], _ :: _, _, _, h => by simp at h
  | _ :: _, [], _, _, h => by simp at h
theorem dot_fb : ∀ (t : Tw) (L : List Nat) (d : Nat), L.length = t.size → dotN (stI t d) L = fbT t L d
  | .e, _, _, _ => rfl
  | .n a b, L, d, h => by
    obtain ⟨u, x, v, rfl, h1, h2, h3, h4, h5⟩ := tw_parts h
    rw [fbT, h3, h4, h5, stI, dot_app _ _ _ _ (by rw [stI_len, h1]), dot_fb a u (d + 1) h1]
    show _ + (d * x + dotN (stI b (d + 1)) v) = _
    rw [dot_fb b v (d + 1) h2]; omega
theorem dot_step : ∀ (k : Nat) (s l : List Nat), k < s.length → k < l.length → dotN (s.take (k + 1)) l = dotN (s.take k) l + s.getD k 0 * l.getD k 0
  | 0, x :: s, y :: l, _, _ => by simp [dotN]
  | k + 1, x :: s, y :: l, h1, h2 => by
    have := dot_step k s l (by simpa using h1) (by simpa using h2)
    show x * y + dotN (s.take (k + 1)) l = x * y + dotN (s.take k) l + _
    rw [this]
    simp
    omega
  | _, [], _, h, _ => by simp at h
  | _, _ :: _, [], _, h => by simp at h
theorem dot_le : ∀ (k : Nat) (s l : List Nat), dotN (s.take k) l ≤ dotN s l
  | 0, _, _ => Nat.zero_le _
  | _ + 1, [], _ => Nat.le_refl _
  | _ + 1, _ :: _, [] => Nat.le_refl _
  | k + 1, _ :: s, _ :: l => Nat.add_le_add_left (dot_le k s l) _
end Go.Proofs.Ytakpbnkncjddeaa

namespace Go.Proofs.Ytakpbnkncjddeaa
open Go.RowKit

def fbB : Nat → List UInt8 → List Nat → Nat → Nat
  | 0, _, _, _ => 0
  | f + 1, s, L, d => if s = [] then 0 else d * L.getD ((fstL s).length / 2) 0 + fbB f (fstL s) (L.take ((fstL s).length / 2)) (d + 1) + fbB f (rstL s) (L.drop ((fstL s).length / 2 + 1)) (d + 1)
theorem fbB_lst : ∀ (t : Tw) (f : Nat) (L : List Nat) (d : Nat), t.size ≤ f → fbB f t.lst L d = fbT t L d := by
  intro t
  induction t with
  | e => intro f L d _; cases f <;> rfl
  | n a b iha ihb =>
    intro f L d h
    have sz : (Tw.n a b).size = a.size + 1 + b.size := rfl
    cases f with
    | zero => omega
    | succ f => rw [fbB, if_neg (Tw.lst_ne a b), Tw.fst_lst, Tw.rst_lst, Tw.half_lst, iha f _ _ (by omega), ihb f _ _ (by omega), fbT]
/-- what a word costs -/
def fbW (s : List UInt8) (L : List Nat) : Nat := fbB 20 s L 1
theorem fbW_lst {t : Tw} (h : t.size ≤ 20) (L : List Nat) : fbW t.lst L = fbT t L 1 := fbB_lst t 20 L 1 h
theorem tree_ofP {l : List UInt8} (hv : valid l = true) : ∃ t : Tw, t.lst = l ∧ t.size ≤ 9 := by
  obtain ⟨t, ht⟩ := Tw.of_word l.length l (Nat.le_refl _) (valid_scan hv).1
  refine ⟨t, ht, ?_⟩
  have h1 := Tw.lst_length t
  have h2 := (valid_scan hv).2
  rw [ht] at h1
  omega
/-- what FindBy answers -/
def fbI (l : List Int) (s : List UInt8) : Int := if loadB l = true ∧ valid s = true ∧ s.length = 2 * l.length then ((fbW s (natsL l) : Nat) : Int) else -1
theorem fbI_no {l : List Int} {s : List UInt8} (h : ¬ (loadB l = true ∧ valid s = true ∧ s.length = 2 * l.length)) : fbI l s = -1 := if_neg h
theorem fbI_yes {L : List Nat} {s : List UInt8} (h7 : L.length ≤ 7) (h20 : ∀ x ∈ L, x ≤ 20) (hv : valid s = true) (hl : s.length = 2 * L.length) : fbI (ldI L) s = ((fbW s L : Nat) : Int) := by
  rw [fbI, if_pos ⟨loadB_ldI h7 h20, hv, by rw [ldI_len]; exact hl⟩, natsL_ldI]
theorem fbW_most {L : List Nat} {s : List UInt8} (hv : valid s = true) (hl : s.length = 2 * L.length) : fbW s L ≤ L.length * L.sum := by
  obtain ⟨t, rfl, h9⟩ := tree_ofP hv
  rw [Tw.lst_length] at hl
  rw [fbW_lst (by omega)]
  exact fbT_most t L (by omega)
theorem fbW_least {L : List Nat} {s : List UInt8} (hv : valid s = true) (hl : s.length = 2 * L.length) : fcC L ≤ fbW s L := by
  obtain ⟨t, rfl, h9⟩ := tree_ofP hv
  rw [Tw.lst_length] at hl
  rw [fbW_lst (by omega)]
  exact fbT_least t L (by omega)
theorem words_fineP : ∀ q, q ≤ 5 → (wordsL (2 * q) [] 0 q).all (fun s => valid s && decide (s.length = 2 * q)) = true := by decide +kernel
theorem word_fineP {q : Nat} (hq : q ≤ 5) {s : List UInt8} (h : s ∈ wordsL (2 * q) [] 0 q) : valid s = true ∧ s.length = 2 * q := by
  have := List.all_eq_true.1 (words_fineP q hq) s h
  rwa [Bool.and_eq_true, decide_eq_true_eq] at this
theorem words_fewP : ∀ q, q ≤ 5 → 0 < (wordsL (2 * q) [] 0 q).length ∧ (wordsL (2 * q) [] 0 q).length ≤ 42 := by decide +kernel
theorem word_there (t : Tw) : t.lst ∈ wordsL (2 * t.size) [] 0 t.size := by
  have := wordsL_mem t.lst [] (2 * t.size) 0 t.size (Tw.lst_scan t) (Tw.lst_length t) (by omega)
  rwa [List.nil_append] at this
/-- what all words of as many pairs cost -/
def fbAll (L : List Nat) : List Nat := (wordsL (2 * L.length) [] 0 L.length).map fun s => fbW s L
theorem fbAll_least {L : List Nat} (h5 : L.length ≤ 5) : fcC L ∈ fbAll L ∧ ∀ x ∈ fbAll L, fcC L ≤ x := by
  constructor
  · obtain ⟨t, ht, e⟩ := fbT_there L.length L (Nat.le_refl _)
    refine List.mem_map.2 ⟨t.lst, ?_, by rw [fbW_lst (by omega), e]⟩
    rw [← ht]; exact word_there t
  · intro x hx
    obtain ⟨s, hs, rfl⟩ := List.mem_map.1 hx
    obtain ⟨hv, hl⟩ := word_fineP h5 hs
    exact fbW_least hv hl
theorem fbAll_min {L : List Nat} (h5 : L.length ≤ 5) : Lib.minOf (ldI (fbAll L)) = (fcC L : Int) := minOf_ldI (fbAll_least h5).1 (fbAll_least h5).2
theorem fbAll_leastI {L : List Nat} (h5 : L.length ≤ 5) : leastI (fbAll L) = (fcC L : Int) := leastI_is (fbAll_least h5).1 (fbAll_least h5).2
theorem fbAll_take (L : List Nat) (k : Nat) (h : k < (wordsL (2 * L.length) [] 0 L.length).length) : (fbAll L).take (k + 1) = (fbAll L).take k ++ [fbW (wordsL (2 * L.length) [] 0 L.length)[k] L] := by
  rw [List.take_succ_eq_append_getElem (by rw [fbAll, List.length_map]; exact h)]
  simp [fbAll]
end Go.Proofs.Ytakpbnkncjddeaa
