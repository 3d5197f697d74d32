/-
  What holds of a mirrored word's parents, in the form in which the statement wants it.
-/
import Derived.Test.YtpphilladlladaaWFactsH
import Derived.Test.YtpphilladlladaaCPlace
import Derived.Test.YtpphilladlladaaCStackI
namespace Go.Proofs.Ytpphilladlladaa
open Go.RowKit

def topN (r : List Nat) : Nat := match r.getLast? with | none => 0 | some k => k + 1
theorem lastOr_topN (r : List Nat) : lastOr r = (topN r : Int) - 1 := by
  unfold lastOr topN
  cases r.getLast? with
  | none => rfl
  | some k => simp
theorem head_top (O : List Nat) : (O.map (· + 1)).reverse.headD 0 = topN O := by
  rw [List.headD_eq_head?_getD, List.head?_reverse, List.getLast?_map]
  unfold topN
  cases O.getLast? with
  | none => rfl
  | some k => rfl
theorem parN_fold : ∀ (l : List UInt8) (R : List (List Nat)) (O : List Nat), (l.foldl stepPN (R.map topN, (O.map (· + 1)).reverse)).1 = ((l.foldl stepOP (R, O)).1).map topN := by
  intro l
  induction l with
  | nil => intro R O; rfl
  | cons c r ih =>
    intro R O
    rw [List.foldl_cons, List.foldl_cons]
    by_cases hc : c.toNat = 41
    · have e1 : stepPN (R.map topN, (O.map (· + 1)).reverse) c = (R.map topN, (O.dropLast.map (· + 1)).reverse) := by
        rw [stepPN, if_pos hc, List.map_dropLast, List.tail_reverse]
      have e2 : stepOP (R, O) c = (R, O.dropLast) := by rw [stepOP, if_pos hc]
      rw [e1, e2]
      exact ih R O.dropLast
    · have e1 : stepPN (R.map topN, (O.map (· + 1)).reverse) c = ((R ++ [O]).map topN, ((O ++ [R.length]).map (· + 1)).reverse) := by
        rw [stepPN, if_neg hc]
        simp only [head_top, List.map_append, List.map_cons, List.map_nil, List.length_map, List.reverse_append, List.reverse_cons, List.reverse_nil, List.nil_append, List.singleton_append]
      have e2 : stepOP (R, O) c = (R ++ [O], O ++ [R.length]) := by rw [stepOP, if_neg hc]
      rw [e1, e2]
      exact ih _ _
theorem parN_spec (l : List UInt8) : parentsL l = (parN l).map fun (k : Nat) => (k : Int) - 1 := by
  have h := parN_fold l [] []
  have e : parN l = ((openP l).1).map topN := h
  rw [e, parentsL, List.map_map]
  apply List.map_congr_left
  intro r _
  exact lastOr_topN r
theorem place_nat (a : List Nat) (x : Nat) (h : a.findIdx (· == x) < a.length) : placeL (a.map fun (k : Nat) => (k : Int)) (x : Int) = (a.findIdx (· == x) : Nat) := by
  have e : (a.map fun (k : Nat) => (k : Int)).findIdx (· == (x : Int)) = a.findIdx (· == x) := by
    rw [List.findIdx_map]
    congr 1
    funext k
    simp only [Function.comp_apply]
    by_cases hk : k = x
    · subst hk; simp
    · have h1 : ((k : Int) == (x : Int)) = false := beq_eq_false_iff_ne.mpr (by omega)
      have h2 : (k == x) = false := beq_eq_false_iff_ne.mpr hk
      rw [h1, h2]
  rw [placeL, e, if_pos (by rw [List.length_map]; exact h)]
/-- node v's mirrored parent -/
def MirAt (n : Nat) (a p q : List Int) (v : Nat) : Prop :=
  ∃ k : Nat, k < n ∧ placeL a (v : Int) = k ∧ ((p[v]? = some (-1) ∧ q[n - 1 - k]? = some (-1)) ∨ ∃ y j : Nat, j < n ∧ p[v]? = some (y : Int) ∧ placeL a (y : Int) = j ∧ q[n - 1 - k]? = some (((n - 1 - j : Nat)) : Int))
theorem mir_facts {l : List UInt8} (h : valid l = true) : valid (mirrorL l) = true ∧ (parentsL l).length = l.length / 2 ∧ (parentsL (mirrorL l)).length = l.length / 2 ∧ (stackL l).length = l.length / 2 ∧
    ∀ v, v < l.length / 2 → MirAt (l.length / 2) (stackL l) (parentsL l) (parentsL (mirrorL l)) v := by
  have g := mir_good l h
  unfold mirGood mirOk at g
  simp only [Bool.and_eq_true] at g
  obtain ⟨g0, ⟨⟨g1, g2⟩, g3⟩, g4⟩ := g
  have g1 := eq_of_beq g1
  have g2 := eq_of_beq g2
  have g3 := eq_of_beq g3
  have es : stackL l = (stackF l).2.1.map fun (k : Nat) => (k : Int) := rfl
  obtain ⟨a, ha⟩ : ∃ a, a = (stackF l).2.1 := ⟨_, rfl⟩
  obtain ⟨p, hp⟩ : ∃ p, p = parN l := ⟨_, rfl⟩
  obtain ⟨q, hq⟩ : ∃ q, q = parN (mirrorL l) := ⟨_, rfl⟩
  rw [parN_spec l, parN_spec (mirrorL l), es, List.length_map, List.length_map, List.length_map]
  rw [← ha] at g3 g4 ⊢
  rw [← hp] at g1 g4 ⊢
  rw [← hq] at g2 g4 ⊢
  refine ⟨g0, g1, g2, g3, fun v hv => ?_⟩
  have hx := List.all_eq_true.1 g4 v (List.mem_range.2 hv)
  rw [Bool.and_eq_true] at hx
  obtain ⟨x1, x2⟩ := hx
  have x1 := of_decide_eq_true x1
  obtain ⟨k, hk⟩ : ∃ k, k = a.findIdx (· == v) := ⟨_, rfl⟩
  have pv : p.getD v 0 = p[v]'(by omega) := by rw [List.getD_eq_getElem?_getD, List.getElem?_eq_getElem (by omega)]; rfl
  have pl := place_nat a v (by rw [g3]; exact x1)
  rw [← hk] at x1 x2 pl
  have qk : q.getD (l.length / 2 - 1 - k) 0 = q[l.length / 2 - 1 - k]'(by omega) := by rw [List.getD_eq_getElem?_getD, List.getElem?_eq_getElem (by omega)]; rfl
  refine ⟨k, x1, pl, ?_⟩
  rw [List.getElem?_map, List.getElem?_map, List.getElem?_eq_getElem (show v < p.length by omega), List.getElem?_eq_getElem (show l.length / 2 - 1 - k < q.length by omega), ← pv, ← qk]
  cases hpv : p.getD v 0 with
  | zero =>
    rw [hpv] at x2
    have x2 := eq_of_beq x2
    rw [x2]
    exact .inl ⟨rfl, rfl⟩
  | succ y =>
    rw [hpv] at x2
    simp only [Bool.and_eq_true] at x2
    have y1 := of_decide_eq_true x2.1
    have y2 := eq_of_beq x2.2
    have pl2 := place_nat a y (by rw [g3]; exact y1)
    obtain ⟨j, hj⟩ : ∃ j, j = a.findIdx (· == y) := ⟨_, rfl⟩
    rw [← hj] at y1 y2 pl2
    rw [y2]
    refine .inr ⟨y, j, y1, by simp, pl2, ?_⟩
    simp only [Option.map_some, Option.some.injEq]
    omega
end Go.Proofs.Ytpphilladlladaa
