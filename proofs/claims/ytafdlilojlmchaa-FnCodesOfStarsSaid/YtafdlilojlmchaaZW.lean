/-
  Words on slices that a call itself makes: where they lie, and what keeps them.
  Words on lists of numbers in the call's own memory.
  Words on lists of rows of numbers in the call's own memory.
  Plain facts on trees of edges and their codes: a tree is peeled leaf by leaf, and built back. Nothing of the program is named here.
  Plain facts on trees of edges whose rows ascend: what is a tree, its code, and the tree of a code. Nothing of the program is named here.
  Plain facts: the nodes that are reached, found one behind the other; rows of numbers that are a tree. Nothing of the program is named here.
  Plain facts: the nodes beside a node, the branches of a tree, how far they reach, the nodes in them. Nothing of the program is named here.
  Plain facts: how many nodes a tree has seen from a node, the longest ways, and its centers: one, or two beside each other. Nothing of the program is named here.
  Plain facts for weights of trees: what is found node by node of the branches; most nodes alone and most pairs are together all nodes. Nothing of the program is named here.
  Plain facts for weights of trees: sets of nodes alone, pairs and watchers of a branch are there. Nothing of the program is named here.
  Plain facts for weights of trees: ways between nodes, their sum, and the same sum edge by edge. Nothing of the program is named here.
  Plain facts for weights of trees: what a node's search knows after some of the nodes beside it, and how great it is. Nothing of the program is named here.
  Plain facts for weights of trees: how far nodes are from each other, both ways; all ways together. Nothing of the program is named here.
  Plain facts for weights of trees: a search from a node meets each node as far away as it is. Nothing of the program is named here.
  Plain facts for weights of trees: an edge left out parts the nodes; ways by edges are ways; how great their sum is. Nothing of the program is named here.
  Plain facts for weights of trees: sets of nodes counted one by one, as parts of a list and as bits of numbers. Nothing of the program is named here.
  Plain facts for weights of trees: what the laws ask of ways, sets, pairs and watchers. Nothing of the program is named here.
  Words on a slice of numbers that came in.
  Plain facts on how many words there are of each number of pairs.
  Nodes marked over edges, round by round; when edges that ascend, not strictly, are a tree. Plain facts.
  Plain facts on the program's way from a code to its tree: the last node is never the least leaf, so it ends the last edge. Nothing of the program is named here.
  Plain facts for weights of trees: the fewest watchers, found node by node of the branches. Nothing of the program is named here.
  Plain facts for ways of trees: ways found one by one, each told by its ends; their sum. Nothing of the program is named here.
  Numbers put in order, each as often as it stands there.
-/
import Derived.WalkKit
import Derived.Deep.AppendLies
import Derived.Laws.CopyOwn
import Derived.Lib.OthersKept
import Derived.Deep.QuietTactic
namespace Go.Proofs.Ytafdlilojlmchaa
open Go.RowKit

/-- a row of the call's own that lies in blocks from B on and below H -/
def Own (w : World) (B H : Nat) (t : TypeId) (v : Value) (xs : List Value) : Prop :=
  w.ownsRow B t 1 v xs.length xs ∧ ∀ g, v.ownBlock = some g → g < H

section
variable {w w' : World} {B H H' : Nat} {t t' : TypeId} {v v' : Value} {xs ys : List Value}

theorem Own.more (h : Own w B H t v xs) (hH : H ≤ H') : Own w B H' t v xs := ⟨h.1, fun g hg => Nat.lt_of_lt_of_le (h.2 g hg) hH⟩
theorem Own.of_own (h : w.ownsRow B t 1 v xs.length xs) : Own w B w.heap.size t v xs := ⟨h, fun g hg => (h.lt g hg).2⟩
theorem own_of_blocks {n : Nat} (h : w.ownsRow B t 1 v n xs) (hb : ∀ g, v.ownBlock = some g → w'.heap[g]? = w.heap[g]?) : w'.ownsRow B t 1 v n xs := by
  refine ⟨h.1, ?_⟩
  rcases h.2 with hn | ⟨g, cap, cur, rfl, h1, h2, rest⟩
  · exact .inl hn
  · exact .inr ⟨g, cap, cur, rfl, h1, by rw [hb g rfl]; exact h2, rest⟩
theorem Own.below (h : Own w B H t v xs) (hb : Below H w w') : Own w' B H t v xs :=
  ⟨own_of_blocks h.1 fun g hg => hb.block g (h.2 g hg), h.2⟩
theorem Own.grown {row : Option Nat} (h : Own w B H t v xs) (hg : w.grownBy w' row) (hne : v.ownBlock = none ∨ v.ownBlock ≠ row) : Own w' B H t v xs :=
  ⟨h.1.kept hg hne, h.2⟩
theorem Own.alloc (h : Own w B H t v xs) (o : Obj) : Own (w.alloc o) B H t v xs := ⟨h.1.alloc o, h.2⟩
/-- rows of different element types never share a block -/
theorem Own.ne {B' : Nat} (h : Own w B H t v xs) (h' : Own w B' H' t' v' ys) (ht : t ≠ t') : v.ownBlock = none ∨ v.ownBlock ≠ v'.ownBlock := by
  rcases h.1.2 with ⟨rfl, _⟩ | ⟨g, cap, cur, rfl, _, h2, _⟩
  · exact .inl rfl
  · right
    rcases h'.1.2 with ⟨rfl, _⟩ | ⟨g', cap', cur', rfl, _, h2', _⟩
    · simp [Value.ownBlock]
    · intro e
      simp only [Value.ownBlock, Option.some.injEq] at e
      subst e
      rw [h2] at h2'
      simp only [Option.some.injEq, Obj.cells.injEq] at h2'
      exact ht h2'.2.1
theorem Own.slice (h : Own w B H t v xs) : ∃ ao cap, v = .slice ao xs.length cap ∧ (ao = none → xs.length = 0 ∧ cap = 0) ∧ xs.length ≤ cap ∧ cap ≤ maxLen ∧ ∀ a, ao = some a → ∃ g, a = ⟨g, 0, none⟩ ∧ B ≤ g ∧ g < H := by
  rcases h.1.2 with ⟨rfl, h0⟩ | ⟨g, cap, cur, rfl, h1, h2, h3, h4, _⟩
  · exact ⟨none, 0, by rw [h0], fun _ => ⟨h0, rfl⟩, by omega, by simp [maxLen], fun a ha => by cases ha⟩
  · exact ⟨some ⟨g, 0, none⟩, cap, rfl, (fun e => by cases e), h3, h4, fun a ha => ⟨g, by cases ha; rfl, h1, h.2 g rfl⟩⟩
/-- a cell of it, wherever it lies -/
theorem Own.cell (h : Own w B H t v xs) (j : Nat) (hj : j < xs.length) : ∃ g cap, v = .slice (some ⟨g, 0, none⟩) xs.length cap ∧ B ≤ g ∧ g < H ∧ w.cell? ⟨g, j, none⟩ = xs[j]? ∧ w.frozen? ⟨g, j, none⟩ = false := by
  rcases h.1.2 with ⟨rfl, h0⟩ | ⟨g, cap, cur, rfl, h1, h2, h3, h4, _⟩
  · omega
  · exact ⟨g, cap, rfl, h1, h.2 g rfl, h.1.cellAt j (by omega), h.1.frozenAt j⟩
/-- its last element dropped -/
theorem Own.pop {g cap n m : Nat} (h : Own w B H t (.slice (some ⟨g, 0, none⟩) m cap) xs) (hl : xs.length = n + 1) : Own w B H t (.slice (some ⟨g, 0, none⟩) n cap) xs.dropLast := by
  obtain ⟨⟨_, h7⟩, h8⟩ := h
  rcases h7 with ⟨h0, _⟩ | ⟨g', cap', cur, hv, h1, h2, h3, h4, h5, h6⟩
  · cases h0
  · have hg : g = g' ∧ cap = cap' := by simp only [Value.slice.injEq, Option.some.injEq, Addr.mk.injEq, and_true] at hv; exact ⟨hv.1, hv.2.2⟩
    obtain ⟨rfl, rfl⟩ := hg
    have hd : xs.dropLast.length = n := by rw [List.length_dropLast, hl]; rfl
    refine ⟨⟨by rw [hd]; omega, .inr ⟨g, cap, cur, by rw [hd], h1, h2, by rw [hd]; omega, h4, h5, ?_⟩⟩, fun q hq => h8 q hq⟩
    have e : xs.dropLast = xs.take n := by rw [List.dropLast_eq_take, hl]; rfl
    rw [hd, e, ← h6, List.take_take, hl]
    congr 1
    omega
/-- a row that is full is known whole -/
theorem own_full {g n : Nat} (h : w.ownsRow B t 1 (.slice (some ⟨g, 0, none⟩) n n) n xs) : w.heap[g]? = some (.cells xs.toArray t (0, 0)) := by
  rcases h.2 with ⟨h0, _⟩ | ⟨g', cap', cur, hv, h1, h2, h3, h4, h5, h6⟩
  · cases h0
  · cases hv
    rw [h2, ← h6, List.take_of_length_le (by simp [h5])]
theorem own_of_full {g n : Nat} (hB : B ≤ g) (hn : n ≤ maxLen) (hl : xs.length = n) (h : w.heap[g]? = some (.cells xs.toArray t (0, 0))) : w.ownsRow B t 1 (.slice (some ⟨g, 0, none⟩) n n) n xs :=
  ⟨by simp [hl], .inr ⟨g, n, xs.toArray, rfl, hB, h, Nat.le_refl _, hn, by simp [hl], by simp [hl.symm]⟩⟩
end
end Go.Proofs.Ytafdlilojlmchaa

namespace Go.Proofs.Ytafdlilojlmchaa
open Go.RowKit

def iv (l : List Int) : List Value := l.map (Value.int .i64)
theorem iv_length (l : List Int) : (iv l).length = l.length := by simp [iv]
theorem iv_at (l : List Int) (k : Nat) (h : k < l.length) : (iv l)[k]? = some (.int .i64 l[k]) := by simp [iv, h]
theorem iv_set (l : List Int) (k : Nat) (n : Int) : (iv l).set k (.int .i64 n) = iv (l.set k n) := by simp [iv, List.map_set]
theorem iv_snoc (l : List Int) (n : Int) : iv l ++ [.int .i64 n] = iv (l ++ [n]) := by simp [iv]

/-- nothing but draws -/
def Same (w w' : World) : Prop := w'.heap = w.heap ∧ Below w.heap.size w w'
theorem Same.refl (w : World) : Same w w := ⟨rfl, Below.refl _ _⟩
theorem Same.drewN {w w' : World} (h : Same w w') (n : Nat) : Same w (w'.drewN n) := ⟨h.1, h.2.trans ⟨rfl, rfl, rfl, Nat.le_refl _, fun _ _ => rfl⟩⟩
theorem Same.below {w w' : World} (h : Same w w') (B : Nat) : Below B w w' := ⟨h.2.os, h.2.tape, h.2.output, h.2.size, fun k _ => by rw [h.1]⟩
theorem Own.same {w w' : World} {B H : Nat} {t : TypeId} {v : Value} {xs : List Value} (h : Own w B H t v xs) (e : w'.heap = w.heap) : Own w' B H t v xs :=
  ⟨own_of_blocks h.1 fun g _ => by rw [e], h.2⟩
/-- the cell at a place, of a slice whose shape is known -/
theorem Own.at_ {w : World} {B H : Nat} {t : TypeId} {ao : Option Addr} {n c : Nat} {xs : List Value} (h : Own w B H t (.slice ao n c) xs) (k : Nat) (hk : k < xs.length) :
    ∃ g, ao = some ⟨g, 0, none⟩ ∧ B ≤ g ∧ g < H ∧ w.cell? ⟨g, k, none⟩ = xs[k]? ∧ w.frozen? ⟨g, k, none⟩ = false := by
  obtain ⟨g, cap, hv, h1, h2, h3, h4⟩ := h.cell k hk
  simp only [Value.slice.injEq] at hv
  exact ⟨g, hv.1, h1, h2, h3, h4⟩

end Go.Proofs.Ytafdlilojlmchaa

namespace Go.Proofs.Ytafdlilojlmchaa
open Go.RowKit

/-- each row holds its numbers -/
def RowsI (w : World) (B H : Nat) (RV : List Value) (rows : List (List Int)) : Prop :=
  RV.length = rows.length ∧ ∀ (i : Nat) (v : Value) (r : List Int), RV[i]? = some v → rows[i]? = some r → Own w B H 3 v (iv r)
/-- no two rows share a block -/
def Dist (RV : List Value) : Prop := ∀ (i j : Nat) (u v : Value), i < j → RV[i]? = some u → RV[j]? = some v → u.ownBlock = none ∨ u.ownBlock ≠ v.ownBlock
/-- a list of rows -/
def Grid (w : World) (B H : Nat) (v : Value) (RV : List Value) (rows : List (List Int)) : Prop := Own w B H 30 v RV ∧ RowsI w B H RV rows

section
variable {w w' : World} {B H H' : Nat} {v : Value} {RV RV' : List Value} {rows rows' : List (List Int)}
theorem RowsI.more (h : RowsI w B H RV rows) (hH : H ≤ H') : RowsI w B H' RV rows := ⟨h.1, fun i v r h1 h2 => (h.2 i v r h1 h2).more hH⟩
theorem RowsI.below (h : RowsI w B H RV rows) (hb : Below H w w') : RowsI w' B H RV rows := ⟨h.1, fun i v r h1 h2 => (h.2 i v r h1 h2).below hb⟩
theorem RowsI.same (h : RowsI w B H RV rows) (e : w'.heap = w.heap) : RowsI w' B H RV rows := ⟨h.1, fun i v r h1 h2 => (h.2 i v r h1 h2).same e⟩
theorem Grid.more (h : Grid w B H v RV rows) (hH : H ≤ H') : Grid w B H' v RV rows := ⟨h.1.more hH, h.2.more hH⟩
theorem Grid.below (h : Grid w B H v RV rows) (hb : Below H w w') : Grid w' B H v RV rows := ⟨h.1.below hb, h.2.below hb⟩
theorem Grid.same (h : Grid w B H v RV rows) (e : w'.heap = w.heap) : Grid w' B H v RV rows := ⟨h.1.same e, h.2.same e⟩
theorem own_lo {B' : Nat} {t : TypeId} {xs : List Value} (h : Own w B H t v xs) (hB : B' ≤ B) : Own w B' H t v xs :=
  ⟨⟨h.1.1, h.1.2.imp id (fun ⟨g, cap, cur, e1, hg, r⟩ => ⟨g, cap, cur, e1, by omega, r⟩)⟩, h.2⟩
theorem RowsI.lo {B' : Nat} (h : RowsI w B H RV rows) (hB : B' ≤ B) : RowsI w B' H RV rows := ⟨h.1, fun i v r h1 h2 => own_lo (h.2 i v r h1 h2) hB⟩
theorem Grid.lo {B' : Nat} (h : Grid w B H v RV rows) (hB : B' ≤ B) : Grid w B' H v RV rows := ⟨own_lo h.1 hB, h.2.lo hB⟩
theorem RowsI.nil : RowsI w B H [] [] := ⟨rfl, fun i v r h => by simp at h⟩
theorem RowsI.append (h : RowsI w B H RV rows) (h' : RowsI w B H RV' rows') : RowsI w B H (RV ++ RV') (rows ++ rows') := by
  refine ⟨by rw [List.length_append, List.length_append, h.1, h'.1], fun i u r h1 h2 => ?_⟩
  by_cases hi : i < RV.length
  · rw [List.getElem?_append_left hi] at h1
    rw [List.getElem?_append_left (by rw [← h.1]; exact hi)] at h2
    exact h.2 i u r h1 h2
  · rw [List.getElem?_append_right (by omega)] at h1
    rw [List.getElem?_append_right (by rw [← h.1]; omega)] at h2
    rw [← h.1] at h2
    exact h'.2 _ u r h1 h2
theorem RowsI.one {u : Value} {r : List Int} (h : Own w B H 3 u (iv r)) : RowsI w B H [u] [r] := by
  refine ⟨rfl, fun i x y h1 h2 => ?_⟩
  cases i with
  | zero => simp at h1 h2; subst h1; subst h2; exact h
  | succ i => simp at h1
theorem RowsI.at_ (h : RowsI w B H RV rows) (i : Nat) (hi : i < rows.length) : ∃ u, RV[i]? = some u ∧ Own w B H 3 u (iv rows[i]) := by
  have hi' : i < RV.length := by rw [h.1]; exact hi
  exact ⟨_, List.getElem?_eq_getElem hi', h.2 i _ _ (List.getElem?_eq_getElem hi') (List.getElem?_eq_getElem hi)⟩
/-- rows of numbers are no rows of rows: a change of the one leaves the other -/
theorem RowsI.grown {t : TypeId} {u : Value} {xs : List Value} {B₁ H₁ : Nat} (h : RowsI w B H RV rows) (hu : Own w B₁ H₁ t u xs) (ht : 3 ≠ t) (hg : w.grownBy w' u.ownBlock) : RowsI w' B H RV rows :=
  ⟨h.1, fun i v r h1 h2 => (h.2 i v r h1 h2).grown hg ((h.2 i v r h1 h2).ne hu ht)⟩
theorem RowsI.fresh (h : RowsI w B H RV rows) (hb : Below w.heap.size w w') (hH : H ≤ w.heap.size) : RowsI w' B H RV rows := h.below (hb.mono hH)
end
end Go.Proofs.Ytafdlilojlmchaa

namespace Go.Proofs.Ytafdlilojlmchaa

abbrev Edges := List (Nat × Nat)
/-- how often a node is an end -/
def deg1 (e : Nat × Nat) (v : Nat) : Nat := (if e.1 = v then 1 else 0) + (if e.2 = v then 1 else 0)
def deg (E : Edges) (v : Nat) : Nat := (E.map fun e => deg1 e v).sum
theorem deg_nil (v : Nat) : deg [] v = 0 := rfl
theorem deg_cons (e : Nat × Nat) (E : Edges) (v : Nat) : deg (e :: E) v = deg1 e v + deg E v := by simp [deg]
theorem deg_append (A B : Edges) (v : Nat) : deg (A ++ B) v = deg A v + deg B v := by simp [deg]
def touches (v : Nat) (e : Nat × Nat) : Bool := decide (e.1 = v) || decide (e.2 = v)
def other (v : Nat) (e : Nat × Nat) : Nat := if e.1 = v then e.2 else e.1
theorem touch_iff (e : Nat × Nat) (v : Nat) : touches v e = true ↔ deg1 e v ≠ 0 := by
  unfold touches deg1
  by_cases h1 : e.1 = v <;> by_cases h2 : e.2 = v <;> simp [h1, h2]
/-- the lesser one first -/
def norm (e : Nat × Nat) : Nat × Nat := (min e.1 e.2, max e.1 e.2)
theorem norm_cases (e : Nat × Nat) : norm e = e ∨ norm e = (e.2, e.1) := by
  unfold norm
  by_cases h : e.1 ≤ e.2
  · left; rw [Nat.min_eq_left h, Nat.max_eq_right h]
  · right; rw [Nat.min_eq_right (by omega), Nat.max_eq_left (by omega)]
theorem deg1_flip (a b v : Nat) : deg1 (a, b) v = deg1 (b, a) v := by unfold deg1; simp only; omega
theorem deg1_norm (e : Nat × Nat) (v : Nat) : deg1 (norm e) v = deg1 e v := by
  rcases norm_cases e with h | h
  · rw [h]
  · rw [h]; exact deg1_flip _ _ _
theorem other_norm (e : Nat × Nat) (v : Nat) (h : deg1 e v = 1) : other v (norm e) = other v e := by
  rcases norm_cases e with k | k
  · rw [k]
  · rw [k]
    unfold other deg1 at *
    simp only at *
    by_cases h1 : e.1 = v <;> by_cases h2 : e.2 = v <;> simp_all
theorem norm_eq {a b c d : Nat} (h : norm (a, b) = norm (c, d)) : (a = c ∧ b = d) ∨ (a = d ∧ b = c) := by
  unfold norm at h
  simp only [Prod.mk.injEq] at h
  omega
theorem deg_perm {A B : Edges} (h : A.Perm B) (v : Nat) : deg A v = deg B v := (h.map _).sum_nat
theorem deg_norm (A : Edges) (v : Nat) : deg (A.map norm) v = deg A v := by
  induction A with
  | nil => rfl
  | cons e r ih => rw [List.map_cons, deg_cons, deg_cons, deg1_norm, ih]
/-- the same edges, in whatever order, each in whatever direction -/
def SameE (A B : Edges) : Prop := (A.map norm).Perm (B.map norm)
theorem SameE.deg {A B : Edges} (h : SameE A B) (v : Nat) : deg A v = deg B v := by rw [← deg_norm A, ← deg_norm B, deg_perm h]
theorem SameE.length {A B : Edges} (h : SameE A B) : A.length = B.length := by simpa using List.Perm.length_eq h
theorem SameE.symm {A B : Edges} (h : SameE A B) : SameE B A := List.Perm.symm h
theorem SameE.trans {A B C : Edges} (h : SameE A B) (k : SameE B C) : SameE A C := List.Perm.trans h k
theorem SameE.refl (A : Edges) : SameE A A := List.Perm.refl _
theorem norm_norm (e : Nat × Nat) : norm (norm e) = norm e := by unfold norm; simp only [Prod.mk.injEq]; omega
theorem same_norm (A : Edges) : SameE (A.map norm) A := by
  show ((A.map norm).map norm).Perm (A.map norm)
  rw [List.map_map, show (norm ∘ norm) = norm from funext norm_norm]

/-- the least node with one edge -/
def leastL (n : Nat) (d : Nat → Nat) : Option Nat := (List.range n).find? fun v => decide (d v = 1)
theorem least_some {n : Nat} {d : Nat → Nat} {l : Nat} : leastL n d = some l ↔ l < n ∧ d l = 1 ∧ ∀ v, v < l → d v ≠ 1 := by
  unfold leastL
  induction n with
  | zero => simp
  | succ n ih =>
    rw [List.range_succ, List.find?_append]
    cases hf : (List.range n).find? (fun v => decide (d v = 1)) with
    | some k =>
      have hk := ih
      rw [hf] at hk
      simp only [Option.some_or]
      constructor
      · intro e
        obtain ⟨h1, h2, h3⟩ := hk.1 e
        exact ⟨by omega, h2, h3⟩
      · rintro ⟨h1, h2, h3⟩
        by_cases hl : l < n
        · exact hk.2 ⟨hl, h2, h3⟩
        · exfalso
          have := List.find?_some hf
          have hm := List.mem_of_find?_eq_some hf
          rw [List.mem_range] at hm
          exact h3 k (by omega) (by simpa using this)
    | none =>
      have hno : ∀ v, v < n → d v ≠ 1 := fun v hv => by simpa using List.find?_eq_none.1 hf v (List.mem_range.2 hv)
      simp only [Option.none_or, List.find?_cons, List.find?_nil]
      by_cases hn : d n = 1
      · simp only [hn, decide_true, Option.some.injEq]
        constructor
        · rintro rfl; exact ⟨by omega, hn, hno⟩
        · rintro ⟨h1, h2, h3⟩
          have : ¬ l < n := fun h => hno l h h2
          omega
      · simp only [hn, decide_false]
        constructor
        · intro h; cases h
        · rintro ⟨h1, h2, h3⟩
          by_cases hl : l < n
          · exact absurd h2 (hno l hl)
          · obtain rfl : l = n := by omega
            exact absurd h2 hn
theorem least_congr {n : Nat} {d d' : Nat → Nat} (h : ∀ v, d v = d' v) : leastL n d = leastL n d' := by
  rw [show d = d' from funext h]

/-- a code: leaf by leaf -/
def codeE (n : Nat) : Nat → Edges → List Nat
  | 0, _ => []
  | k + 1, E => match leastL n (deg E) with
    | none => []
    | some l => (E.filter (touches l)).map (other l) ++ codeE n k (E.filter fun e => !touches l e)
def down (d : Nat → Nat) (l c : Nat) : Nat → Nat := fun v => if v = l then 0 else if v = c then d v - 1 else d v
/-- the edges of a code, in the order in which they are found -/
def treeE (n : Nat) : List Nat → (Nat → Nat) → Edges
  | [], d => match (List.range n).filter fun v => decide (d v = 1) with
    | [a, b] => [(a, b)]
    | _ => []
  | c :: r, d => match leastL n d with
    | none => []
    | some l => (l, c) :: treeE n r (down d l c)

/-- edges in the order in which they are left out, and the code that they give -/
inductive Pl (n : Nat) : Edges → List Nat → Prop where
  | last (a b : Nat) : a < b → b < n → Pl n [(a, b)] []
  | step (l x : Nat) (es : Edges) (c : List Nat) : l < n → x < n → l ≠ x → deg es l = 0 → deg es x ≠ 0 → leastL n (deg ((l, x) :: es)) = some l → Pl n es c → Pl n ((l, x) :: es) (x :: c)
theorem Pl.length {n : Nat} {es : Edges} {c : List Nat} (h : Pl n es c) : es.length = c.length + 1 := by
  induction h with
  | last => rfl
  | step _ _ _ _ _ _ _ _ _ _ _ ih => simp [ih]
theorem deg1_self {l x : Nat} (h : l ≠ x) : deg1 (l, x) l = 1 := by unfold deg1; simp [Ne.symm h]
theorem deg1_other {l x : Nat} (h : l ≠ x) : deg1 (l, x) x = 1 := by unfold deg1; simp [h]
theorem deg1_none {l x v : Nat} (h1 : v ≠ l) (h2 : v ≠ x) : deg1 (l, x) v = 0 := by unfold deg1; simp [Ne.symm h1, Ne.symm h2]
/-- degrees are told by codes -/
theorem Pl.deg_count {n : Nat} {es : Edges} {c : List Nat} (h : Pl n es c) (v : Nat) : deg es v = (if deg es v = 0 then 0 else 1) + c.count v := by
  induction h with
  | last a b hab hb =>
    rw [deg_cons, deg_nil, List.count_nil]
    by_cases h1 : v = a
    · subst h1; rw [deg1_self (by omega)]; rfl
    · by_cases h2 : v = b
      · subst h2; rw [deg1_other (by omega)]; rfl
      · rw [deg1_none h1 h2]; rfl
  | step l x es c hl hx hlx hdl hdx _ hp ih =>
    rw [deg_cons, List.count_cons]
    by_cases h1 : v = l
    · subst h1
      have hc : c.count v = 0 := by rw [hdl] at ih; simp at ih; exact ih.symm
      rw [deg1_self hlx, hdl, hc]
      simp [Ne.symm hlx]
    · by_cases h2 : v = x
      · subst h2
        rw [if_neg hdx] at ih
        rw [deg1_other hlx]
        simp
        omega
      · rw [deg1_none h1 h2, Nat.zero_add]
        have : (x == v) = false := by simp [Ne.symm h2]
        rw [this]
        simpa using ih
theorem Pl.lt {n : Nat} {es : Edges} {c : List Nat} (h : Pl n es c) : ∀ e ∈ es, e.1 < n ∧ e.2 < n ∧ e.1 ≠ e.2 := by
  induction h with
  | last a b hab hb => intro e he; simp at he; subst he; simp only; omega
  | step l x es c hl hx hlx _ _ _ _ ih =>
    intro e he
    rcases List.mem_cons.1 he with rfl | he
    · exact ⟨hl, hx, hlx⟩
    · exact ih e he
theorem asc_nat : ∀ (L M : List Nat), L.Pairwise (· < ·) → M.Pairwise (· < ·) → (∀ x, x ∈ L ↔ x ∈ M) → L = M
  | [], [], _, _, _ => rfl
  | [], y :: M, _, _, h => by have := (h y).2 (by simp); simp at this
  | x :: L, [], _, _, h => by have := (h x).1 (by simp); simp at this
  | x :: L, y :: M, h1, h2, h => by
    obtain ⟨a1, a2⟩ := List.pairwise_cons.1 h1
    obtain ⟨b1, b2⟩ := List.pairwise_cons.1 h2
    have hxy : x = y := by
      rcases List.mem_cons.1 ((h x).1 (by simp)) with e | m1
      · exact e
      · rcases List.mem_cons.1 ((h y).2 (by simp)) with e | m2
        · exact e.symm
        · have q1 := b1 x m1
          have q2 := a1 y m2
          omega
    subst hxy
    have : L = M := asc_nat L M a2 b2 (fun z => by
      have hz := h z
      simp only [List.mem_cons] at hz
      constructor
      · intro m
        rcases hz.1 (.inr m) with e | m'
        · subst e; have := a1 z m; omega
        · exact m'
      · intro m
        rcases hz.2 (.inr m) with e | m'
        · subst e; have := b1 z m; omega
        · exact m')
    rw [this]
theorem filter_two {n a b : Nat} (hab : a < b) (hb : b < n) : ((List.range n).filter fun v => decide (deg [(a, b)] v = 1)) = [a, b] := by
  have hd : ∀ v, deg [(a, b)] v = 1 ↔ v = a ∨ v = b := by
    intro v
    rw [deg_cons, deg_nil]
    by_cases h1 : v = a
    · subst h1; rw [deg1_self (by omega)]; simp
    · by_cases h2 : v = b
      · subst h2; rw [deg1_other (by omega)]; simp
      · rw [deg1_none h1 h2]; simp [h1, h2]
  apply asc_nat
  · exact (List.pairwise_lt_range).filter _
  · simpa using hab
  · intro v
    rw [List.mem_filter, List.mem_range, decide_eq_true_iff, hd]
    simp only [List.mem_cons, List.mem_nil_iff, or_false]
    omega
/-- a code gives the edges back -/
theorem Pl.tree {n : Nat} {es : Edges} {c : List Nat} (h : Pl n es c) : treeE n c (deg es) = es := by
  induction h with
  | last a b hab hb => rw [treeE, filter_two hab hb]
  | step l x es c hl hx hlx hdl hdx hm hp ih =>
    rw [treeE, hm]
    simp only
    have e1 : down (deg ((l, x) :: es)) l x = deg es := by
      funext v
      unfold down
      rw [deg_cons]
      by_cases h1 : v = l
      · subst h1; rw [if_pos rfl, hdl]
      · rw [if_neg h1]
        by_cases h2 : v = x
        · subst h2; rw [if_pos rfl, deg1_other hlx]; omega
        · rw [if_neg h2, deg1_none h1 h2]; omega
    rw [e1, ih]

/-! ### a code is told by the edges, in whatever order they stand -/
theorem filter_same {A B : Edges} (h : SameE A B) (l : Nat) : SameE (A.filter fun e => !touches l e) (B.filter fun e => !touches l e) := by
  have key : ∀ X : Edges, (X.filter fun e => !touches l e).map norm = (X.map norm).filter fun e => !touches l e := by
    intro X
    rw [List.filter_map]
    congr 1
    apply List.filter_congr
    intro e _
    have : touches l (norm e) = touches l e := by
      rw [Bool.eq_iff_iff, touch_iff, touch_iff, deg1_norm]
    simp [this]
  show (List.map norm _).Perm (List.map norm _)
  rw [key, key]
  exact List.Perm.filter _ h
theorem touch_same {A B : Edges} (h : SameE A B) (l : Nat) (hd : deg B l = 1) : ((A.filter (touches l)).map (other l)).Perm ((B.filter (touches l)).map (other l)) := by
  have key : ∀ X : Edges, deg X l = 1 → (X.filter (touches l)).map (other l) = ((X.map norm).filter (touches l)).map (other l) := by
    intro X hX
    rw [List.filter_map, List.map_map]
    have e1 : (touches l ∘ norm) = touches l := by
      funext e
      rw [Bool.eq_iff_iff]
      show touches l (norm e) = true ↔ _
      rw [touch_iff, touch_iff, deg1_norm]
    rw [e1]
    apply List.map_congr_left
    intro e he
    obtain ⟨he1, he2⟩ := List.mem_filter.1 he
    have hle : deg1 e l ≤ deg X l := by
      clear hX he he2 e1
      induction X with
      | nil => simp at he1
      | cons y r ih =>
        rw [deg_cons]
        rcases List.mem_cons.1 he1 with rfl | h
        · omega
        · have := ih h; omega
    rw [touch_iff] at he2
    exact (other_norm e l (by omega)).symm
  rw [key A (by rw [h.deg, hd]), key B hd]
  exact (List.Perm.filter _ h).map _
theorem filter_out {es : Edges} {l : Nat} (h : deg es l = 0) : es.filter (touches l) = [] ∧ (es.filter fun e => !touches l e) = es := by
  have hno : ∀ e ∈ es, touches l e = false := by
    intro e he
    cases ht : touches l e with
    | false => rfl
    | true =>
      exfalso
      rw [touch_iff] at ht
      induction es with
      | nil => simp at he
      | cons y r ih =>
        rw [deg_cons] at h
        rcases List.mem_cons.1 he with rfl | he
        · omega
        · exact ih (by omega) he
  exact ⟨List.filter_eq_nil_iff.2 fun e he => by rw [hno e he]; simp, List.filter_eq_self.2 fun e he => by rw [hno e he]; rfl⟩
theorem Pl.code {n : Nat} {es : Edges} {c : List Nat} (h : Pl n es c) : ∀ F, SameE F es → codeE n c.length F = c := by
  induction h with
  | last a b _ _ => intro F _; rfl
  | step l x es c hl hx hlx hdl hdx hm hp ih =>
    intro F hF
    rw [List.length_cons, codeE, least_congr (hF.deg), hm]
    simp only
    have t1 : touches l (l, x) = true := by simp [touches]
    obtain ⟨f1, f2⟩ := filter_out hdl
    have hd1 : deg ((l, x) :: es) l = 1 := by rw [deg_cons, deg1_self hlx, hdl]
    have e1 := touch_same hF l hd1
    rw [List.filter_cons_of_pos t1, f1] at e1
    have e2 : (F.filter (touches l)).map (other l) = [x] := by
      have e3 := List.perm_singleton.1 e1
      rw [e3]
      simp [other]
    have s2 := filter_same hF l
    have e4 : (((l, x) :: es).filter fun e => !touches l e) = es := by
      rw [List.filter_cons_of_neg (by simp [t1]), f2]
    rw [e4] at s2
    rw [e2, ih _ s2]
    rfl

/-- one round of leaving out -/
theorem Pl.round {n x : Nat} {es : Edges} {c : List Nat} (h : Pl n es (x :: c)) {F : Edges} (hF : SameE F es) :
    ∃ l es', leastL n (deg F) = some l ∧ (F.filter (touches l)).map (other l) = [x] ∧ Pl n es' c ∧ SameE (F.filter fun e => !touches l e) es' := by
  cases h with
  | step l _ es' _ hl hx hlx hdl hdx hm hp =>
    have t1 : touches l (l, x) = true := by simp [touches]
    obtain ⟨f1, f2⟩ := filter_out hdl
    have hd1 : deg ((l, x) :: es') l = 1 := by rw [deg_cons, deg1_self hlx, hdl]
    have e1 := touch_same hF l hd1
    rw [List.filter_cons_of_pos t1, f1] at e1
    have s2 := filter_same hF l
    have e4 : (((l, x) :: es').filter fun e => !touches l e) = es' := by
      rw [List.filter_cons_of_neg (by simp [t1]), f2]
    rw [e4] at s2
    refine ⟨l, es', by rw [least_congr (hF.deg)]; exact hm, ?_, hp, s2⟩
    rw [List.perm_singleton.1 e1]
    simp [other]

/-! ### each code has edges -/
/-- degrees that fit a code: those that are there have one more than they are written down -/
def Fits (n : Nat) (S : List Nat) (c : List Nat) (d : Nat → Nat) : Prop :=
  S.Pairwise (· < ·) ∧ (∀ v ∈ S, v < n) ∧ (∀ x ∈ c, x ∈ S) ∧ S.length = c.length + 2 ∧ ∀ v, d v = (if v ∈ S then 1 else 0) + c.count v
theorem fits_leaf {n : Nat} {S c : List Nat} {d : Nat → Nat} (h : Fits n S c d) : ∃ l, leastL n d = some l ∧ l ∈ S ∧ l ∉ c := by
  obtain ⟨h1, h2, h3, h4, h5⟩ := h
  have hex : ∃ v ∈ S, v ∉ c := by
    apply Classical.byContradiction
    intro hno
    have hsub : ∀ v ∈ S, v ∈ c := fun v hv => Classical.byContradiction fun hc => hno ⟨v, hv, hc⟩
    have hnd : S.Nodup := h1.imp fun hab => by omega
    have := List.Nodup.length_le_of_subset hnd hsub
    omega
  obtain ⟨v, hv, hc⟩ := hex
  have hdv : d v = 1 := by rw [h5, if_pos hv, List.count_eq_zero.2 hc]
  cases hl : leastL n d with
  | none =>
    exfalso
    unfold leastL at hl
    have := List.find?_eq_none.1 hl v (List.mem_range.2 (h2 v hv))
    simp [hdv] at this
  | some l =>
    obtain ⟨l1, l2, l3⟩ := least_some.1 hl
    rw [h5] at l2
    by_cases hls : l ∈ S
    · rw [if_pos hls] at l2
      exact ⟨l, rfl, hls, List.count_eq_zero.1 (by omega)⟩
    · rw [if_neg hls] at l2
      exfalso
      have : l ∈ c := List.count_pos_iff.1 (by omega)
      exact hls (h3 l this)
theorem fits_two {n a b : Nat} {d : Nat → Nat} (h : Fits n [a, b] [] d) : (List.range n).filter (fun v => decide (d v = 1)) = [a, b] ∧ a < b ∧ b < n := by
  obtain ⟨h1, h2, h3, h4, h5⟩ := h
  have hab : a < b := by simpa using h1
  have hb := h2 b (by simp)
  refine ⟨?_, hab, hb⟩
  apply asc_nat
  · exact (List.pairwise_lt_range).filter _
  · exact h1
  · intro v
    rw [List.mem_filter, List.mem_range, decide_eq_true_iff, h5, List.count_nil]
    constructor
    · rintro ⟨_, h⟩
      by_cases hm : v ∈ [a, b]
      · exact hm
      · rw [if_neg hm] at h; simp at h
    · intro hm
      exact ⟨h2 v hm, by rw [if_pos hm]⟩
theorem fits_down {n l x : Nat} {S c : List Nat} {d : Nat → Nat} (h : Fits n S (x :: c) d) (hl : l ∈ S) (hlc : l ∉ x :: c) : Fits n (S.filter fun v => decide (v ≠ l)) c (down d l x) := by
  obtain ⟨h1, h2, h3, h4, h5⟩ := h
  have hx : x ≠ l := fun e => hlc (by simp [e])
  have hc : l ∉ c := fun e => hlc (by simp [e])
  refine ⟨h1.filter _, fun v hv => h2 v (List.mem_filter.1 hv).1, fun y hy => ?_, ?_, fun v => ?_⟩
  · exact List.mem_filter.2 ⟨h3 y (by simp [hy]), decide_eq_true (fun e => hc (by rw [← e]; exact hy))⟩
  · have hnd : S.Nodup := h1.imp fun hab => by omega
    have e1 : (S.filter fun v => decide (v ≠ l)) = S.erase l := by
      rw [List.Nodup.erase_eq_filter hnd]
      apply List.filter_congr
      intro y _
      by_cases h : y = l <;> simp [h]
    rw [e1, List.length_erase_of_mem hl, h4]
    simp
  · unfold down
    by_cases e1 : v = l
    · subst e1
      rw [if_pos rfl, if_neg (by simp), List.count_eq_zero.2 hc]
    · rw [if_neg e1]
      have hm : v ∈ (S.filter fun v => decide (v ≠ l)) ↔ v ∈ S := by simp [e1]
      by_cases e2 : v = x
      · subst e2
        rw [if_pos rfl, h5, List.count_cons_self]
        have hvS : v ∈ S := h3 v (by simp)
        rw [if_pos hvS, if_pos (hm.2 hvS)]
        omega
      · rw [if_neg e2, h5, List.count_cons_of_ne (Ne.symm e2)]
        by_cases hvS : v ∈ S
        · rw [if_pos hvS, if_pos (hm.2 hvS)]
        · rw [if_neg hvS, if_neg (fun h => hvS (hm.1 h))]
theorem fits_pl {n : Nat} : ∀ (c S : List Nat) (d : Nat → Nat), Fits n S c d → Pl n (treeE n c d) c ∧ ∀ v, deg (treeE n c d) v = d v := by
  intro c
  induction c with
  | nil =>
    intro S d h
    obtain ⟨a, b, rfl⟩ : ∃ a b, S = [a, b] := by
      have := h.2.2.2.1
      match S, this with
      | [a, b], _ => exact ⟨a, b, rfl⟩
    obtain ⟨h1, h2, h3⟩ := fits_two h
    rw [treeE, h1]
    refine ⟨Pl.last a b h2 h3, fun v => ?_⟩
    rw [h.2.2.2.2 v, deg_cons, deg_nil, List.count_nil]
    simp only [List.mem_cons, List.mem_nil_iff, or_false]
    by_cases e1 : v = a
    · subst e1; rw [deg1_self (by omega), if_pos (.inl rfl)]
    · by_cases e2 : v = b
      · subst e2; rw [deg1_other (by omega), if_pos (.inr rfl)]
      · rw [deg1_none e1 e2, if_neg (by simp [e1, e2])]
  | cons x c ih =>
    intro S d h
    obtain ⟨l, hl, hlS, hlc⟩ := fits_leaf h
    have hd := fits_down h hlS hlc
    obtain ⟨p, q⟩ := ih _ _ hd
    have hx : x ≠ l := fun e => hlc (by simp [e])
    have hxS : x ∈ S := h.2.2.1 x (by simp)
    have qd : ∀ v, deg ((l, x) :: treeE n c (down d l x)) v = d v := by
      intro v
      rw [deg_cons, q v]
      unfold down
      have h5 := h.2.2.2.2
      by_cases e1 : v = l
      · subst e1
        rw [deg1_self (Ne.symm hx), if_pos rfl, h5, if_pos hlS, List.count_eq_zero.2 hlc]
      · rw [if_neg e1]
        by_cases e2 : v = x
        · subst e2
          have : d v ≥ 1 := by rw [h5, if_pos hxS]; omega
          rw [deg1_other (Ne.symm hx), if_pos rfl]
          omega
        · rw [deg1_none e1 e2, if_neg e2]; omega
    rw [treeE, hl]
    refine ⟨Pl.step l x _ c (h.2.1 l hlS) (h.2.1 x hxS) (Ne.symm hx) ?_ ?_ (by rw [least_congr qd]; exact hl) p, qd⟩
    · rw [q l]; unfold down; rw [if_pos rfl]
    · rw [q x]
      unfold down
      rw [if_neg hx, if_pos rfl, h.2.2.2.2 x, if_pos hxS, List.count_cons_self]
      omega
/-- a code of n nodes -/
theorem fits_code {n : Nat} {c : List Nat} (hn : n = c.length + 2) (hc : ∀ x ∈ c, x < n) : Fits n (List.range n) c (fun v => (if v < n then 1 else 0) + c.count v) := by
  refine ⟨List.pairwise_lt_range, fun v hv => List.mem_range.1 hv, fun x hx => List.mem_range.2 (hc x hx), by rw [List.length_range, hn], fun v => ?_⟩
  simp only [List.mem_range]

/-! ### nodes that are reached -/
inductive Reach (E : Edges) : Nat → Nat → Prop where
  | refl (u : Nat) : Reach E u u
  | step (u v w : Nat) : Reach E u v → (v, w) ∈ E ∨ (w, v) ∈ E → Reach E u w
theorem Reach.trans {E : Edges} {u v w : Nat} (h : Reach E u v) (k : Reach E v w) : Reach E u w := by
  induction k with
  | refl => exact h
  | step _ _ _ he ih => exact .step _ _ _ ih he
theorem Reach.one {E : Edges} {u v : Nat} (h : (u, v) ∈ E ∨ (v, u) ∈ E) : Reach E u v := .step _ _ _ (.refl u) h
theorem Reach.symm {E : Edges} {u v : Nat} (h : Reach E u v) : Reach E v u := by
  induction h with
  | refl => exact .refl _
  | step _ _ _ he ih => exact (Reach.one he.symm).trans ih
theorem Reach.mono {A B : Edges} (hs : ∀ a b, ((a, b) ∈ A ∨ (b, a) ∈ A) → ((a, b) ∈ B ∨ (b, a) ∈ B)) {u v : Nat} (h : Reach A u v) : Reach B u v := by
  induction h with
  | refl => exact .refl _
  | step _ _ _ he ih => exact .step _ _ _ ih (hs _ _ he)
theorem mem_norm {E : Edges} {a b : Nat} : norm (a, b) ∈ E.map norm ↔ (a, b) ∈ E ∨ (b, a) ∈ E := by
  rw [List.mem_map]
  constructor
  · rintro ⟨⟨c, d⟩, hm, he⟩
    rcases norm_eq he with ⟨rfl, rfl⟩ | ⟨rfl, rfl⟩
    · exact .inl hm
    · exact .inr hm
  · rintro (h | h)
    · exact ⟨_, h, rfl⟩
    · refine ⟨_, h, ?_⟩
      unfold norm; simp only [Prod.mk.injEq]; omega
theorem SameE.ends {A B : Edges} (h : SameE A B) (a b : Nat) : ((a, b) ∈ A ∨ (b, a) ∈ A) ↔ ((a, b) ∈ B ∨ (b, a) ∈ B) := by
  rw [← mem_norm, ← mem_norm, List.Perm.mem_iff h]
theorem SameE.reach {A B : Edges} (h : SameE A B) {u v : Nat} (hr : Reach A u v) : Reach B u v := hr.mono fun a b => (h.ends a b).1
theorem deg_edge {E : Edges} {u v : Nat} (h : (u, v) ∈ E ∨ (v, u) ∈ E) : deg E v ≠ 0 := by
  have key : ∀ (e : Nat × Nat) (E : Edges), e ∈ E → deg1 e v ≤ deg E v := by
    intro e E
    induction E with
    | nil => intro h; simp at h
    | cons y r ih =>
      intro h
      rw [deg_cons]
      rcases List.mem_cons.1 h with rfl | h
      · omega
      · have := ih h; omega
  rcases h with h | h
  · have := key _ _ h
    unfold deg1 at this
    simp at this
    omega
  · have := key _ _ h
    unfold deg1 at this
    simp at this
    omega
theorem reach_deg {E : Edges} {u v : Nat} (h : Reach E u v) (hne : u ≠ v) : deg E v ≠ 0 := by
  cases h with
  | refl => exact absurd rfl hne
  | step p _ hp he => exact deg_edge he
theorem deg_mem {E : Edges} {v : Nat} (h : deg E v ≠ 0) : ∃ e ∈ E, deg1 e v ≠ 0 := by
  induction E with
  | nil => exact absurd rfl h
  | cons y r ih =>
    rw [deg_cons] at h
    by_cases hy : deg1 y v = 0
    · obtain ⟨e, he, h2⟩ := ih (by omega)
      exact ⟨e, List.mem_cons_of_mem _ he, h2⟩
    · exact ⟨y, by simp, hy⟩
theorem deg1_end {e : Nat × Nat} {v : Nat} (h : deg1 e v ≠ 0) : e.1 = v ∨ e.2 = v := by
  unfold deg1 at h
  by_cases h1 : e.1 = v
  · exact .inl h1
  · by_cases h2 : e.2 = v
    · exact .inr h2
    · simp [h1, h2] at h

/-- what a peel leaves hangs together -/
theorem Pl.reach {n : Nat} {es : Edges} {c : List Nat} (h : Pl n es c) : ∀ u v, deg es u ≠ 0 → deg es v ≠ 0 → Reach es u v := by
  induction h with
  | last a b hab hb =>
    intro u v hu hv
    have hend : ∀ w, deg [(a, b)] w ≠ 0 → w = a ∨ w = b := fun w hw => by
      obtain ⟨e, he, hd⟩ := deg_mem hw
      simp at he; subst he
      rcases deg1_end hd with h | h
      · exact .inl h.symm
      · exact .inr h.symm
    rcases hend u hu with rfl | rfl <;> rcases hend v hv with rfl | rfl
    · exact .refl _
    · exact .one (.inl (by simp))
    · exact .one (.inr (by simp))
    · exact .refl _
  | step l x es c hl hx hlx hdl hdx _ _ ih =>
    have hub : ∀ w, deg ((l, x) :: es) w ≠ 0 → Reach ((l, x) :: es) w x := fun w hw => by
      by_cases e1 : w = l
      · subst e1; exact .one (.inl (by simp))
      · by_cases e2 : w = x
        · subst e2; exact .refl _
        · rw [deg_cons, deg1_none e1 e2, Nat.zero_add] at hw
          exact (ih w x hw hdx).mono fun a b h => h.imp (List.mem_cons_of_mem _) (List.mem_cons_of_mem _)
    intro u v hu hv
    exact (hub u hu).trans (hub v hv).symm
theorem Pl.nodup {n : Nat} {es : Edges} {c : List Nat} (h : Pl n es c) : (es.map norm).Nodup := by
  induction h with
  | last => simp
  | step l x es c _ _ hlx hdl _ _ _ ih =>
    rw [List.map_cons, List.nodup_cons]
    refine ⟨fun hm => ?_, ih⟩
    rw [mem_norm] at hm
    exact deg_edge hm.symm hdl

/-! ### what hangs together can be peeled -/
theorem sum_zero (S : List Nat) : (S.map fun _ => 0).sum = 0 := by
  induction S with
  | nil => rfl
  | cons y r ih => rw [List.map_cons, List.sum_cons, ih]
theorem sum_one {S : List Nat} (hS : S.Nodup) {a : Nat} (ha : a ∈ S) : (S.map fun v => if a = v then 1 else 0).sum = 1 := by
  induction S with
  | nil => simp at ha
  | cons y r ih =>
    obtain ⟨h1, h2⟩ := List.nodup_cons.1 hS
    rw [List.map_cons, List.sum_cons]
    rcases List.mem_cons.1 ha with rfl | h
    · rw [if_pos rfl]
      have : (r.map fun v => if a = v then 1 else 0).sum = 0 := by
        have hz : (r.map fun v => if a = v then 1 else 0) = r.map fun _ => 0 := by
          apply List.map_congr_left
          intro v hv
          rw [if_neg]
          rintro rfl; exact h1 hv
        rw [hz, sum_zero]
      omega
    · rw [if_neg (by rintro rfl; exact h1 h), ih h2 h]
theorem sum_add (S : List Nat) (f g : Nat → Nat) : (S.map fun v => f v + g v).sum = (S.map f).sum + (S.map g).sum := by
  induction S with
  | nil => rfl
  | cons y r ih => simp only [List.map_cons, List.sum_cons, ih]; omega
theorem deg_sum {S : List Nat} (hS : S.Nodup) : ∀ F : Edges, (∀ e ∈ F, e.1 ∈ S ∧ e.2 ∈ S) → (S.map (deg F)).sum = 2 * F.length := by
  intro F
  induction F with
  | nil =>
    intro _
    have : (S.map (deg [])) = S.map fun _ => 0 := rfl
    rw [this, sum_zero]; rfl
  | cons e r ih =>
    intro h
    have e1 : (S.map (deg (e :: r))) = S.map fun v => deg1 e v + deg r v := rfl
    rw [e1, sum_add, ih fun y hy => h y (List.mem_cons_of_mem _ hy)]
    have e2 : (S.map (deg1 e)) = S.map fun v => (if e.1 = v then 1 else 0) + (if e.2 = v then 1 else 0) := rfl
    obtain ⟨h1, h2⟩ := h e (by simp)
    rw [e2, sum_add, sum_one hS h1, sum_one hS h2, List.length_cons]
    omega
theorem touch_len {F : Edges} (hne : ∀ e ∈ F, e.1 ≠ e.2) (l : Nat) : (F.filter (touches l)).length = deg F l := by
  induction F with
  | nil => rfl
  | cons e r ih =>
    have hr := ih fun y hy => hne y (List.mem_cons_of_mem _ hy)
    have he := hne e (by simp)
    rw [deg_cons]
    by_cases ht : touches l e = true
    · rw [List.filter_cons_of_pos ht, List.length_cons, hr]
      rw [touch_iff] at ht
      have : deg1 e l = 1 := by
        unfold deg1 at *
        by_cases h1 : e.1 = l <;> by_cases h2 : e.2 = l <;> simp_all
      omega
    · rw [List.filter_cons_of_neg ht, hr]
      have : deg1 e l = 0 := Classical.byContradiction fun h => ht ((touch_iff e l).2 h)
      omega
/-- a tree over some nodes -/
structure Tree (n : Nat) (S : List Nat) (F : Edges) : Prop where
  asc : S.Pairwise (· < ·)
  lt : ∀ v ∈ S, v < n
  ends : ∀ e ∈ F, e.1 ∈ S ∧ e.2 ∈ S ∧ e.1 ≠ e.2
  conn : ∀ u ∈ S, ∀ v ∈ S, Reach F u v
theorem Tree.nodup {n : Nat} {S : List Nat} {F : Edges} (h : Tree n S F) : S.Nodup := h.asc.imp fun hab => by omega
theorem Tree.pos {n : Nat} {S : List Nat} {F : Edges} (h : Tree n S F) (h2 : 2 ≤ S.length) {v : Nat} (hv : v ∈ S) : deg F v ≠ 0 := by
  obtain ⟨u, hu, hne⟩ : ∃ u ∈ S, u ≠ v := by
    apply Classical.byContradiction
    intro hno
    have hsub : ∀ u ∈ S, u ∈ [v] := fun u hu => by
      rw [List.mem_singleton]
      exact Classical.byContradiction fun hc => hno ⟨u, hu, hc⟩
    have := List.Nodup.length_le_of_subset h.nodup hsub
    simp at this; omega
  exact reach_deg (h.conn u hu v hv) hne
theorem tree_peel {n : Nat} : ∀ (m : Nat) (S : List Nat) (F : Edges), Tree n S F → S.length = m + 2 → F.length = m + 1 → ∃ es c, Pl n es c ∧ SameE F es := by
  intro m
  induction m with
  | zero =>
    intro S F h hS hF
    match S, hS with
    | [a, b], _ =>
      match F, hF with
      | [e], _ =>
        have hab : a < b := by simpa using h.asc
        obtain ⟨h1, h2, h3⟩ := h.ends e (by simp)
        simp only [List.mem_cons, List.mem_nil_iff, or_false] at h1 h2
        refine ⟨[(a, b)], [], Pl.last a b hab (h.lt b (by simp)), ?_⟩
        have : norm e = norm (a, b) := by
          unfold norm
          simp only [Prod.mk.injEq]
          omega
        show ([e].map norm).Perm ([(a, b)].map norm)
        rw [List.map_cons, List.map_cons, this]
  | succ m ih =>
    intro S F h hS hF
    have hpos : ∀ v ∈ S, deg F v ≠ 0 := fun v hv => h.pos (by omega) hv
    have hsum := deg_sum h.nodup F fun e he => ⟨(h.ends e he).1, (h.ends e he).2.1⟩
    obtain ⟨w, hwS, hw1⟩ : ∃ w ∈ S, deg F w = 1 := by
      apply Classical.byContradiction
      intro hno
      have hge : ∀ v ∈ S, 2 ≤ deg F v := fun v hv => by
        have h1 := hpos v hv
        have h2 : deg F v ≠ 1 := fun e => hno ⟨v, hv, e⟩
        omega
      have key : ∀ T : List Nat, (∀ v ∈ T, 2 ≤ deg F v) → 2 * T.length ≤ (T.map (deg F)).sum := by
        intro T
        induction T with
        | nil => intro _; simp
        | cons y r ih2 =>
          intro hT
          have h1 := hT y (by simp)
          have h2 := ih2 fun v hv => hT v (List.mem_cons_of_mem _ hv)
          simp only [List.map_cons, List.sum_cons, List.length_cons]
          omega
      have := key S hge
      omega
    obtain ⟨l, hl⟩ : ∃ l, leastL n (deg F) = some l := by
      cases hl : leastL n (deg F) with
      | some l => exact ⟨l, rfl⟩
      | none =>
        exfalso
        unfold leastL at hl
        have := List.find?_eq_none.1 hl w (List.mem_range.2 (h.lt w hwS))
        simp [hw1] at this
    obtain ⟨l1, l2, _⟩ := least_some.1 hl
    obtain ⟨e, he, hed⟩ := deg_mem (E := F) (v := l) (by omega)
    have hlS : l ∈ S := by
      rcases deg1_end hed with h1 | h1
      · rw [← h1]; exact (h.ends e he).1
      · rw [← h1]; exact (h.ends e he).2.1
    have hone := touch_len (fun e he => (h.ends e he).2.2) l (F := F)
    rw [l2] at hone
    obtain ⟨e0, he0⟩ := List.length_eq_one_iff.1 hone
    have hm0 : e0 ∈ F ∧ touches l e0 = true := List.mem_filter.1 (by rw [he0]; simp)
    obtain ⟨x, hx⟩ : ∃ x, x = other l e0 := ⟨_, rfl⟩
    obtain ⟨q1, q2, q3⟩ := h.ends e0 hm0.1
    have hdir : e0 = (l, x) ∨ e0 = (x, l) := by
      rcases deg1_end ((touch_iff e0 l).1 hm0.2) with h1 | h1
      · left
        rw [hx]; unfold other; rw [if_pos h1, ← h1]
      · right
        rw [hx]; unfold other; rw [if_neg (by rw [← h1]; exact q3)]; rw [← h1]
    have hlx : l ≠ x := by
      rcases hdir with h1 | h1 <;> rw [h1] at q3 <;> simp only at q3
      · exact q3
      · exact Ne.symm q3
    have hxS : x ∈ S := by
      rcases hdir with h1 | h1 <;> rw [h1] at q1 q2
      · exact q2
      · exact q1
    obtain ⟨F', hF'⟩ : ∃ F', F' = F.filter fun e => !touches l e := ⟨_, rfl⟩
    have hperm : F.Perm (e0 :: F') := by
      have := (List.filter_append_perm (touches l) F).symm
      rw [he0, ← hF'] at this
      exact this
    have hn0 : norm e0 = norm (l, x) := by
      rcases hdir with h1 | h1
      · rw [h1]
      · rw [h1]; unfold norm; simp only [Prod.mk.injEq]; omega
    have hlen : F'.length = m + 1 := by
      have := hperm.length_eq
      rw [hF, List.length_cons] at this; omega
    obtain ⟨S', hS'⟩ : ∃ S', S' = S.filter fun v => decide (v ≠ l) := ⟨_, rfl⟩
    have hmS : ∀ v, v ∈ S' ↔ v ∈ S ∧ v ≠ l := fun v => by rw [hS', List.mem_filter, decide_eq_true_iff]
    have hlS' : S'.length = m + 2 := by
      have e1 : S' = S.erase l := by
        rw [hS', List.Nodup.erase_eq_filter h.nodup]
        apply List.filter_congr
        intro y _
        by_cases h : y = l <;> simp [h]
      rw [e1, List.length_erase_of_mem hlS, hS]; rfl
    have hnt : ∀ e ∈ F', deg1 e l = 0 := fun e he => by
      rw [hF'] at he
      have h1 := (List.mem_filter.1 he).2
      apply Classical.byContradiction
      intro h2
      rw [(touch_iff e l).2 h2] at h1
      cases h1
    have hmF : ∀ e, e ∈ F' → e ∈ F := fun e he => by rw [hF'] at he; exact (List.mem_filter.1 he).1
    have hT' : Tree n S' F' := by
      refine ⟨by rw [hS']; exact h.asc.filter _, fun v hv => h.lt v ((hmS v).1 hv).1, fun e he => ?_, fun u hu v hv => ?_⟩
      · obtain ⟨r1, r2, r3⟩ := h.ends e (hmF e he)
        have h0 := hnt e he
        refine ⟨(hmS _).2 ⟨r1, fun hh => ?_⟩, (hmS _).2 ⟨r2, fun hh => ?_⟩, r3⟩
        · unfold deg1 at h0; rw [if_pos hh] at h0; omega
        · unfold deg1 at h0; rw [if_pos hh] at h0; omega
      · have hr := h.conn u ((hmS u).1 hu).1 v ((hmS v).1 hv).1
        have key : ∀ a b, Reach F a b → Reach F' (if a = l then x else a) (if b = l then x else b) := by
          intro a b hab
          induction hab with
          | refl => exact .refl _
          | step p q hp hpq ih2 =>
            refine ih2.trans ?_
            have hstep : ∀ y z, (y, z) ∈ F → Reach F' (if y = l then x else y) (if z = l then x else z) := by
              intro y z hyz
              rcases List.mem_cons.1 (hperm.mem_iff.1 hyz) with h1 | h1
              · rcases hdir with h2 | h2
                · rw [h2] at h1
                  obtain ⟨rfl, rfl⟩ := Prod.mk.inj h1
                  rw [if_pos rfl, if_neg (Ne.symm hlx)]; exact .refl _
                · rw [h2] at h1
                  obtain ⟨rfl, rfl⟩ := Prod.mk.inj h1
                  rw [if_pos rfl, if_neg (Ne.symm hlx)]; exact .refl _
              · have h0 := hnt _ h1
                unfold deg1 at h0
                simp only at h0
                have hy : y ≠ l := fun hh => by rw [if_pos hh] at h0; omega
                have hz : z ≠ l := fun hh => by rw [if_pos hh] at h0; omega
                rw [if_neg hy, if_neg hz]
                exact .one (.inl h1)
            rcases hpq with h1 | h1
            · exact hstep p q h1
            · exact (hstep q p h1).symm
        have := key u v hr
        rw [if_neg ((hmS u).1 hu).2, if_neg ((hmS v).1 hv).2] at this
        exact this
    obtain ⟨es, c, hp, hs⟩ := ih S' F' hT' hlS' hlen
    have hsame : SameE F ((l, x) :: es) := by
      have h1 := hperm.map norm
      rw [List.map_cons, hn0] at h1
      show (F.map norm).Perm (List.map norm ((l, x) :: es))
      rw [List.map_cons]
      exact h1.trans (List.Perm.cons _ hs)
    have hdl : deg F' l = 0 := by
      apply Classical.byContradiction
      intro hh
      obtain ⟨e, he, h2⟩ := deg_mem hh
      exact h2 (hnt e he)
    refine ⟨(l, x) :: es, x :: c, Pl.step l x es c l1 (h.lt x hxS) hlx (by rw [← hs.deg]; exact hdl) ?_ ?_ hp, hsame⟩
    · rw [← hs.deg]
      exact hT'.pos (by omega) ((hmS x).2 ⟨hxS, Ne.symm hlx⟩)
    · rw [← least_congr (fun v => hsame.deg v)]; exact hl
end Go.Proofs.Ytafdlilojlmchaa

namespace Go.Proofs.Ytafdlilojlmchaa

/-- the rows' order -/
def ltP (x y : Nat × Nat) : Bool := decide (x.1 < y.1) || (decide (x.1 = y.1) && decide (x.2 < y.2))
theorem ltP_iff (x y : Nat × Nat) : ltP x y = true ↔ x.1 < y.1 ∨ (x.1 = y.1 ∧ x.2 < y.2) := by simp [ltP]
theorem ltP_trans {x y z : Nat × Nat} (h : ltP x y = true) (k : ltP y z = true) : ltP x z = true := by
  rw [ltP_iff] at *; omega
theorem ltP_total (x y : Nat × Nat) : ltP x y = true ∨ x = y ∨ ltP y x = true := by
  rw [ltP_iff, ltP_iff, Prod.ext_iff]; omega
theorem ltP_irr (x : Nat × Nat) : ltP x x = false := by
  cases h : ltP x x with
  | false => rfl
  | true => rw [ltP_iff] at h; omega
def AscP (L : Edges) : Prop := L.Pairwise fun x y => ltP x y = true
theorem ascP_uniq : ∀ (L M : Edges), AscP L → AscP M → (∀ x, x ∈ L ↔ x ∈ M) → L = M
  | [], [], _, _, _ => rfl
  | [], y :: M, _, _, h => by have := (h y).2 (by simp); simp at this
  | x :: L, [], _, _, h => by have := (h x).1 (by simp); simp at this
  | x :: L, y :: M, h1, h2, h => by
    obtain ⟨a1, a2⟩ := List.pairwise_cons.1 h1
    obtain ⟨b1, b2⟩ := List.pairwise_cons.1 h2
    have hxy : x = y := by
      rcases List.mem_cons.1 ((h x).1 (by simp)) with e | m1
      · exact e
      · rcases List.mem_cons.1 ((h y).2 (by simp)) with e | m2
        · exact e.symm
        · have q := ltP_trans (b1 x m1) (a1 y m2)
          rw [ltP_irr] at q; cases q
    subst hxy
    have : L = M := ascP_uniq L M a2 b2 (fun z => by
      have hz := h z
      simp only [List.mem_cons] at hz
      constructor
      · intro m
        rcases hz.1 (.inr m) with e | m'
        · subst e; have := a1 z m; rw [ltP_irr] at this; cases this
        · exact m'
      · intro m
        rcases hz.2 (.inr m) with e | m'
        · subst e; have := b1 z m; rw [ltP_irr] at this; cases this
        · exact m')
    rw [this]
/-- an edge goes to its place -/
def insP (out : Edges) (x : Nat × Nat) : Edges := out.takeWhile (fun y => ltP y x) ++ x :: out.dropWhile (fun y => ltP y x)
def sortP (L : Edges) : Edges := L.foldl insP []
theorem insP_perm (out : Edges) (x : Nat × Nat) : (insP out x).Perm (x :: out) := by
  have e := List.takeWhile_append_dropWhile (p := fun y => ltP y x) (l := out)
  unfold insP
  refine List.perm_middle.trans ?_
  rw [e]
theorem fold_perm (L : Edges) : ∀ out, (L.foldl insP out).Perm (L ++ out) := by
  induction L with
  | nil => intro out; exact List.Perm.refl _
  | cons x r ih =>
    intro out
    rw [List.foldl_cons]
    refine (ih _).trans ?_
    refine ((insP_perm out x).append_left r).trans ?_
    exact List.perm_middle
theorem sortP_perm (L : Edges) : (sortP L).Perm L := by
  have := fold_perm L []
  rwa [List.append_nil] at this
theorem dropP_gt (x : Nat × Nat) : ∀ (out : Edges), AscP out → x ∉ out → ∀ y ∈ out.dropWhile (fun y => ltP y x), ltP x y = true
  | [], _, _, y, hy => by simp at hy
  | z :: r, h, hx, y, hy => by
    obtain ⟨h1, h2⟩ := List.pairwise_cons.1 h
    have hxz : x ≠ z := fun e => hx (by simp [e])
    have hxr : x ∉ r := fun e => hx (by simp [e])
    by_cases hz : ltP z x = true
    · rw [List.dropWhile_cons, if_pos hz] at hy
      exact dropP_gt x r h2 hxr y hy
    · rw [List.dropWhile_cons, if_neg hz] at hy
      have hzx : ltP x z = true := by
        rcases ltP_total x z with e | e | e
        · exact e
        · exact absurd e hxz
        · exact absurd e hz
      rcases List.mem_cons.1 hy with e | e
      · rw [e]; exact hzx
      · exact ltP_trans hzx (h1 y e)
theorem asc_insP {out : Edges} {x : Nat × Nat} (h : AscP out) (hx : x ∉ out) : AscP (insP out x) := by
  unfold insP
  have e := List.takeWhile_append_dropWhile (p := fun y => ltP y x) (l := out)
  have ht : AscP (out.takeWhile (fun y => ltP y x) ++ out.dropWhile (fun y => ltP y x)) := by rw [e]; exact h
  obtain ⟨t1, t2, t3⟩ := List.pairwise_append.1 ht
  have tx : ∀ y ∈ out.takeWhile (fun y => ltP y x), ltP y x = true := fun y hy => by
    have := List.all_takeWhile (l := out) (p := fun y => ltP y x)
    exact List.all_eq_true.1 this y hy
  have dx := dropP_gt x out h hx
  refine List.pairwise_append.2 ⟨t1, List.pairwise_cons.2 ⟨dx, t2⟩, fun a ha b hb => ?_⟩
  rcases List.mem_cons.1 hb with hb | hb
  · rw [hb]; exact tx a ha
  · exact t3 a ha b hb
theorem asc_fold : ∀ (L out : Edges), AscP out → L.Nodup → (∀ x ∈ L, x ∉ out) → AscP (L.foldl insP out)
  | [], out, h, _, _ => h
  | x :: r, out, h, hn, hd => by
    obtain ⟨n1, n2⟩ := List.nodup_cons.1 hn
    rw [List.foldl_cons]
    refine asc_fold r (insP out x) (asc_insP h (hd x (by simp))) n2 fun y hy => ?_
    rw [(insP_perm out x).mem_iff, List.mem_cons]
    rintro (e | e)
    · subst e; exact n1 hy
    · exact hd y (by simp [hy]) e
theorem asc_sortP {L : Edges} (h : L.Nodup) : AscP (sortP L) := asc_fold L [] List.Pairwise.nil h (fun _ _ => by simp)
theorem sortP_uniq {L M : Edges} (hM : AscP M) (hL : L.Nodup) (h : L.Perm M) : sortP L = M :=
  ascP_uniq _ _ (asc_sortP hL) hM fun x => by rw [(sortP_perm L).mem_iff, h.mem_iff]

/-! ### what is a tree -/
/-- rows of a tree of n nodes -/
structure ValidT (n : Nat) (E : Edges) : Prop where
  len : E.length + 1 = n
  ord : ∀ e ∈ E, e.1 < e.2 ∧ e.2 < n
  asc : AscP E
  conn : ∀ v, v < n → Reach E 0 v
theorem norm_of {e : Nat × Nat} (h : e.1 < e.2) : norm e = e := by
  unfold norm
  rw [Nat.min_eq_left (by omega), Nat.max_eq_right (by omega)]
theorem map_norm {E : Edges} (h : ∀ e ∈ E, e.1 < e.2) : E.map norm = E := by
  induction E with
  | nil => rfl
  | cons e r ih => rw [List.map_cons, norm_of (h e (by simp)), ih fun y hy => h y (List.mem_cons_of_mem _ hy)]
theorem ValidT.tree {n : Nat} {E : Edges} (h : ValidT n E) : Tree n (List.range n) E := by
  refine ⟨List.pairwise_lt_range, fun v hv => List.mem_range.1 hv, fun e he => ?_, fun u hu v hv => ?_⟩
  · obtain ⟨h1, h2⟩ := h.ord e he
    exact ⟨List.mem_range.2 (by omega), List.mem_range.2 h2, by omega⟩
  · exact (h.conn u (List.mem_range.1 hu)).symm.trans (h.conn v (List.mem_range.1 hv))
/-- the code of a tree, the tree of a code -/
def codeN (n : Nat) (E : Edges) : List Nat := codeE n (n - 2) E
def degC (n : Nat) (c : List Nat) : Nat → Nat := fun v => (if v < n then 1 else 0) + c.count v
def treeN (n : Nat) (c : List Nat) : Edges := sortP ((treeE n c (degC n c)).map norm)
theorem valid_peel {n : Nat} {E : Edges} (h : ValidT n E) (h2 : 2 ≤ n) : ∃ es c, Pl n es c ∧ SameE E es ∧ c.length = n - 2 ∧ codeN n E = c := by
  have hl := h.len
  obtain ⟨es, c, hp, hs⟩ := tree_peel (n - 2) (List.range n) E h.tree (by rw [List.length_range]; omega) (by omega)
  have h3 := hp.length
  have h4 := hs.length
  have hc : c.length = n - 2 := by omega
  refine ⟨es, c, hp, hs, hc, ?_⟩
  have := hp.code E hs
  rw [hc] at this
  exact this
/-- degrees are told by codes -/
theorem valid_deg {n : Nat} {E : Edges} (h : ValidT n E) (h2 : 2 ≤ n) (v : Nat) (hv : v < n) : deg E v = 1 + (codeN n E).count v := by
  obtain ⟨es, c, hp, hs, hc, he⟩ := valid_peel h h2
  have hpos := h.tree.pos (by rw [List.length_range]; exact h2) (List.mem_range.2 hv)
  have := hp.deg_count v
  rw [← hs.deg, if_neg hpos] at this
  rw [he]; exact this
theorem valid_out {n : Nat} {E : Edges} (h : ValidT n E) (v : Nat) (hv : n ≤ v) : deg E v = 0 := by
  apply Classical.byContradiction
  intro hh
  obtain ⟨e, he, hd⟩ := deg_mem hh
  obtain ⟨h1, h2⟩ := h.ord e he
  rcases deg1_end hd with h3 | h3 <;> omega
theorem valid_sum {n : Nat} {E : Edges} (h : ValidT n E) : ((List.range n).map (deg E)).sum = 2 * (n - 1) := by
  have := deg_sum List.nodup_range E fun e he => ⟨(h.tree.ends e he).1, (h.tree.ends e he).2.1⟩
  rw [this]
  have := h.len
  congr 1; omega
theorem code_len {n : Nat} {E : Edges} (h : ValidT n E) : (codeN n E).length = n - 2 := by
  by_cases h2 : 2 ≤ n
  · obtain ⟨es, c, _, _, hc, he⟩ := valid_peel h h2
    rw [he, hc]
  · unfold codeN
    rw [show n - 2 = 0 by omega]; rfl
theorem code_lt {n : Nat} {E : Edges} (h : ValidT n E) : ∀ x ∈ codeN n E, x < n := by
  by_cases h2 : 2 ≤ n
  · obtain ⟨es, c, hp, hs, hc, he⟩ := valid_peel h h2
    rw [he]
    intro x hx
    clear he hc hs
    induction hp with
    | last => simp at hx
    | step l x' es c _ hx' _ _ _ _ _ ih =>
      rcases List.mem_cons.1 hx with rfl | hx
      · exact hx'
      · exact ih hx
  · unfold codeN
    rw [show n - 2 = 0 by omega]
    intro x hx
    simp [codeE] at hx
/-- the tree of a tree's code is the tree -/
theorem tree_code {n : Nat} {E : Edges} (h : ValidT n E) (h2 : 2 ≤ n) : treeN n (codeN n E) = E := by
  obtain ⟨es, c, hp, hs, hc, he⟩ := valid_peel h h2
  have hd : degC n (codeN n E) = deg es := by
    funext v
    unfold degC
    by_cases hv : v < n
    · rw [if_pos hv, ← valid_deg h h2 v hv, hs.deg]
    · rw [if_neg hv, ← hs.deg, valid_out h v (by omega), List.count_eq_zero.2 (fun hm => by have := code_lt h v hm; omega)]
  rw [treeN, hd, he, hp.tree]
  have hE := map_norm (E := E) fun e he => (h.ord e he).1
  have hperm : (es.map norm).Perm E := by
    have := hs.symm
    unfold SameE at this
    rw [hE] at this
    exact this
  exact sortP_uniq h.asc hp.nodup hperm
/-- a code's tree is a tree, and the code is its code -/
theorem code_tree {n : Nat} {c : List Nat} (hn : n = c.length + 2) (hc : ∀ x ∈ c, x < n) : ValidT n (treeN n c) ∧ codeN n (treeN n c) = c := by
  have hf := fits_code hn hc
  obtain ⟨hp, hq⟩ := fits_pl c (List.range n) (degC n c) hf
  have hnd := hp.nodup
  have hperm := sortP_perm ((treeE n c (degC n c)).map norm)
  have hnorm : ∀ e ∈ treeN n c, e.1 < e.2 ∧ e.2 < n := by
    intro e he
    obtain ⟨e', he', rfl⟩ := List.mem_map.1 (hperm.mem_iff.1 he)
    obtain ⟨h1, h2, h3⟩ := hp.lt e' he'
    unfold norm
    simp only
    omega
  have hsame : SameE (treeN n c) (treeE n c (degC n c)) := by
    unfold SameE
    rw [map_norm fun e he => (hnorm e he).1]
    exact hperm
  refine ⟨⟨?_, hnorm, asc_sortP hnd, fun v hv => ?_⟩, ?_⟩
  · rw [hsame.length, hp.length]; omega
  · refine hsame.symm.reach (hp.reach 0 v ?_ ?_)
    · rw [hq]; unfold degC; rw [if_pos (by omega)]; omega
    · rw [hq]; unfold degC; rw [if_pos hv]; omega
  · have := hp.code _ hsame
    unfold codeN
    rw [show n - 2 = c.length by omega]
    exact this
end Go.Proofs.Ytafdlilojlmchaa

namespace Go.Proofs.Ytafdlilojlmchaa

def side1 (x : Nat) (out : List Nat) (e : Nat × Nat) : List Nat := if e.1 = x ∧ e.2 ∉ out then out ++ [e.2] else out
def side2 (x : Nat) (out : List Nat) (e : Nat × Nat) : List Nat := if e.2 = x ∧ e.1 ∉ out then out ++ [e.1] else out
def bstepE (x : Nat) (out : List Nat) (e : Nat × Nat) : List Nat := side2 x (side1 x out e) e
def roundB (E : Edges) (x : Nat) (out : List Nat) : List Nat := E.foldl (bstepE x) out
def bfs (E : Edges) : Nat → Nat → List Nat → List Nat
  | 0, _, out => out
  | f + 1, i, out => if i < out.length then bfs E f (i + 1) (roundB E (out.getD i 0) out) else out
def reachedN (n : Nat) (E : Edges) : List Nat := bfs E (n + 1) 0 [0]

theorem side1_pre (x : Nat) (out : List Nat) (e : Nat × Nat) : out <+: side1 x out e := by
  unfold side1; split
  · exact List.prefix_append _ _
  · exact List.prefix_refl _
theorem side2_pre (x : Nat) (out : List Nat) (e : Nat × Nat) : out <+: side2 x out e := by
  unfold side2; split
  · exact List.prefix_append _ _
  · exact List.prefix_refl _
theorem step_pre (x : Nat) (out : List Nat) (e : Nat × Nat) : out <+: bstepE x out e := (side1_pre x out e).trans (side2_pre x _ e)
theorem round_pre (E : Edges) (x : Nat) : ∀ out, out <+: roundB E x out := by
  induction E with
  | nil => intro out; exact List.prefix_refl _
  | cons e r ih => intro out; exact (step_pre x out e).trans (ih _)
/-- what every step keeps: no node twice, each one reached, none too great -/
structure BInv (n : Nat) (E : Edges) (out : List Nat) : Prop where
  nd : out.Nodup
  rch : ∀ v ∈ out, Reach E 0 v
  lt : ∀ v ∈ out, v < n
theorem binv_add {n : Nat} {E : Edges} {out : List Nat} (h : BInv n E out) {x y : Nat} (hx : x ∈ out) (hy : y ∉ out) (hyn : y < n) (he : (x, y) ∈ E ∨ (y, x) ∈ E) : BInv n E (out ++ [y]) := by
  refine ⟨?_, fun v hv => ?_, fun v hv => ?_⟩
  · rw [List.nodup_append]
    refine ⟨h.nd, by simp, fun a ha b hb => ?_⟩
    simp only [List.mem_singleton] at hb
    rintro rfl
    rw [hb] at ha; exact hy ha
  · rcases List.mem_append.1 hv with hv | hv
    · exact h.rch v hv
    · simp only [List.mem_singleton] at hv
      rw [hv]
      exact .step _ _ _ (h.rch x hx) he
  · rcases List.mem_append.1 hv with hv | hv
    · exact h.lt v hv
    · simp only [List.mem_singleton] at hv; rw [hv]; exact hyn
theorem binv_step {n : Nat} {E : Edges} (hE : ∀ e ∈ E, e.1 < n ∧ e.2 < n) {out : List Nat} (h : BInv n E out) {x : Nat} (hx : x ∈ out) {e : Nat × Nat} (he : e ∈ E) : BInv n E (bstepE x out e) ∧ (∀ y, (e = (x, y) ∨ e = (y, x)) → y ∈ bstepE x out e) := by
  have h1 : BInv n E (side1 x out e) ∧ (e.1 = x → e.2 ∈ side1 x out e) := by
    unfold side1
    split
    · rename_i hc
      exact ⟨binv_add h hx hc.2 (hE e he).2 (.inl (by rw [← hc.1]; exact he)), fun _ => by simp⟩
    · rename_i hc
      refine ⟨h, fun hh => Classical.byContradiction fun hn => hc ⟨hh, hn⟩⟩
  have hx1 : x ∈ side1 x out e := (side1_pre x out e).subset hx
  have h2 : BInv n E (bstepE x out e) ∧ (e.2 = x → e.1 ∈ bstepE x out e) := by
    unfold bstepE side2
    split
    · rename_i hc
      exact ⟨binv_add h1.1 hx1 hc.2 (hE e he).1 (.inr (by rw [← hc.1]; exact he)), fun _ => by simp⟩
    · rename_i hc
      refine ⟨h1.1, fun hh => Classical.byContradiction fun hn => hc ⟨hh, hn⟩⟩
  refine ⟨h2.1, fun y hy => ?_⟩
  rcases hy with rfl | rfl
  · exact (side2_pre x _ _).subset (h1.2 rfl)
  · exact h2.2 rfl
theorem binv_round {n : Nat} {E : Edges} (hE : ∀ e ∈ E, e.1 < n ∧ e.2 < n) {x : Nat} : ∀ (L : Edges), (∀ e ∈ L, e ∈ E) → ∀ out, BInv n E out → x ∈ out → BInv n E (roundB L x out) ∧ ∀ y, ((x, y) ∈ L ∨ (y, x) ∈ L) → y ∈ roundB L x out := by
  intro L
  induction L with
  | nil => intro _ out h _; exact ⟨h, fun y hy => by simp at hy⟩
  | cons e r ih =>
    intro hL out h hx
    obtain ⟨s1, s2⟩ := binv_step hE h hx (hL e (by simp))
    obtain ⟨i1, i2⟩ := ih (fun z hz => hL z (List.mem_cons_of_mem _ hz)) _ s1 ((step_pre x out e).subset hx)
    refine ⟨i1, fun y hy => ?_⟩
    have hc : (e = (x, y) ∨ e = (y, x)) ∨ ((x, y) ∈ r ∨ (y, x) ∈ r) := by
      rcases hy with hy | hy <;> rcases List.mem_cons.1 hy with hy | hy
      · exact .inl (.inl hy.symm)
      · exact .inr (.inl hy)
      · exact .inl (.inr hy.symm)
      · exact .inr (.inr hy)
    rcases hc with hc | hc
    · exact (round_pre r x _).subset (s2 y hc)
    · exact i2 y hc
theorem binv_len {n : Nat} {E : Edges} {out : List Nat} (h : BInv n E out) : out.length ≤ n := by
  have := List.Nodup.length_le_of_subset (l₂ := List.range n) h.nd fun v hv => List.mem_range.2 (h.lt v hv)
  rwa [List.length_range] at this
theorem bfs_inv {n : Nat} {E : Edges} (hE : ∀ e ∈ E, e.1 < n ∧ e.2 < n) : ∀ (f i : Nat) (out : List Nat), BInv n E out → 0 ∈ out → (∀ j (_ : j < i) (hj : j < out.length) y, ((out[j], y) ∈ E ∨ (y, out[j]) ∈ E) → y ∈ out) → n < f + i →
    BInv n E (bfs E f i out) ∧ 0 ∈ bfs E f i out ∧ ∀ x ∈ bfs E f i out, ∀ y, ((x, y) ∈ E ∨ (y, x) ∈ E) → y ∈ bfs E f i out := by
  intro f
  induction f with
  | zero =>
    intro i out h h0 hc hf
    refine ⟨h, h0, fun x hx y hy => ?_⟩
    obtain ⟨j, hj, rfl⟩ := List.getElem_of_mem hx
    have hj' : j < out.length := hj
    have := binv_len h
    exact hc j (by omega) hj' y hy
  | succ f ih =>
    intro i out h h0 hc hf
    rw [bfs]
    split
    · rename_i hi
      have hx : out.getD i 0 ∈ out := by
        rw [List.getD_eq_getElem?_getD, List.getElem?_eq_getElem hi]
        exact List.getElem_mem hi
      obtain ⟨r1, r2⟩ := binv_round hE E (fun _ h => h) out h hx
      have hpre := round_pre E (out.getD i 0) out
      refine ih (i + 1) _ r1 (hpre.subset h0) (fun j hj hjl y hy => ?_) (by omega)
      have hjo : j < out.length := by omega
      have e1 : (roundB E (out.getD i 0) out)[j] = out[j] := (List.IsPrefix.getElem hpre hjo).symm
      rw [e1] at hy
      by_cases hji : j = i
      · subst hji
        have e2 : out.getD j 0 = out[j] := by rw [List.getD_eq_getElem?_getD, List.getElem?_eq_getElem hjo]; rfl
        rw [e2] at r2 ⊢
        exact r2 y hy
      · exact hpre.subset (hc j (by omega) hjo y hy)
    · rename_i hi
      refine ⟨h, h0, fun x hx y hy => ?_⟩
      obtain ⟨j, hj, rfl⟩ := List.getElem_of_mem hx
      exact hc j (by omega) hj y hy
theorem reachedN_iff {n : Nat} {E : Edges} (hn : 0 < n) (hE : ∀ e ∈ E, e.1 < n ∧ e.2 < n) : (reachedN n E).length = n ↔ ∀ v, v < n → Reach E 0 v := by
  have h0 : BInv n E [0] := ⟨by simp, fun v hv => by simp at hv; rw [hv]; exact .refl _, fun v hv => by simp at hv; omega⟩
  obtain ⟨b1, b2, b3⟩ := bfs_inv hE (n + 1) 0 [0] h0 (by simp) (fun j hj => absurd hj (by omega)) (by omega)
  show (bfs E (n + 1) 0 [0]).length = n ↔ _
  constructor
  · intro hl v hv
    refine b1.rch v ?_
    apply Classical.byContradiction
    intro hno
    have hsub : ∀ x ∈ v :: bfs E (n + 1) 0 [0], x ∈ List.range n := fun x hx => by
      rcases List.mem_cons.1 hx with rfl | hx
      · exact List.mem_range.2 hv
      · exact List.mem_range.2 (b1.lt x hx)
    have := List.Nodup.length_le_of_subset (List.nodup_cons.2 ⟨hno, b1.nd⟩) hsub
    rw [List.length_range, List.length_cons] at this
    omega
  · intro hall
    have hmem : ∀ v, Reach E 0 v → v ∈ bfs E (n + 1) 0 [0] := by
      have key : ∀ z v, Reach E z v → z ∈ bfs E (n + 1) 0 [0] → v ∈ bfs E (n + 1) 0 [0] := by
        intro z v hv hz
        induction hv with
        | refl => exact hz
        | step p q hp he ih => exact b3 _ ih _ he
      exact fun v hv => key 0 v hv b2
    have h1 := List.Nodup.length_le_of_subset (List.nodup_range (n := n)) fun v hv => hmem v (hall v (List.mem_range.1 hv))
    rw [List.length_range] at h1
    have := binv_len b1
    omega
theorem bfs_len {n : Nat} {E : Edges} (hn : 0 < n) (hE : ∀ e ∈ E, e.1 < n ∧ e.2 < n) : (reachedN n E).length ≤ n := by
  have h0 : BInv n E [0] := ⟨by simp, fun v hv => by simp at hv; rw [hv]; exact .refl _, fun v hv => by simp at hv; omega⟩
  exact binv_len (bfs_inv hE (n + 1) 0 [0] h0 (by simp) (fun j hj => absurd hj (by omega)) (by omega)).1

/-! ### rows of numbers -/
def rowsE (E : Edges) : List (List Int) := E.map fun e => [(e.1 : Int), (e.2 : Int)]
def edgesR (rows : List (List Int)) : Edges := rows.map fun r => ((r.getD 0 0).toNat, (r.getD 1 0).toNat)
theorem edges_rows (E : Edges) : edgesR (rowsE E) = E := by
  unfold edgesR rowsE
  rw [List.map_map]
  exact (List.map_congr_left fun e _ => by simp).trans (List.map_id _)
/-- a row is two nodes, the lesser one first, behind the row ahead of it -/
def okRow (n : Int) (r : List Int) : Bool := match r with
  | [a, b] => decide (0 ≤ a) && decide (a + 1 ≤ b) && decide (b ≤ n - 1)
  | _ => false
def okNext (p r : List Int) : Bool := match p, r with
  | [a, b], [c, d] => decide (a < c) || (decide (a = c) && decide (b < d))
  | _, _ => false
def okAt (n : Int) (rows : List (List Int)) (i : Nat) : Bool := okRow n (rows.getD i []) && (decide (i = 0) || okNext (rows.getD (i - 1) []) (rows.getD i []))
def okUp (n : Int) (rows : List (List Int)) (k : Nat) : Bool := (List.range k).all (okAt n rows)
theorem okUp_step (n : Int) (rows : List (List Int)) (k : Nat) : okUp n rows (k + 1) = (okUp n rows k && okAt n rows k) := by
  unfold okUp
  rw [List.range_succ, List.all_append]
  simp
theorem okUp_at {n : Int} {rows : List (List Int)} {k i : Nat} (h : okUp n rows k = true) (hi : i < k) : okAt n rows i = true :=
  List.all_eq_true.1 h i (List.mem_range.2 hi)
theorem okUp_no {n : Int} {rows : List (List Int)} {k i : Nat} (h : okAt n rows i = false) (hi : i < k) : okUp n rows k = false := by
  cases hh : okUp n rows k with
  | false => rfl
  | true => rw [okUp_at hh hi] at h; cases h
theorem okRow_eq {n : Int} {r : List Int} (h : okRow n r = true) : ∃ a b : Nat, r = [(a : Int), (b : Int)] ∧ a < b ∧ (b : Int) ≤ n - 1 := by
  unfold okRow at h
  split at h
  · rename_i a b
    simp only [Bool.and_eq_true, decide_eq_true_eq] at h
    obtain ⟨⟨h1, h2⟩, h3⟩ := h
    exact ⟨a.toNat, b.toNat, by rw [Int.toNat_of_nonneg h1, Int.toNat_of_nonneg (by omega)], by omega, by omega⟩
  · cases h
/-- are the rows a tree of so many nodes? -/
def treeB (n : Int) (rows : List (List Int)) : Bool :=
  decide (1 ≤ n ∧ n ≤ 7) && decide ((rows.length : Int) = n - 1) && okUp n rows rows.length && decide (((reachedN n.toNat (edgesR rows)).length : Int) = n)
theorem ok_rows {n : Int} {rows : List (List Int)} (h : okUp n rows rows.length = true) : rows = rowsE (edgesR rows) ∧ (∀ e ∈ edgesR rows, e.1 < e.2 ∧ (e.2 : Int) < n) ∧ AscP (edgesR rows) := by
  have hrow : ∀ r ∈ rows, ∃ a b : Nat, r = [(a : Int), (b : Int)] ∧ a < b ∧ (b : Int) ≤ n - 1 := by
    intro r hr
    obtain ⟨i, hi, rfl⟩ := List.getElem_of_mem hr
    have h1 := okUp_at h hi
    unfold okAt at h1
    rw [Bool.and_eq_true] at h1
    have e : rows.getD i [] = rows[i] := by rw [List.getD_eq_getElem?_getD, List.getElem?_eq_getElem hi]; rfl
    rw [e] at h1
    exact okRow_eq h1.1
  refine ⟨?_, ?_, ?_⟩
  · unfold rowsE edgesR
    rw [List.map_map]
    refine (List.map_id rows).symm.trans (List.map_congr_left fun r hr => ?_)
    obtain ⟨a, b, rfl, _, _⟩ := hrow r hr
    simp
  · intro e he
    obtain ⟨r, hr, rfl⟩ := List.mem_map.1 he
    obtain ⟨a, b, rfl, h1, h2⟩ := hrow r hr
    simp
    omega
  · show List.Pairwise _ (rows.map _)
    have key : ∀ (L : List (List Int)), (∀ i (hi : i + 1 < L.length), okNext (L.getD i []) (L.getD (i + 1) []) = true) → (∀ r ∈ L, ∃ a b : Nat, r = [(a : Int), (b : Int)] ∧ a < b ∧ (b : Int) ≤ n - 1) → AscP (edgesR L) := by
      intro L
      induction L with
      | nil => intro _ _; exact List.Pairwise.nil
      | cons r t ih =>
        intro h1 h2
        have iht := ih (fun i hi => h1 (i + 1) (by simp; omega)) (fun z hz => h2 z (List.mem_cons_of_mem _ hz))
        show AscP (_ :: edgesR t)
        refine List.pairwise_cons.2 ⟨fun y hy => ?_, iht⟩
        cases t with
        | nil => simp [edgesR] at hy
        | cons s u =>
          obtain ⟨a, b, rfl, _, _⟩ := h2 r (by simp)
          obtain ⟨c, d, rfl, _, _⟩ := h2 s (by simp)
          have h3 := h1 0 (by simp)
          have h4 : ltP (((([(a : Int), (b : Int)] : List Int).getD 0 0).toNat), ((([(a : Int), (b : Int)] : List Int).getD 1 0).toNat)) (c, d) = true := by
            rw [ltP_iff]
            simp [okNext] at h3
            simp
            omega
          have hcd : edgesR ([(c : Int), (d : Int)] :: u) = (c, d) :: edgesR u := by simp [edgesR]
          rw [hcd] at hy iht
          rcases List.mem_cons.1 hy with rfl | hy
          · exact h4
          · exact ltP_trans h4 ((List.pairwise_cons.1 iht).1 y hy)
    refine key rows (fun i hi => ?_) hrow
    have h1 := okUp_at h hi
    unfold okAt at h1
    simp only [Bool.and_eq_true, Bool.or_eq_true, decide_eq_true_eq] at h1
    rcases h1.2 with h2 | h2
    · omega
    · exact h2
theorem rows_ok {n : Int} {E : Edges} (ho : ∀ e ∈ E, e.1 < e.2 ∧ (e.2 : Int) < n) (ha : AscP E) : okUp n (rowsE E) (rowsE E).length = true := by
  unfold okUp
  rw [List.all_eq_true]
  intro i hi
  rw [List.mem_range] at hi
  have hiE : i < E.length := by simpa [rowsE] using hi
  have e1 : (rowsE E).getD i [] = [(E[i].1 : Int), (E[i].2 : Int)] := by
    rw [List.getD_eq_getElem?_getD, List.getElem?_eq_getElem hi]; simp [rowsE]
  obtain ⟨o1, o2⟩ := ho _ (List.getElem_mem hiE)
  unfold okAt
  rw [e1, Bool.and_eq_true, Bool.or_eq_true, decide_eq_true_eq]
  refine ⟨?_, ?_⟩
  · simp [okRow]; omega
  · by_cases h0 : i = 0
    · exact .inl h0
    · right
      have hp : i - 1 < E.length := by omega
      have e2 : (rowsE E).getD (i - 1) [] = [(E[i - 1].1 : Int), (E[i - 1].2 : Int)] := by
        rw [List.getD_eq_getElem?_getD, List.getElem?_eq_getElem (by simp [rowsE]; omega)]; simp [rowsE]
      rw [e2]
      have := (List.pairwise_iff_getElem.1 ha) (i - 1) i hp hiE (by omega)
      rw [ltP_iff] at this
      simp [okNext]
      omega
/-- the rows are a tree just if they are the rows of one -/
theorem treeB_iff {n : Int} {rows : List (List Int)} : treeB n rows = true ↔ (1 ≤ n ∧ n ≤ 7) ∧ rows = rowsE (edgesR rows) ∧ ValidT n.toNat (edgesR rows) := by
  have hlen : (edgesR rows).length = rows.length := by simp [edgesR]
  unfold treeB
  simp only [Bool.and_eq_true, decide_eq_true_eq]
  constructor
  · rintro ⟨⟨⟨h1, h2⟩, h3⟩, h4⟩
    obtain ⟨r1, r2, r3⟩ := ok_rows h3
    have hE : ∀ e ∈ edgesR rows, e.1 < n.toNat ∧ e.2 < n.toNat := fun e he => by have := r2 e he; omega
    exact ⟨h1, r1, by omega, fun e he => ⟨(r2 e he).1, (hE e he).2⟩, r3, (reachedN_iff (by omega) hE).1 (by omega)⟩
  · rintro ⟨h1, h2, h3⟩
    have hE : ∀ e ∈ edgesR rows, e.1 < n.toNat ∧ e.2 < n.toNat := fun e he => by have := h3.ord e he; omega
    have hl := h3.len
    refine ⟨⟨⟨h1, by omega⟩, ?_⟩, ?_⟩
    · have := rows_ok (n := n) (fun e he => ⟨(h3.ord e he).1, by have := (h3.ord e he).2; omega⟩) h3.asc
      rw [← h2] at this
      exact this
    · have := (reachedN_iff (n := n.toNat) (by omega) hE).2 h3.conn
      omega
end Go.Proofs.Ytafdlilojlmchaa

namespace Go.Proofs.Ytafdlilojlmchaa

def Adj (E : Edges) (v x : Nat) : Prop := (v, x) ∈ E ∨ (x, v) ∈ E
theorem Adj.symm {E : Edges} {v x : Nat} (h : Adj E v x) : Adj E x v := Or.symm h
/-- the nodes beside a node, edge by edge -/
def nb1 (v : Nat) (e : Nat × Nat) : List Nat := (if e.1 = v then [e.2] else []) ++ (if e.2 = v then [e.1] else [])
def nb (E : Edges) (v : Nat) : List Nat := E.flatMap (nb1 v)
theorem mem_nb {E : Edges} {v x : Nat} : x ∈ nb E v ↔ Adj E v x := by
  unfold nb Adj
  rw [List.mem_flatMap]
  constructor
  · rintro ⟨⟨a, b⟩, he, hx⟩
    unfold nb1 at hx
    simp only [List.mem_append] at hx
    rcases hx with hx | hx
    · split at hx
      · rename_i h1
        simp only [List.mem_singleton] at hx
        subst hx; left; rw [← h1]; exact he
      · simp at hx
    · split at hx
      · rename_i h1
        simp only [List.mem_singleton] at hx
        subst hx; right; rw [← h1]; exact he
      · simp at hx
  · rintro (h | h)
    · exact ⟨_, h, by simp [nb1]⟩
    · exact ⟨_, h, by simp [nb1]⟩
/-- .. node by node -/
def bes1 (v x : Nat) (e : Nat × Nat) : List Nat := if (e.1 = v ∧ e.2 = x) ∨ (e.2 = v ∧ e.1 = x) then [x] else []
def besN (n : Nat) (E : Edges) (v : Nat) : List Nat := (List.range n).flatMap fun x => E.flatMap (bes1 v x)
theorem nb_asc {E : Edges} (ho : ∀ e ∈ E, e.1 < e.2) (ha : AscP E) (v : Nat) : (nb E v).Pairwise (· < ·) := by
  induction E with
  | nil => exact List.Pairwise.nil
  | cons e r ih =>
    obtain ⟨a1, a2⟩ := List.pairwise_cons.1 ha
    have h1 := ho e (by simp)
    show (nb1 v e ++ nb r v).Pairwise _
    rw [List.pairwise_append]
    refine ⟨?_, ih (fun y hy => ho y (List.mem_cons_of_mem _ hy)) a2, fun x hx y hy => ?_⟩
    · unfold nb1
      by_cases e1 : e.1 = v
      · rw [if_pos e1, if_neg (by omega)]; simp
      · rw [if_neg e1]; split <;> simp
    · have hx1 : (e.1 = v ∧ x = e.2) ∨ (e.2 = v ∧ x = e.1) := by
        unfold nb1 at hx
        simp only [List.mem_append] at hx
        rcases hx with hx | hx
        · split at hx
          · rename_i q; simp only [List.mem_singleton] at hx; exact .inl ⟨q, hx⟩
          · simp at hx
        · split at hx
          · rename_i q; simp only [List.mem_singleton] at hx; exact .inr ⟨q, hx⟩
          · simp at hx
      rcases mem_nb.1 hy with hm | hm
      · have q1 := (ltP_iff _ _).1 (a1 _ hm)
        have q2 := ho _ (List.mem_cons_of_mem _ hm)
        simp only at q1 q2
        omega
      · have q1 := (ltP_iff _ _).1 (a1 _ hm)
        have q2 := ho _ (List.mem_cons_of_mem _ hm)
        simp only at q1 q2
        omega
theorem bes_at {E : Edges} (ho : ∀ e ∈ E, e.1 < e.2) (v x : Nat) : E.flatMap (bes1 v x) = (nb E v).filter fun y => decide (y = x) := by
  induction E with
  | nil => rfl
  | cons e r ih =>
    have h1 := ho e (by simp)
    show bes1 v x e ++ r.flatMap (bes1 v x) = (nb1 v e ++ nb r v).filter _
    rw [List.filter_append, ih fun y hy => ho y (List.mem_cons_of_mem _ hy)]
    congr 1
    unfold bes1 nb1
    by_cases e1 : e.1 = v
    · rw [if_pos e1, if_neg (c := e.2 = v) (by omega)]
      by_cases e2 : e.2 = x
      · rw [if_pos (.inl ⟨e1, e2⟩)]; simp [e2]
      · rw [if_neg (by omega)]; simp [e2]
    · rw [if_neg e1]
      by_cases e2 : e.2 = v
      · rw [if_pos e2]
        by_cases e3 : e.1 = x
        · rw [if_pos (.inr ⟨e2, e3⟩)]; simp [e3]
        · rw [if_neg (by omega)]; simp [e3]
      · rw [if_neg e2, if_neg (by omega)]; rfl
theorem asc_parts : ∀ (L : List Nat), L.Pairwise (· < ·) → ∀ n, (List.range n).flatMap (fun x => L.filter fun y => decide (y = x)) = L.filter fun y => decide (y < n) := by
  intro L hL n
  induction n with
  | zero => symm; simp
  | succ n ih =>
    rw [List.range_succ, List.flatMap_append, ih]
    simp only [List.flatMap_cons, List.flatMap_nil, List.append_nil]
    clear ih
    induction L with
    | nil => rfl
    | cons a r ih =>
      obtain ⟨a1, a2⟩ := List.pairwise_cons.1 hL
      have ih := ih a2
      rcases Nat.lt_trichotomy a n with h | h | h
      · rw [List.filter_cons_of_pos (by simp [h]), List.filter_cons_of_neg (by simp; omega), List.filter_cons_of_pos (by simp; omega), List.cons_append, ih]
      · subst h
        rw [List.filter_cons_of_neg (by simp), List.filter_cons_of_pos (by simp), List.filter_cons_of_pos (by simp)]
        have e1 : (r.filter fun y => decide (y < a)) = [] := by
          rw [List.filter_eq_nil_iff]; intro y hy; have := a1 y hy; simp; omega
        rw [e1] at ih ⊢
        rw [← ih]; rfl
      · rw [List.filter_cons_of_neg (by simp; omega), List.filter_cons_of_neg (by simp; omega), List.filter_cons_of_neg (by simp; omega), ih]
theorem bes_nb {n : Nat} {E : Edges} (ho : ∀ e ∈ E, e.1 < e.2 ∧ e.2 < n) (ha : AscP E) (v : Nat) : besN n E v = nb E v := by
  unfold besN
  have h1 : (fun x => E.flatMap (bes1 v x)) = fun x => (nb E v).filter fun y => decide (y = x) := funext fun x => bes_at (fun e he => (ho e he).1) v x
  rw [h1, asc_parts _ (nb_asc (fun e he => (ho e he).1) ha v), List.filter_eq_self]
  intro y hy
  rcases mem_nb.1 hy with h | h
  · have := ho _ h; simp at this ⊢; omega
  · have := ho _ h; simp at this ⊢; omega

/-! ### branches -/
def away (E : Edges) (v : Nat) (fr : Int) : List Nat := (nb E v).filter fun x => !decide ((x : Int) = fr)
theorem mem_away {E : Edges} {v x : Nat} {fr : Int} : x ∈ away E v fr ↔ Adj E v x ∧ (x : Int) ≠ fr := by
  unfold away
  rw [List.mem_filter, mem_nb]; simp
/-- a branch has an end -/
def Brn (E : Edges) : Nat → Nat → Int → Prop
  | 0, _, _ => False
  | d + 1, v, fr => ∀ x ∈ away E v fr, Brn E d x v
theorem brn_mono {E : Edges} : ∀ (d : Nat) (v : Nat) (fr : Int), Brn E d v fr → Brn E (d + 1) v fr := by
  intro d
  induction d with
  | zero => intro v fr h; exact h.elim
  | succ d ih => intro v fr h x hx; exact ih _ _ (h x hx)
theorem brn_le {E : Edges} {d d' : Nat} (h : d ≤ d') {v : Nat} {fr : Int} (hb : Brn E d v fr) : Brn E d' v fr := by
  induction h with
  | refl => exact hb
  | step _ ih => exact brn_mono _ _ _ ih
theorem brn_congr {E F : Edges} (h : ∀ a b, Adj E a b ↔ Adj F a b) : ∀ (d v : Nat) (fr : Int), Brn E d v fr → Brn F d v fr := by
  intro d
  induction d with
  | zero => intro v fr hb; exact hb
  | succ d ih => intro v fr hb x hx; rw [mem_away, ← h] at hx; exact ih _ _ (hb x (mem_away.2 hx))
theorem brn_from {E : Edges} {d v : Nat} (h : Brn E d v (-1)) (fr : Int) : Brn E d v fr := by
  cases d with
  | zero => exact h
  | succ d => exact fun x hx => h x (mem_away.2 ⟨(mem_away.1 hx).1, by omega⟩)
theorem adj_new {es : Edges} {l x v y : Nat} (h : Adj ((l, x) :: es) v y) : Adj es v y ∨ (v = l ∧ y = x) ∨ (v = x ∧ y = l) := by
  rcases h with h | h <;> rcases List.mem_cons.1 h with h | h
  · cases h; exact .inr (.inl ⟨rfl, rfl⟩)
  · exact .inl (.inl h)
  · cases h; exact .inr (.inr ⟨rfl, rfl⟩)
  · exact .inl (.inr h)
theorem adj_deg {es : Edges} {l y : Nat} (hl : deg es l = 0) : ¬ Adj es l y ∧ ¬ Adj es y l := ⟨fun h => deg_edge (u := y) (Or.symm h) hl, fun h => deg_edge (u := y) h hl⟩
theorem brn_add {es : Edges} {l x : Nat} (hl : deg es l = 0) : ∀ (d v : Nat) (fr : Int), Brn es d v fr → v ≠ l → Brn ((l, x) :: es) (d + 1) v fr := by
  intro d
  induction d with
  | zero => intro v fr h; exact h.elim
  | succ d ih =>
    intro v fr h hv y hy
    obtain ⟨h1, h2⟩ := mem_away.1 hy
    rcases adj_new h1 with h1 | ⟨h1, _⟩ | ⟨rfl, rfl⟩
    · exact ih y v (h y (mem_away.2 ⟨h1, h2⟩)) (fun e => (adj_deg hl).2 (e ▸ h1))
    · exact absurd h1 hv
    · intro z hz
      obtain ⟨z1, z2⟩ := mem_away.1 hz
      exfalso
      rcases adj_new z1 with z1 | ⟨_, z1⟩ | ⟨z1, _⟩
      · exact (adj_deg hl).1 z1
      · exact z2 (by rw [z1])
      · exact hv z1.symm
theorem brn_pl {n : Nat} {es : Edges} {c : List Nat} (h : Pl n es c) : ∀ v, Brn es (2 * es.length) v (-1) := by
  induction h with
  | last a b hab hb =>
    intro v y hy z hz
    obtain ⟨h1, _⟩ := mem_away.1 hy
    obtain ⟨h3, h4⟩ := mem_away.1 hz
    exfalso
    simp only [Adj, List.mem_singleton, Prod.mk.injEq] at h1 h3
    omega
  | step l x es c _ _ hlx hl hx _ hp ih =>
    intro v
    have e : 2 * ((l, x) :: es).length = 2 * es.length + 1 + 1 := by simp; omega
    rw [e]
    by_cases hv : v = l
    · subst hv
      intro y hy
      obtain ⟨h1, _⟩ := mem_away.1 hy
      rcases adj_new h1 with h1 | ⟨_, rfl⟩ | ⟨h1, _⟩
      · exact ((adj_deg hl).1 h1).elim
      · exact brn_add hl _ _ _ (brn_from (ih y) _) (Ne.symm hlx)
      · exact absurd h1 hlx
    · exact brn_mono _ _ _ (brn_add hl _ _ _ (ih v) hv)
theorem valid_brn {n : Nat} {E : Edges} (h : ValidT n E) (h7 : n ≤ 7) (v : Nat) (fr : Int) : Brn E 14 v fr := by
  by_cases h2 : 2 ≤ n
  · obtain ⟨es, c, hp, hs, hc, _⟩ := valid_peel h h2
    have h1 := brn_pl hp v
    have hl := hp.length
    exact brn_from (brn_congr (fun a b => (hs.ends a b).symm) _ _ _ (brn_le (d' := 14) (by omega) h1)) fr
  · have h0 : E = [] := List.eq_nil_of_length_eq_zero (by have := h.len; omega)
    subst h0
    intro x hx
    have := (mem_away.1 hx).1
    simp [Adj] at this

/-! ### the nodes of a branch -/
def nds (E : Edges) : Nat → Nat → Int → List Nat
  | 0, _, _ => []
  | d + 1, v, fr => v :: (away E v fr).flatMap fun x => nds E d x v
theorem cnt_flat {α : Type} (f : α → List Nat) (y : Nat) (L : List α) : (L.flatMap f).count y = (L.map fun z => (f z).count y).sum := by
  induction L with
  | nil => rfl
  | cons a r ih => rw [List.flatMap_cons, List.count_append, ih, List.map_cons, List.sum_cons]
theorem count_perm {α : Type} (f : α → List Nat) (y : Nat) {L M : List α} (h : L.Perm M) : (L.flatMap f).count y = (M.flatMap f).count y := (h.flatMap_right f).count_eq y
theorem nb_new (es : Edges) (l x v : Nat) : nb ((l, x) :: es) v = nb1 v (l, x) ++ nb es v := rfl
theorem nb_none {es : Edges} {l : Nat} (hl : deg es l = 0) : nb es l = [] := by
  cases h : nb es l with
  | nil => rfl
  | cons y r =>
    have : Adj es l y := mem_nb.1 (by rw [h]; simp)
    exact ((adj_deg hl).1 this).elim
theorem away_same {es : Edges} {l x v : Nat} (h1 : v ≠ l) (h2 : v ≠ x) (fr : Int) : away ((l, x) :: es) v fr = away es v fr := by
  unfold away
  rw [nb_new, nb1, if_neg (fun e => h1 e.symm), if_neg (fun e => h2 e.symm)]; rfl
theorem away_leaf {es : Edges} {l x : Nat} (hl : deg es l = 0) (hlx : l ≠ x) : away ((l, x) :: es) l x = [] := by
  unfold away
  rw [nb_new, nb_none hl, nb1, if_pos rfl, if_neg (fun e => hlx e.symm)]; simp
theorem away_stem {es : Edges} {l x : Nat} (hlx : l ≠ x) {fr : Int} (hf : fr ≠ l) : away ((l, x) :: es) x fr = l :: away es x fr := by
  unfold away
  rw [nb_new, nb1, if_neg hlx, if_pos rfl]
  simp only [List.nil_append, List.singleton_append]
  rw [List.filter_cons_of_pos (by simp; omega)]
theorem away_back {es : Edges} {l x : Nat} (hl : deg es l = 0) (hlx : l ≠ x) : away ((l, x) :: es) x l = away es x (-1) := by
  unfold away
  rw [nb_new, nb1, if_neg hlx, if_pos rfl]
  simp only [List.nil_append, List.singleton_append]
  rw [List.filter_cons_of_neg (by simp)]
  refine List.filter_congr fun y hy => ?_
  have h1 : y ≠ l := fun e => (adj_deg hl).2 (e ▸ mem_nb.1 hy)
  simp; omega
theorem sum_map_eq {α : Type} {f g : α → Nat} {L : List α} (h : ∀ x ∈ L, f x = g x) : (L.map f).sum = (L.map g).sum := by rw [List.map_congr_left h]
theorem nds_add {es : Edges} {l x : Nat} (hl : deg es l = 0) (hlx : l ≠ x) : ∀ (d v : Nat) (fr : Int), Brn es d v fr → v ≠ l → fr ≠ l →
    (nds ((l, x) :: es) (d + 1) v fr).count l = (nds es d v fr).count x ∧ ∀ y, y ≠ l → (nds ((l, x) :: es) (d + 1) v fr).count y = (nds es d v fr).count y := by
  intro d
  induction d with
  | zero => intro v fr h; exact h.elim
  | succ d ih =>
    intro v fr h hv hf
    have key : ∀ z ∈ away es v fr, (nds ((l, x) :: es) (d + 1) z v).count l = (nds es d z v).count x ∧ ∀ y, y ≠ l → (nds ((l, x) :: es) (d + 1) z v).count y = (nds es d z v).count y := by
      intro z hz
      exact ih z v (h z hz) (fun e => (adj_deg hl).2 (e ▸ (mem_away.1 hz).1)) (by omega)
    rw [nds, nds]
    by_cases hvx : v = x
    · subst hvx
      rw [away_stem hlx hf]
      rw [List.flatMap_cons]
      have hleaf : nds ((l, v) :: es) (d + 1) l v = [l] := by rw [nds, away_leaf hl hlx]; rfl
      rw [hleaf]
      have s1 := sum_map_eq (L := away es v fr) (f := fun z => (nds ((l, v) :: es) (d + 1) z v).count l) (g := fun z => (nds es d z v).count v) fun z hz => (key z hz).1
      constructor
      · rw [List.count_cons_of_ne (fun e => hv e), List.count_append, List.count_cons_self, List.count_cons_self, cnt_flat, cnt_flat, s1, List.count_nil]
        omega
      · intro y hy
        have s2 := sum_map_eq (L := away es v fr) (f := fun z => (nds ((l, v) :: es) (d + 1) z v).count y) (g := fun z => (nds es d z v).count y) fun z hz => (key z hz).2 y hy
        have s3 : List.count y [l] = 0 := by rw [List.count_eq_zero]; simpa using hy
        rw [List.count_cons, List.count_cons, List.count_append, cnt_flat, cnt_flat, s2, s3, Nat.zero_add]
    · rw [away_same hv hvx]
      constructor
      · rw [List.count_cons_of_ne (fun e => hv e), List.count_cons_of_ne (fun e => hvx e), cnt_flat, cnt_flat]
        exact sum_map_eq fun z hz => (key z hz).1
      · intro y hy
        rw [List.count_cons, List.count_cons, cnt_flat, cnt_flat]
        congr 1
        exact sum_map_eq fun z hz => (key z hz).2 y hy
theorem flat_eq {α β : Type} {f g : α → List β} : ∀ {L : List α}, (∀ x ∈ L, f x = g x) → L.flatMap f = L.flatMap g
  | [], _ => rfl
  | a :: r, h => by rw [List.flatMap_cons, List.flatMap_cons, h a (by simp), flat_eq fun x hx => h x (List.mem_cons_of_mem _ hx)]
theorem nds_more {E : Edges} : ∀ (d v : Nat) (fr : Int), Brn E d v fr → nds E (d + 1) v fr = nds E d v fr := by
  intro d
  induction d with
  | zero => intro v fr h; exact h.elim
  | succ d ih =>
    intro v fr h
    rw [nds, nds]
    congr 1
    exact flat_eq fun x hx => ih x v (h x hx)
theorem nds_le {E : Edges} {d d' : Nat} (hd : d ≤ d') {v : Nat} {fr : Int} (h : Brn E d v fr) : nds E d' v fr = nds E d v fr := by
  induction hd with
  | refl => rfl
  | step hd ih => rw [nds_more _ _ _ (brn_le hd h), ih]
theorem nds_pl {n : Nat} {es : Edges} {c : List Nat} (h : Pl n es c) : ∀ v, deg es v ≠ 0 → ∀ y, (nds es (2 * es.length) v (-1)).count y = if deg es y = 0 then 0 else 1 := by
  induction h with
  | last a b hab hb =>
    intro v hv y
    have hv : v = a ∨ v = b := by
      obtain ⟨e, he, h1⟩ := deg_mem hv
      simp only [List.mem_singleton] at he
      subst he
      rcases deg1_end h1 with h | h <;> simp at h <;> omega
    have hd : deg [(a, b)] y = (if a = y then 1 else 0) + (if b = y then 1 else 0) := by unfold deg deg1; simp
    have key : nds [(a, b)] 2 v (-1) = if v = a then [a, b] else [b, a] := by
      have n1 : nb [(a, b)] a = [b] := by unfold nb nb1; rw [List.flatMap_cons, List.flatMap_nil, if_pos rfl, if_neg (by simp; omega)]; rfl
      have n2 : nb [(a, b)] b = [a] := by unfold nb nb1; rw [List.flatMap_cons, List.flatMap_nil, if_neg (by simp; omega), if_pos rfl]; rfl
      have f1 : ∀ u : Nat, (([u] : List Nat).filter fun (x : Nat) => !decide ((x : Int) = (-1 : Int))) = [u] := fun u => by rw [List.filter_cons_of_pos (by simp)]; rfl
      have f2 : ∀ u : Nat, (([u] : List Nat).filter fun (x : Nat) => !decide ((x : Int) = (u : Int))) = [] := fun u => by rw [List.filter_cons_of_neg (by simp)]; rfl
      rcases hv with rfl | rfl
      · rw [if_pos rfl, nds, away, n1, f1, List.flatMap_cons, List.flatMap_nil, nds, away, n2, f2]; rfl
      · rw [if_neg (by omega), nds, away, n2, f1, List.flatMap_cons, List.flatMap_nil, nds, away, n1, f2]; rfl
    show (nds [(a, b)] 2 v (-1)).count y = _
    rw [key, hd]
    have c2 : ∀ p q : Nat, List.count y [p, q] = (if q = y then 1 else 0) + (if p = y then 1 else 0) := fun p q => by
      rw [List.count_cons, List.count_cons, List.count_nil]; simp
    by_cases ha : a = y
    · have hb' : b ≠ y := by omega
      split <;> rw [c2] <;> simp [ha, hb']
    · by_cases hb' : b = y
      · split <;> rw [c2] <;> simp [ha, hb']
      · split <;> rw [c2] <;> simp [ha, hb']
  | step l x es c _ _ hlx hl hx _ hp ih =>
    intro v hv y
    have e : 2 * ((l, x) :: es).length = 2 * es.length + 1 + 1 := by simp; omega
    rw [e]
    have hdy : deg ((l, x) :: es) y = deg1 (l, x) y + deg es y := deg_cons _ _ _
    have B : ∀ u, Brn es (2 * es.length) u (-1) := brn_pl hp
    have main : ∀ u, deg es u ≠ 0 → ∀ y, (nds ((l, x) :: es) (2 * es.length + 1) u (-1)).count y = if deg ((l, x) :: es) y = 0 then 0 else 1 := by
      intro u hu y
      have hul : u ≠ l := fun e => hu (e ▸ hl)
      obtain ⟨c1, c2⟩ := nds_add hl hlx _ u (-1) (B u) hul (by omega)
      by_cases hy : y = l
      · subst hy
        rw [c1, ih u hu x, if_neg hx, if_neg (by rw [deg_cons, deg1_self hlx]; omega)]
      · rw [c2 y hy, ih u hu y]
        by_cases hyx : y = x
        · subst hyx
          rw [if_neg hx, if_neg (by rw [deg_cons]; omega)]
        · rw [deg_cons, deg1_none hy hyx, Nat.zero_add]
    by_cases hvl : v = l
    · subst hvl
      have a1 : away ((v, x) :: es) v (-1) = [x] := by
        unfold away
        rw [nb_new, nb_none hl, nb1, if_pos rfl, if_neg (fun e => hlx e.symm)]
        simp
      obtain ⟨D, hD⟩ : ∃ D, 2 * es.length = D + 1 := ⟨2 * es.length - 1, by have := hp.length; omega⟩
      have B1 := B x
      have I1 := ih x hx
      rw [hD] at B1 I1 ⊢
      rw [nds, a1, List.flatMap_cons, List.flatMap_nil, List.append_nil, nds, away_back hl hlx, List.count_cons, List.count_cons, cnt_flat]
      have key : ∀ z ∈ away es x (-1), (nds ((v, x) :: es) (D + 1) z x).count v = (nds es D z x).count x ∧ ∀ y, y ≠ v → (nds ((v, x) :: es) (D + 1) z x).count y = (nds es D z x).count y := by
        intro z hz
        exact nds_add hl hlx D z x (B1 z hz) (fun e => (adj_deg hl).2 (e ▸ (mem_away.1 hz).1)) (by omega)
      have I2 := I1 y
      have I3 := I1 x
      rw [nds, List.count_cons, cnt_flat] at I2 I3
      rw [if_neg hx] at I3
      simp only [beq_iff_eq] at I2 I3 ⊢
      by_cases hy : y = v
      · subst hy
        rw [sum_map_eq (L := away es x (-1)) (f := fun z => (nds ((y, x) :: es) (D + 1) z x).count y) (g := fun z => (nds es D z x).count x) fun z hz => (key z hz).1]
        rw [if_neg (c := deg ((y, x) :: es) y = 0) (by rw [deg_cons, deg1_self hlx]; omega), if_neg (c := x = y) (by omega), if_pos rfl]
        rw [if_pos trivial] at I3
        omega
      · rw [sum_map_eq (L := away es x (-1)) (f := fun z => (nds ((v, x) :: es) (D + 1) z x).count y) (g := fun z => (nds es D z x).count y) fun z hz => (key z hz).2 y hy]
        have hde : deg ((v, x) :: es) y = 0 ↔ deg es y = 0 := by
          rw [deg_cons]
          by_cases hyx : y = x
          · subst hyx
            rw [deg1_other hlx]
            constructor
            · omega
            · intro h; exact absurd h hx
          · rw [deg1_none hy hyx, Nat.zero_add]
        simp only [hde]
        rw [← I2, if_neg (c := v = y) (by omega)]
        rfl
    · rw [nds_more]
      · refine main v ?_ y
        obtain ⟨e0, he, h1⟩ := deg_mem hv
        rcases List.mem_cons.1 he with rfl | he
        · rcases deg1_end h1 with h | h
          · exact absurd h.symm hvl
          · simp only at h; rw [← h]; exact hx
        · have := deg1_end h1
          obtain ⟨e1, e2⟩ := e0
          rcases this with h | h
          · simp only at h; subst h; exact deg_edge (u := e2) (.inr he)
          · simp only at h; subst h; exact deg_edge (u := e1) (.inl he)
      · exact brn_add hl _ _ _ (B v) hvl
end Go.Proofs.Ytafdlilojlmchaa

namespace Go.Proofs.Ytafdlilojlmchaa

theorem nd_cnt {n : Nat} {E : Edges} (h : ValidT n E) (h7 : n ≤ 7) {v : Nat} (hv : v < n) (y : Nat) : (nds E 14 v (-1)).count y = if y < n then 1 else 0 := by
  by_cases h2 : 2 ≤ n
  · obtain ⟨es, c, hp, hs, hc, _⟩ := valid_peel h h2
    have hl := hp.length
    have key : ∀ (d v : Nat) (fr : Int) (y : Nat), (nds E d v fr).count y = (nds es d v fr).count y := by
      have hnb : ∀ v, (nb E v).Perm (nb es v) := by
        intro v
        have e1 : ∀ F : Edges, (nb F v).Perm ((F.filter (touches v)).flatMap (nb1 v)) := by
          intro F
          unfold nb
          induction F with
          | nil => exact List.Perm.refl _
          | cons e r ih =>
            by_cases ht : touches v e = true
            · rw [List.filter_cons_of_pos ht, List.flatMap_cons, List.flatMap_cons]; exact ih.append_left _
            · rw [List.filter_cons_of_neg ht, List.flatMap_cons]
              have : nb1 v e = [] := by
                unfold touches at ht
                simp only [Bool.or_eq_true, decide_eq_true_eq] at ht
                unfold nb1
                rw [if_neg (fun h => ht (.inl h)), if_neg (fun h => ht (.inr h))]; rfl
              rw [this]; exact ih
        have e2 : ∀ F : Edges, (∀ e ∈ F, e.1 ≠ e.2) → (nb F v).Perm (nb (F.map norm) v) := by
          intro F
          unfold nb
          induction F with
          | nil => intro _; exact List.Perm.refl _
          | cons e r ih =>
            intro hne
            rw [List.map_cons, List.flatMap_cons, List.flatMap_cons]
            refine List.Perm.append ?_ (ih fun y hy => hne y (List.mem_cons_of_mem _ hy))
            rcases norm_cases e with q | q
            · rw [q]
            · rw [q]; unfold nb1; exact List.perm_append_comm
        have n1 : ∀ e ∈ E, e.1 ≠ e.2 := fun e he => by have := h.ord e he; omega
        have n2 : ∀ e ∈ es, e.1 ≠ e.2 := fun e he => (hp.lt e he).2.2
        exact (e2 E n1).trans ((List.Perm.flatMap_right _ hs).trans (e2 es n2).symm)
      intro d
      induction d with
      | zero => intro v fr y; rfl
      | succ d ih =>
        intro v fr y
        rw [nds, nds, List.count_cons, List.count_cons]
        congr 1
        rw [cnt_flat, cnt_flat, sum_map_eq fun z _ => ih z v y]
        exact ((hnb v).filter _ |>.map _).sum_nat
    have hdv : ∀ u, u < n → deg es u ≠ 0 := fun u hu => by rw [← hs.deg]; have := valid_deg h h2 u hu; omega
    rw [key, nds_le (d := 2 * es.length) (by omega) (brn_pl hp v), nds_pl hp v (hdv v hv) y]
    by_cases hy : y < n
    · rw [if_pos hy, if_neg (hdv y hy)]
    · rw [if_neg hy, if_pos (by rw [← hs.deg]; exact valid_out h y (by omega))]
  · have h0 : E = [] := List.eq_nil_of_length_eq_zero (by have := h.len; omega)
    subst h0
    have hl := h.len
    have hv0 : v = 0 := by simp at hl; omega
    subst hv0
    show List.count y [0] = _
    simp at hl
    rw [List.count_cons, List.count_nil]
    by_cases hy : y < n
    · rw [if_pos hy, if_pos (by simp; omega)]
    · rw [if_neg hy, if_neg (by simp; omega)]
theorem nd_perm {n : Nat} {E : Edges} (h : ValidT n E) (h7 : n ≤ 7) {v : Nat} (hv : v < n) : (nds E 14 v (-1)).Perm (List.range n) := by
  rw [List.perm_iff_count]
  intro y
  rw [nd_cnt h h7 hv, List.count_range]
theorem nd_len {n : Nat} {E : Edges} (h : ValidT n E) (h7 : n ≤ 7) {v : Nat} (hv : v < n) : (nds E 14 v (-1)).length = n := by
  rw [(nd_perm h h7 hv).length_eq, List.length_range]

/-! ### the longest ways -/
def far (E : Edges) : Nat → Nat → Int → Nat
  | 0, _, _ => 0
  | d + 1, v, fr => (away E v fr).foldl (fun m x => max m (1 + far E d x v)) 0
theorem fold_max {α : Type} (f : α → Nat) : ∀ (L : List α) (m k : Nat), L.foldl (fun m x => max m (f x)) m ≤ k ↔ m ≤ k ∧ ∀ x ∈ L, f x ≤ k
  | [], m, k => by simp
  | a :: r, m, k => by
    rw [List.foldl_cons, fold_max f r, Nat.max_le]
    simp only [List.mem_cons, forall_eq_or_imp]
    exact ⟨fun ⟨⟨a, b⟩, c⟩ => ⟨a, b, c⟩, fun ⟨a, b, c⟩ => ⟨⟨a, b⟩, c⟩⟩
theorem le_sum_mem : ∀ {L : List Nat} {k : Nat}, k ∈ L → k ≤ L.sum
  | a :: r, k, h => by
    rw [List.sum_cons]
    rcases List.mem_cons.1 h with rfl | h
    · omega
    · have := le_sum_mem h; omega
theorem fold_eq {α β : Type} {f g : β → α → β} : ∀ {L : List α} {b : β}, (∀ m, ∀ x ∈ L, f m x = g m x) → L.foldl f b = L.foldl g b
  | [], _, _ => rfl
  | a :: r, b, h => by rw [List.foldl_cons, List.foldl_cons, h b a (by simp)]; exact fold_eq fun m x hx => h m x (List.mem_cons_of_mem _ hx)
theorem far_len {E : Edges} : ∀ (d v : Nat) (fr : Int), Brn E d v fr → far E d v fr + 1 ≤ (nds E d v fr).length := by
  intro d
  induction d with
  | zero => intro v fr h; exact h.elim
  | succ d ih =>
    intro v fr h
    rw [far, nds, List.length_cons]
    have h1 : far E (d + 1) v fr ≤ ((away E v fr).flatMap fun x => nds E d x v).length := by
      rw [far, fold_max]
      refine ⟨by omega, fun x hx => ?_⟩
      have h2 := ih x v (h x hx)
      have h3 : (nds E d x v).length ≤ ((away E v fr).flatMap fun x => nds E d x v).length := by
        rw [List.length_flatMap]
        exact le_sum_mem (List.mem_map.2 ⟨x, hx, rfl⟩)
      omega
    rw [far] at h1
    omega
theorem far_more {E : Edges} : ∀ (d v : Nat) (fr : Int), Brn E d v fr → far E (d + 1) v fr = far E d v fr := by
  intro d
  induction d with
  | zero => intro v fr h; exact h.elim
  | succ d ih =>
    intro v fr h
    rw [far, far]
    exact fold_eq fun m x hx => by rw [ih x v (h x hx)]
section
variable {n : Nat} {E : Edges}
/-- every way out of every branch has an end -/
def AllB (E : Edges) : Prop := ∀ v fr, Brn E 14 v fr
theorem far_le (h : ValidT n E) (h7 : n ≤ 7) {v : Nat} (hv : v < n) : far E 14 v (-1) + 1 ≤ n := by
  have := far_len 14 v (-1) (valid_brn h h7 v _)
  rwa [nd_len h h7 hv] at this
theorem far_step (hB : AllB E) {v x : Nat} {fr : Int} (hx : x ∈ away E v fr) : 1 + far E 14 x v ≤ far E 14 v fr := by
  rw [← far_more 14 v fr (hB v fr), far]
  exact ((fold_max (fun x => 1 + far E 14 x v) _ _ _).1 (Nat.le_refl _)).2 x hx
theorem far_to (hB : AllB E) {v k : Nat} {fr : Int} (h : ∀ x ∈ away E v fr, 1 + far E 14 x v ≤ k) : far E 14 v fr ≤ k := by
  rw [← far_more 14 v fr (hB v fr), far]
  exact (fold_max (fun x => 1 + far E 14 x v) _ _ _).2 ⟨by omega, h⟩
/-- a way that never turns back: where it is, where it was before, how long it is -/
inductive Way2 (E : Edges) (u : Nat) : Nat → Int → Nat → Prop where
  | start : Way2 E u u (-1) 0
  | step (v : Nat) (p : Int) (k w : Nat) : Way2 E u v p k → w ∈ away E v p → Way2 E u w v (k + 1)
theorem way_reach {u v : Nat} (h : Reach E u v) : ∃ p k, Way2 E u v p k := by
  induction h with
  | refl => exact ⟨_, _, .start⟩
  | step v w h he ih =>
    obtain ⟨p, k, hw⟩ := ih
    by_cases hp : (w : Int) = p
    · cases hw with
      | start => omega
      | step v' p' k' _ hw' hv' =>
        have : w = v' := by omega
        subst this
        exact ⟨_, _, hw'⟩
    · exact ⟨_, _, .step _ _ _ _ hw (mem_away.2 ⟨he, hp⟩)⟩
theorem way_far (hB : AllB E) {u v : Nat} {p : Int} {k : Nat} (h : Way2 E u v p k) (hk : 0 < k) : ∃ (x q : Nat), Adj E u x ∧ p = q ∧ Adj E q v ∧ k - 1 + far E 14 u x ≤ far E 14 q v := by
  induction h with
  | start => omega
  | step v p k w hv hw ih =>
    obtain ⟨h1, h2⟩ := mem_away.1 hw
    rcases Nat.eq_zero_or_pos k with h0 | h0
    · subst h0
      cases hv
      exact ⟨w, u, h1, rfl, h1, by omega⟩
    · obtain ⟨x, q, a1, rfl, a3, a4⟩ := ih h0
      refine ⟨x, v, a1, rfl, h1, ?_⟩
      have := far_step hB (v := v) (x := q) (fr := (w : Int)) (mem_away.2 ⟨a3.symm, by omega⟩)
      omega
/-- the nodes beside each other of which none turns farther -/
theorem centers_adj (hB : AllB E) {r : Nat} (hmin : ∀ v, Adj E v v ∨ True → r ≤ far E 14 v (-1) ∨ ∀ w, ¬ Adj E v w) {c c' : Nat} (hc : far E 14 c (-1) = r) (hc' : far E 14 c' (-1) = r) (hne : c ≠ c') (hr : Reach E c c') : Adj E c c' := by
  obtain ⟨p, k, hw⟩ := way_reach hr
  rcases Nat.eq_zero_or_pos k with h0 | h0
  · subst h0; cases hw; exact absurd rfl hne
  apply Classical.byContradiction
  intro hna
  obtain ⟨x, q, a1, rfl, a3, a4⟩ := way_far hB hw h0
  have hk2 : 2 ≤ k := by
    apply Classical.byContradiction
    intro hk
    obtain rfl : k = 1 := by omega
    cases hw with
    | step _ _ _ _ hv hx =>
      cases hv
      exact hna (mem_away.1 hx).1
  have h1 : 1 + far E 14 q c' ≤ r := by rw [← hc']; exact far_step hB (mem_away.2 ⟨a3.symm, by omega⟩)
  have h2 : 1 + far E 14 x c ≤ r := by rw [← hc]; exact far_step hB (mem_away.2 ⟨a1, by omega⟩)
  have h3 : far E 14 x (-1) ≤ r - 1 := by
    refine far_to hB fun y hy => ?_
    obtain ⟨y1, _⟩ := mem_away.1 hy
    by_cases hyc : y = c
    · subst hyc; omega
    · have := far_step hB (v := x) (x := y) (fr := (c : Int)) (mem_away.2 ⟨y1, by omega⟩)
      omega
  rcases hmin x (.inr trivial) with h4 | h4
  · omega
  · exact h4 c a1.symm
theorem no_three : ∀ (d a b c : Nat), Adj E a b → Adj E b c → Adj E c a → a ≠ b → b ≠ c → c ≠ a → ¬ Brn E d a c := by
  intro d
  induction d with
  | zero => intro _ _ _ _ _ _ _ _ _ h; exact h
  | succ d ih =>
    intro a b c h1 h2 h3 n1 n2 n3 h
    exact ih b c a h2 h3 h1 n2 n3 n1 (h b (mem_away.2 ⟨h1, by omega⟩))

/-! ### centers -/
def cstep (E : Edges) (st : List Nat × Nat) (v : Nat) : List Nat × Nat :=
  let x := far E 14 v (-1)
  if x < st.2 then ([v], x) else if x = st.2 then (st.1 ++ [v], st.2) else st
def cfold (E : Edges) (n k : Nat) : List Nat × Nat := (List.range k).foldl (cstep E) ([], n)
def cents (n : Nat) (E : Edges) : List Nat := (cfold E n n).1
theorem cfold_next (E : Edges) (n k : Nat) : cfold E n (k + 1) = cstep E (cfold E n k) k := by unfold cfold; rw [List.range_succ, List.foldl_append]; rfl
theorem cfold_le (E : Edges) (n k : Nat) : (cfold E n k).1.length ≤ k ∧ (cfold E n k).2 ≤ n := by
  induction k with
  | zero => exact ⟨Nat.le_refl _, Nat.le_refl _⟩
  | succ k ih =>
    rw [cfold_next]; unfold cstep; simp only
    split
    · exact ⟨by simp, by simp only; omega⟩
    · split
      · exact ⟨by simp only [List.length_append, List.length_cons, List.length_nil]; omega, ih.2⟩
      · exact ⟨by omega, ih.2⟩
theorem cfold_spec (E : Edges) (n k : Nat) : (∀ v, v < k → (cfold E n k).2 ≤ far E 14 v (-1)) ∧ (cfold E n k).1 = (List.range k).filter fun v => decide (far E 14 v (-1) = (cfold E n k).2) := by
  induction k with
  | zero => exact ⟨fun v hv => by omega, rfl⟩
  | succ k ih =>
    obtain ⟨i1, i2⟩ := ih
    rw [cfold_next, List.range_succ, List.filter_append]
    unfold cstep
    simp only
    by_cases h1 : far E 14 k (-1) < (cfold E n k).2
    · rw [if_pos h1]
      refine ⟨fun v hv => ?_, ?_⟩
      · by_cases e : v = k
        · subst e; exact Nat.le_refl _
        · have := i1 v (by omega); simp only; omega
      · simp only
        rw [List.filter_eq_nil_iff.2 (fun v hv => by have := i1 v (List.mem_range.1 hv); simp; omega)]
        simp
    · rw [if_neg h1]
      by_cases h2 : far E 14 k (-1) = (cfold E n k).2
      · rw [if_pos h2]
        refine ⟨fun v hv => ?_, ?_⟩
        · by_cases e : v = k
          · subst e; simp only; omega
          · exact i1 v (by omega)
        · simp only
          rw [List.filter_cons_of_pos (by simpa using h2), List.filter_nil, ← i2]
      · rw [if_neg h2]
        refine ⟨fun v hv => ?_, ?_⟩
        · by_cases e : v = k
          · subst e; omega
          · exact i1 v (by omega)
        · rw [List.filter_cons_of_neg (by simpa using h2), List.filter_nil, List.append_nil]; exact i2
theorem cents_spec (h : ValidT n E) (h7 : n ≤ 7) : ∃ r, (∀ v, v < n → r ≤ far E 14 v (-1)) ∧ cents n E = ((List.range n).filter fun v => decide (far E 14 v (-1) = r)) ∧ cents n E ≠ [] := by
  obtain ⟨s1, s2⟩ := cfold_spec E n n
  refine ⟨_, s1, s2, ?_⟩
  have hn : 0 < n := by have := h.len; omega
  intro hnil
  unfold cents at hnil
  rw [s2] at hnil
  -- the least is taken by some node
  have key : ∀ k, 0 < k → k ≤ n → ∃ v, v < k ∧ far E 14 v (-1) = (cfold E n k).2 := by
    intro k
    induction k with
    | zero => intro h; omega
    | succ k ih =>
      intro _ hk
      rw [cfold_next]; unfold cstep; simp only
      by_cases h1 : far E 14 k (-1) < (cfold E n k).2
      · rw [if_pos h1]; exact ⟨k, by omega, rfl⟩
      · rw [if_neg h1]
        by_cases h2 : far E 14 k (-1) = (cfold E n k).2
        · rw [if_pos h2]; exact ⟨k, by omega, h2⟩
        · rw [if_neg h2]
          rcases Nat.eq_zero_or_pos k with h0 | h0
          · subst h0
            have := far_le h h7 (v := 0) hn
            have e : (cfold E n 0).2 = n := rfl
            rw [e] at h1; omega
          · obtain ⟨v, hv, e⟩ := ih h0 (by omega)
            exact ⟨v, by omega, e⟩
  obtain ⟨v, hv, e⟩ := key n hn (Nat.le_refl _)
  have := (List.filter_eq_nil_iff.1 hnil) v (List.mem_range.2 hv)
  simp at this
  exact this e
/-- one center, or two beside each other -/
theorem cents_two (h : ValidT n E) (h7 : n ≤ 7) : (∃ a, cents n E = [a] ∧ a < n) ∨ ∃ a b, cents n E = [a, b] ∧ a < b ∧ b < n ∧ (a, b) ∈ E := by
  obtain ⟨r, h1, h2, h3⟩ := cents_spec h h7
  have hB : AllB E := fun v fr => valid_brn h h7 v fr
  have hmem : ∀ v, v ∈ cents n E ↔ v < n ∧ far E 14 v (-1) = r := fun v => by rw [h2, List.mem_filter, List.mem_range, decide_eq_true_eq]
  have hasc : (cents n E).Pairwise (· < ·) := by rw [h2]; exact List.pairwise_lt_range.filter _
  have hlt : ∀ {a b : Nat}, Adj E a b → a < n ∧ b < n := fun {a b} hab => by
    rcases hab with q | q <;> (have := h.ord _ q; simp only at this; omega)
  have hadj : ∀ a b, a ∈ cents n E → b ∈ cents n E → a ≠ b → Adj E a b := by
    intro a b ha hb hne
    obtain ⟨a1, a2⟩ := (hmem a).1 ha
    obtain ⟨b1, b2⟩ := (hmem b).1 hb
    refine centers_adj hB (fun v _ => ?_) a2 b2 hne ((h.conn a a1).symm.trans (h.conn b b1))
    by_cases hv : v < n
    · exact .inl (h1 v hv)
    · exact .inr fun w hw => hv (hlt hw).1
  match hc : cents n E with
  | [] => exact absurd hc h3
  | [a] => exact .inl ⟨a, rfl, ((hmem a).1 (by rw [hc]; simp)).1⟩
  | [a, b] =>
    right
    rw [hc] at hasc
    have hab : a < b := by simpa using hasc
    have q := hadj a b (by rw [hc]; simp) (by rw [hc]; simp) (by omega)
    refine ⟨a, b, rfl, hab, (hlt q).2, ?_⟩
    rcases q with q | q
    · exact q
    · have := h.ord _ q; simp only at this; omega
  | a :: b :: c :: t =>
    rw [hc] at hasc
    simp only [List.pairwise_cons, List.mem_cons] at hasc
    have l1 : a < b := hasc.1 b (.inl rfl)
    have l2 : b < c := hasc.2.1 c (.inl rfl)
    exact (no_three 14 a b c (hadj a b (by rw [hc]; simp) (by rw [hc]; simp) (by omega)) (hadj b c (by rw [hc]; simp) (by rw [hc]; simp) (by omega)) (hadj c a (by rw [hc]; simp) (by rw [hc]; simp) (by omega)) (by omega) (by omega) (by omega) (hB a c)).elim
end
end Go.Proofs.Ytafdlilojlmchaa

namespace Go.Proofs.Ytafdlilojlmchaa

/-- a search from a node through its branches: a state, a step for each branch's answer, an answer -/
def dpF (E : Edges) (st : Nat × Nat → Nat × Nat → Nat × Nat) (s0 : Nat × Nat) (fin : Nat × Nat → Nat × Nat) : Nat → Nat → Int → Nat × Nat
  | 0, _, _ => (0, 0)
  | d + 1, v, fr => fin ((away E v fr).foldl (fun s x => st s (dpF E st s0 fin d x v)) s0)
theorem dpF_more {E : Edges} {st : Nat × Nat → Nat × Nat → Nat × Nat} {s0 : Nat × Nat} {fin : Nat × Nat → Nat × Nat} : ∀ (d v : Nat) (fr : Int), Brn E d v fr → dpF E st s0 fin (d + 1) v fr = dpF E st s0 fin d v fr := by
  intro d
  induction d with
  | zero => intro v fr h; exact h.elim
  | succ d ih =>
    intro v fr h
    rw [dpF, dpF, fold_eq fun m x hx => by rw [ih x v (h x hx)]]
theorem dpF_le {E : Edges} {st : Nat × Nat → Nat × Nat → Nat × Nat} {s0 : Nat × Nat} {fin : Nat × Nat → Nat × Nat} {d d' : Nat} (hd : d ≤ d') {v : Nat} {fr : Int} (h : Brn E d v fr) : dpF E st s0 fin d' v fr = dpF E st s0 fin d v fr := by
  induction hd with
  | refl => rfl
  | step hd ih => rw [dpF_more _ _ _ (brn_le hd h), ih]
/-- most nodes alone: without and with the node -/
def stA (s r : Nat × Nat) : Nat × Nat := (s.1 + max r.1 r.2, s.2 + r.1)
def alnF (E : Edges) : Nat → Nat → Int → Nat × Nat := dpF E stA (0, 1) id
/-- sets of nodes alone: without and with the node -/
def stS (s r : Nat × Nat) : Nat × Nat := (s.1 * (r.1 + r.2), s.2 * r.1)
def setF (E : Edges) : Nat → Nat → Int → Nat × Nat := dpF E stS (1, 1) id
/-- most pairs: of all, and with the node free -/
def stP (s r : Nat × Nat) : Nat × Nat := (s.1 + r.1, if r.2 = r.1 then 1 else s.2)
def finP (s : Nat × Nat) : Nat × Nat := (s.1 + s.2, s.1)
def pairF (E : Edges) : Nat → Nat → Int → Nat × Nat := dpF E stP (0, 0) finP

theorem fold_A (f : Nat → Nat × Nat) : ∀ (L : List Nat) (s : Nat × Nat), L.foldl (fun s x => stA s (f x)) s = (s.1 + (L.map fun x => max (f x).1 (f x).2).sum, s.2 + (L.map fun x => (f x).1).sum)
  | [], s => by simp
  | a :: r, s => by rw [List.foldl_cons, fold_A f r]; simp [stA, Nat.add_assoc]
theorem fold_P (f : Nat → Nat × Nat) : ∀ (L : List Nat) (s : Nat × Nat), L.foldl (fun s x => stP s (f x)) s = (s.1 + (L.map fun x => (f x).1).sum, if (L.any fun x => decide ((f x).2 = (f x).1)) = true then 1 else s.2)
  | [], s => by simp
  | a :: r, s => by
    rw [List.foldl_cons, fold_P f r]
    simp only [stP, List.map_cons, List.sum_cons, List.any_cons, Nat.add_assoc, Bool.or_eq_true, decide_eq_true_eq, Prod.mk.injEq, true_and]
    by_cases h : (f a).2 = (f a).1
    · simp [h]
    · simp [h]
def prodM (L : List Nat) : Nat := L.foldr (· * ·) 1
theorem fold_S (f : Nat → Nat × Nat) : ∀ (L : List Nat) (s : Nat × Nat), L.foldl (fun s x => stS s (f x)) s = (s.1 * prodM (L.map fun x => (f x).1 + (f x).2), s.2 * prodM (L.map fun x => (f x).1))
  | [], s => by simp [prodM]
  | a :: r, s => by rw [List.foldl_cons, fold_S f r]; simp [stS, prodM, Nat.mul_assoc]
theorem alnF_at (E : Edges) (d v : Nat) (fr : Int) : alnF E (d + 1) v fr = (((away E v fr).map fun x => max (alnF E d x v).1 (alnF E d x v).2).sum, 1 + ((away E v fr).map fun x => (alnF E d x v).1).sum) := by
  rw [alnF, dpF, id, fold_A (fun x => dpF E stA (0, 1) id d x v), Nat.zero_add]
theorem setF_at (E : Edges) (d v : Nat) (fr : Int) : setF E (d + 1) v fr = (prodM ((away E v fr).map fun x => (setF E d x v).1 + (setF E d x v).2), prodM ((away E v fr).map fun x => (setF E d x v).1)) := by
  rw [setF, dpF, id, fold_S (fun x => dpF E stS (1, 1) id d x v), Nat.one_mul, Nat.one_mul]
/-- some branch's node can be left free -/
def freeK (E : Edges) (d v : Nat) (fr : Int) : Bool := (away E v fr).any fun x => decide ((pairF E d x v).2 = (pairF E d x v).1)
theorem pairF_at (E : Edges) (d v : Nat) (fr : Int) : pairF E (d + 1) v fr = (((away E v fr).map fun x => (pairF E d x v).1).sum + (if freeK E d v fr = true then 1 else 0), ((away E v fr).map fun x => (pairF E d x v).1).sum) := by
  show finP _ = _
  rw [fold_P (fun x => dpF E stP (0, 0) finP d x v), finP, Nat.zero_add]; rfl
theorem nds_at (E : Edges) (d v : Nat) (fr : Int) : (nds E (d + 1) v fr).length = 1 + ((away E v fr).map fun x => (nds E d x v).length).sum := by
  rw [nds, List.length_cons, List.length_flatMap]; omega
theorem sum_add2 {α : Type} (L : List α) (f g : α → Nat) : (L.map fun x => f x + g x).sum = (L.map f).sum + (L.map g).sum := by
  induction L with
  | nil => rfl
  | cons a r ih => simp only [List.map_cons, List.sum_cons, ih]; omega
theorem sum_le2 {α : Type} {L : List α} {f g : α → Nat} (h : ∀ x ∈ L, f x ≤ g x) : (L.map f).sum ≤ (L.map g).sum := by
  induction L with
  | nil => exact Nat.le_refl _
  | cons a r ih =>
    simp only [List.map_cons, List.sum_cons]
    have := h a (by simp); have := ih fun x hx => h x (List.mem_cons_of_mem _ hx); omega
theorem sum_lt2 {α : Type} {L : List α} {f g : α → Nat} (h : ∀ x ∈ L, f x ≤ g x) {y : α} (hy : y ∈ L) (hlt : f y + 1 ≤ g y) : (L.map f).sum + 1 ≤ (L.map g).sum := by
  induction L with
  | nil => cases hy
  | cons a r ih =>
    simp only [List.map_cons, List.sum_cons]
    have h1 := h a (by simp)
    have h2 := sum_le2 (L := r) fun x hx => h x (List.mem_cons_of_mem _ hx)
    rcases List.mem_cons.1 hy with rfl | hy
    · omega
    · have := ih (fun x hx => h x (List.mem_cons_of_mem _ hx)) hy; omega
/-- most nodes alone and most pairs, of a branch -/
theorem alone_pair {E : Edges} : ∀ (d v : Nat) (fr : Int), Brn E d v fr →
    (alnF E d v fr).1 + (pairF E d v fr).2 + 1 = (nds E d v fr).length ∧ max (alnF E d v fr).1 (alnF E d v fr).2 + (pairF E d v fr).1 = (nds E d v fr).length ∧
    ((pairF E d v fr).1 = (pairF E d v fr).2 ∨ (pairF E d v fr).1 = (pairF E d v fr).2 + 1) ∧ 2 * (pairF E d v fr).1 ≤ (nds E d v fr).length ∧ 2 * (pairF E d v fr).2 + 1 ≤ (nds E d v fr).length := by
  intro d
  induction d with
  | zero => intro v fr h; exact h.elim
  | succ d ih =>
    intro v fr h
    have I := fun x hx => ih x v (h x hx)
    have s1 := sum_map_eq (L := away E v fr) (f := fun x => max (alnF E d x v).1 (alnF E d x v).2 + (pairF E d x v).1) (g := fun x => (nds E d x v).length) fun x hx => (I x hx).2.1
    rw [sum_add2] at s1
    have s2 := sum_le2 (L := away E v fr) (f := fun x => (pairF E d x v).1 + (pairF E d x v).1) (g := fun x => (nds E d x v).length) fun x hx => by have := (I x hx).2.2.2.1; omega
    rw [sum_add2] at s2
    rw [nds_at, alnF_at, pairF_at]
    simp only
    by_cases hf : freeK E d v fr = true
    · rw [if_pos hf]
      obtain ⟨y, hy, hy2⟩ := List.any_eq_true.1 hf
      rw [decide_eq_true_eq] at hy2
      have s3 := sum_lt2 (L := away E v fr) (f := fun x => (alnF E d x v).1) (g := fun x => max (alnF E d x v).1 (alnF E d x v).2) (fun x hx => by omega) hy (by
        have h1 := (I y hy).1; have h2 := (I y hy).2.1; omega)
      have s4 := sum_lt2 (L := away E v fr) (f := fun x => (pairF E d x v).1 + (pairF E d x v).1) (g := fun x => (nds E d x v).length) (fun x hx => by have := (I x hx).2.2.2.1; omega) hy (by
        have := (I y hy).2.2.2.2; omega)
      rw [sum_add2] at s4
      refine ⟨by omega, by omega, by omega, by omega, by omega⟩
    · rw [if_neg hf]
      have hno : ∀ x ∈ away E v fr, (pairF E d x v).2 ≠ (pairF E d x v).1 := fun x hx he => hf (List.any_eq_true.2 ⟨x, hx, decide_eq_true he⟩)
      have s3 := sum_map_eq (L := away E v fr) (f := fun x => (alnF E d x v).1) (g := fun x => max (alnF E d x v).1 (alnF E d x v).2) (fun x hx => by
        have h1 := (I x hx).1; have h2 := (I x hx).2.1; have h3 := (I x hx).2.2.1; have h4 := hno x hx; omega)
      refine ⟨by omega, by omega, by omega, by omega, by omega⟩
end Go.Proofs.Ytafdlilojlmchaa

namespace Go.Proofs.Ytafdlilojlmchaa

theorem nds_head {E : Edges} {d v : Nat} {fr : Int} (h : Brn E d v fr) : v ∈ nds E d v fr := by
  cases d with
  | zero => exact h.elim
  | succ d => rw [nds]; exact List.mem_cons_self ..
/-- what is beside a node of a branch is in the branch, or behind its node -/
theorem nds_adj {E : Edges} : ∀ (d v : Nat) (fr : Int), Brn E d v fr → ∀ y z, y ∈ nds E d v fr → Adj E y z → z ∈ nds E d v fr ∨ (y = v ∧ (z : Int) = fr) := by
  intro d
  induction d with
  | zero => intro v fr h; exact h.elim
  | succ d ih =>
    intro v fr h y z hy ha
    rw [nds] at hy ⊢
    rcases List.mem_cons.1 hy with rfl | hy
    · by_cases hz : (z : Int) = fr
      · exact .inr ⟨rfl, hz⟩
      · have hz' : z ∈ away E y fr := mem_away.2 ⟨ha, hz⟩
        exact .inl (List.mem_cons_of_mem _ (List.mem_flatMap.2 ⟨z, hz', nds_head (h z hz')⟩))
    · obtain ⟨x, hx, hyx⟩ := List.mem_flatMap.1 hy
      rcases ih x v (h x hx) y z hyx ha with hz | ⟨_, hz⟩
      · exact .inl (List.mem_cons_of_mem _ (List.mem_flatMap.2 ⟨x, hx, hz⟩))
      · have : z = v := by omega
        subst this
        exact .inl (List.mem_cons_self ..)
/-- the branches of a node, some of them: no node twice, the node in none -/
structure Kids (E : Edges) (d v : Nat) (K : List Nat) : Prop where
  brn : ∀ x ∈ K, Brn E d x v
  nod : (K.flatMap fun x => nds E d x v).Nodup
  out : v ∉ K.flatMap fun x => nds E d x v
theorem Kids.of {E : Edges} {d v : Nat} {fr : Int} (h : Brn E (d + 1) v fr) (hn : (nds E (d + 1) v fr).Nodup) : Kids E d v (away E v fr) := by
  rw [nds, List.nodup_cons] at hn
  exact ⟨h, hn.2, hn.1⟩
theorem Kids.tail {E : Edges} {d v x : Nat} {K : List Nat} (h : Kids E d v (x :: K)) : Kids E d v K := by
  have h2 := h.nod
  have h3 := h.out
  rw [List.flatMap_cons] at h2 h3
  exact ⟨fun y hy => h.brn y (List.mem_cons_of_mem _ hy), (List.nodup_append.1 h2).2.1, fun hv => h3 (List.mem_append_right _ hv)⟩
theorem Kids.head {E : Edges} {d v x : Nat} {K : List Nat} (h : Kids E d v (x :: K)) : Brn E d x v ∧ (nds E d x v).Nodup ∧ v ∉ nds E d x v ∧ ∀ y, y ∈ nds E d x v → y ∉ K.flatMap fun x => nds E d x v := by
  have h2 := h.nod
  have h3 := h.out
  rw [List.flatMap_cons] at h2 h3
  obtain ⟨a1, _, a3⟩ := List.nodup_append.1 h2
  exact ⟨h.brn x (List.mem_cons_self ..), a1, fun hv => h3 (List.mem_append_left _ hv), fun y hy hy2 => a3 y hy y hy2 rfl⟩
theorem Kids.mem {E : Edges} {d v x : Nat} {K : List Nat} (h : Kids E d v K) (hx : x ∈ K) : Brn E d x v ∧ (nds E d x v).Nodup ∧ v ∉ nds E d x v := by
  induction K with
  | nil => cases hx
  | cons a r ih =>
    rcases List.mem_cons.1 hx with rfl | hx
    · exact ⟨h.head.1, h.head.2.1, h.head.2.2.1⟩
    · exact ih h.tail hx
/-- nothing goes from one branch to another -/
theorem Kids.apart {E : Edges} {d v x : Nat} {K : List Nat} (h : Kids E d v (x :: K)) {y z : Nat} (hy : y ∈ nds E d x v) (hz : z ∈ K.flatMap fun x => nds E d x v) : ¬ Adj E y z := by
  intro ha
  obtain ⟨h1, _, h3, h4⟩ := h.head
  rcases nds_adj d x v h1 y z hy ha with q | ⟨_, q⟩
  · exact h4 z q hz
  · have : z = v := by omega
    subst this
    exact h.tail.out hz
/-- only a branch's own node is beside the node -/
theorem Kids.near {E : Edges} {d v : Nat} {K : List Nat} (h : Kids E d v K) {y : Nat} (hy : y ∈ K.flatMap fun x => nds E d x v) (ha : Adj E y v) : y ∈ K := by
  obtain ⟨x, hx, hyx⟩ := List.mem_flatMap.1 hy
  obtain ⟨h1, _, h3⟩ := h.mem hx
  rcases nds_adj d x v h1 y v hyx ha with q | ⟨q, _⟩
  · exact absurd q h3
  · subst q; exact hx

/-! ### sets of nodes alone -/
def Alone (E : Edges) (S : List Nat) : Prop := ∀ a ∈ S, ∀ b ∈ S, ¬ Adj E a b
theorem alone_kids {E : Edges} {d v : Nat} (f : Nat → Nat) (Q : Nat → Prop) : ∀ (K : List Nat), Kids E d v K → (∀ x ∈ K, ∃ S : List Nat, S.Nodup ∧ (∀ y ∈ S, y ∈ nds E d x v) ∧ Alone E S ∧ S.length = f x ∧ ∀ y ∈ S, Q y) →
    ∃ S : List Nat, S.Nodup ∧ (∀ y ∈ S, y ∈ K.flatMap fun x => nds E d x v) ∧ Alone E S ∧ S.length = (K.map f).sum ∧ ∀ y ∈ S, Q y
  | [], _, _ => ⟨[], List.nodup_nil, fun y hy => (by cases hy), fun a ha => (by cases ha), rfl, fun y hy => (by cases hy)⟩
  | x :: K, hK, h => by
    obtain ⟨S1, a1, a2, a3, a4, a5⟩ := h x (List.mem_cons_self ..)
    obtain ⟨S2, b1, b2, b3, b4, b5⟩ := alone_kids f Q K hK.tail fun y hy => h y (List.mem_cons_of_mem _ hy)
    refine ⟨S1 ++ S2, List.nodup_append.2 ⟨a1, b1, fun y hy z hz e => hK.head.2.2.2 y (a2 y hy) (e ▸ b2 z hz)⟩, fun y hy => ?_, fun a ha b hb => ?_, by rw [List.length_append, a4, b4, List.map_cons, List.sum_cons], fun y hy => (List.mem_append.1 hy).elim (a5 y) (b5 y)⟩
    · rw [List.flatMap_cons]
      exact (List.mem_append.1 hy).elim (fun q => List.mem_append_left _ (a2 y q)) (fun q => List.mem_append_right _ (b2 y q))
    · rcases List.mem_append.1 ha with ha | ha <;> rcases List.mem_append.1 hb with hb | hb
      · exact a3 a ha b hb
      · exact hK.apart (a2 a ha) (b2 b hb)
      · exact fun q => hK.apart (a2 b hb) (b2 a ha) q.symm
      · exact b3 a ha b hb
/-- such sets, without and with the branch's node -/
theorem alone_sets {E : Edges} (hE : ∀ v, ¬ Adj E v v) : ∀ (d v : Nat) (fr : Int), Brn E d v fr → (nds E d v fr).Nodup →
    (∃ S : List Nat, S.Nodup ∧ (∀ y ∈ S, y ∈ nds E d v fr) ∧ Alone E S ∧ S.length = (alnF E d v fr).1 ∧ ∀ y ∈ S, y ≠ v) ∧
    (∃ S : List Nat, S.Nodup ∧ (∀ y ∈ S, y ∈ nds E d v fr) ∧ Alone E S ∧ S.length = (alnF E d v fr).2) := by
  intro d
  induction d with
  | zero => intro v fr h; exact h.elim
  | succ d ih =>
    intro v fr h hn
    have hK := Kids.of h hn
    rw [alnF_at, nds]
    constructor
    · obtain ⟨S, a1, a2, a3, a4, _⟩ := alone_kids (E := E) (d := d) (v := v) (fun x => max (alnF E d x v).1 (alnF E d x v).2) (fun _ => True) _ hK fun x hx => by
        obtain ⟨hb, hnx, _⟩ := hK.mem hx
        obtain ⟨⟨S1, a1, a2, a3, a4, _⟩, ⟨S2, b1, b2, b3, b4⟩⟩ := ih x v hb hnx
        by_cases hm : (alnF E d x v).1 ≤ (alnF E d x v).2
        · exact ⟨S2, b1, b2, b3, by rw [b4]; omega, fun _ _ => trivial⟩
        · exact ⟨S1, a1, a2, a3, by rw [a4]; omega, fun _ _ => trivial⟩
      exact ⟨S, a1, fun y hy => List.mem_cons_of_mem _ (a2 y hy), a3, a4, fun y hy e => hK.out (e ▸ a2 y hy)⟩
    · obtain ⟨S, a1, a2, a3, a4, a5⟩ := alone_kids (E := E) (d := d) (v := v) (fun x => (alnF E d x v).1) (fun y => y ∉ away E v fr) _ hK fun x hx => by
        obtain ⟨hb, hnx, hvx⟩ := hK.mem hx
        obtain ⟨⟨S1, a1, a2, a3, a4, a5⟩, _⟩ := ih x v hb hnx
        refine ⟨S1, a1, a2, a3, a4, fun y hy hya => ?_⟩
        rcases nds_adj d x v hb y v (a2 y hy) (mem_away.1 hya).1.symm with q | ⟨q, _⟩
        · exact hvx q
        · exact a5 y hy q
      refine ⟨v :: S, List.nodup_cons.2 ⟨fun q => hK.out (a2 v q), a1⟩, fun y hy => ?_, fun a ha b hb => ?_, by rw [List.length_cons, a4]; omega⟩
      · rcases List.mem_cons.1 hy with rfl | hy
        · exact List.mem_cons_self ..
        · exact List.mem_cons_of_mem _ (a2 y hy)
      · rcases List.mem_cons.1 ha with ha | ha <;> rcases List.mem_cons.1 hb with hb | hb
        · rw [ha, hb]; exact hE _
        · rw [ha]; exact fun q => a5 b hb (hK.near (a2 b hb) q.symm)
        · rw [hb]; exact fun q => a5 a ha (hK.near (a2 a ha) q)
        · exact a3 a ha b hb

/-! ### pairs -/
def ends (M : Edges) : List Nat := M.flatMap fun e => [e.1, e.2]
theorem ends_cons (e : Nat × Nat) (M : Edges) : ends (e :: M) = e.1 :: e.2 :: ends M := rfl
theorem ends_append (A B : Edges) : ends (A ++ B) = ends A ++ ends B := by simp [ends]
theorem ends_length (M : Edges) : (ends M).length = 2 * M.length := by
  induction M with
  | nil => rfl
  | cons a r ih => rw [ends_cons, List.length_cons, List.length_cons, List.length_cons, ih]; omega
theorem pairs_kids {E : Edges} {d v : Nat} (f : Nat → Nat) (Q : Nat → Prop) : ∀ (K : List Nat), Kids E d v K → (∀ x ∈ K, ∃ M : Edges, (ends M).Nodup ∧ (∀ y ∈ ends M, y ∈ nds E d x v) ∧ (∀ e ∈ M, e ∈ E) ∧ M.length = f x ∧ ∀ y ∈ ends M, Q y) →
    ∃ M : Edges, (ends M).Nodup ∧ (∀ y ∈ ends M, y ∈ K.flatMap fun x => nds E d x v) ∧ (∀ e ∈ M, e ∈ E) ∧ M.length = (K.map f).sum ∧ ∀ y ∈ ends M, Q y
  | [], _, _ => ⟨[], List.nodup_nil, fun y hy => (by cases hy), fun a ha => (by cases ha), rfl, fun y hy => (by cases hy)⟩
  | x :: K, hK, h => by
    obtain ⟨S1, a1, a2, a3, a4, a5⟩ := h x (List.mem_cons_self ..)
    obtain ⟨S2, b1, b2, b3, b4, b5⟩ := pairs_kids f Q K hK.tail fun y hy => h y (List.mem_cons_of_mem _ hy)
    refine ⟨S1 ++ S2, ?_, fun y hy => ?_, fun e he => (List.mem_append.1 he).elim (a3 e) (b3 e), by rw [List.length_append, a4, b4, List.map_cons, List.sum_cons], fun y hy => ?_⟩
    · rw [ends_append]
      exact List.nodup_append.2 ⟨a1, b1, fun y hy z hz e => hK.head.2.2.2 y (a2 y hy) (e ▸ b2 z hz)⟩
    · rw [ends_append] at hy
      rw [List.flatMap_cons]
      exact (List.mem_append.1 hy).elim (fun q => List.mem_append_left _ (a2 y q)) (fun q => List.mem_append_right _ (b2 y q))
    · rw [ends_append] at hy
      exact (List.mem_append.1 hy).elim (a5 y) (b5 y)
theorem pairs_there {E : Edges} : ∀ (d v : Nat) (fr : Int), Brn E d v fr → (nds E d v fr).Nodup →
    (∃ M : Edges, (ends M).Nodup ∧ (∀ y ∈ ends M, y ∈ nds E d v fr) ∧ (∀ e ∈ M, e ∈ E) ∧ M.length = (pairF E d v fr).1) ∧
    (∃ M : Edges, (ends M).Nodup ∧ (∀ y ∈ ends M, y ∈ nds E d v fr) ∧ (∀ e ∈ M, e ∈ E) ∧ M.length = (pairF E d v fr).2 ∧ ∀ y ∈ ends M, y ≠ v) := by
  intro d
  induction d with
  | zero => intro v fr h; exact h.elim
  | succ d ih =>
    intro v fr h hn
    have hK := Kids.of h hn
    rw [pairF_at, nds]
    simp only
    constructor
    · by_cases hf : freeK E d v fr = true
      · rw [if_pos hf]
        obtain ⟨k, hk, hk2⟩ := List.any_eq_true.1 hf
        rw [decide_eq_true_eq] at hk2
        obtain ⟨M, a1, a2, a3, a4, a5⟩ := pairs_kids (E := E) (d := d) (v := v) (fun x => (pairF E d x v).1) (fun y => y ≠ k) _ hK fun x hx => by
          obtain ⟨hb, hnx, _⟩ := hK.mem hx
          obtain ⟨⟨M1, a1, a2, a3, a4⟩, ⟨M2, b1, b2, b3, b4, b5⟩⟩ := ih x v hb hnx
          by_cases hxk : x = k
          · subst hxk
            exact ⟨M2, b1, b2, b3, by rw [b4, hk2], b5⟩
          · refine ⟨M1, a1, a2, a3, a4, fun y hy e => ?_⟩
            subst e
            have hay := (mem_away.1 hk).1
            rcases nds_adj d x v hb y v (a2 y hy) hay.symm with q | ⟨q, _⟩
            · exact (hK.mem hx).2.2 q
            · exact hxk q.symm
        have hvM : v ∉ ends M := fun q => hK.out (a2 v q)
        have hkM : k ∉ ends M := fun q => a5 k q rfl
        have hkv : k ≠ v := fun q => by
          have h1 := hK.mem hk
          have h2 := nds_head h1.1
          have h3 := h1.2.2
          rw [← q] at h3
          rw [← q] at h2
          exact h3 h2
        have hkn : k ∈ (away E v fr).flatMap fun x => nds E d x v := List.mem_flatMap.2 ⟨k, hk, nds_head (hK.mem hk).1⟩
        rcases (mem_away.1 hk).1 with q | q
        · refine ⟨(v, k) :: M, ?_, ?_, ?_, by rw [List.length_cons, a4]⟩
          · rw [ends_cons]; exact List.nodup_cons.2 ⟨fun q => (List.mem_cons.1 q).elim (fun q => hkv q.symm) hvM, List.nodup_cons.2 ⟨hkM, a1⟩⟩
          · intro y hy
            rw [ends_cons] at hy
            rcases List.mem_cons.1 hy with rfl | hy
            · exact List.mem_cons_self ..
            · rcases List.mem_cons.1 hy with rfl | hy
              · exact List.mem_cons_of_mem _ hkn
              · exact List.mem_cons_of_mem _ (a2 y hy)
          · intro e he
            rcases List.mem_cons.1 he with rfl | he
            · exact q
            · exact a3 e he
        · refine ⟨(k, v) :: M, ?_, ?_, ?_, by rw [List.length_cons, a4]⟩
          · rw [ends_cons]; exact List.nodup_cons.2 ⟨fun q => (List.mem_cons.1 q).elim hkv hkM, List.nodup_cons.2 ⟨hvM, a1⟩⟩
          · intro y hy
            rw [ends_cons] at hy
            rcases List.mem_cons.1 hy with rfl | hy
            · exact List.mem_cons_of_mem _ hkn
            · rcases List.mem_cons.1 hy with rfl | hy
              · exact List.mem_cons_self ..
              · exact List.mem_cons_of_mem _ (a2 y hy)
          · intro e he
            rcases List.mem_cons.1 he with rfl | he
            · exact q
            · exact a3 e he
      · rw [if_neg hf]
        obtain ⟨M, a1, a2, a3, a4, _⟩ := pairs_kids (E := E) (d := d) (v := v) (fun x => (pairF E d x v).1) (fun _ => True) _ hK fun x hx => by
          obtain ⟨hb, hnx, _⟩ := hK.mem hx
          obtain ⟨⟨M1, a1, a2, a3, a4⟩, _⟩ := ih x v hb hnx
          exact ⟨M1, a1, a2, a3, a4, fun _ _ => trivial⟩
        exact ⟨M, a1, fun y hy => List.mem_cons_of_mem _ (a2 y hy), a3, a4⟩
    · obtain ⟨M, a1, a2, a3, a4, _⟩ := pairs_kids (E := E) (d := d) (v := v) (fun x => (pairF E d x v).1) (fun _ => True) _ hK fun x hx => by
        obtain ⟨hb, hnx, _⟩ := hK.mem hx
        obtain ⟨⟨M1, a1, a2, a3, a4⟩, _⟩ := ih x v hb hnx
        exact ⟨M1, a1, a2, a3, a4, fun _ _ => trivial⟩
      exact ⟨M, a1, fun y hy => List.mem_cons_of_mem _ (a2 y hy), a3, a4, fun y hy e => hK.out (e ▸ a2 y hy)⟩

/-! ### watchers -/
def Seen (E : Edges) (D : List Nat) (y : Nat) : Prop := y ∈ D ∨ ∃ z ∈ D, Adj E y z
theorem Seen.mono {E : Edges} {D D' : List Nat} (h : ∀ z ∈ D, z ∈ D') {y : Nat} (hs : Seen E D y) : Seen E D' y := hs.elim (fun q => .inl (h y q)) (fun ⟨z, q, r⟩ => .inr ⟨z, h z q, r⟩)
theorem watch_kids {E : Edges} {d v : Nat} (f : Nat → Nat) (R : Nat → List Nat → Prop) (hR : ∀ x D D', (∀ z ∈ D, z ∈ D') → R x D → R x D') : ∀ (K : List Nat), (∀ x ∈ K, ∃ D : List Nat, (∀ y ∈ D, y ∈ nds E d x v) ∧ D.length ≤ f x ∧ R x D) →
    ∃ D : List Nat, (∀ y ∈ D, y ∈ K.flatMap fun x => nds E d x v) ∧ D.length ≤ (K.map f).sum ∧ ∀ x ∈ K, R x D
  | [], _ => ⟨[], fun y hy => (by cases hy), Nat.le_refl _, fun y hy => (by cases hy)⟩
  | x :: K, h => by
    obtain ⟨D1, a1, a2, a3⟩ := h x (List.mem_cons_self ..)
    obtain ⟨D2, b1, b2, b3⟩ := watch_kids f R hR K fun y hy => h y (List.mem_cons_of_mem _ hy)
    refine ⟨D1 ++ D2, fun y hy => ?_, by rw [List.length_append, List.map_cons, List.sum_cons]; omega, fun y hy => ?_⟩
    · rw [List.flatMap_cons]
      exact (List.mem_append.1 hy).elim (fun q => List.mem_append_left _ (a1 y q)) (fun q => List.mem_append_right _ (b1 y q))
    · rcases List.mem_cons.1 hy with rfl | hy
      · exact hR _ _ _ (fun z hz => List.mem_append_left _ hz) a3
      · exact hR _ _ _ (fun z hz => List.mem_append_right _ hz) (b3 y hy)
/-- watchers of a branch, no more than pairs: its node is among them where it is paired, and it may be seen by none only where it is alone in the branch -/
theorem watch_there {E : Edges} : ∀ (d v : Nat) (fr : Int), Brn E d v fr →
    ∃ D : List Nat, (∀ y ∈ D, y ∈ nds E d v fr) ∧ D.length ≤ (pairF E d v fr).1 ∧ ((pairF E d v fr).2 ≠ (pairF E d v fr).1 → v ∈ D) ∧ ∀ y ∈ nds E d v fr, (y ≠ v ∨ away E v fr ≠ []) → Seen E D y := by
  intro d
  induction d with
  | zero => intro v fr h; exact h.elim
  | succ d ih =>
    intro v fr h
    have hadj : ∀ x ∈ away E v fr, Adj E v x := fun x hx => (mem_away.1 hx).1
    obtain ⟨D, a1, a2, a3⟩ := watch_kids (E := E) (d := d) (v := v) (fun x => (pairF E d x v).1) (fun x D => ((pairF E d x v).2 ≠ (pairF E d x v).1 → x ∈ D) ∧ ∀ y ∈ nds E d x v, (y ≠ x ∨ away E x v ≠ []) → Seen E D y)
      (fun x D D' hd hr => ⟨fun q => hd _ (hr.1 q), fun y hy q => (hr.2 y hy q).mono hd⟩) (away E v fr) fun x hx => by
        obtain ⟨D, b1, b2, b3, b4⟩ := ih x v (h x hx)
        exact ⟨D, b1, b2, b3, b4⟩
    rw [pairF_at, nds]
    simp only
    by_cases hf : freeK E d v fr = true
    · rw [if_pos hf]
      refine ⟨v :: D, fun y hy => ?_, by rw [List.length_cons]; omega, fun _ => List.mem_cons_self .., fun y hy _ => ?_⟩
      · rcases List.mem_cons.1 hy with rfl | hy
        · exact List.mem_cons_self ..
        · exact List.mem_cons_of_mem _ (a1 y hy)
      · rcases List.mem_cons.1 hy with rfl | hy
        · exact .inl (List.mem_cons_self ..)
        · obtain ⟨x, hx, hyx⟩ := List.mem_flatMap.1 hy
          by_cases e : y = x
          · subst e
            exact .inr ⟨v, List.mem_cons_self .., (hadj y hx).symm⟩
          · exact ((a3 x hx).2 y hyx (.inl e)).mono fun z hz => List.mem_cons_of_mem _ hz
    · rw [if_neg hf]
      have hno : ∀ x ∈ away E v fr, (pairF E d x v).2 ≠ (pairF E d x v).1 := fun x hx he => hf (List.any_eq_true.2 ⟨x, hx, decide_eq_true he⟩)
      refine ⟨D, fun y hy => List.mem_cons_of_mem _ (a1 y hy), by omega, fun q => absurd rfl q, fun y hy hyv => ?_⟩
      rcases List.mem_cons.1 hy with rfl | hy
      · rcases hyv with q | q
        · exact absurd rfl q
        · obtain ⟨x, hx⟩ := List.exists_mem_of_ne_nil _ q
          exact .inr ⟨x, (a3 x hx).1 (hno x hx), hadj x hx⟩
      · obtain ⟨x, hx, hyx⟩ := List.mem_flatMap.1 hy
        by_cases e : y = x
        · subst e
          exact .inl ((a3 y hx).1 (hno y hx))
        · exact (a3 x hx).2 y hyx (.inl e)

/-! ### no set is greater: each pair has a node that is not in it -/
theorem nodup_le {L : List Nat} {n : Nat} (hn : L.Nodup) (hl : ∀ x ∈ L, x < n) : L.length ≤ n := by
  have : ∀ (n : Nat) (L : List Nat), L.Nodup → (∀ x ∈ L, x < n) → L.length ≤ n := by
    intro n
    induction n with
    | zero =>
      intro L _ h
      cases L with
      | nil => exact Nat.le_refl _
      | cons a r => have := h a (by simp); omega
    | succ n ih =>
      intro L hn h
      have h1 := ih (L.filter fun x => decide (x ≠ n)) (hn.filter _) (fun x hx => by
        rw [List.mem_filter, decide_eq_true_eq] at hx
        have := h x hx.1; omega)
      have h2 : L.length ≤ (L.filter fun x => decide (x ≠ n)).length + 1 := by
        have e : ∀ L : List Nat, L.length = (L.filter fun x => decide (x ≠ n)).length + L.count n := by
          intro L
          induction L with
          | nil => rfl
          | cons a r ih =>
            by_cases ha : a = n
            · subst ha
              rw [List.filter_cons_of_neg (by simp), List.count_cons_self, List.length_cons, ih]; omega
            · rw [List.filter_cons_of_pos (by simpa using ha), List.length_cons, List.length_cons, List.count_cons_of_ne (fun q => ha q), ih]; omega
        have h3 := List.nodup_iff_count.1 hn n
        have := e L
        omega
      omega
  exact this n L hn hl
/-- for each pair a node of it that is not in the set -/
theorem pair_outs {E : Edges} {S : List Nat} (hS : Alone E S) : ∀ (M : Edges), (∀ e ∈ M, e ∈ E) → (ends M).Nodup → ∃ T : List Nat, T.Nodup ∧ T.length = M.length ∧ (∀ y ∈ T, y ∈ ends M) ∧ ∀ y ∈ T, y ∉ S
  | [], _, _ => ⟨[], List.nodup_nil, rfl, fun y hy => (by cases hy), fun y hy => (by cases hy)⟩
  | e :: M, h, hn => by
    rw [ends_cons, List.nodup_cons, List.nodup_cons] at hn
    obtain ⟨h1, h2, h3⟩ := hn
    obtain ⟨T, a1, a2, a3, a4⟩ := pair_outs hS M (fun x hx => h x (List.mem_cons_of_mem _ hx)) h3
    have he := h e (List.mem_cons_self ..)
    rw [ends_cons]
    by_cases hs : e.1 ∈ S
    · have hs2 : e.2 ∉ S := fun q => hS e.1 hs e.2 q (.inl he)
      refine ⟨e.2 :: T, List.nodup_cons.2 ⟨fun q => h2 (a3 _ q), a1⟩, by simp [a2], fun y hy => ?_, fun y hy => ?_⟩
      · rcases List.mem_cons.1 hy with rfl | hy
        · simp
        · exact List.mem_cons_of_mem _ (List.mem_cons_of_mem _ (a3 y hy))
      · rcases List.mem_cons.1 hy with rfl | hy
        · exact hs2
        · exact a4 y hy
    · refine ⟨e.1 :: T, List.nodup_cons.2 ⟨fun q => h1 (List.mem_cons_of_mem _ (a3 _ q)), a1⟩, by simp [a2], fun y hy => ?_, fun y hy => ?_⟩
      · rcases List.mem_cons.1 hy with rfl | hy
        · simp
        · exact List.mem_cons_of_mem _ (List.mem_cons_of_mem _ (a3 y hy))
      · rcases List.mem_cons.1 hy with rfl | hy
        · exact hs
        · exact a4 y hy
/-- nodes alone and pairs are together no more than all nodes -/
theorem alone_pairs_le {n : Nat} {E : Edges} {S : List Nat} {M : Edges} (hS : Alone E S) (hSn : S.Nodup) (hSl : ∀ x ∈ S, x < n) (hM : ∀ e ∈ M, e ∈ E) (hMn : (ends M).Nodup) (hMl : ∀ x ∈ ends M, x < n) : S.length + M.length ≤ n := by
  obtain ⟨T, a1, a2, a3, a4⟩ := pair_outs hS M hM hMn
  have := nodup_le (L := S ++ T) (n := n) (List.nodup_append.2 ⟨hSn, a1, fun x hx y hy e => a4 y hy (e ▸ hx)⟩) (fun x hx => (List.mem_append.1 hx).elim (hSl x) fun q => hMl x (a3 x q))
  rw [List.length_append] at this
  omega
end Go.Proofs.Ytafdlilojlmchaa

namespace Go.Proofs.Ytafdlilojlmchaa

/-! ### sums of ways from a node, and edge by edge -/
def sz (E : Edges) (d v : Nat) (fr : Int) : Nat := (nds E d v fr).length
/-- the sum of how deep the nodes of a branch are -/
def dsm (E : Edges) : Nat → Nat → Int → Nat
  | 0, _, _ => 0
  | d + 1, v, fr => ((away E v fr).map fun x => sz E d x v + dsm E d x v).sum
/-- the sum over the edges of a branch, of n nodes in all -/
def esm (E : Edges) (n : Nat) : Nat → Nat → Int → Nat
  | 0, _, _ => 0
  | d + 1, v, fr => ((away E v fr).map fun x => sz E d x v * (n - sz E d x v) + esm E n d x v).sum
theorem sz_more {E : Edges} {d v : Nat} {fr : Int} (h : Brn E d v fr) : sz E (d + 1) v fr = sz E d v fr := by rw [sz, nds_more _ _ _ h]; rfl
theorem dsm_more {E : Edges} : ∀ (d v : Nat) (fr : Int), Brn E d v fr → dsm E (d + 1) v fr = dsm E d v fr := by
  intro d
  induction d with
  | zero => intro v fr h; exact h.elim
  | succ d ih =>
    intro v fr h
    rw [dsm, dsm]
    exact sum_map_eq fun x hx => by rw [ih x v (h x hx), sz_more (h x hx)]
theorem esm_more {E : Edges} {n : Nat} : ∀ (d v : Nat) (fr : Int), Brn E d v fr → esm E n (d + 1) v fr = esm E n d v fr := by
  intro d
  induction d with
  | zero => intro v fr h; exact h.elim
  | succ d ih =>
    intro v fr h
    rw [esm, esm]
    exact sum_map_eq fun x hx => by rw [ih x v (h x hx), sz_more (h x hx)]
theorem sz_at (E : Edges) (d v : Nat) (fr : Int) : sz E (d + 1) v fr = 1 + ((away E v fr).map fun x => sz E d x v).sum := nds_at E d v fr
theorem nb_nodup {n : Nat} {E : Edges} (h : ValidT n E) (v : Nat) : (nb E v).Nodup := (nb_asc (fun e he => (h.ord e he).1) h.asc v).imp fun q => by omega
theorem away_perm {n : Nat} {E : Edges} (h : ValidT n E) {v x : Nat} (ha : Adj E v x) : (away E v (-1)).Perm (x :: away E v x) := by
  have hn := nb_nodup h v
  rw [List.perm_iff_count]
  intro a
  have h1 : (away E v (-1)).Nodup := hn.filter _
  have h2 : (x :: away E v x).Nodup := List.nodup_cons.2 ⟨fun q => (mem_away.1 q).2 rfl, hn.filter _⟩
  rw [h1.count, h2.count]
  have hm : a ∈ away E v (-1) ↔ a ∈ x :: away E v x := by
    rw [mem_away, List.mem_cons, mem_away]
    constructor
    · rintro ⟨q, _⟩
      by_cases e : a = x
      · exact .inl e
      · exact .inr ⟨q, by omega⟩
    · rintro (rfl | ⟨q, _⟩)
      · exact ⟨ha, by omega⟩
      · exact ⟨q, by omega⟩
  simp only [hm]
section
variable {n : Nat} {E : Edges}
theorem sz_all (h : ValidT n E) (h7 : n ≤ 7) {v : Nat} (hv : v < n) : sz E 14 v (-1) = n := nd_len h h7 hv
theorem adj_lt (h : ValidT n E) {v x : Nat} (ha : Adj E v x) : v < n ∧ x < n := by
  rcases ha with q | q <;> (have := h.ord _ q; simp only at this; omega)
theorem adj_ne (h : ValidT n E) (v : Nat) : ¬ Adj E v v := fun q => by
  rcases q with q | q <;> (have := h.ord _ q; simp only at this; omega)
/-- an edge parts all nodes -/
theorem sz_two (h : ValidT n E) (h7 : n ≤ 7) {v x : Nat} (ha : Adj E v x) : sz E 14 v x + sz E 14 x v = n := by
  have hb := fun (v : Nat) (fr : Int) => valid_brn h h7 v fr
  have e1 := sz_at E 14 v (-1)
  have e2 := sz_at E 14 v x
  rw [sz_more (hb v _), ((away_perm h ha).map fun y => sz E 14 y v).sum_nat, List.map_cons, List.sum_cons] at e1
  rw [sz_more (hb v _)] at e2
  rw [sz_all h h7 (adj_lt h ha).1] at e1
  omega
theorem dsm_two (h : ValidT n E) (h7 : n ≤ 7) {v x : Nat} (ha : Adj E v x) : dsm E 14 v (-1) = dsm E 14 v x + (sz E 14 x v + dsm E 14 x v) := by
  have hb := fun (v : Nat) (fr : Int) => valid_brn h h7 v fr
  rw [← dsm_more 14 v _ (hb v (-1)), ← dsm_more 14 v _ (hb v x), dsm, dsm, ((away_perm h ha).map fun y => sz E 14 y v + dsm E 14 y v).sum_nat, List.map_cons, List.sum_cons]
  omega
/-- the sum of ways from a node, and from one beside it -/
theorem dsm_step (h : ValidT n E) (h7 : n ≤ 7) {v x : Nat} (ha : Adj E v x) : (dsm E 14 x (-1) : Int) = dsm E 14 v (-1) + n - 2 * sz E 14 x v := by
  have h1 := dsm_two h h7 ha
  have h2 := dsm_two h h7 ha.symm
  have h3 := sz_two h h7 ha
  omega
/-- .. gathered over a branch -/
def gsm (E : Edges) (n : Nat) : Nat → Nat → Int → Int
  | 0, _, _ => 0
  | d + 1, v, fr => ((away E v fr).map fun x => (sz E d x v : Int) * (n - 2 * sz E d x v) + gsm E n d x v).sum
theorem isum_eq {α : Type} {f g : α → Int} {L : List α} (h : ∀ x ∈ L, f x = g x) : (L.map f).sum = (L.map g).sum := by rw [List.map_congr_left h]
theorem isum_add {α : Type} (L : List α) (f g : α → Int) : (L.map fun x => f x + g x).sum = (L.map f).sum + (L.map g).sum := by
  induction L with
  | nil => rfl
  | cons a r ih => simp only [List.map_cons, List.sum_cons, ih]; omega
theorem isum_mul {α : Type} (L : List α) (f : α → Int) (c : Int) : (L.map fun x => f x * c).sum = (L.map f).sum * c := by
  induction L with
  | nil => simp
  | cons a r ih => simp only [List.map_cons, List.sum_cons, ih, Int.add_mul]
theorem isum_flat {α : Type} (f : Nat → Int) (k : α → List Nat) (L : List α) : ((L.flatMap k).map f).sum = (L.map fun x => ((k x).map f).sum).sum := by
  induction L with
  | nil => rfl
  | cons a r ih => rw [List.flatMap_cons, List.map_append, List.sum_append, ih, List.map_cons, List.sum_cons]
theorem isum_nat {α : Type} (f : α → Nat) (L : List α) : (L.map fun x => (f x : Int)).sum = ((L.map f).sum : Nat) := by
  induction L with
  | nil => rfl
  | cons a r ih => simp only [List.map_cons, List.sum_cons, ih]; omega
theorem gather (h : ValidT n E) (h7 : n ≤ 7) : ∀ (d v : Nat) (fr : Int), Brn E d v fr → ((nds E d v fr).map fun u => (dsm E 14 u (-1) : Int)).sum = (sz E d v fr : Int) * dsm E 14 v (-1) + gsm E n d v fr := by
  intro d
  induction d with
  | zero => intro v fr hb; exact hb.elim
  | succ d ih =>
    intro v fr hb
    have hbb := fun (v : Nat) (fr : Int) => valid_brn h h7 v fr
    have hsz : ∀ x ∈ away E v fr, sz E 14 x v = sz E d x v := fun x hx => by
      rw [sz, sz]
      rcases Nat.le_total d 14 with q | q
      · rw [nds_le q (hb x hx)]
      · rw [nds_le q (hbb x v)]
    rw [nds, List.map_cons, List.sum_cons, isum_flat, gsm, sz_at]
    have e1 := isum_eq (L := away E v fr) (f := fun x => ((nds E d x v).map fun u => (dsm E 14 u (-1) : Int)).sum) (g := fun x => (sz E d x v : Int) * (dsm E 14 v (-1)) + ((sz E d x v : Int) * (n - 2 * sz E d x v) + gsm E n d x v)) fun x hx => by
      show ((nds E d x v).map fun u => (dsm E 14 u (-1) : Int)).sum = _
      rw [ih x v (hb x hx), dsm_step h h7 (mem_away.1 hx).1, hsz x hx, show (dsm E 14 v (-1) : Int) + n - 2 * sz E d x v = dsm E 14 v (-1) + (n - 2 * sz E d x v) by omega, Int.mul_add]
      omega
    rw [e1, isum_add, isum_mul, isum_nat]
    rw [Int.natCast_add, Int.add_mul]
    simp only [Int.natCast_one, Int.one_mul]
    omega
theorem sz_mono {E : Edges} : ∀ (d v : Nat) (fr : Int), sz E d v fr ≤ sz E (d + 1) v fr := by
  intro d
  induction d with
  | zero => intro v fr; exact Nat.zero_le _
  | succ d ih =>
    intro v fr
    rw [sz_at, sz_at]
    exact Nat.add_le_add_left (sum_le2 fun x _ => ih x v) 1
theorem sz_le14 {E : Edges} {d : Nat} (hd : d ≤ 14) (v : Nat) (fr : Int) : sz E d v fr ≤ sz E 14 v fr := by
  have : ∀ k, sz E d v fr ≤ sz E (d + k) v fr := by
    intro k
    induction k with
    | zero => exact Nat.le_refl _
    | succ k ih => exact Nat.le_trans ih (sz_mono (d + k) v fr)
  have h := this (14 - d)
  rwa [show d + (14 - d) = 14 by omega] at h
theorem sz_edge (h : ValidT n E) (h7 : n ≤ 7) {d v x : Nat} (hd : d ≤ 14) (ha : Adj E v x) : sz E d x v ≤ n := by
  have h1 := sz_le14 (E := E) hd x v
  have h2 := sz_two h h7 ha
  omega
theorem gsm_esm : ∀ (d v : Nat) (fr : Int), (∀ (d' y x : Nat), d' ≤ d → Adj E y x → sz E d' x y ≤ n) → (n : Int) * dsm E d v fr + gsm E n d v fr = 2 * esm E n d v fr := by
  intro d
  induction d with
  | zero => intro v fr _; simp [dsm, gsm, esm]
  | succ d ih =>
    intro v fr hs
    rw [dsm, gsm, esm, ← isum_nat, ← isum_nat, Int.mul_comm (n : Int), ← isum_mul, ← isum_add, Int.mul_comm 2, ← isum_mul]
    refine isum_eq fun x hx => ?_
    have i := ih x v fun d' y z hd ha => hs d' y z (by omega) ha
    have q := hs d v x (by omega) (mem_away.1 hx).1
    obtain ⟨s, hs'⟩ : ∃ s, s = sz E d x v := ⟨_, rfl⟩
    rw [← hs'] at q ⊢
    obtain ⟨k, rfl⟩ : ∃ k, n = s + k := ⟨n - s, by omega⟩
    rw [Nat.add_sub_cancel_left, Int.natCast_add (s * k), Int.natCast_add s, Int.natCast_mul, Int.natCast_add]
    rw [Int.natCast_add] at i
    have e1 : ((s : Int) + dsm E d x v) * (s + k) = (s : Int) * (s + k) + (s + k) * dsm E d x v := by rw [Int.add_mul, Int.mul_comm (dsm E d x v : Int)]
    have e2 : (s : Int) * ((s : Int) + k - 2 * s) = s * k - s * s := by rw [show (s : Int) + k - 2 * s = k - s by omega, Int.mul_sub]
    rw [e1, e2, Int.mul_add (s : Int) s k]
    omega
end
end Go.Proofs.Ytafdlilojlmchaa

namespace Go.Proofs.Ytafdlilojlmchaa

/-- the nodes beside a node, as far as k of them, but the one that it came from -/
def awyK (E : Edges) (u : Nat) (fr : Int) (k : Nat) : List Nat := ((nb E u).take k).filter fun (x : Nat) => !decide ((x : Int) = fr)
theorem awyK_sub (E : Edges) (u : Nat) (fr : Int) (k : Nat) : (awyK E u fr k).Sublist (away E u fr) := (List.take_sublist k _).filter _
theorem awyK_all (E : Edges) (u : Nat) (fr : Int) : awyK E u fr (nb E u).length = away E u fr := by unfold awyK; rw [List.take_length]; rfl
theorem awyK_yes {E : Edges} {u k : Nat} {fr : Int} (hk : k < (nb E u).length) (h : ((nb E u)[k] : Int) ≠ fr) : awyK E u fr (k + 1) = awyK E u fr k ++ [(nb E u)[k]] := by
  unfold awyK
  rw [List.take_succ_eq_append_getElem hk, List.filter_append, List.filter_cons_of_pos (by simpa using h)]; rfl
theorem awyK_no {E : Edges} {u k : Nat} {fr : Int} (hk : k < (nb E u).length) (h : ((nb E u)[k] : Int) = fr) : awyK E u fr (k + 1) = awyK E u fr k := by
  unfold awyK
  rw [List.take_succ_eq_append_getElem hk, List.filter_append, List.filter_cons_of_neg (by simpa using h), List.filter_nil, List.append_nil]
def dpS (E : Edges) (st : Nat × Nat → Nat × Nat → Nat × Nat) (s0 : Nat × Nat) (fin : Nat × Nat → Nat × Nat) (d u : Nat) (fr : Int) (k : Nat) : Nat × Nat := (awyK E u fr k).foldl (fun s x => st s (dpF E st s0 fin d x u)) s0
section
variable {E : Edges} {st : Nat × Nat → Nat × Nat → Nat × Nat} {s0 : Nat × Nat} {fin : Nat × Nat → Nat × Nat} {d u k : Nat} {fr : Int}
theorem dpS_zero : dpS E st s0 fin d u fr 0 = s0 := by unfold dpS awyK; simp
theorem dpS_yes (hk : k < (nb E u).length) (h : ((nb E u)[k] : Int) ≠ fr) : dpS E st s0 fin d u fr (k + 1) = st (dpS E st s0 fin d u fr k) (dpF E st s0 fin d (nb E u)[k] u) := by
  unfold dpS
  rw [awyK_yes hk h, List.foldl_append]; rfl
theorem dpS_no (hk : k < (nb E u).length) (h : ((nb E u)[k] : Int) = fr) : dpS E st s0 fin d u fr (k + 1) = dpS E st s0 fin d u fr k := by
  unfold dpS
  rw [awyK_no hk h]
theorem dpS_all : fin (dpS E st s0 fin d u fr (nb E u).length) = dpF E st s0 fin (d + 1) u fr := by
  unfold dpS
  rw [awyK_all]; rfl
end
theorem sub_sum {α : Type} (f : α → Nat) {A B : List α} (h : A.Sublist B) : (A.map f).sum ≤ (B.map f).sum := by
  induction h with
  | slnil => exact Nat.le_refl _
  | cons a _ ih => simp only [List.map_cons, List.sum_cons]; omega
  | cons_cons a _ ih => simp only [List.map_cons, List.sum_cons]; omega
/-- the branches of a branch together have one node fewer -/
theorem kids_sz {E : Edges} {d u : Nat} {fr : Int} (k : Nat) {b : Nat} (h : sz E (d + 1) u fr ≤ b + 1) : ((awyK E u fr k).map fun x => sz E d x u).sum ≤ b := by
  have h1 := sub_sum (fun x => sz E d x u) (awyK_sub E u fr k)
  rw [sz_at] at h
  omega
theorem kid_sz {E : Edges} {d u x : Nat} {fr : Int} {b : Nat} (h : sz E (d + 1) u fr ≤ b + 1) (hx : x ∈ away E u fr) : sz E d x u ≤ b := by
  rw [sz_at] at h
  have := le_sum_mem (List.mem_map.2 ⟨x, hx, rfl⟩ : sz E d x u ∈ (away E u fr).map fun x => sz E d x u)
  omega
theorem aln_le {E : Edges} {d u : Nat} {fr : Int} (h : Brn E d u fr) : (alnF E d u fr).1 ≤ sz E d u fr ∧ (alnF E d u fr).2 ≤ sz E d u fr ∧ (pairF E d u fr).1 ≤ sz E d u fr ∧ (pairF E d u fr).2 ≤ sz E d u fr := by
  obtain ⟨h1, h2, h3, h4, h5⟩ := alone_pair d u fr h
  unfold sz
  omega
theorem prod_le {α : Type} {L : List α} {f g : α → Nat} (h : ∀ x ∈ L, f x ≤ g x) : prodM (L.map f) ≤ prodM (L.map g) := by
  induction L with
  | nil => exact Nat.le_refl _
  | cons a r ih =>
    show f a * prodM (r.map f) ≤ g a * prodM (r.map g)
    exact Nat.mul_le_mul (h a (List.mem_cons_self ..)) (ih fun x hx => h x (List.mem_cons_of_mem _ hx))
theorem prod_pow {α : Type} (f : α → Nat) : ∀ L : List α, prodM (L.map fun x => 2 ^ f x) = 2 ^ (L.map f).sum
  | [] => rfl
  | a :: r => by
    show 2 ^ f a * prodM (r.map fun x => 2 ^ f x) = _
    rw [prod_pow f r, List.map_cons, List.sum_cons, Nat.pow_add]
theorem set_le {E : Edges} : ∀ (d u : Nat) (fr : Int), Brn E d u fr → (setF E d u fr).1 + (setF E d u fr).2 ≤ 2 ^ sz E d u fr := by
  intro d
  induction d with
  | zero => intro u fr h; exact h.elim
  | succ d ih =>
    intro u fr h
    have h1 := prod_le (L := away E u fr) (f := fun x => (setF E d x u).1 + (setF E d x u).2) (g := fun x => 2 ^ sz E d x u) fun x hx => ih x u (h x hx)
    have h2 := prod_le (L := away E u fr) (f := fun x => (setF E d x u).1) (g := fun x => 2 ^ sz E d x u) fun x hx => by have := ih x u (h x hx); omega
    rw [prod_pow] at h1 h2
    rw [setF_at, sz_at, Nat.pow_add]
    simp only
    omega
/-- how great the states are, of a branch of at most seven nodes -/
theorem dpS_A {E : Edges} {d u : Nat} {fr : Int} (h : Brn E (d + 1) u fr) (h7 : sz E (d + 1) u fr ≤ 7) (k : Nat) : (dpS E stA (0, 1) id d u fr k).1 ≤ 6 ∧ (dpS E stA (0, 1) id d u fr k).2 ≤ 7 := by
  have h0 := kids_sz (E := E) (d := d) (u := u) (fr := fr) k (b := 6) h7
  have hm := (awyK_sub E u fr k).subset
  have h1 := sum_le2 (L := awyK E u fr k) (f := fun x => max (dpF E stA (0, 1) id d x u).1 (dpF E stA (0, 1) id d x u).2) (g := fun x => sz E d x u) fun x hx => by
    have := aln_le (h x (hm hx)); have e : alnF E d x u = dpF E stA (0, 1) id d x u := rfl; rw [e] at this; omega
  have h2 := sum_le2 (L := awyK E u fr k) (f := fun x => (dpF E stA (0, 1) id d x u).1) (g := fun x => sz E d x u) fun x hx => by
    have := aln_le (h x (hm hx)); have e : alnF E d x u = dpF E stA (0, 1) id d x u := rfl; rw [e] at this; omega
  unfold dpS
  rw [fold_A (fun x => dpF E stA (0, 1) id d x u)]
  simp only
  omega
theorem dpS_P {E : Edges} {d u : Nat} {fr : Int} (h : Brn E (d + 1) u fr) (h7 : sz E (d + 1) u fr ≤ 7) (k : Nat) : (dpS E stP (0, 0) finP d u fr k).1 ≤ 6 ∧ (dpS E stP (0, 0) finP d u fr k).2 ≤ 1 := by
  have h0 := kids_sz (E := E) (d := d) (u := u) (fr := fr) k (b := 6) h7
  have hm := (awyK_sub E u fr k).subset
  have h1 := sum_le2 (L := awyK E u fr k) (f := fun x => (dpF E stP (0, 0) finP d x u).1) (g := fun x => sz E d x u) fun x hx => by
    have := aln_le (h x (hm hx)); have e : pairF E d x u = dpF E stP (0, 0) finP d x u := rfl; rw [e] at this; omega
  unfold dpS
  rw [fold_P (fun x => dpF E stP (0, 0) finP d x u)]
  simp only
  refine ⟨by omega, ?_⟩
  split <;> omega
theorem dpS_S {E : Edges} {d u : Nat} {fr : Int} (h : Brn E (d + 1) u fr) (h7 : sz E (d + 1) u fr ≤ 7) (k : Nat) : (dpS E stS (1, 1) id d u fr k).1 ≤ 64 ∧ (dpS E stS (1, 1) id d u fr k).2 ≤ 64 := by
  have h0 := kids_sz (E := E) (d := d) (u := u) (fr := fr) k (b := 6) h7
  have hm := (awyK_sub E u fr k).subset
  have h1 := prod_le (L := awyK E u fr k) (f := fun x => (dpF E stS (1, 1) id d x u).1 + (dpF E stS (1, 1) id d x u).2) (g := fun x => 2 ^ sz E d x u) fun x hx => set_le d x u (h x (hm hx))
  have h2 := prod_le (L := awyK E u fr k) (f := fun x => (dpF E stS (1, 1) id d x u).1) (g := fun x => 2 ^ sz E d x u) fun x hx => by
    have : (dpF E stS (1, 1) id d x u).1 + (dpF E stS (1, 1) id d x u).2 ≤ _ := set_le d x u (h x (hm hx)); omega
  rw [prod_pow] at h1 h2
  have h3 : 2 ^ ((awyK E u fr k).map fun x => sz E d x u).sum ≤ 2 ^ 6 := Nat.pow_le_pow_right (by decide) h0
  unfold dpS
  rw [fold_S (fun x => dpF E stS (1, 1) id d x u)]
  simp only
  omega
end Go.Proofs.Ytafdlilojlmchaa

namespace Go.Proofs.Ytafdlilojlmchaa

/-- so many steps into a branch -/
def Wy (E : Edges) : Nat → Nat → Int → Nat → Prop
  | 0, v, _, i => v = i
  | k + 1, v, fr, i => ∃ x ∈ away E v fr, Wy E k x v i
/-- the nodes of a branch, with how deep they are -/
def dpl (E : Edges) : Nat → Nat → Int → Nat → List (Nat × Nat)
  | 0, _, _, _ => []
  | d + 1, v, fr, k => (v, k) :: (away E v fr).flatMap fun x => dpl E d x v (k + 1)
theorem dpl_fst (E : Edges) : ∀ (d v : Nat) (fr : Int) (k : Nat), (dpl E d v fr k).map Prod.fst = nds E d v fr := by
  intro d
  induction d with
  | zero => intro v fr k; rfl
  | succ d ih =>
    intro v fr k
    rw [dpl, nds, List.map_cons, List.map_flatMap]
    congr 1
    exact flat_eq fun x _ => ih x v (k + 1)
theorem dpl_snd (E : Edges) : ∀ (d v : Nat) (fr : Int) (k : Nat), ((dpl E d v fr k).map Prod.snd).sum = k * sz E d v fr + dsm E d v fr := by
  intro d
  induction d with
  | zero => intro v fr k; rfl
  | succ d ih =>
    intro v fr k
    rw [dpl, List.map_cons, List.sum_cons, sz_at, dsm]
    have key : ∀ L : List Nat, ((L.flatMap fun x => dpl E d x v (k + 1)).map Prod.snd).sum = k * (L.map fun x => sz E d x v).sum + (L.map fun x => sz E d x v + dsm E d x v).sum := by
      intro L
      induction L with
      | nil => rfl
      | cons a r ihr =>
        rw [List.flatMap_cons, List.map_append, List.sum_append, ihr, ih, List.map_cons, List.sum_cons, List.map_cons, List.sum_cons, Nat.mul_add, Nat.add_mul, Nat.one_mul]
        omega
    rw [key, Nat.mul_add, Nat.mul_one]
    omega
theorem dpl_wy {E : Edges} : ∀ (d v : Nat) (fr : Int) (k i j : Nat), (i, j) ∈ dpl E d v fr k → ∃ m, j = k + m ∧ Wy E m v fr i := by
  intro d
  induction d with
  | zero => intro v fr k i j h; cases h
  | succ d ih =>
    intro v fr k i j h
    rw [dpl] at h
    rcases List.mem_cons.1 h with h | h
    · cases h; exact ⟨0, rfl, rfl⟩
    · obtain ⟨x, hx, h⟩ := List.mem_flatMap.1 h
      obtain ⟨m, e, hw⟩ := ih x v (k + 1) i j h
      exact ⟨m + 1, by omega, x, hx, hw⟩
theorem wy_dpl {E : Edges} : ∀ (d v : Nat) (fr : Int) (k i m : Nat), Brn E d v fr → Wy E m v fr i → (i, k + m) ∈ dpl E d v fr k := by
  intro d
  induction d with
  | zero => intro v fr k i m h; exact h.elim
  | succ d ih =>
    intro v fr k i m h hw
    rw [dpl]
    cases m with
    | zero => rw [show i = v from Eq.symm hw]; exact List.mem_cons_self ..
    | succ m =>
      obtain ⟨x, hx, hw⟩ := hw
      have := ih x v (k + 1) i m (h x hx) hw
      rw [show k + 1 + m = k + (m + 1) by omega] at this
      exact List.mem_cons_of_mem _ (List.mem_flatMap.2 ⟨x, hx, this⟩)
/-- a way goes on to the next node -/
theorem wy_way2 {E : Edges} {u : Nat} : ∀ (k v : Nat) (fr : Int) (i j : Nat), Way2 E u v fr j → Wy E k v fr i → ∃ p, Way2 E u i p (j + k) := by
  intro k
  induction k with
  | zero =>
    intro v fr i j h hw
    obtain rfl : v = i := hw
    exact ⟨fr, h⟩
  | succ k ih =>
    intro v fr i j h hw
    obtain ⟨x, hx, hw⟩ := hw
    obtain ⟨p, hp⟩ := ih x v i (j + 1) (.step v fr j x h hx) hw
    exact ⟨p, by rw [show j + (k + 1) = j + 1 + k by omega]; exact hp⟩
/-- .. and back -/
theorem way2_back {E : Edges} {u v : Nat} {p : Int} {k : Nat} (h : Way2 E u v p k) : ∀ w : Int, w ≠ p → Wy E k v w u := by
  induction h with
  | start => intro w _; rfl
  | step v p k x hv hx ih =>
    intro w hw
    obtain ⟨h1, h2⟩ := mem_away.1 hx
    exact ⟨v, mem_away.2 ⟨h1.symm, fun q => hw q.symm⟩, ih x h2⟩
theorem way2_prev {E : Edges} {u v : Nat} {p : Int} {k : Nat} (h : Way2 E u v p k) : k = 0 ∨ 0 ≤ p := by
  cases h with
  | start => exact .inl rfl
  | step v p k x _ _ => exact .inr (by omega)
theorem wy_turn {E : Edges} {u i k : Nat} (h : Wy E k u (-1) i) : Wy E k i (-1) u := by
  obtain ⟨p, hp⟩ := wy_way2 k u (-1) i 0 .start h
  rw [Nat.zero_add] at hp
  rcases way2_prev hp with e | e
  · subst e; exact (Eq.symm h : i = u)
  · exact way2_back hp (-1) (by omega)
/-- how far a node is from another one -/
def dst (E : Edges) (v i : Nat) : Nat := ((dpl E 14 v (-1) 0).lookup i).getD 0
theorem lookup_mem {α : Type} : ∀ {L : List (Nat × α)}, (L.map Prod.fst).Nodup → ∀ {i : Nat} {a : α}, (i, a) ∈ L → L.lookup i = some a
  | [], _, i, a, h => by cases h
  | (j, b) :: r, hn, i, a, h => by
    rw [List.map_cons, List.nodup_cons] at hn
    rw [List.lookup_cons]
    rcases List.mem_cons.1 h with h1 | h1
    · cases h1; simp
    · have : (i == j) = false := by
        rw [beq_eq_false_iff_ne]
        intro e
        subst e
        exact hn.1 (List.mem_map.2 ⟨(i, a), h1, rfl⟩)
      rw [this]
      exact lookup_mem hn.2 h1
section
variable {n : Nat} {E : Edges}
theorem dpl_nodup (h : ValidT n E) (h7 : n ≤ 7) {v : Nat} (hv : v < n) : ((dpl E 14 v (-1) 0).map Prod.fst).Nodup := by
  rw [dpl_fst]
  exact (nd_perm h h7 hv).nodup_iff.2 List.nodup_range
theorem dst_wy (h : ValidT n E) (h7 : n ≤ 7) {v i : Nat} (hv : v < n) (hi : i < n) : Wy E (dst E v i) v (-1) i := by
  have hm : i ∈ (dpl E 14 v (-1) 0).map Prod.fst := by
    rw [dpl_fst]; exact (nd_perm h h7 hv).mem_iff.2 (List.mem_range.2 hi)
  obtain ⟨⟨i', k⟩, hk, e⟩ := List.mem_map.1 hm
  obtain rfl : i' = i := e
  have hl := lookup_mem (dpl_nodup h h7 hv) hk
  obtain ⟨m, e, hw⟩ := dpl_wy 14 v (-1) 0 i' k hk
  rw [dst, hl]
  rw [Nat.zero_add] at e
  subst e
  exact hw
theorem wy_dst (h : ValidT n E) (h7 : n ≤ 7) {v i k : Nat} (hv : v < n) (hw : Wy E k v (-1) i) : dst E v i = k := by
  have hm := wy_dpl 14 v (-1) 0 i k (valid_brn h h7 v _) hw
  rw [Nat.zero_add] at hm
  rw [dst, lookup_mem (dpl_nodup h h7 hv) hm]; rfl
theorem dst_self (h : ValidT n E) (h7 : n ≤ 7) {v : Nat} (hv : v < n) : dst E v v = 0 := wy_dst h h7 hv rfl
theorem dst_turn (h : ValidT n E) (h7 : n ≤ 7) {v i : Nat} (hv : v < n) (hi : i < n) : dst E v i = dst E i v := (wy_dst h h7 hi (wy_turn (dst_wy h h7 hv hi))).symm
theorem dst_sum (h : ValidT n E) (h7 : n ≤ 7) {v : Nat} (hv : v < n) : ((List.range n).map (dst E v)).sum = dsm E 14 v (-1) := by
  rw [← ((nd_perm h h7 hv).map (dst E v)).sum_nat, ← dpl_fst E 14 v (-1) 0, List.map_map]
  have e1 := dpl_snd E 14 v (-1) 0
  rw [Nat.zero_mul, Nat.zero_add] at e1
  rw [← e1]
  congr 1
  refine List.map_congr_left fun x hx => ?_
  obtain ⟨i, k⟩ := x
  show dst E v i = k
  rw [dst, lookup_mem (dpl_nodup h h7 hv) hx]; rfl
theorem dst_le (h : ValidT n E) (h7 : n ≤ 7) {v i : Nat} (hv : v < n) (hi : i < n) : dst E v i ≤ 6 := by
  obtain ⟨p, hp⟩ := wy_way2 _ v (-1) i 0 .start (dst_wy h h7 hv hi)
  rw [Nat.zero_add] at hp
  have hB : AllB E := fun v fr => valid_brn h h7 v fr
  rcases Nat.eq_zero_or_pos (dst E v i) with e | e
  · omega
  · obtain ⟨x, q, a1, rfl, a3, a4⟩ := way_far hB hp e
    have h1 := far_le h h7 (v := i) hi
    have h2 := far_step hB (v := i) (x := q) (fr := -1) (mem_away.2 ⟨a3.symm, by omega⟩)
    omega
/-- all ways together -/
def waysN (n : Nat) (E : Edges) : Nat := ((List.range n).map fun v => ((List.range v).map (dst E v)).sum).sum
theorem square_sum (f : Nat → Nat → Nat) (n : Nat) (hs : ∀ v i, v < n → i < n → f v i = f i v) (h0 : ∀ v, v < n → f v v = 0) : ((List.range n).map fun v => ((List.range n).map (f v)).sum).sum = 2 * ((List.range n).map fun v => ((List.range v).map (f v)).sum).sum := by
  have key : ∀ k, k ≤ n → ((List.range k).map fun v => ((List.range k).map (f v)).sum).sum = 2 * ((List.range k).map fun v => ((List.range v).map (f v)).sum).sum := by
    intro k
    induction k with
    | zero => intro _; rfl
    | succ k ih =>
      intro hk
      have ih := ih (by omega)
      simp only [List.range_succ, List.map_append, List.sum_append, List.map_cons, List.map_nil, List.sum_cons, List.sum_nil, Nat.add_zero]
      rw [sum_add2, ih, h0 k (by omega), sum_map_eq (L := List.range k) (f := fun v => f v k) (g := fun i => f k i) fun v hv => hs v k (by have := List.mem_range.1 hv; omega) (by omega)]
      have e : (List.map (fun i => f k i) (List.range k)).sum = (List.map (f k) (List.range k)).sum := rfl
      rw [e]
      omega
  exact key n (Nat.le_refl _)
theorem ways_esm (h : ValidT n E) (h7 : n ≤ 7) {r : Nat} (hr : r < n) : waysN n E = esm E n 14 r (-1) := by
  have h1 := square_sum (dst E) n (fun v i hv hi => dst_turn h h7 hv hi) fun v hv => dst_self h h7 hv
  have h2 := gather h h7 14 r (-1) (valid_brn h h7 r _)
  have h3 := gsm_esm (n := n) (E := E) 14 r (-1) fun d' y x hd ha => sz_edge h h7 hd ha
  rw [sz_all h h7 hr] at h2
  have h4 : ((List.range n).map fun v => ((List.range n).map (dst E v)).sum).sum = ((List.range n).map fun u => dsm E 14 u (-1)).sum := sum_map_eq fun v hv => dst_sum h h7 (List.mem_range.1 hv)
  rw [← ((nd_perm h h7 hr).map fun u => dsm E 14 u (-1)).sum_nat] at h4
  rw [isum_nat (fun u => dsm E 14 u (-1)) (nds E 14 r (-1))] at h2
  rw [h1] at h4
  have e : waysN n E = ((List.range n).map fun v => ((List.range v).map (dst E v)).sum).sum := rfl
  rw [← e] at h4
  omega
end
end Go.Proofs.Ytafdlilojlmchaa

namespace Go.Proofs.Ytafdlilojlmchaa

structure Seek (n : Nat) (E : Edges) (v i : Nat) (L : List Nat) : Prop where
  nd : L.Nodup
  lt : ∀ u ∈ L, u < n
  has : v ∈ L
  way : ∀ u ∈ L, ∃ p k, Way2 E v u p k ∧ ∀ q : Nat, p = (q : Int) → q ∈ L
  done : ∀ (j : Nat) (hj : j < L.length), j < i → ∀ b ∈ nb E L[j], b ∈ L
section
variable {n : Nat} {E : Edges} {v i : Nat} {L : List Nat}
theorem seek_one (hv : v < n) : Seek n E v 0 [v] :=
  ⟨by simp, fun u hu => by simp at hu; omega, by simp, fun u hu => by
    simp at hu; subst hu
    exact ⟨-1, 0, .start, fun q hq => by omega⟩, fun j _ h => absurd h (Nat.not_lt_zero _)⟩
theorem way2_dst (h : ValidT n E) (h7 : n ≤ 7) (hv : v < n) {u k : Nat} {p : Int} (hw : Way2 E v u p k) : dst E v u = k := by
  refine wy_dst h h7 hv (wy_turn ?_)
  rcases way2_prev hw with e | e
  · subst e; cases hw; rfl
  · exact way2_back hw (-1) (by omega)
theorem seek_add (h : ValidT n E) (h7 : n ≤ 7) (hv : v < n) (hs : Seek n E v i L) (hi : i ≤ L.length) {a b : Nat} (ha : a ∈ L) (hb : b ∈ nb E a) (hbL : b ∉ L) : Seek n E v i (L ++ [b]) ∧ dst E v b = dst E v a + 1 := by
  obtain ⟨p, k, hw, hp⟩ := hs.way a ha
  have hab := mem_nb.1 hb
  have hw2 : Way2 E v b a (k + 1) := .step a p k b hw (mem_away.2 ⟨hab, fun e => hbL (hp b e.symm)⟩)
  refine ⟨⟨?_, fun u hu => ?_, List.mem_append_left _ hs.has, fun u hu => ?_, fun j hj hji c hc => ?_⟩, by rw [way2_dst h h7 hv hw, way2_dst h h7 hv hw2]⟩
  · rw [List.nodup_append]
    exact ⟨hs.nd, by simp, fun x hx y hy e => by simp at hy; subst hy; subst e; exact hbL hx⟩
  · rcases List.mem_append.1 hu with hu | hu
    · exact hs.lt u hu
    · simp at hu; subst hu; exact (adj_lt h hab).2
  · rcases List.mem_append.1 hu with hu | hu
    · obtain ⟨p', k', h1, h2⟩ := hs.way u hu
      exact ⟨p', k', h1, fun q hq => List.mem_append_left _ (h2 q hq)⟩
    · simp at hu; subst hu
      exact ⟨a, k + 1, hw2, fun q hq => List.mem_append_left _ (by rw [← show a = q by omega]; exact ha)⟩
  · by_cases hjl : j < L.length
    · rw [List.getElem_append_left hjl] at hc
      exact List.mem_append_left _ (hs.done j hjl hji c hc)
    · rw [List.length_append] at hj
      simp at hj
      have hje : j = L.length := by omega
      subst hje
      exfalso
      omega
theorem seek_next (hs : Seek n E v i L) (hi : i < L.length) (hd : ∀ b ∈ nb E L[i], b ∈ L) : Seek n E v (i + 1) L :=
  ⟨hs.nd, hs.lt, hs.has, hs.way, fun j hj hji c hc => by
    by_cases e : j = i
    · subst e; exact hd c hc
    · exact hs.done j hj (by omega) c hc⟩
theorem seek_len (hs : Seek n E v i L) : L.length ≤ n := nodup_le hs.nd hs.lt
theorem seek_end (h : ValidT n E) (hv : v < n) (hs : Seek n E v L.length L) : ∀ u, u < n → u ∈ L := by
  have hc : ∀ a ∈ L, ∀ b ∈ nb E a, b ∈ L := fun a ha b hb => by
    obtain ⟨j, hj, rfl⟩ := List.getElem_of_mem ha
    exact hs.done j hj hj b hb
  have key : ∀ a b, Reach E a b → a ∈ L → b ∈ L := by
    intro a b hr ha
    induction hr with
    | refl => exact ha
    | step p q _ he ih => exact hc p ih q (mem_nb.2 he)
  intro u hu
  exact key v u ((h.conn v hv).symm.trans (h.conn u hu)) hs.has
end
/-- what is written of the nodes met -/
def metL (E : Edges) (v : Nat) (L : List Nat) (u : Nat) : Int := if u ∈ L then (dst E v u : Int) else -1
theorem metL_add {E : Edges} {v a b : Nat} {L : List Nat} (hb : b ∉ L) (hd : dst E v b = dst E v a + 1) : (fun u => if u = b then (dst E v a : Int) + 1 else metL E v L u) = metL E v (L ++ [b]) := by
  funext u
  unfold metL
  by_cases e : u = b
  · subst e
    rw [if_pos rfl, if_pos (by simp), hd]; omega
  · rw [if_neg e]
    have : u ∈ L ++ [b] ↔ u ∈ L := by simp [e]
    simp only [this]
end Go.Proofs.Ytafdlilojlmchaa

namespace Go.Proofs.Ytafdlilojlmchaa

theorem reached_mem {n : Nat} {E : Edges} (hn : 0 < n) (hE : ∀ e ∈ E, e.1 < n ∧ e.2 < n) : (reachedN n E).Nodup ∧ ∀ v, v ∈ reachedN n E ↔ Reach E 0 v := by
  have h0 : BInv n E [0] := ⟨by simp, fun v hv => by simp at hv; rw [hv]; exact .refl _, fun v hv => by simp at hv; omega⟩
  obtain ⟨b1, b2, b3⟩ := bfs_inv hE (n + 1) 0 [0] h0 (by simp) (fun j hj => absurd hj (by omega)) (by omega)
  refine ⟨b1.nd, fun v => ⟨b1.rch v, fun hv => ?_⟩⟩
  show v ∈ bfs E (n + 1) 0 [0]
  have key : ∀ z v, Reach E z v → z ∈ bfs E (n + 1) 0 [0] → v ∈ bfs E (n + 1) 0 [0] := by
    intro z v hv hz
    induction hv with
    | refl => exact hz
    | step p q hp he ih => exact b3 _ ih _ he
  exact key 0 v hv b2
theorem perm_fullG {α : Type} : ∀ {L l : List α}, L.Nodup → (∀ x ∈ L, x ∈ l) → l.length ≤ L.length → L.Perm l := by
  intro L
  induction L with
  | nil =>
    intro l _ _ hl
    obtain rfl : l = [] := List.eq_nil_of_length_eq_zero (by simpa using hl)
    exact List.Perm.refl _
  | cons a L ih =>
    intro l hn hs hl
    rw [List.nodup_cons] at hn
    obtain ⟨s, t, rfl⟩ := List.append_of_mem (hs a (List.mem_cons_self ..))
    have h1 : L.Perm (s ++ t) := by
      refine ih hn.2 (fun x hx => ?_) (by simp only [List.length_append, List.length_cons] at hl ⊢; omega)
      have := hs x (List.mem_cons_of_mem _ hx)
      rcases List.mem_append.mp this with h | h
      · exact List.mem_append_left _ h
      · rcases List.mem_cons.mp h with h | h
        · subst h; exact absurd hx hn.1
        · exact List.mem_append_right _ h
    exact (h1.cons a).trans List.perm_middle.symm
theorem same_len {A B : List Nat} (hA : A.Nodup) (hB : B.Nodup) (h : ∀ x, x ∈ A ↔ x ∈ B) : A.length = B.length :=
  Nat.le_antisymm (List.Nodup.length_le_of_subset hA fun x hx => (h x).1 hx) (List.Nodup.length_le_of_subset hB fun x hx => (h x).2 hx)
/-- all nodes of a branch are reached within it -/
theorem brn_reach {E F : Edges} : ∀ (d v : Nat) (fr : Int), Brn E d v fr → (∀ y z, y ∈ nds E d v fr → z ∈ nds E d v fr → Adj E y z → Adj F y z) → ∀ u ∈ nds E d v fr, Reach F v u := by
  intro d
  induction d with
  | zero => intro v fr h; exact h.elim
  | succ d ih =>
    intro v fr h hF u hu
    rw [nds] at hu hF
    rcases List.mem_cons.1 hu with rfl | hu
    · exact .refl _
    · obtain ⟨x, hx, hux⟩ := List.mem_flatMap.1 hu
      have hin : ∀ y, y ∈ nds E d x v → y ∈ v :: (away E v fr).flatMap fun x => nds E d x v := fun y hy => List.mem_cons_of_mem _ (List.mem_flatMap.2 ⟨x, hx, hy⟩)
      have h1 := hF v x (List.mem_cons_self ..) (hin x (nds_head (h x hx))) (mem_away.1 hx).1
      exact (Reach.one h1).trans (ih x v (h x hx) (fun y z hy hz => hF y z (hin y hy) (hin z hz)) u hux)
section
variable {n : Nat} {E : Edges}
/-- the two sides of an edge are all nodes -/
theorem sides_perm (h : ValidT n E) (h7 : n ≤ 7) {p q : Nat} (ha : Adj E p q) : (nds E 14 p q ++ nds E 14 q p).Perm (List.range n) := by
  have hb := fun (v : Nat) (fr : Int) => valid_brn h h7 v fr
  refine List.Perm.trans ?_ (nd_perm h h7 (adj_lt h ha).1)
  have e1 : nds E 14 p (-1) = p :: (away E p (-1)).flatMap fun x => nds E 14 x p := by rw [← nds_more 14 p (-1) (hb p _), nds]
  have e2 : nds E 14 p q = p :: (away E p q).flatMap fun x => nds E 14 x p := by rw [← nds_more 14 p q (hb p _), nds]
  rw [e1, e2, List.cons_append]
  refine List.Perm.cons _ ?_
  refine List.Perm.trans List.perm_append_comm ?_
  exact ((away_perm h ha).flatMap_right fun x => nds E 14 x p).symm
/-- without an edge as many nodes are reached as are on one side of it -/
theorem cut_side (h : ValidT n E) (h7 : n ≤ 7) {F : Edges} {p q : Nat} (ha : Adj E p q) (hF : ∀ a b, Adj F a b ↔ Adj E a b ∧ ¬ ((a = p ∧ b = q) ∨ (a = q ∧ b = p))) (hFl : ∀ e ∈ F, e.1 < n ∧ e.2 < n) (h0 : 0 ∈ nds E 14 p q) : (reachedN n F).length = sz E 14 p q := by
  have hb := valid_brn h h7 p q
  have hp := sides_perm h h7 ha
  have hnd := hp.nodup_iff.2 List.nodup_range
  have hqp : q ∉ nds E 14 p q := fun hq => (List.nodup_append.1 hnd).2.2 q hq q (nds_head (valid_brn h h7 q p)) rfl
  have hin : ∀ y z, y ∈ nds E 14 p q → z ∈ nds E 14 p q → Adj E y z → Adj F y z := fun y z hy hz hyz => (hF y z).2 ⟨hyz, fun hh => by
    rcases hh with ⟨_, e⟩ | ⟨e, _⟩
    · exact hqp (e ▸ hz)
    · exact hqp (e ▸ hy)⟩
  obtain ⟨r1, r2⟩ := reached_mem (by have := (adj_lt h ha).1; omega) hFl
  refine same_len r1 (List.nodup_append.1 hnd).1 fun u => ?_
  rw [r2]
  have hpr := brn_reach 14 p q hb hin
  constructor
  · intro hr
    have key : ∀ z v, Reach F z v → z ∈ nds E 14 p q → v ∈ nds E 14 p q := by
      intro z v hv hz
      induction hv with
      | refl => exact hz
      | step a b _ he ih =>
        obtain ⟨e1, e2⟩ := (hF a b).1 he
        rcases nds_adj 14 p q hb a b ih e1 with g | ⟨g1, g2⟩
        · exact g
        · exact absurd (.inl ⟨g1, by omega⟩) e2
    exact key 0 u hr h0
  · exact fun hu => (hpr 0 h0).symm.trans (hpr u hu)
/-- the edges but one -/
def restE (E : Edges) (k : Nat) : Edges := E.take k ++ E.drop (k + 1)
def edgN (n : Nat) (E : Edges) : Nat := ((List.range E.length).map fun k => (reachedN n (restE E k)).length * (n - (reachedN n (restE E k)).length)).sum
theorem rest_mem (h : ValidT n E) {k : Nat} (hk : k < E.length) (e : Nat × Nat) : e ∈ restE E k ↔ e ∈ E ∧ e ≠ E[k] := by
  have hn : E.Nodup := h.asc.imp fun {a b} hab e => by
    subst e
    have := (ltP_iff _ _).1 hab
    omega
  have hs : E = E.take k ++ E[k] :: E.drop (k + 1) := by rw [List.getElem_cons_drop, List.take_append_drop]
  have hn2 := hn
  rw [hs] at hn2
  obtain ⟨_, a2, a3⟩ := List.nodup_append.1 hn2
  rw [List.nodup_cons] at a2
  unfold restE
  have hE : e ∈ E ↔ e ∈ E.take k ∨ e = E[k] ∨ e ∈ E.drop (k + 1) := by
    conv => lhs; rw [hs]
    rw [List.mem_append, List.mem_cons]
  rw [List.mem_append, hE]
  constructor
  · rintro (q | q)
    · exact ⟨.inl q, fun z => a3 e q _ (List.mem_cons_self ..) z⟩
    · exact ⟨.inr (.inr q), fun z => a2.1 (z ▸ q)⟩
  · rintro ⟨q | q | q, z⟩
    · exact .inl q
    · exact absurd q z
    · exact .inr q
/-- one side of an edge times the other one -/
def sideG (E : Edges) (e : Nat × Nat) : Nat := sz E 14 e.2 e.1 * sz E 14 e.1 e.2
theorem sideG_turn (E : Edges) (a b : Nat) : sideG E (a, b) = sideG E (b, a) := by unfold sideG; exact Nat.mul_comm _ _
theorem edge_side (h : ValidT n E) (h7 : n ≤ 7) {k : Nat} (hk : k < E.length) : (reachedN n (restE E k)).length * (n - (reachedN n (restE E k)).length) = sideG E E[k] := by
  obtain ⟨⟨p, q⟩, hpq⟩ : ∃ e, E[k] = e := ⟨_, rfl⟩
  rw [hpq]
  have hmem : (p, q) ∈ E := hpq ▸ List.getElem_mem hk
  have ha : Adj E p q := .inl hmem
  have hlt := h.ord _ hmem
  simp only at hlt
  have hF : ∀ a b, Adj (restE E k) a b ↔ Adj E a b ∧ ¬ ((a = p ∧ b = q) ∨ (a = q ∧ b = p)) := by
    intro a b
    unfold Adj
    rw [rest_mem h hk, rest_mem h hk, hpq]
    constructor
    · rintro (⟨g1, g2⟩ | ⟨g1, g2⟩)
      · refine ⟨.inl g1, fun z => ?_⟩
        have := h.ord _ g1
        simp only at this
        rcases z with ⟨rfl, rfl⟩ | ⟨rfl, rfl⟩
        · exact g2 rfl
        · omega
      · refine ⟨.inr g1, fun z => ?_⟩
        have := h.ord _ g1
        simp only at this
        rcases z with ⟨rfl, rfl⟩ | ⟨rfl, rfl⟩
        · omega
        · exact g2 rfl
    · rintro ⟨g | g, z⟩
      · exact .inl ⟨g, fun e => z (.inl ⟨by injection e, by injection e⟩)⟩
      · exact .inr ⟨g, fun e => z (.inr ⟨by injection e, by injection e⟩)⟩
  have hFl : ∀ e ∈ restE E k, e.1 < n ∧ e.2 < n := fun e he => by
    have := h.ord e ((rest_mem h hk e).1 he).1
    omega
  have h2 := sz_two h h7 ha
  have h0 : 0 ∈ nds E 14 p q ++ nds E 14 q p := (sides_perm h h7 ha).mem_iff.2 (List.mem_range.2 (by omega))
  unfold sideG
  simp only
  rcases List.mem_append.1 h0 with h0 | h0
  · rw [cut_side h h7 ha hF hFl h0, show n - sz E 14 p q = sz E 14 q p by omega, Nat.mul_comm]
  · have hF' : ∀ a b, Adj (restE E k) a b ↔ Adj E a b ∧ ¬ ((a = q ∧ b = p) ∨ (a = p ∧ b = q)) := fun a b => by rw [hF, Or.comm]
    rw [cut_side h h7 ha.symm hF' hFl h0, show n - sz E 14 q p = sz E 14 p q by omega]
theorem sum_range_get {α : Type} (f : α → Nat) : ∀ (L : List α) (g : Nat → Nat), (∀ (k : Nat) (hk : k < L.length), g k = f L[k]) → ((List.range L.length).map g).sum = (L.map f).sum
  | [], g, _ => rfl
  | a :: r, g, h => by
    rw [List.length_cons, List.range_succ_eq_map, List.map_cons, List.sum_cons, List.map_map, List.map_cons, List.sum_cons]
    have h0 := h 0 (by simp)
    rw [show g 0 = f a from h0]
    congr 1
    exact sum_range_get f r (g ∘ Nat.succ) fun k hk => by
      have := h (k + 1) (by simpa using hk)
      simpa using this
/-- the edges of a branch, from the node on -/
def eds (E : Edges) : Nat → Nat → Int → Edges
  | 0, _, _ => []
  | d + 1, v, fr => (away E v fr).flatMap fun x => (v, x) :: eds E d x v
theorem eds_snd : ∀ (d v : Nat) (fr : Int), Brn E d v fr → nds E d v fr = v :: (eds E d v fr).map Prod.snd := by
  intro d
  induction d with
  | zero => intro v fr h; exact h.elim
  | succ d ih =>
    intro v fr h
    rw [nds, eds, List.map_flatMap]
    congr 1
    exact flat_eq fun x hx => by rw [ih x v (h x hx)]; rfl
theorem eds_wy : ∀ (d v : Nat) (fr : Int) (e : Nat × Nat), e ∈ eds E d v fr → Adj E e.1 e.2 ∧ ∃ k, Wy E k v fr e.1 ∧ Wy E (k + 1) v fr e.2 := by
  intro d
  induction d with
  | zero => intro v fr e h; cases h
  | succ d ih =>
    intro v fr e h
    obtain ⟨x, hx, h⟩ := List.mem_flatMap.1 h
    rcases List.mem_cons.1 h with rfl | h
    · exact ⟨(mem_away.1 hx).1, 0, rfl, x, hx, rfl⟩
    · obtain ⟨h1, k, h2, h3⟩ := ih x v e h
      exact ⟨h1, k + 1, ⟨x, hx, h2⟩, ⟨x, hx, h3⟩⟩
theorem eds_esm (h : ValidT n E) (h7 : n ≤ 7) : ∀ (d v : Nat) (fr : Int), Brn E d v fr → esm E n d v fr = ((eds E d v fr).map (sideG E)).sum := by
  intro d
  induction d with
  | zero => intro v fr hb; exact hb.elim
  | succ d ih =>
    intro v fr hb
    have hbb := fun (v : Nat) (fr : Int) => valid_brn h h7 v fr
    have hsz : ∀ x ∈ away E v fr, sz E d x v = sz E 14 x v := fun x hx => by
      rw [sz, sz]
      rcases Nat.le_total d 14 with q | q
      · rw [nds_le q (hb x hx)]
      · rw [nds_le q (hbb x v)]
    rw [esm, eds]
    have key : ∀ L : List Nat, (∀ x ∈ L, x ∈ away E v fr) → (L.map fun x => sz E d x v * (n - sz E d x v) + esm E n d x v).sum = ((L.flatMap fun x => (v, x) :: eds E d x v).map (sideG E)).sum := by
      intro L
      induction L with
      | nil => intro _; rfl
      | cons a r ihr =>
        intro hL
        have ha := hL a (List.mem_cons_self ..)
        have h2 := sz_two h h7 (mem_away.1 ha).1
        rw [List.map_cons, List.sum_cons, ihr fun x hx => hL x (List.mem_cons_of_mem _ hx), List.flatMap_cons, List.map_append, List.sum_append, List.map_cons, List.sum_cons, ih a v (hb a ha), hsz a ha, show n - sz E 14 a v = sz E 14 v a by omega]
        rfl
    exact key _ fun x hx => hx
theorem norm_side (E : Edges) (e : Nat × Nat) : sideG E (norm e) = sideG E e := by
  rcases norm_cases e with q | q
  · rw [q]
  · rw [q]; exact sideG_turn E _ _
theorem eds_perm (h : ValidT n E) (h7 : n ≤ 7) {r : Nat} (hr : r < n) : ((eds E 14 r (-1)).map norm).Perm E := by
  have hb := valid_brn h h7 r (-1)
  have hs := eds_snd 14 r (-1) hb
  have hnd := (nd_perm h h7 hr).nodup_iff.2 List.nodup_range
  have hlen := nd_len h h7 hr
  rw [hs, List.nodup_cons] at hnd
  rw [hs, List.length_cons, List.length_map] at hlen
  have hn1 : (eds E 14 r (-1)).Nodup := List.Pairwise.of_map Prod.snd (fun a b q e => q (by rw [e])) hnd.2
  have hw := fun e (he : e ∈ eds E 14 r (-1)) => eds_wy 14 r (-1) e he
  have hdst : ∀ e ∈ eds E 14 r (-1), dst E r e.2 = dst E r e.1 + 1 := fun e he => by
    obtain ⟨_, k, h1, h2⟩ := hw e he
    rw [wy_dst h h7 hr h1, wy_dst h h7 hr h2]
  have hnn : ((eds E 14 r (-1)).map norm).Nodup := by
    rw [List.Nodup, List.pairwise_map]
    refine List.Pairwise.imp_of_mem ?_ hn1
    rintro ⟨a, b⟩ ⟨c, d⟩ h1 h2 hne he
    rcases norm_eq he with ⟨rfl, rfl⟩ | ⟨rfl, rfl⟩
    · exact hne rfl
    · have q1 := hdst _ h1
      have q2 := hdst _ h2
      simp only at q1 q2
      omega
  have hsub : ∀ e ∈ (eds E 14 r (-1)).map norm, e ∈ E := by
    intro e he
    obtain ⟨⟨a, b⟩, hab, rfl⟩ := List.mem_map.1 he
    have hadj := (hw _ hab).1
    have : norm (a, b) ∈ E.map norm := mem_norm.2 hadj
    rwa [map_norm fun e he => (h.ord e he).1] at this
  exact perm_fullG hnn hsub (by rw [List.length_map]; have := h.len; omega)
theorem edg_esm (h : ValidT n E) (h7 : n ≤ 7) {r : Nat} (hr : r < n) : edgN n E = esm E n 14 r (-1) := by
  have h1 : edgN n E = (E.map (sideG E)).sum := sum_range_get (sideG E) E (fun k => (reachedN n (restE E k)).length * (n - (reachedN n (restE E k)).length)) fun k hk => edge_side h h7 hk
  rw [h1, eds_esm h h7 14 r (-1) (valid_brn h h7 r _), ← ((eds_perm h h7 hr).map (sideG E)).sum_nat, List.map_map]
  exact sum_map_eq fun e _ => norm_side E e
theorem ways_edg (h : ValidT n E) (h7 : n ≤ 7) : waysN n E = edgN n E := by
  have hn : 0 < n := by have := h.len; omega
  rw [ways_esm h h7 hn, edg_esm h h7 hn]
end
end Go.Proofs.Ytafdlilojlmchaa

namespace Go.Proofs.Ytafdlilojlmchaa

/-- all parts of a list -/
def subl : List Nat → List (List Nat)
  | [] => [[]]
  | a :: L => subl L ++ (subl L).map (a :: ·)
def cntS (L : List Nat) (P : List Nat → Bool) : Nat := (subl L).countP P
theorem cntS_cons (a : Nat) (L : List Nat) (P : List Nat → Bool) : cntS (a :: L) P = cntS L P + cntS L fun S => P (a :: S) := by
  rw [cntS, subl, List.countP_append, List.countP_map]; rfl
theorem subl_mem : ∀ {L S : List Nat}, S ∈ subl L → ∀ y ∈ S, y ∈ L
  | [], S, h, y, hy => by rw [subl, List.mem_singleton] at h; subst h; cases hy
  | a :: L, S, h, y, hy => by
    rw [subl, List.mem_append, List.mem_map] at h
    rcases h with h | ⟨T, h, rfl⟩
    · exact List.mem_cons_of_mem _ (subl_mem h y hy)
    · rcases List.mem_cons.1 hy with rfl | hy
      · exact List.mem_cons_self ..
      · exact List.mem_cons_of_mem _ (subl_mem h y hy)
theorem cntS_congr {L : List Nat} {P Q : List Nat → Bool} (h : ∀ S, (∀ y ∈ S, y ∈ L) → P S = Q S) : cntS L P = cntS L Q :=
  List.countP_congr fun S hS => by rw [h S (subl_mem hS)]
theorem cntS_none {L : List Nat} {P : List Nat → Bool} (h : ∀ S, (∀ y ∈ S, y ∈ L) → P S = false) : cntS L P = 0 := by
  rw [cntS, List.countP_eq_zero]
  intro S hS
  rw [h S (subl_mem hS)]
  exact Bool.false_ne_true
theorem cntS_two (L : List Nat) (P Q : List Nat → Bool) : cntS L P = cntS L (fun S => P S && !Q S) + cntS L fun S => P S && Q S := by
  have : ∀ A : List (List Nat), A.countP P = A.countP (fun S => P S && !Q S) + A.countP fun S => P S && Q S := by
    intro A
    induction A with
    | nil => rfl
    | cons a r ih =>
      rw [List.countP_cons, List.countP_cons, List.countP_cons, ih]
      cases P a <;> cases Q a <;> simp <;> omega
  exact this _
def Resp (P : List Nat → Bool) : Prop := ∀ S T : List Nat, S.Perm T → P S = P T
theorem Resp.cons {P : List Nat → Bool} (h : Resp P) (a : Nat) : Resp fun S => P (a :: S) := fun _ _ p => h _ _ (p.cons a)
theorem cntS_perm {L M : List Nat} (h : L.Perm M) : ∀ P, Resp P → cntS L P = cntS M P := by
  induction h with
  | nil => intro P _; rfl
  | cons a _ ih => intro P hP; rw [cntS_cons, cntS_cons, ih P hP, ih _ (hP.cons a)]
  | swap a b L =>
    intro P hP
    rw [cntS_cons, cntS_cons, cntS_cons, cntS_cons, cntS_cons, cntS_cons]
    have : (cntS L fun S => P (b :: a :: S)) = cntS L fun S => P (a :: b :: S) := cntS_congr fun S _ => hP _ _ (List.Perm.swap ..)
    omega
  | trans _ _ ih1 ih2 => intro P hP; rw [ih1 P hP, ih2 P hP]
theorem cntS_append (B : List Nat) : ∀ (A : List Nat) (P : List Nat → Bool), cntS (A ++ B) P = ((subl A).map fun S => cntS B fun T => P (S ++ T)).sum
  | [], P => by simp [subl]
  | a :: A, P => by
    rw [List.cons_append, cntS_cons, cntS_append B A P, cntS_append B A fun S => P (a :: S), subl, List.map_append, List.sum_append, List.map_map]; rfl
theorem cntS_times {A B : List Nat} {P PA PB : List Nat → Bool} (h : ∀ S T, (∀ y ∈ S, y ∈ A) → (∀ y ∈ T, y ∈ B) → P (S ++ T) = (PA S && PB T)) : cntS (A ++ B) P = cntS A PA * cntS B PB := by
  rw [cntS_append]
  have key : ∀ L : List (List Nat), (∀ S ∈ L, ∀ y ∈ S, y ∈ A) → (L.map fun S => cntS B fun T => P (S ++ T)).sum = L.countP PA * cntS B PB := by
    intro L
    induction L with
    | nil => intro _; simp
    | cons S r ih =>
      intro hL
      rw [List.map_cons, List.sum_cons, ih fun T hT => hL T (List.mem_cons_of_mem _ hT), List.countP_cons]
      have hS := hL S (List.mem_cons_self ..)
      cases hp : PA S with
      | true =>
        rw [if_pos rfl, cntS_congr (Q := PB) fun T hT => by rw [h S T hS hT, hp]; rfl, Nat.add_mul, Nat.one_mul, Nat.add_comm]
      | false =>
        rw [if_neg (by decide), cntS_none fun T hT => by rw [h S T hS hT, hp]; rfl, Nat.zero_add, Nat.add_zero]
  exact key _ fun S hS => subl_mem hS

/-! ### sets with no edge within -/
def aloneB (E : Edges) (S : List Nat) : Bool := E.all fun e => !(decide (e.1 ∈ S) && decide (e.2 ∈ S))
theorem aloneB_iff (E : Edges) (S : List Nat) : aloneB E S = true ↔ Alone E S := by
  unfold aloneB Alone Adj
  rw [List.all_eq_true]
  constructor
  · intro h a ha b hb q
    rcases q with q | q
    · have := h _ q; simp [ha, hb] at this
    · have := h _ q; simp [ha, hb] at this
  · intro h e he
    have : ¬ (e.1 ∈ S ∧ e.2 ∈ S) := fun ⟨q, r⟩ => h e.1 q e.2 r (.inl he)
    cases h1 : decide (e.1 ∈ S) with
    | false => rfl
    | true =>
      cases h2 : decide (e.2 ∈ S) with
      | false => rfl
      | true => exact absurd ⟨of_decide_eq_true h1, of_decide_eq_true h2⟩ this
theorem aloneB_resp (E : Edges) : Resp (aloneB E) := fun S T h => by
  unfold aloneB
  have : ∀ x : Nat, decide (x ∈ S) = decide (x ∈ T) := fun x => by rw [Bool.eq_iff_iff, decide_eq_true_eq, decide_eq_true_eq, h.mem_iff]
  simp only [this]
theorem bool_of {a b : Bool} (h : a = true ↔ b = true) : a = b := Bool.eq_iff_iff.2 h
theorem aloneB_app {E : Edges} {S T : List Nat} (h : ∀ y ∈ S, ∀ z ∈ T, ¬ Adj E y z) : aloneB E (S ++ T) = (aloneB E S && aloneB E T) := by
  refine bool_of ?_
  rw [Bool.and_eq_true, aloneB_iff, aloneB_iff, aloneB_iff]
  constructor
  · exact fun q => ⟨fun a ha b hb => q a (List.mem_append_left _ ha) b (List.mem_append_left _ hb), fun a ha b hb => q a (List.mem_append_right _ ha) b (List.mem_append_right _ hb)⟩
  · rintro ⟨q, r⟩ a ha b hb
    rcases List.mem_append.1 ha with ha | ha <;> rcases List.mem_append.1 hb with hb | hb
    · exact q a ha b hb
    · exact h a ha b hb
    · exact fun z => h b hb a ha z.symm
    · exact r a ha b hb
def noneB (K : List Nat) (S : List Nat) : Bool := K.all fun k => !decide (k ∈ S)
theorem noneB_iff (K S : List Nat) : noneB K S = true ↔ ∀ k ∈ K, k ∉ S := by
  unfold noneB
  rw [List.all_eq_true]
  simp
def cOut (E : Edges) (d v : Nat) (fr : Int) : Nat := cntS (nds E d v fr) fun S => aloneB E S && !decide (v ∈ S)
def cIn (E : Edges) (d v : Nat) (fr : Int) : Nat := cntS (nds E d v fr) fun S => aloneB E S && decide (v ∈ S)
theorem kids_count {E : Edges} {d v : Nat} : ∀ (K : List Nat), Kids E d v K →
    cntS (K.flatMap fun x => nds E d x v) (aloneB E) = prodM (K.map fun x => cOut E d x v + cIn E d x v) ∧
    cntS (K.flatMap fun x => nds E d x v) (fun S => aloneB E S && noneB K S) = prodM (K.map fun x => cOut E d x v)
  | [], _ => by
    constructor
    · show cntS [] _ = 1
      simp [cntS, subl, aloneB]
    · show cntS [] _ = 1
      simp [cntS, subl, aloneB, noneB]
  | x :: K, hK => by
    obtain ⟨i1, i2⟩ := kids_count K hK.tail
    have hh := hK.head
    have hcross : ∀ S T : List Nat, (∀ y ∈ S, y ∈ nds E d x v) → (∀ y ∈ T, y ∈ K.flatMap fun x => nds E d x v) → ∀ y ∈ S, ∀ z ∈ T, ¬ Adj E y z :=
      fun S T hS hT y hy z hz => hK.apart (hS y hy) (hT z hz)
    rw [List.flatMap_cons]
    constructor
    · rw [cntS_times (PA := aloneB E) (PB := aloneB E) fun S T hS hT => aloneB_app (hcross S T hS hT), i1, cntS_two _ (aloneB E) fun S => decide (x ∈ S)]
      rfl
    · rw [cntS_times (PA := fun S => aloneB E S && !decide (x ∈ S)) (PB := fun S => aloneB E S && noneB K S) fun S T hS hT => ?_, i2]
      · rfl
      · rw [aloneB_app (hcross S T hS hT)]
        have h1 : noneB (x :: K) (S ++ T) = (!decide (x ∈ S) && noneB K T) := by
          refine bool_of ?_
          rw [noneB_iff, Bool.and_eq_true, noneB_iff, Bool.not_eq_true', decide_eq_false_iff_not]
          constructor
          · exact fun q => ⟨fun r => q x (List.mem_cons_self ..) (List.mem_append_left _ r), fun k hk r => q k (List.mem_cons_of_mem _ hk) (List.mem_append_right _ r)⟩
          · rintro ⟨q, r⟩ k hk hs
            rcases List.mem_cons.1 hk with hk | hk <;> rcases List.mem_append.1 hs with hs | hs
            · exact q (hk ▸ hs)
            · subst hk; exact hh.2.2.2 k (nds_head hh.1) (hT k hs)
            · exact hh.2.2.2 k (hS k hs) (List.mem_flatMap.2 ⟨k, hk, nds_head (hK.tail.brn k hk)⟩)
            · exact r k hk hs
        rw [h1]
        cases aloneB E S <;> cases aloneB E T <;> cases decide (x ∈ S) <;> cases noneB K T <;> rfl
theorem set_count {E : Edges} (hE : ∀ v, ¬ Adj E v v) : ∀ (d v : Nat) (fr : Int), Brn E d v fr → (nds E d v fr).Nodup → cOut E d v fr = (setF E d v fr).1 ∧ cIn E d v fr = (setF E d v fr).2 := by
  intro d
  induction d with
  | zero => intro v fr h; exact h.elim
  | succ d ih =>
    intro v fr h hn
    have hK := Kids.of h hn
    obtain ⟨k1, k2⟩ := kids_count _ hK
    have I := fun x hx => ih x v (hK.mem hx).1 (hK.mem hx).2.1
    rw [setF_at]
    simp only
    constructor
    · rw [cOut, nds, cntS_cons, cntS_congr (Q := aloneB E) fun S hS => by rw [decide_eq_false (fun q => hK.out (hS v q))]; simp, cntS_none (P := fun S => aloneB E (v :: S) && !decide (v ∈ v :: S)) (fun S _ => by simp), k1, Nat.add_zero]
      congr 1
      exact List.map_congr_left fun x hx => by rw [(I x hx).1, (I x hx).2]
    · rw [cIn, nds, cntS_cons, cntS_none (P := fun S => aloneB E S && decide (v ∈ S)) (fun S hS => by rw [decide_eq_false (fun q => hK.out (hS v q))]; simp), Nat.zero_add,
        cntS_congr (Q := fun S => aloneB E S && noneB (away E v fr) S) fun S hS => ?_, k2]
      · congr 1
        exact List.map_congr_left fun x hx => by rw [(I x hx).1]
      · refine bool_of ?_
        rw [Bool.and_eq_true, Bool.and_eq_true, aloneB_iff, aloneB_iff, noneB_iff, decide_eq_true_eq]
        constructor
        · rintro ⟨q, _⟩
          exact ⟨fun a ha b hb => q a (List.mem_cons_of_mem _ ha) b (List.mem_cons_of_mem _ hb), fun k hk r => q v (List.mem_cons_self ..) k (List.mem_cons_of_mem _ r) (mem_away.1 hk).1⟩
        · rintro ⟨q, r⟩
          refine ⟨fun a ha b hb => ?_, List.mem_cons_self ..⟩
          rcases List.mem_cons.1 ha with ha | ha <;> rcases List.mem_cons.1 hb with hb | hb
          · rw [ha, hb]; exact hE v
          · rw [ha]; exact fun z => r b (hK.near (hS b hb) z.symm) hb
          · rw [hb]; exact fun z => r a (hK.near (hS a ha) z) ha
          · exact q a ha b hb

/-! ### bits -/
def setsB (n s : Nat) : List Nat := (List.range n).filter fun i => decide (s / 2 ^ i % 2 = 1)
theorem setsB_mem {n s i : Nat} : i ∈ setsB n s ↔ i < n ∧ s / 2 ^ i % 2 = 1 := by
  unfold setsB
  rw [List.mem_filter, List.mem_range, decide_eq_true_eq]
theorem bit_low {n i s : Nat} (hi : i < n) : (2 ^ n + s) / 2 ^ i % 2 = s / 2 ^ i % 2 := by
  obtain ⟨k, rfl⟩ : ∃ k, n = i + (k + 1) := ⟨n - i - 1, by omega⟩
  have e : 2 ^ (i + (k + 1)) + s = s + 2 ^ i * (2 * 2 ^ k) := by rw [Nat.pow_add, Nat.pow_succ, Nat.mul_comm (2 ^ k) 2]; omega
  rw [e, Nat.add_mul_div_left _ _ (Nat.two_pow_pos i)]
  omega
theorem setsB_low {n s : Nat} (h : s < 2 ^ n) : setsB (n + 1) s = setsB n s := by
  unfold setsB
  rw [List.range_succ, List.filter_append, List.filter_cons_of_neg (by rw [Nat.div_eq_of_lt h]; simp), List.filter_nil, List.append_nil]
theorem setsB_high {n s : Nat} (h : s < 2 ^ n) : setsB (n + 1) (2 ^ n + s) = setsB n s ++ [n] := by
  unfold setsB
  rw [List.range_succ, List.filter_append]
  congr 1
  · exact List.filter_congr fun i hi => by rw [bit_low (List.mem_range.1 hi)]
  · rw [List.filter_cons_of_pos, List.filter_nil]
    have e : (2 ^ n + s) / 2 ^ n = 1 := by
      rw [Nat.add_div_left _ (Nat.two_pow_pos n), Nat.div_eq_of_lt h]
    rw [e]; rfl
theorem range_pow (n : Nat) : List.range (2 ^ (n + 1)) = List.range (2 ^ n) ++ (List.range (2 ^ n)).map (2 ^ n + ·) := by
  rw [Nat.pow_succ, Nat.mul_two, List.range_add]
/-- parts counted by bits are parts counted one by one -/
theorem bits_count : ∀ (n : Nat) (P : List Nat → Bool), Resp P → (List.range (2 ^ n)).countP (fun s => P (setsB n s)) = cntS (List.range n) P := by
  intro n
  induction n with
  | zero => intro P _; simp [cntS, subl, setsB]
  | succ n ih =>
    intro P hP
    have hp : (List.range (n + 1)).Perm (n :: List.range n) := by
      rw [List.range_succ]; exact List.perm_append_comm.trans (List.Perm.refl _)
    rw [cntS_perm hp P hP, cntS_cons, ← ih P hP, ← ih _ (hP.cons n), range_pow, List.countP_append, List.countP_map]
    congr 1
    · exact List.countP_congr fun s hs => by rw [setsB_low (List.mem_range.1 hs)]
    · refine List.countP_congr fun s hs => ?_
      show P (setsB (n + 1) (2 ^ n + s)) = true ↔ _
      rw [setsB_high (List.mem_range.1 hs), hP _ (n :: setsB n s) List.perm_append_comm]
/-- each set is there as bits -/
theorem bits_there (p : Nat → Bool) : ∀ n : Nat, ∃ s, s < 2 ^ n ∧ setsB n s = (List.range n).filter p := by
  intro n
  induction n with
  | zero => exact ⟨0, by decide, rfl⟩
  | succ n ih =>
    obtain ⟨s, h1, h2⟩ := ih
    rw [List.range_succ, List.filter_append]
    cases hp : p n with
    | true =>
      refine ⟨2 ^ n + s, by rw [Nat.pow_succ]; omega, ?_⟩
      rw [setsB_high h1, h2, List.filter_cons_of_pos hp, List.filter_nil]
    | false =>
      refine ⟨s, by rw [Nat.pow_succ]; omega, ?_⟩
      rw [setsB_low h1, h2, List.filter_cons_of_neg (by rw [hp]; exact Bool.false_ne_true), List.filter_nil, List.append_nil]
theorem filter_len {n : Nat} {S : List Nat} (hn : S.Nodup) (hl : ∀ x ∈ S, x < n) : ((List.range n).filter fun i => decide (i ∈ S)).length = S.length := by
  refine List.Perm.length_eq ?_
  rw [List.perm_iff_count]
  intro a
  rw [hn.count]
  have h1 : ((List.range n).filter fun i => decide (i ∈ S)).Nodup := List.nodup_range.filter _
  rw [h1.count]
  simp only [List.mem_filter, List.mem_range, decide_eq_true_eq]
  by_cases ha : a ∈ S
  · rw [if_pos ⟨hl a ha, ha⟩, if_pos ha]
  · rw [if_neg (fun q => ha q.2), if_neg ha]
end Go.Proofs.Ytafdlilojlmchaa

namespace Go.Proofs.Ytafdlilojlmchaa

/-! ### how great the sum of ways is -/
def hsm (n t : Nat) : Nat := ((List.range t).map fun j => (j + 1) * (n - (j + 1))).sum
theorem hsm_add : ∀ n, n ≤ 7 → ∀ a, a ≤ n → ∀ b, b ≤ n → a + b + 1 ≤ n → hsm n a + hsm n b ≤ hsm n (a + b) := by decide
theorem hsm_all : ∀ n, n ≤ 7 → hsm n (n - 1) = (n * n * n - n) / 6 := by decide
theorem hsm_next (n t : Nat) : hsm n (t + 1) = hsm n t + (t + 1) * (n - (t + 1)) := by unfold hsm; rw [List.range_succ, List.map_append, List.sum_append]; simp
theorem esm_hsm {E : Edges} {n : Nat} (h7 : n ≤ 7) : ∀ (d v : Nat) (fr : Int), Brn E d v fr → sz E d v fr ≤ n → esm E n d v fr ≤ hsm n (sz E d v fr - 1) := by
  intro d
  induction d with
  | zero => intro v fr h; exact h.elim
  | succ d ih =>
    intro v fr h hs
    rw [sz_at] at hs ⊢
    rw [Nat.add_sub_cancel_left, esm]
    have key : ∀ L : List Nat, (∀ x ∈ L, x ∈ away E v fr) → 1 + (L.map fun x => sz E d x v).sum ≤ n → (L.map fun x => sz E d x v * (n - sz E d x v) + esm E n d x v).sum ≤ hsm n (L.map fun x => sz E d x v).sum := by
      intro L
      induction L with
      | nil => intro _ _; exact Nat.zero_le _
      | cons a r ihr =>
        intro hL hn
        rw [List.map_cons, List.sum_cons] at hn
        rw [List.map_cons, List.sum_cons, List.map_cons, List.sum_cons]
        have h1 := ihr (fun x hx => hL x (List.mem_cons_of_mem _ hx)) (by omega)
        have ha := h a (hL a (List.mem_cons_self ..))
        have h2 := ih a v ha (by omega)
        have h3 : 1 ≤ sz E d a v := List.length_pos_iff.2 (List.ne_nil_of_mem (nds_head ha))
        obtain ⟨s, hs'⟩ : ∃ s, s = sz E d a v := ⟨_, rfl⟩
        rw [← hs'] at h2 h3 hn ⊢
        have h4 := hsm_next n (s - 1)
        rw [show s - 1 + 1 = s by omega] at h4
        have h5 := hsm_add n h7 s (by omega) (r.map fun x => sz E d x v).sum (by omega) (by omega)
        omega
    exact key _ (fun x hx => hx) hs
section
variable {n : Nat} {E : Edges}
theorem ways_up (h : ValidT n E) (h7 : n ≤ 7) : waysN n E ≤ (n * n * n - n) / 6 := by
  have hn : 0 < n := by have := h.len; omega
  have h1 := esm_hsm h7 14 0 (-1) (valid_brn h h7 0 (-1)) (Nat.le_of_eq (sz_all h h7 hn))
  rw [sz_all h h7 hn] at h1
  rw [ways_esm h h7 hn, ← hsm_all n h7]
  exact h1
theorem sz_pos (h : ValidT n E) (h7 : n ≤ 7) (v : Nat) (fr : Int) : 1 ≤ sz E 14 v fr := List.length_pos_iff.2 (List.ne_nil_of_mem (nds_head (valid_brn h h7 v fr)))
theorem ways_low (h : ValidT n E) (h7 : n ≤ 7) : (n - 1) * (n - 1) ≤ waysN n E := by
  have h1 : edgN n E = (E.map (sideG E)).sum := sum_range_get (sideG E) E (fun k => (reachedN n (restE E k)).length * (n - (reachedN n (restE E k)).length)) fun k hk => edge_side h h7 hk
  rw [ways_edg h h7, h1]
  have hl := h.len
  have key : ∀ L : Edges, (∀ e ∈ L, e ∈ E) → L.length * (n - 1) ≤ (L.map (sideG E)).sum := by
    intro L
    induction L with
    | nil => intro _; simp
    | cons e r ih =>
      intro hL
      rw [List.length_cons, Nat.add_mul, Nat.one_mul, List.map_cons, List.sum_cons]
      have h2 := ih fun x hx => hL x (List.mem_cons_of_mem _ hx)
      have ha : Adj E e.1 e.2 := .inl (hL e (List.mem_cons_self ..))
      have h3 := sz_two h h7 ha
      have h4 := sz_pos h h7 e.1 e.2
      have h5 := sz_pos h h7 e.2 e.1
      have h6 : n - 1 ≤ sideG E e := by
        unfold sideG
        obtain ⟨a, ha'⟩ : ∃ a, sz E 14 e.2 e.1 = a + 1 := ⟨sz E 14 e.2 e.1 - 1, by omega⟩
        obtain ⟨b, hb'⟩ : ∃ b, sz E 14 e.1 e.2 = b + 1 := ⟨sz E 14 e.1 e.2 - 1, by omega⟩
        rw [ha', hb'] at h3 ⊢
        have : (a + 1) * (b + 1) = a * b + a + b + 1 := by rw [Nat.add_mul, Nat.mul_add]; omega
        omega
      omega
  have := key E fun e he => he
  rwa [show E.length = n - 1 by omega] at this

/-! ### nodes alone -/
def alnN (E : Edges) : Nat := max (alnF E 14 0 (-1)).1 (alnF E 14 0 (-1)).2
theorem aln_facts (h : ValidT n E) (h7 : n ≤ 7) : alnN E + (pairF E 14 0 (-1)).1 = n ∧ 2 * (pairF E 14 0 (-1)).1 ≤ n := by
  have hn : 0 < n := by have := h.len; omega
  obtain ⟨_, h2, _, h4, _⟩ := alone_pair 14 0 (-1) (valid_brn h h7 0 (-1))
  have := sz_all h h7 hn
  unfold sz at this
  unfold alnN
  omega
/-- a greatest set of nodes alone, and a greatest set of pairs -/
theorem aln_there (h : ValidT n E) (h7 : n ≤ 7) : ∃ S : List Nat, S.Nodup ∧ (∀ y ∈ S, y < n) ∧ Alone E S ∧ S.length = alnN E := by
  have hn : 0 < n := by have := h.len; omega
  have hp := nd_perm h h7 hn
  obtain ⟨⟨S1, a1, a2, a3, a4, _⟩, ⟨S2, b1, b2, b3, b4⟩⟩ := alone_sets (E := E) (adj_ne h) 14 0 (-1) (valid_brn h h7 0 (-1)) (hp.nodup_iff.2 List.nodup_range)
  have hl : ∀ y, y ∈ nds E 14 0 (-1) → y < n := fun y hy => List.mem_range.1 (hp.mem_iff.1 hy)
  unfold alnN
  by_cases hm : (alnF E 14 0 (-1)).1 ≤ (alnF E 14 0 (-1)).2
  · exact ⟨S2, b1, fun y hy => hl y (b2 y hy), b3, by rw [b4]; omega⟩
  · exact ⟨S1, a1, fun y hy => hl y (a2 y hy), a3, by rw [a4]; omega⟩
theorem pairs_are (h : ValidT n E) (h7 : n ≤ 7) : ∃ M : Edges, (ends M).Nodup ∧ (∀ y ∈ ends M, y < n) ∧ (∀ e ∈ M, e ∈ E) ∧ M.length = (pairF E 14 0 (-1)).1 := by
  have hn : 0 < n := by have := h.len; omega
  have hp := nd_perm h h7 hn
  obtain ⟨⟨M, a1, a2, a3, a4⟩, _⟩ := pairs_there (E := E) 14 0 (-1) (valid_brn h h7 0 (-1)) (hp.nodup_iff.2 List.nodup_range)
  exact ⟨M, a1, fun y hy => List.mem_range.1 (hp.mem_iff.1 (a2 y hy)), a3, a4⟩
theorem aln_most (h : ValidT n E) (h7 : n ≤ 7) {S : List Nat} (hS : Alone E S) (hn : S.Nodup) (hl : ∀ y ∈ S, y < n) : S.length ≤ alnN E := by
  obtain ⟨M, a1, a2, a3, a4⟩ := pairs_are h h7
  have := alone_pairs_le hS hn hl a3 a1 a2
  have := (aln_facts h h7).1
  omega
theorem pairs_most (h : ValidT n E) (h7 : n ≤ 7) {M : Edges} (hM : ∀ e ∈ M, e ∈ E) (hn : (ends M).Nodup) : M.length ≤ (pairF E 14 0 (-1)).1 := by
  obtain ⟨S, a1, a2, a3, a4⟩ := aln_there h h7
  have hl : ∀ y ∈ ends M, y < n := fun y hy => by
    obtain ⟨e, he, hy⟩ := List.mem_flatMap.1 hy
    have := h.ord e (hM e he)
    simp only [List.mem_cons, List.not_mem_nil, or_false] at hy
    rcases hy with rfl | rfl <;> omega
  have := alone_pairs_le a3 a1 a2 hM hn hl
  have := (aln_facts h h7).1
  omega
theorem setsB_nodup (n s : Nat) : (setsB n s).Nodup := List.nodup_range.filter _
/-- how many sets of nodes alone there are, counted by bits -/
theorem sets_all (h : ValidT n E) (h7 : n ≤ 7) : (List.range (2 ^ n)).countP (fun s => aloneB E (setsB n s)) = (setF E 14 0 (-1)).1 + (setF E 14 0 (-1)).2 := by
  have hn : 0 < n := by have := h.len; omega
  have hp := nd_perm h h7 hn
  have hb := valid_brn h h7 0 (-1)
  obtain ⟨h1, h2⟩ := set_count (E := E) (adj_ne h) 14 0 (-1) hb (hp.nodup_iff.2 List.nodup_range)
  rw [bits_count n (aloneB E) (aloneB_resp E), ← cntS_perm hp _ (aloneB_resp E), cntS_two _ (aloneB E) fun S => decide (0 ∈ S), ← h1, ← h2]
  rfl
theorem sets_most (h : ValidT n E) (h7 : n ≤ 7) : (∀ s, aloneB E (setsB n s) = true → (setsB n s).length ≤ alnN E) ∧ ∃ s, s < 2 ^ n ∧ aloneB E (setsB n s) = true ∧ (setsB n s).length = alnN E := by
  refine ⟨fun s hs => aln_most h h7 ((aloneB_iff _ _).1 hs) (setsB_nodup n s) fun y hy => (setsB_mem.1 hy).1, ?_⟩
  obtain ⟨S, a1, a2, a3, a4⟩ := aln_there h h7
  obtain ⟨s, h1, h2⟩ := bits_there (fun i => decide (i ∈ S)) n
  refine ⟨s, h1, (aloneB_iff _ _).2 fun a ha b hb => ?_, by rw [h2, filter_len a1 a2, a4]⟩
  rw [h2, List.mem_filter, decide_eq_true_eq] at ha hb
  exact a3 a ha.2 b hb.2

/-! ### pairs, as bits of numbers -/
def pckE (E : Edges) (s k : Nat) : Edges := (setsB k s).map fun i => E.getD i (0, 0)
theorem pck_next {E : Edges} {s k : Nat} (hk : k < E.length) : pckE E s (k + 1) = if s / 2 ^ k % 2 = 1 then pckE E s k ++ [E[k]] else pckE E s k := by
  unfold pckE setsB
  rw [List.range_succ, List.filter_append, List.map_append]
  by_cases h : s / 2 ^ k % 2 = 1
  · rw [if_pos h, List.filter_cons_of_pos (by simpa using h)]
    simp [List.getD, hk]
  · rw [if_neg h, List.filter_cons_of_neg (by simpa using h)]; simp
theorem pck_mem {E : Edges} {s : Nat} : ∀ e ∈ pckE E s E.length, e ∈ E := by
  intro e he
  unfold pckE at he
  obtain ⟨i, hi, rfl⟩ := List.mem_map.1 he
  have hi := (setsB_mem.1 hi).1
  simp [List.getD, hi]
theorem pairs_bits (h : ValidT n E) (h7 : n ≤ 7) : (∀ s, (ends (pckE E s E.length)).Nodup → (setsB E.length s).length ≤ (pairF E 14 0 (-1)).1) ∧ ∃ s, s < 2 ^ E.length ∧ (ends (pckE E s E.length)).Nodup ∧ (setsB E.length s).length = (pairF E 14 0 (-1)).1 := by
  have hlen : ∀ s, (pckE E s E.length).length = (setsB E.length s).length := fun s => by unfold pckE; rw [List.length_map]
  refine ⟨fun s hs => by rw [← hlen]; exact pairs_most h h7 pck_mem hs, ?_⟩
  obtain ⟨M, a1, a2, a3, a4⟩ := pairs_are h h7
  have hEn : E.Nodup := h.asc.imp fun {a b} hab e => by
    subst e
    have := (ltP_iff _ _).1 hab
    omega
  have hMn : M.Nodup := by
    have key : ∀ L : Edges, (ends L).Nodup → L.Nodup := by
      intro L
      induction L with
      | nil => intro _; exact List.nodup_nil
      | cons e r ih =>
        intro hn
        rw [ends_cons, List.nodup_cons, List.nodup_cons] at hn
        refine List.nodup_cons.2 ⟨fun hm => hn.1 (List.mem_cons_of_mem _ (List.mem_flatMap.2 ⟨e, hm, by simp⟩)), ih hn.2.2⟩
    exact key M a1
  obtain ⟨s, h1, h2⟩ := bits_there (fun i => decide (E.getD i (0, 0) ∈ M)) E.length
  have hfil : ∀ (k : Nat) (L : Edges), k = L.length → ((List.range k).filter fun i => decide (L.getD i (0, 0) ∈ M)).map (fun i => L.getD i (0, 0)) = L.filter fun e => decide (e ∈ M) := by
    intro k
    induction k with
    | zero => intro L hL; rw [List.eq_nil_of_length_eq_zero hL.symm]; rfl
    | succ k ih =>
      intro L hL
      obtain ⟨A, x, rfl⟩ : ∃ A x, L = A ++ [x] := ⟨L.dropLast, L.getLast (by intro e; rw [e] at hL; simp at hL), (List.dropLast_concat_getLast _).symm⟩
      rw [List.length_append, List.length_singleton] at hL
      have hk : k = A.length := by omega
      subst hk
      have e1 : ∀ i, i < A.length → (A ++ [x]).getD i (0, 0) = A.getD i (0, 0) := fun i hi => by simp [List.getD, List.getElem?_append_left hi]
      have e2 : (A ++ [x]).getD A.length (0, 0) = x := by simp [List.getD]
      have ihA := ih A rfl
      rw [List.range_succ, List.filter_append, List.map_append, List.filter_append]
      congr 1
      · rw [← ihA, List.filter_congr (q := fun i => decide (A.getD i (0, 0) ∈ M)) fun i hi => by rw [e1 i (List.mem_range.1 hi)]]
        exact List.map_congr_left fun i hi => e1 i (List.mem_range.1 (List.mem_filter.1 hi).1)
      · by_cases hx : x ∈ M
        · rw [List.filter_cons_of_pos (by rw [e2]; simpa using hx), List.filter_cons_of_pos (by simpa using hx), List.filter_nil, List.filter_nil, List.map_cons, List.map_nil, e2]
        · rw [List.filter_cons_of_neg (by rw [e2]; simpa using hx), List.filter_cons_of_neg (by simpa using hx), List.filter_nil, List.filter_nil, List.map_nil]
  have hpk : pckE E s E.length = E.filter fun e => decide (e ∈ M) := by
    unfold pckE
    rw [h2]
    exact hfil E.length E rfl
  have hperm : (pckE E s E.length).Perm M := by
    rw [hpk]
    refine List.Perm.symm (perm_fullG hMn (fun x hx => List.mem_filter.2 ⟨a3 x hx, by simpa using hx⟩) ?_)
    refine List.Nodup.length_le_of_subset (hEn.filter _) fun x hx => ?_
    have := (List.mem_filter.1 hx).2
    simpa using this
  refine ⟨s, h1, ?_, by rw [← hlen, hperm.length_eq, a4]⟩
  exact ((hperm.flatMap_right fun e : Nat × Nat => [e.1, e.2]).nodup_iff).2 a1
end
end Go.Proofs.Ytafdlilojlmchaa

namespace Go.Proofs.Ytafdlilojlmchaa
open Go.RowKit

/-- what is told of a slice of numbers that came in: nil, or a row of cap cells that hold zs -/
def IsRow (k : IntKind) (w : World) (a : Option Addr) (len cap : Nat) (zs : List Int) : Prop :=
  (a = none ∧ len = 0 ∧ cap = 0 ∧ zs = []) ∨
  ∃ x, a = some x ∧ len ≤ cap ∧ cap ≤ maxLen ∧ zs.length = cap ∧ (∀ i, i < zs.length → w.cell? (x.add i) = some (.int k (zs.getD i 0))) ∧ ∀ n ∈ zs, (Lit.int k n).wf = true

theorem IsRow.below {k : IntKind} {w w' : World} {a : Option Addr} {len cap : Nat} {zs : List Int} (h : IsRow k w a len cap zs) (hb : Below w.heap.size w w') : IsRow k w' a len cap zs := by
  rcases h with h | ⟨x, h1, h2, h3, h4, h5, h6⟩
  · exact .inl h
  · refine .inr ⟨x, h1, h2, h3, h4, fun i hi => ?_, h6⟩
    have hc := h5 i hi
    exact (hb.cell (World.block_lt_of_cell? w _ hc)).trans hc
theorem IsRow.at_ {k : IntKind} {w : World} {a : Option Addr} {len cap : Nat} {zs : List Int} (h : IsRow k w a len cap zs) (i : Nat) (hi : i < len) :
    ∃ b off, a = some ⟨b, off, none⟩ ∧ w.cell? ⟨b, off + i, none⟩ = some (.int k (zs.getD i 0)) := by
  rcases h with ⟨_, h0, _⟩ | ⟨x, h1, h2, h3, h4, h5, h6⟩
  · omega
  · obtain ⟨b, off, spot⟩ := x
    have hc0 := h5 0 (by omega)
    have hspot : spot = none := by simpa [Addr.add] using World.cell?_spot hc0
    subst hspot
    exact ⟨b, off, h1, by have := h5 i (by omega); rwa [Addr.add_lit] at this⟩
theorem IsRow.len {k : IntKind} {w : World} {a : Option Addr} {len cap : Nat} {zs : List Int} (h : IsRow k w a len cap zs) : len ≤ zs.length ∧ len ≤ cap := by
  rcases h with ⟨_, h0, h1, h2⟩ | ⟨x, h1, h2, h3, h4, h5, h6⟩
  · subst h2; simp; omega
  · omega

end Go.Proofs.Ytafdlilojlmchaa

namespace Go.Proofs.Ytafdlilojlmchaa

/-- how many words there are of k pairs, up to nine -/
def cat (k : Nat) : Int := [1, 1, 2, 5, 14, 42, 132, 429, 1430, 4862].getD k 0
/-- the sum of the first i products -/
def ps (k : Nat) : Nat → Int
  | 0 => 0
  | i + 1 => ps k i + cat i * cat (k - 1 - i)

theorem ps_full (k : Nat) (h1 : 1 ≤ k) (h9 : k ≤ 9) : ps k k = cat k := (by decide : ∀ k, k ≤ 9 → 1 ≤ k → ps k k = cat k) k h9 h1
theorem ps_bd : ∀ k, k ≤ 9 → ∀ i, i ≤ k → 0 ≤ ps k i ∧ ps k i ≤ 4862 := by decide
theorem cat_bd : ∀ k, k ≤ 9 → 0 ≤ cat k ∧ cat k ≤ 4862 := by decide
theorem prod_bd : ∀ k, k ≤ 9 → ∀ i, i < k → 0 ≤ cat i * cat (k - 1 - i) ∧ cat i * cat (k - 1 - i) ≤ 4862 := by decide

def catV (m : Nat) : List Value := (List.range m).map fun k => .int .i64 (cat k)
theorem catV_length (m : Nat) : (catV m).length = m := by simp [catV]
theorem catV_at (m j : Nat) (h : j < m) : (catV m)[j]? = some (.int .i64 (cat j)) := by simp [catV, h]
theorem catV_snoc (m : Nat) : catV m ++ [.int .i64 (cat m)] = catV (m + 1) := by simp [catV, List.range_succ]

/-- the row of the program's function: p numbers done, i products added of the next -/
def arrV (n p i : Nat) : List Value := (List.range (n + 1)).map fun j => .int .i64 (if j < p then cat j else if j = p then ps p i else 0)
theorem arrV_length (n p i : Nat) : (arrV n p i).length = n + 1 := by simp [arrV]
theorem arrV_at (n p i j : Nat) (h : j < n + 1) : (arrV n p i)[j]? = some (.int .i64 (if j < p then cat j else if j = p then ps p i else 0)) := by simp [arrV, h]
theorem arrV_lo (n p i j : Nat) (h : j < n + 1) (hj : j < p) : (arrV n p i)[j]? = some (.int .i64 (cat j)) := by rw [arrV_at n p i j h, if_pos hj]
theorem arrV_mid (n p i : Nat) (h : p < n + 1) : (arrV n p i)[p]? = some (.int .i64 (ps p i)) := by rw [arrV_at n p i p h, if_neg (by omega), if_pos rfl]
theorem arrV_set (n p i : Nat) : (arrV n p i).set p (.int .i64 (ps p i + cat i * cat (p - 1 - i))) = arrV n p (i + 1) := by
  apply List.ext_getElem?
  intro j
  rw [List.getElem?_set]
  by_cases hj : j < n + 1
  · by_cases he : p = j
    · subst he
      rw [if_pos rfl, if_pos (by rw [arrV_length]; exact hj), arrV_mid n p (i + 1) hj]; rfl
    · rw [if_neg he, arrV_at n p i j hj, arrV_at n p (i + 1) j hj]
      by_cases h1 : j < p
      · rw [if_pos h1, if_pos h1]
      · rw [if_neg h1, if_neg h1, if_neg (fun e => he e.symm), if_neg (fun e => he e.symm)]
  · have e1 : (arrV n p i)[j]? = none := List.getElem?_eq_none (by rw [arrV_length]; omega)
    have e2 : (arrV n p (i + 1))[j]? = none := List.getElem?_eq_none (by rw [arrV_length]; omega)
    rw [e1, e2]
    split
    · rename_i h; subst h; rw [if_neg (by rw [arrV_length]; exact hj)]
    · rfl
theorem arrV_next (n p : Nat) (h1 : 1 ≤ p) (h9 : p ≤ 9) : arrV n p p = arrV n (p + 1) 0 := by
  unfold arrV
  apply List.map_congr_left
  intro j _
  by_cases a : j < p
  · rw [if_pos a, if_pos (by omega)]
  · by_cases b : j = p
    · subst b; rw [if_neg a, if_pos rfl, if_pos (by omega), ps_full j h1 h9]
    · rw [if_neg a, if_neg b, if_neg (by omega)]; split <;> simp [ps]
theorem arrV_start (n : Nat) : (List.replicate (n + 1) (Value.int .i64 0)).set 0 (.int .i64 1) = arrV n 1 0 := by
  apply List.ext_getElem?
  intro j
  rw [List.getElem?_set]
  by_cases hj : j < n + 1
  · rw [arrV_at n 1 0 j hj]
    by_cases h0 : 0 = j
    · subst h0; simp [cat]
    · rw [if_neg h0, List.getElem?_replicate, if_pos hj, if_neg (by omega)]; split <;> simp [ps]
  · rw [List.getElem?_eq_none (by rw [arrV_length]; omega : (arrV n 1 0).length ≤ j)]
    split
    · rename_i h; subst h; omega
    · rw [List.getElem?_replicate, if_neg hj]

/-- the answer -/
def catOut (n : Int) : Int := if 0 ≤ n ∧ n ≤ 9 then cat n.toNat else -1
theorem catOut_in (n : Nat) (h : n ≤ 9) : catOut n = cat n := by rw [catOut, if_pos ⟨by omega, by omega⟩]; rfl
theorem catOut_out (n : Int) (h : n < 0 ∨ 9 < n) : catOut n = -1 := by rw [catOut, if_neg (by omega)]
end Go.Proofs.Ytafdlilojlmchaa

namespace Go.Proofs.Ytafdlilojlmchaa

/-- one edge: both its nodes are marked if one of them is -/
def bstep (r : Nat → Bool) (e : Nat × Nat) : Nat → Bool := fun v => if v = e.2 then (r e.1 || r e.2) else if v = e.1 then (r e.1 || r e.2) else r v
def bround (E : Edges) (r : Nat → Bool) : Nat → Bool := E.foldl bstep r
theorem bstep_mono {r : Nat → Bool} {e : Nat × Nat} {v : Nat} (h : r v = true) : bstep r e v = true := by
  unfold bstep
  split
  · next h1 => rw [← h1, h]; simp
  · split
    · next h1 => rw [← h1, h]; simp
    · exact h
theorem bround_mono (E : Edges) : ∀ (r : Nat → Bool) (v : Nat), r v = true → bround E r v = true := by
  induction E with
  | nil => intro r v h; exact h
  | cons e E ih => intro r v h; exact ih _ v (bstep_mono h)
theorem bround_take (E : Edges) (r : Nat → Bool) (k : Nat) (h : k < E.length) : bround (E.take (k + 1)) r = bstep (bround (E.take k) r) E[k] := by
  rw [bround, List.take_succ_eq_append_getElem h, List.foldl_append]; rfl
theorem bstep_congr {r s : Nat → Bool} {e : Nat × Nat} {n : Nat} (he : e.1 < n ∧ e.2 < n) (h : ∀ v, v < n → r v = s v) : ∀ v, v < n → bstep r e v = bstep s e v := by
  intro v hv
  unfold bstep
  rw [h _ he.1, h _ he.2, h v hv]
theorem bround_congr {n : Nat} (E : Edges) : ∀ (r s : Nat → Bool), (∀ e ∈ E, e.1 < n ∧ e.2 < n) → (∀ v, v < n → r v = s v) → ∀ v, v < n → bround E r v = bround E s v := by
  induction E with
  | nil => intro r s _ h; exact h
  | cons e E ih => intro r s he h; exact ih _ _ (fun x hx => he x (List.mem_cons_of_mem _ hx)) (bstep_congr (he e (by simp)) h)
/-- a round that changes nothing: each edge's nodes are marked alike -/
theorem bround_fix {n : Nat} (E : Edges) : ∀ (r : Nat → Bool), (∀ e ∈ E, e.1 < n ∧ e.2 < n) → (∀ v, v < n → bround E r v = r v) → ∀ e ∈ E, r e.1 = r e.2 := by
  induction E with
  | nil => intro r _ _ e he; simp at he
  | cons e E ih =>
    intro r he h x hx
    have hs : ∀ v, v < n → bstep r e v = r v := by
      intro v hv
      cases hr : r v with
      | true => exact bstep_mono hr
      | false =>
        cases hb : bstep r e v with
        | false => rfl
        | true =>
          have := bround_mono E _ v hb
          have h2 := h v hv
          rw [bround, List.foldl_cons] at h2
          rw [bround] at this
          rw [this, hr] at h2
          cases h2
    have h0 := he e (by simp)
    rcases List.mem_cons.1 hx with rfl | hx
    · have a := hs x.1 h0.1
      have b := hs x.2 h0.2
      unfold bstep at a b
      rw [if_pos rfl] at b
      by_cases e1 : x.1 = x.2
      · rw [e1]
      · rw [if_neg e1, if_pos rfl] at a
        exact a.symm.trans b
    · refine ih r (fun y hy => he y (List.mem_cons_of_mem _ hy)) (fun v hv => ?_) x hx
      have := h v hv
      rw [bround, List.foldl_cons] at this
      exact (bround_congr E r (bstep r e) (fun y hy => he y (List.mem_cons_of_mem _ hy)) (fun u hu => (hs u hu).symm) v hv).trans this
theorem bstep_sound {E : Edges} {r : Nat → Bool} {e : Nat × Nat} (he : e ∈ E) (h : ∀ v, r v = true → Reach E 0 v) : ∀ v, bstep r e v = true → Reach E 0 v := by
  have hor : (r e.1 || r e.2) = true → Reach E 0 e.1 ∧ Reach E 0 e.2 := fun ho => by
    rcases (by simpa using ho : r e.1 = true ∨ r e.2 = true) with h1 | h1
    · exact ⟨h _ h1, .step _ _ _ (h _ h1) (.inl he)⟩
    · exact ⟨.step _ _ _ (h _ h1) (.inr he), h _ h1⟩
  intro v hv
  unfold bstep at hv
  split at hv
  · next h1 => rw [h1]; exact (hor hv).2
  · split at hv
    · next h1 => rw [h1]; exact (hor hv).1
    · exact h v hv
theorem bround_sound {E : Edges} (F : Edges) : (∀ e ∈ F, e ∈ E) → ∀ (r : Nat → Bool), (∀ v, r v = true → Reach E 0 v) → ∀ v, bround F r v = true → Reach E 0 v := by
  induction F with
  | nil => intro _ r h; exact h
  | cons e F ih => intro hs r h; exact ih (fun x hx => hs x (List.mem_cons_of_mem _ hx)) _ (bstep_sound (hs e (by simp)) h)
theorem marked_reach {E : Edges} {r : Nat → Bool} (h0 : r 0 = true) (h : ∀ e ∈ E, r e.1 = r e.2) {v : Nat} (hr : Reach E 0 v) : r v = true := by
  induction hr with
  | refl => exact h0
  | step u w _ he ih =>
    rcases he with he | he
    · have := h _ he
      exact this.symm.trans ih
    · have := h _ he
      exact this.trans ih
/-- how many of seven are not marked -/
def unm (r : Nat → Bool) : Nat := ((List.range 7).filter fun v => !r v).length
theorem filter_lt {p q : Nat → Bool} : ∀ (l : List Nat), (∀ v ∈ l, p v = true → q v = true) → (l.filter p).length ≤ (l.filter q).length ∧ ((∃ v ∈ l, p v = false ∧ q v = true) → (l.filter p).length < (l.filter q).length) := by
  intro l
  induction l with
  | nil => intro _; exact ⟨Nat.le_refl _, fun ⟨v, hv, _⟩ => by simp at hv⟩
  | cons a l ih =>
    intro h
    obtain ⟨i1, i2⟩ := ih fun v hv => h v (List.mem_cons_of_mem _ hv)
    have ha := h a (by simp)
    rw [List.filter_cons, List.filter_cons]
    cases hp : p a with
    | true =>
      rw [ha hp]
      simp only [if_true, List.length_cons]
      refine ⟨by omega, fun ⟨v, hv, h1, h2⟩ => ?_⟩
      rcases List.mem_cons.1 hv with rfl | hv
      · rw [hp] at h1; cases h1
      · have := i2 ⟨v, hv, h1, h2⟩; omega
    | false =>
      cases hq : q a with
      | true =>
        simp only [if_true, Bool.false_eq_true, if_false, List.length_cons]
        exact ⟨by omega, fun _ => by omega⟩
      | false =>
        simp only [Bool.false_eq_true, if_false]
        refine ⟨i1, fun ⟨v, hv, h1, h2⟩ => ?_⟩
        rcases List.mem_cons.1 hv with rfl | hv
        · rw [hq] at h2; cases h2
        · exact i2 ⟨v, hv, h1, h2⟩
theorem unm_lt {r s : Nat → Bool} (h : ∀ v, r v = true → s v = true) (hne : ¬ ∀ v, v < 7 → r v = s v) : unm s < unm r := by
  refine (filter_lt (p := fun v => !s v) (q := fun v => !r v) (List.range 7) fun v _ hv => ?_).2 ?_
  · cases hr : r v with
    | false => rfl
    | true => rw [h v hr] at hv; cases hv
  · apply Classical.byContradiction
    intro hno
    refine hne fun v hv => ?_
    cases hr : r v with
    | true => exact (h v hr).symm
    | false =>
      cases hs : s v with
      | false => rfl
      | true => exact absurd ⟨v, List.mem_range.2 hv, by rw [hs]; rfl, by rw [hr]; rfl⟩ hno
/-- edges that ascend, not strictly, one fewer than nodes, over which all is reached: none is there twice -/
theorem valid_up {n : Nat} {E : Edges} (hn : 0 < n) (hl : E.length + 1 = n) (ho : ∀ e ∈ E, e.1 < e.2 ∧ e.2 < n) (hup : ∀ (i : Nat) (h : i + 1 < E.length), ltP E[i + 1] (E[i]'(by omega)) = false) (hc : ∀ v, v < n → Reach E 0 v) : ValidT n E := by
  refine ⟨hl, ho, ?_, hc⟩
  have hnd : E.Nodup := by
    rcases Nat.lt_or_ge 1 n with h1 | h1
    · have ht : Tree n (List.range n) E := by
        refine ⟨List.pairwise_lt_range, fun v hv => List.mem_range.1 hv, fun e he => ?_, fun u hu v hv => ?_⟩
        · obtain ⟨h1, h2⟩ := ho e he
          exact ⟨List.mem_range.2 (by omega), List.mem_range.2 h2, by omega⟩
        · exact (hc u (List.mem_range.1 hu)).symm.trans (hc v (List.mem_range.1 hv))
      obtain ⟨es, c, hp, hs⟩ := tree_peel (n - 2) (List.range n) E ht (by rw [List.length_range]; omega) (by omega)
      have h2 : (E.map norm).Nodup := (List.Perm.nodup_iff hs).2 hp.nodup
      rwa [map_norm fun e he => (ho e he).1] at h2
    · have : E = [] := List.eq_nil_of_length_eq_zero (by omega)
      rw [this]; exact List.nodup_nil
  have hle : ∀ (i j : Nat) (hj : j < E.length) (hij : i < j), ltP E[j] (E[i]'(by omega)) = false := by
    intro i j hj hij
    induction j with
    | zero => omega
    | succ j ih =>
      by_cases e : i = j
      · subst e; exact hup i hj
      · have a := ih (by omega) (by omega)
        have b := hup j hj
        cases hh : ltP E[j + 1] (E[i]'(by omega)) with
        | false => rfl
        | true =>
          rcases ltP_total (E[j]'(by omega)) (E[j + 1]) with h | h | h
          · rw [ltP_trans h hh] at a; cases a
          · rw [← h, a] at hh; cases hh
          · rw [b] at h; cases h
  unfold AscP
  rw [List.pairwise_iff_getElem]
  intro i j hi hj hij
  rcases ltP_total E[i] E[j] with h | h | h
  · exact h
  · exact absurd h ((List.pairwise_iff_getElem.1 hnd) i j hi hj hij)
  · rw [hle i j hj hij] at h; cases h
theorem valid_upB {n : Nat} {E : Edges} (h : ValidT n E) : ∀ (i : Nat) (h : i + 1 < E.length), ltP E[i + 1] (E[i]'(by omega)) = false := by
  intro i hi
  have := (List.pairwise_iff_getElem.1 h.asc) i (i + 1) (by omega) hi (by omega)
  cases hh : ltP E[i + 1] E[i] with
  | false => rfl
  | true => have := ltP_trans this hh; rw [ltP_irr] at this; cases this
end Go.Proofs.Ytafdlilojlmchaa

namespace Go.Proofs.Ytafdlilojlmchaa

theorem leaf_low {n l : Nat} {S c : List Nat} {d : Nat → Nat} (h : Fits n S c d) (hl : leastL n d = some l) : l + 1 < n := by
  obtain ⟨h1, h2, h3, h4, h5⟩ := h
  obtain ⟨l1, l2, l3⟩ := least_some.1 hl
  have hnd : S.Nodup := h1.imp fun hab => by omega
  have hex : ∃ v ∈ S, v ∉ c ∧ v ≠ l := by
    apply Classical.byContradiction
    intro hno
    have hsub : ∀ v ∈ S.erase l, v ∈ c := fun v hv => Classical.byContradiction fun hc => hno ⟨v, List.mem_of_mem_erase hv, hc, fun e => by
      subst e; exact (List.Nodup.mem_erase_iff hnd).1 hv |>.1 rfl⟩
    have := List.Nodup.length_le_of_subset (hnd.erase l) hsub
    have h6 := List.length_erase_of_mem (a := l) (l := S)
    by_cases hm : l ∈ S
    · rw [h6 hm] at this; omega
    · rw [List.erase_of_not_mem hm] at this; omega
  obtain ⟨v, hv, hc, hvl⟩ := hex
  have hd : d v = 1 := by rw [h5, if_pos hv, List.count_eq_zero.2 hc]
  have hvn := h2 v hv
  have : ¬ v < l := fun hlt => l3 v hlt hd
  omega
/-- after q edges: those found so far, and the degrees that are left -/
def Tip (n : Nat) (c : List Nat) (T : Edges) (q : Nat) (es : Edges) (d : Nat → Nat) : Prop :=
  es.length = q ∧ ((q ≤ c.length ∧ ∃ S, Fits n S (c.drop q) d ∧ n - 1 ∈ S ∧ es ++ treeE n (c.drop q) d = T) ∨ (q = c.length + 1 ∧ es = T))
theorem tip_start {n : Nat} {c : List Nat} (hn : n = c.length + 2) (hc : ∀ x ∈ c, x < n) : Tip n c (treeE n c (degC n c)) 0 [] (degC n c) :=
  ⟨rfl, .inl ⟨Nat.zero_le _, _, fits_code hn hc, List.mem_range.2 (by omega), rfl⟩⟩
theorem tip_end {n : Nat} {c : List Nat} {T es : Edges} {d : Nat → Nat} (h : Tip n c T (c.length + 1) es d) : es = T := by
  rcases h.2 with ⟨h1, _⟩ | ⟨_, h2⟩
  · omega
  · exact h2
theorem tip_step {n q x : Nat} {c : List Nat} {T es : Edges} {d : Nat → Nat} (h : Tip n c T q es d) (hq : q < c.length + 1) (hx : (c ++ [n - 1])[q]? = some x) :
    ∃ l, leastL n d = some l ∧ l < n ∧ d l = 1 ∧ x < n ∧ x ≠ l ∧ 1 ≤ d x ∧ d x ≤ c.length + 2 ∧ Tip n c T (q + 1) (es ++ [(l, x)]) (down d l x) := by
  obtain ⟨hes, h⟩ := h
  rcases h with ⟨_, S, hf, hn1, hT⟩ | ⟨h1, _⟩
  · obtain ⟨l, hl, hlS, hlc⟩ := fits_leaf hf
    obtain ⟨l1, l2, _⟩ := least_some.1 hl
    have hlow := leaf_low hf hl
    by_cases hqc : q < c.length
    · have hdrop : c.drop q = c[q] :: c.drop (q + 1) := List.drop_eq_getElem_cons hqc
      rw [List.getElem?_append_left hqc, List.getElem?_eq_getElem hqc] at hx
      simp only [Option.some.injEq] at hx
      rw [hx] at hdrop
      rw [hdrop] at hf hT hlc
      have hxl : x ≠ l := fun e => hlc (by simp [e])
      have hxS : x ∈ S := hf.2.2.1 x (by simp)
      have h5 := hf.2.2.2.2 x
      rw [if_pos hxS] at h5
      have h6 := List.count_le_length (a := x) (l := x :: c.drop (q + 1))
      rw [List.length_cons, List.length_drop] at h6
      refine ⟨l, hl, l1, l2, hf.2.1 x hxS, hxl, by omega, by omega, by rw [List.length_append, hes]; rfl, .inl ⟨by omega, _, fits_down hf hlS hlc, ?_, ?_⟩⟩
      · exact List.mem_filter.2 ⟨hn1, decide_eq_true (by omega)⟩
      · rw [← hT, treeE, hl]; simp
    · obtain rfl : q = c.length := by omega
      rw [List.getElem?_append_right (Nat.le_refl _)] at hx
      simp only [Nat.sub_self, List.getElem?_cons_zero, Option.some.injEq] at hx
      have hd0 : c.drop c.length = [] := List.drop_eq_nil_of_le (Nat.le_refl _)
      rw [hd0] at hf hT
      obtain ⟨a, b, rfl⟩ : ∃ a b, S = [a, b] := by
        have := hf.2.2.2.1
        match S, this with
        | [a, b], _ => exact ⟨a, b, rfl⟩
      obtain ⟨h1, h2, h3⟩ := fits_two hf
      simp only [List.mem_cons, List.mem_nil_iff, or_false] at hn1 hlS
      have hb : b = n - 1 := by omega
      have ha : l = a := by omega
      subst ha
      rw [← hb] at hx
      subst hx
      have h5 := hf.2.2.2.2 b
      rw [if_pos (by simp), List.count_nil] at h5
      refine ⟨l, hl, l1, l2, h3, by omega, by omega, by omega, by rw [List.length_append, hes]; rfl, .inr ⟨rfl, ?_⟩⟩
      rw [← hT, treeE, h1]
  · omega
theorem tip_bound {n q : Nat} {c : List Nat} {T es : Edges} {d : Nat → Nat} (h : Tip n c T q es d) : es.length = q := h.1
end Go.Proofs.Ytafdlilojlmchaa

namespace Go.Proofs.Ytafdlilojlmchaa

/-- the least of what is left when one branch is taken with its node -/
def lsK (f : Nat → Nat × Nat × Nat) (s : Nat) (b : Nat) : List Nat → Nat
  | [] => b
  | x :: r => lsK f s (min b (s - (f x).2.2 + (f x).1)) r
theorem lsK_le (f : Nat → Nat × Nat × Nat) (s : Nat) : ∀ (L : List Nat) (b : Nat), lsK f s b L ≤ b ∧ ∀ x ∈ L, lsK f s b L ≤ s - (f x).2.2 + (f x).1
  | [], b => ⟨Nat.le_refl _, fun x hx => by cases hx⟩
  | a :: r, b => by
    obtain ⟨h1, h2⟩ := lsK_le f s r (min b (s - (f a).2.2 + (f a).1))
    rw [lsK]
    refine ⟨by omega, fun x hx => ?_⟩
    rcases List.mem_cons.1 hx with rfl | hx
    · omega
    · exact h2 x hx
theorem lsK_is (f : Nat → Nat × Nat × Nat) (s : Nat) : ∀ (L : List Nat) (b : Nat), lsK f s b L = b ∨ ∃ x ∈ L, lsK f s b L = s - (f x).2.2 + (f x).1
  | [], b => .inl rfl
  | a :: r, b => by
    rw [lsK]
    rcases lsK_is f s r (min b (s - (f a).2.2 + (f a).1)) with h | ⟨x, hx, h⟩
    · rw [h]
      rcases Nat.le_total b (s - (f a).2.2 + (f a).1) with q | q
      · exact .inl (Nat.min_eq_left q)
      · exact .inr ⟨a, List.mem_cons_self .., Nat.min_eq_right q⟩
    · exact .inr ⟨x, List.mem_cons_of_mem _ hx, h⟩
theorem lsK_app (f : Nat → Nat × Nat × Nat) (s : Nat) (x : Nat) : ∀ (L : List Nat) (b : Nat), lsK f s b (L ++ [x]) = min (lsK f s b L) (s - (f x).2.2 + (f x).1)
  | [], b => rfl
  | a :: r, b => by rw [List.cons_append, lsK, lsK_app f s x r]; rfl
/-- fewest watchers: with the node, without it where it may be unseen, of all -/
def watW (f : Nat → Nat × Nat × Nat) (L : List Nat) : Nat := 1 + (L.map fun x => min (f x).1 (f x).2.1).sum
def watO (f : Nat → Nat × Nat × Nat) (L : List Nat) : Nat := (L.map fun x => (f x).2.2).sum
def watJ (f : Nat → Nat × Nat × Nat) (L : List Nat) : Nat × Nat × Nat := (watW f L, watO f L, lsK f (watO f L) (watW f L) L)
def watF (E : Edges) : Nat → Nat → Int → Nat × Nat × Nat
  | 0, _, _ => (0, 0, 0)
  | d + 1, v, fr => watJ (fun x => watF E d x v) (away E v fr)
theorem sum_le_one {α : Type} {L : List α} {f g : α → Nat} {y : α} (hy : y ∈ L) (hx : ∀ x ∈ L, f x ≤ g x) {b : Nat} (hb : b ≤ g y) : (L.map f).sum - f y + b ≤ (L.map g).sum := by
  induction L with
  | nil => cases hy
  | cons a r ih =>
    simp only [List.map_cons, List.sum_cons]
    have h2 := sum_le2 (L := r) fun x hh => hx x (List.mem_cons_of_mem _ hh)
    have h1 := hx a (List.mem_cons_self ..)
    rcases List.mem_cons.1 hy with rfl | hy
    · omega
    · have := ih hy fun x hh => hx x (List.mem_cons_of_mem _ hh)
      have h3 := le_sum_mem (List.mem_map.2 ⟨y, hy, rfl⟩ : f y ∈ r.map f)
      omega
/-- a node is seen by nodes that are picked -/
def SeenP (E : Edges) (p : Nat → Bool) (y : Nat) : Prop := p y = true ∨ ∃ z, Adj E y z ∧ p z = true
theorem cnt_nds (E : Edges) (d v : Nat) (fr : Int) (p : Nat → Bool) : (nds E (d + 1) v fr).countP p = (if p v = true then 1 else 0) + ((away E v fr).map fun x => (nds E d x v).countP p).sum := by
  rw [nds, List.countP_cons, List.countP_flatMap, Nat.add_comm]; rfl
/-- no watchers are fewer -/
theorem wat_low {E : Edges} (p : Nat → Bool) : ∀ (d v : Nat) (fr : Int), Brn E d v fr → (nds E d v fr).Nodup → (∀ y ∈ nds E d v fr, y ≠ v → SeenP E p y) →
    (p v = true → (watF E d v fr).1 ≤ (nds E d v fr).countP p) ∧ (p v = false → (watF E d v fr).2.1 ≤ (nds E d v fr).countP p) ∧
    ((p v = true ∨ ∃ x ∈ away E v fr, p x = true) → (watF E d v fr).2.2 ≤ (nds E d v fr).countP p) := by
  intro d
  induction d with
  | zero => intro v fr h; exact h.elim
  | succ d ih =>
    intro v fr h hn hs
    have hK := Kids.of h hn
    rw [cnt_nds, watF]
    have hin : ∀ x ∈ away E v fr, ∀ y ∈ nds E d x v, y ∈ nds E (d + 1) v fr ∧ y ≠ v := fun x hx y hy => by
      refine ⟨by rw [nds]; exact List.mem_cons_of_mem _ (List.mem_flatMap.2 ⟨x, hx, hy⟩), fun e => ?_⟩
      exact (hK.mem hx).2.2 (e ▸ hy)
    have I := fun x (hx : x ∈ away E v fr) => ih x v (h x hx) (hK.mem hx).2.1 fun y hy _ => hs y (hin x hx y hy).1 (hin x hx y hy).2
    have hA : p v = true → watW (fun x => watF E d x v) (away E v fr) ≤ (if p v = true then 1 else 0) + ((away E v fr).map fun x => (nds E d x v).countP p).sum := fun hp => by
      rw [if_pos hp, watW]
      have := sum_le2 (L := away E v fr) (f := fun x => min (watF E d x v).1 (watF E d x v).2.1) (g := fun x => (nds E d x v).countP p) fun x hx => by
        obtain ⟨i1, i2, _⟩ := I x hx
        cases hpx : p x with
        | true => have := i1 hpx; omega
        | false => have := i2 hpx; omega
      omega
    have hall : p v = false → ∀ x ∈ away E v fr, (watF E d x v).2.2 ≤ (nds E d x v).countP p := fun hp x hx => by
      refine (I x hx).2.2 ?_
      have hx1 := hin x hx x (nds_head (h x hx))
      rcases hs x hx1.1 hx1.2 with q | ⟨z, hz, q⟩
      · exact .inl q
      · refine .inr ⟨z, mem_away.2 ⟨hz, fun e => ?_⟩, q⟩
        have e' : z = v := by omega
        rw [e', hp] at q; exact absurd q (by decide)
    refine ⟨hA, fun hp => ?_, fun hp => ?_⟩
    · show watO _ _ ≤ _
      rw [watO]
      have := sum_le2 (L := away E v fr) (f := fun x => (watF E d x v).2.2) (g := fun x => (nds E d x v).countP p) (hall hp)
      omega
    · show lsK _ _ _ _ ≤ _
      obtain ⟨l1, l2⟩ := lsK_le (fun x => watF E d x v) (watO (fun x => watF E d x v) (away E v fr)) (away E v fr) (watW (fun x => watF E d x v) (away E v fr))
      cases hpv : p v with
      | true => have := hA hpv; rw [hpv] at this; exact Nat.le_trans l1 this
      | false =>
        rcases hp with hp | ⟨x, hx, hpx⟩
        · rw [hpv] at hp; exact absurd hp (by decide)
        · refine Nat.le_trans (l2 x hx) ?_
          have h1 := sum_le_one (L := away E v fr) (f := fun x => (watF E d x v).2.2) (g := fun x => (nds E d x v).countP p) hx (hall hpv) ((I x hx).1 hpx)
          exact Nat.le_trans h1 (Nat.le_add_left _ _)
/-- and so many are there -/
theorem wat_high {E : Edges} : ∀ (d v : Nat) (fr : Int), Brn E d v fr → (nds E d v fr).Nodup →
    (∃ D : List Nat, (∀ y ∈ D, y ∈ nds E d v fr) ∧ D.length ≤ (watF E d v fr).1 ∧ v ∈ D ∧ ∀ y ∈ nds E d v fr, Seen E D y) ∧
    (∃ D : List Nat, (∀ y ∈ D, y ∈ nds E d v fr) ∧ D.length ≤ (watF E d v fr).2.1 ∧ ∀ y ∈ nds E d v fr, y ≠ v → Seen E D y) ∧
    (∃ D : List Nat, (∀ y ∈ D, y ∈ nds E d v fr) ∧ D.length ≤ (watF E d v fr).2.2 ∧ ∀ y ∈ nds E d v fr, Seen E D y) := by
  intro d
  induction d with
  | zero => intro v fr h; exact h.elim
  | succ d ih =>
    intro v fr h hn
    have hK := Kids.of h hn
    have hadj : ∀ x ∈ away E v fr, Adj E v x := fun x hx => (mem_away.1 hx).1
    have I := fun x (hx : x ∈ away E v fr) => ih x v (h x hx) (hK.mem hx).2.1
    rw [nds, watF]
    have hA : ∃ D : List Nat, (∀ y ∈ D, y ∈ v :: (away E v fr).flatMap fun x => nds E d x v) ∧ D.length ≤ watW (fun x => watF E d x v) (away E v fr) ∧ v ∈ D ∧ ∀ y ∈ v :: (away E v fr).flatMap fun x => nds E d x v, Seen E D y := by
      obtain ⟨D, a1, a2, a3⟩ := watch_kids (E := E) (d := d) (v := v) (fun x => min (watF E d x v).1 (watF E d x v).2.1) (fun x D => ∀ y ∈ nds E d x v, y ≠ x → Seen E D y)
        (fun x D D' hd hr y hy q => (hr y hy q).mono hd) (away E v fr) fun x hx => by
          obtain ⟨⟨D1, b1, b2, _, b4⟩, ⟨D2, c1, c2, c3⟩, _⟩ := I x hx
          by_cases hm : (watF E d x v).1 ≤ (watF E d x v).2.1
          · exact ⟨D1, b1, by omega, fun y hy _ => b4 y hy⟩
          · exact ⟨D2, c1, by omega, c3⟩
      refine ⟨v :: D, fun y hy => ?_, by rw [List.length_cons, watW]; omega, List.mem_cons_self .., fun y hy => ?_⟩
      · rcases List.mem_cons.1 hy with rfl | hy
        · exact List.mem_cons_self ..
        · exact List.mem_cons_of_mem _ (a1 y hy)
      · rcases List.mem_cons.1 hy with rfl | hy
        · exact .inl (List.mem_cons_self ..)
        · obtain ⟨x, hx, hyx⟩ := List.mem_flatMap.1 hy
          by_cases e : y = x
          · subst e; exact .inr ⟨v, List.mem_cons_self .., (hadj y hx).symm⟩
          · exact (a3 x hx y hyx e).mono fun z hz => List.mem_cons_of_mem _ hz
    refine ⟨hA, ?_, ?_⟩
    · obtain ⟨D, a1, a2, a3⟩ := watch_kids (E := E) (d := d) (v := v) (fun x => (watF E d x v).2.2) (fun x D => ∀ y ∈ nds E d x v, Seen E D y)
        (fun x D D' hd hr y hy => (hr y hy).mono hd) (away E v fr) fun x hx => (I x hx).2.2
      refine ⟨D, fun y hy => List.mem_cons_of_mem _ (a1 y hy), a2, fun y hy hyv => ?_⟩
      rcases List.mem_cons.1 hy with rfl | hy
      · exact absurd rfl hyv
      · obtain ⟨x, hx, hyx⟩ := List.mem_flatMap.1 hy
        exact a3 x hx y hyx
    · show ∃ D : List Nat, _ ∧ D.length ≤ lsK _ _ _ _ ∧ _
      rcases lsK_is (fun x => watF E d x v) (watO (fun x => watF E d x v) (away E v fr)) (away E v fr) (watW (fun x => watF E d x v) (away E v fr)) with e | ⟨k, hk, e⟩
      · rw [e]
        obtain ⟨D, a1, a2, _, a4⟩ := hA
        exact ⟨D, a1, a2, a4⟩
      · rw [e]
        obtain ⟨D, a1, a2, a3⟩ := watch_kids (E := E) (d := d) (v := v) (fun x => if x = k then (watF E d x v).1 else (watF E d x v).2.2) (fun x D => (∀ y ∈ nds E d x v, Seen E D y) ∧ (x = k → k ∈ D))
          (fun x D D' hd hr => ⟨fun y hy => (hr.1 y hy).mono hd, fun q => hd _ (hr.2 q)⟩) (away E v fr) fun x hx => by
            obtain ⟨⟨D1, b1, b2, b3, b4⟩, _, ⟨D2, c1, c2, c3⟩⟩ := I x hx
            by_cases e : x = k
            · rw [if_pos e]; exact ⟨D1, b1, b2, b4, fun q => q ▸ b3⟩
            · rw [if_neg e]; exact ⟨D2, c1, c2, c3, fun q => absurd q e⟩
        have hsum : ∀ L : List Nat, L.Nodup → ∀ k ∈ L, (L.map fun x => if x = k then (watF E d x v).1 else (watF E d x v).2.2).sum = (L.map fun x => (watF E d x v).2.2).sum - (watF E d k v).2.2 + (watF E d k v).1 := by
          intro L
          induction L with
          | nil => intro _ k hk; cases hk
          | cons a r ihr =>
            intro hn k hk
            rw [List.nodup_cons] at hn
            simp only [List.map_cons, List.sum_cons]
            rcases List.mem_cons.1 hk with rfl | hk
            · have e2 : (r.map fun x => if x = k then (watF E d x v).1 else (watF E d x v).2.2) = r.map fun x => (watF E d x v).2.2 := List.map_congr_left fun x hx => if_neg fun (q : x = k) => hn.1 (by rw [← q]; exact hx)
              rw [e2, if_pos rfl]; omega
            · rw [ihr hn.2 k hk, if_neg fun (q : a = k) => hn.1 (by rw [q]; exact hk)]
              have := le_sum_mem (List.mem_map.2 ⟨k, hk, rfl⟩ : (watF E d k v).2.2 ∈ r.map fun x => (watF E d x v).2.2)
              omega
        have hKn : (away E v fr).Nodup := by
          have key : ∀ K : List Nat, Kids E d v K → K.Nodup := by
            intro K
            induction K with
            | nil => intro _; exact List.nodup_nil
            | cons a r ihr =>
              intro hk
              obtain ⟨b1, _, _, b4⟩ := hk.head
              refine List.nodup_cons.2 ⟨fun q => ?_, ihr hk.tail⟩
              exact b4 a (nds_head b1) (List.mem_flatMap.2 ⟨a, q, nds_head b1⟩)
          exact key _ hK
        rw [hsum _ hKn k hk] at a2
        refine ⟨D, fun y hy => List.mem_cons_of_mem _ (a1 y hy), a2, fun y hy => ?_⟩
        rcases List.mem_cons.1 hy with rfl | hy
        · exact .inr ⟨k, (a3 k hk).2 rfl, hadj k hk⟩
        · obtain ⟨x, hx, hyx⟩ := List.mem_flatMap.1 hy
          exact (a3 x hx).1 y hyx
/-- how great they are: no more than nodes -/
theorem wat_le {E : Edges} : ∀ (d v : Nat) (fr : Int), Brn E d v fr → (watF E d v fr).1 ≤ sz E d v fr ∧ (watF E d v fr).2.1 + 1 ≤ sz E d v fr ∧ (watF E d v fr).2.2 ≤ sz E d v fr := by
  intro d
  induction d with
  | zero => intro v fr h; exact h.elim
  | succ d ih =>
    intro v fr h
    rw [sz_at, watF]
    have h1 := sum_le2 (L := away E v fr) (f := fun x => min (watF E d x v).1 (watF E d x v).2.1) (g := fun x => sz E d x v) fun x hx => by have := ih x v (h x hx); omega
    have h2 := sum_le2 (L := away E v fr) (f := fun x => (watF E d x v).2.2) (g := fun x => sz E d x v) fun x hx => (ih x v (h x hx)).2.2
    have h3 := (lsK_le (fun x => watF E d x v) (watO (fun x => watF E d x v) (away E v fr)) (away E v fr) (watW (fun x => watF E d x v) (away E v fr))).1
    refine ⟨?_, ?_, Nat.le_trans h3 ?_⟩
    · show watW _ _ ≤ _; rw [watW]; omega
    · show watO _ _ + 1 ≤ _; rw [watO]; omega
    · rw [watW]; omega
end Go.Proofs.Ytafdlilojlmchaa

namespace Go.Proofs.Ytafdlilojlmchaa

section
variable {n : Nat} {E : Edges}
theorem eds_dst (h : ValidT n E) (h7 : n ≤ 7) {r : Nat} (hr : r < n) {e : Nat × Nat} (he : e ∈ eds E 14 r (-1)) : dst E r e.2 = dst E r e.1 + 1 := by
  obtain ⟨_, k, h1, h2⟩ := eds_wy 14 r (-1) e he
  rw [wy_dst h h7 hr h1, wy_dst h h7 hr h2]
theorem eds_adj (h : ValidT n E) (h7 : n ≤ 7) {r : Nat} (hr : r < n) {y x : Nat} (ha : Adj E y x) : (y, x) ∈ eds E 14 r (-1) ∨ (x, y) ∈ eds E 14 r (-1) := by
  have hp := eds_perm h h7 hr
  have hm : norm (y, x) ∈ (eds E 14 r (-1)).map norm := by
    rw [hp.mem_iff]
    have : norm (y, x) ∈ E.map norm := mem_norm.2 ha
    rwa [map_norm fun e he => (h.ord e he).1] at this
  obtain ⟨⟨a, b⟩, hab, he⟩ := List.mem_map.1 hm
  rcases norm_eq he with ⟨rfl, rfl⟩ | ⟨rfl, rfl⟩
  · exact .inl hab
  · exact .inr hab
/-- a node beside one is one step nearer or farther -/
theorem adj_dst (h : ValidT n E) (h7 : n ≤ 7) {r : Nat} (hr : r < n) {y x : Nat} (ha : Adj E y x) : dst E r x = dst E r y + 1 ∨ dst E r y = dst E r x + 1 :=
  (eds_adj h h7 hr ha).imp (fun q => eds_dst h h7 hr q) fun q => eds_dst h h7 hr q
/-- .. nearer is just one -/
theorem par_one (h : ValidT n E) (h7 : n ≤ 7) {r : Nat} (hr : r < n) {y z x : Nat} (hy : Adj E y x) (hz : Adj E z x) (ey : dst E r x = dst E r y + 1) (ez : dst E r x = dst E r z + 1) : y = z := by
  have hs := eds_snd 14 r (-1) (valid_brn h h7 r (-1))
  have hnd := (nd_perm h h7 hr).nodup_iff.2 List.nodup_range
  rw [hs, List.nodup_cons] at hnd
  have my : (y, x) ∈ eds E 14 r (-1) := (eds_adj h h7 hr hy).resolve_right fun q => by have := eds_dst h h7 hr q; simp only at this; omega
  have mz : (z, x) ∈ eds E 14 r (-1) := (eds_adj h h7 hr hz).resolve_right fun q => by have := eds_dst h h7 hr q; simp only at this; omega
  obtain ⟨i, hi, ei⟩ := List.getElem_of_mem my
  obtain ⟨j, hj, ej⟩ := List.getElem_of_mem mz
  have hnn := List.pairwise_iff_getElem.1 hnd.2
  have : i = j := by
    rcases Nat.lt_trichotomy i j with q | q | q
    · exact ((hnn i j (by simpa using hi) (by simpa using hj) q) (by simp only [List.getElem_map, ei, ej])).elim
    · exact q
    · exact ((hnn j i (by simpa using hj) (by simpa using hi) q) (by simp only [List.getElem_map, ei, ej])).elim
  subst this
  rw [ei] at ej
  exact congrArg Prod.fst ej
/-- ways found so far: h of them have been gone on from -/
structure WI (n : Nat) (E : Edges) (S : List (Nat × Nat)) (h : Nat) : Prop where
  nd : S.Nodup
  lt : ∀ p ∈ S, p.1 < n ∧ p.2 < n
  diag : ∀ a, a < n → (a, a) ∈ S
  down : ∀ a b, (a, b) ∈ S → ∀ x, Adj E b x → dst E a b = dst E a x + 1 → (a, x) ∈ S
  done : ∀ (i : Nat) (hi : i < S.length), i < h → ∀ x, Adj E S[i].2 x → (S[i].1, x) ∈ S
def diagW (k : Nat) : List (Nat × Nat) := (List.range k).map fun a => (a, a)
theorem diagW_next (k : Nat) : diagW (k + 1) = diagW k ++ [(k, k)] := by unfold diagW; rw [List.range_succ, List.map_append]; rfl
theorem diagW_len (k : Nat) : (diagW k).length = k := by simp [diagW]
theorem diagW_mem {k : Nat} {p : Nat × Nat} : p ∈ diagW k ↔ p.1 = p.2 ∧ p.1 < k := by
  obtain ⟨a, b⟩ := p
  unfold diagW
  rw [List.mem_map]
  constructor
  · rintro ⟨x, hx, e⟩
    injection e with e1 e2
    have := List.mem_range.1 hx
    exact ⟨by simp only; omega, by simp only; omega⟩
  · rintro ⟨h1, h2⟩
    simp only at h1 h2
    exact ⟨a, List.mem_range.2 h2, by rw [h1]⟩
theorem WI.start (h : ValidT n E) (h7 : n ≤ 7) : WI n E (diagW n) 0 := by
  refine ⟨?_, fun p hp => ?_, fun a ha => diagW_mem.2 ⟨rfl, ha⟩, fun a b hab x hx hd => ?_, fun i _ hi => by omega⟩
  · rw [List.Nodup, diagW, List.pairwise_map]
    exact List.nodup_range.imp fun q e => q (congrArg Prod.fst e)
  · obtain ⟨h1, h2⟩ := diagW_mem.1 hp; omega
  · obtain ⟨h1, h2⟩ := diagW_mem.1 hab
    simp only at h1 h2
    subst h1
    rw [dst_self h h7 h2] at hd
    omega
/-- one way more -/
theorem WI.step (h : ValidT n E) (h7 : n ≤ 7) {S : List (Nat × Nat)} {k : Nat} (hW : WI n E S k) {a b x : Nat} (hab : (a, b) ∈ S) (hx : Adj E b x) (hn : (a, x) ∉ S) :
    dst E a x = dst E a b + 1 ∧ WI n E (S ++ [(a, x)]) (min k S.length) := by
  obtain ⟨ha, hb⟩ := hW.lt _ hab
  simp only at ha hb
  have hxn : x < n := (adj_lt h hx).2
  have hd : dst E a x = dst E a b + 1 := (adj_dst h h7 ha hx).resolve_right fun q => hn (hW.down a b hab x hx q)
  refine ⟨hd, ?_, fun p hp => ?_, fun c hc => List.mem_append_left _ (hW.diag c hc), fun c y hcy z hz hdz => ?_, fun i hi hik z hz => ?_⟩
  · exact List.nodup_append.2 ⟨hW.nd, List.nodup_cons.2 ⟨by simp, List.nodup_nil⟩, fun p hp q hq e => by
      rw [List.mem_singleton] at hq
      subst hq; subst e; exact hn hp⟩
  · rcases List.mem_append.1 hp with q | q
    · exact hW.lt p q
    · rw [List.mem_singleton] at q
      subst q; exact ⟨ha, hxn⟩
  · rcases List.mem_append.1 hcy with q | q
    · exact List.mem_append_left _ (hW.down c y q z hz hdz)
    · rw [List.mem_singleton] at q
      injection q with q1 q2
      subst q1; subst q2
      have : z = b := par_one h h7 ha hz.symm hx hdz hd
      subst this
      exact List.mem_append_left _ hab
  · have hi' : i < S.length := by omega
    rw [List.getElem_append_left hi'] at hz ⊢
    exact List.mem_append_left _ (hW.done i hi' (by omega) z hz)
theorem WI.next {S : List (Nat × Nat)} {k : Nat} (hW : WI n E S k) (hk : k < S.length) (hd : ∀ x, Adj E S[k].2 x → (S[k].1, x) ∈ S) : WI n E S (k + 1) :=
  ⟨hW.nd, hW.lt, hW.diag, hW.down, fun i hi hik x hx => by
    rcases Nat.lt_or_ge i k with q | q
    · exact hW.done i hi q x hx
    · obtain rfl : i = k := by omega
      exact hd x hx⟩
theorem pairs_len {S : List (Nat × Nat)} (hn : S.Nodup) (hl : ∀ p ∈ S, p.1 < n ∧ p.2 < n) : S.length ≤ n * n := by
  have h1 : (S.map fun p => p.1 * n + p.2).Nodup := by
    rw [List.Nodup, List.pairwise_map]
    refine List.Pairwise.imp_of_mem ?_ hn
    rintro ⟨a, b⟩ ⟨c, d⟩ h1 h2 hne he
    have q1 := hl _ h1
    have q2 := hl _ h2
    simp only at q1 q2 he
    have e1 : a = c := by
      have t1 : (a * n + b) / n = a := by rw [Nat.mul_comm, Nat.mul_add_div (by omega), Nat.div_eq_of_lt q1.2, Nat.add_zero]
      have t2 : (c * n + d) / n = c := by rw [Nat.mul_comm, Nat.mul_add_div (by omega), Nat.div_eq_of_lt q2.2, Nat.add_zero]
      rw [← t1, he, t2]
    subst e1
    exact hne (by rw [Nat.add_left_cancel he])
  have h2 := nodup_le (n := n * n) h1 (fun x hx => by
    obtain ⟨⟨a, b⟩, hp, rfl⟩ := List.mem_map.1 hx
    have q1 := hl _ hp
    simp only at q1 ⊢
    have : (a + 1) * n ≤ n * n := Nat.mul_le_mul_right _ q1.1
    rw [Nat.add_mul, Nat.one_mul] at this
    omega)
  rwa [List.length_map] at h2
theorem WI.len {S : List (Nat × Nat)} {k : Nat} (hW : WI n E S k) : S.length ≤ n * n := pairs_len hW.nd hW.lt
/-- all ways are found -/
theorem WI.all (h : ValidT n E) (h7 : n ≤ 7) {S : List (Nat × Nat)} (hW : WI n E S S.length) {a b : Nat} (ha : a < n) (hb : b < n) : (a, b) ∈ S := by
  obtain ⟨p, hp⟩ := wy_way2 _ a (-1) b 0 .start (dst_wy h h7 ha hb)
  have key : ∀ v p k, Way2 E a v p k → (a, v) ∈ S := by
    intro v p k hw
    induction hw with
    | start => exact hW.diag a ha
    | step v p k w _ hx ih =>
      obtain ⟨i, hi, e⟩ := List.getElem_of_mem ih
      have := hW.done i hi hi w (by rw [e]; exact (mem_away.1 hx).1)
      rw [e] at this
      exact this
  exact key b p _ hp
def dsP (E : Edges) (p : Nat × Nat) : Nat := dst E p.1 p.2
/-- together they are twice the sum of all ways -/
theorem WI.sum (h : ValidT n E) (h7 : n ≤ 7) {S : List (Nat × Nat)} (hW : WI n E S S.length) : (S.map (dsP E)).sum = 2 * waysN n E := by
  have h1 := square_sum (dst E) n (fun v i hv hi => dst_turn h h7 hv hi) fun v hv => dst_self h h7 hv
  have hp : S.Perm ((List.range n).flatMap fun v => (List.range n).map fun i => (v, i)) := by
    refine perm_fullG hW.nd (fun p hp => ?_) ?_
    · have := hW.lt p hp
      exact List.mem_flatMap.2 ⟨p.1, List.mem_range.2 this.1, List.mem_map.2 ⟨p.2, List.mem_range.2 this.2, rfl⟩⟩
    · have hnd : ((List.range n).flatMap fun v => (List.range n).map fun i => (v, i)).Nodup := by
        rw [List.Nodup, List.pairwise_flatMap]
        refine ⟨fun v _ => ?_, List.nodup_range.imp fun {v u} q p hp r hr e => ?_⟩
        · rw [List.pairwise_map]
          exact List.nodup_range.imp fun q e => q (congrArg Prod.snd e)
        · obtain ⟨_, _, rfl⟩ := List.mem_map.1 hp
          obtain ⟨_, _, rfl⟩ := List.mem_map.1 hr
          exact q (congrArg Prod.fst e)
      exact List.Nodup.length_le_of_subset hnd fun p hp => by
        obtain ⟨v, hv, hp⟩ := List.mem_flatMap.1 hp
        obtain ⟨i, hi, rfl⟩ := List.mem_map.1 hp
        exact hW.all h h7 (List.mem_range.1 hv) (List.mem_range.1 hi)
  rw [(hp.map (dsP E)).sum_nat]
  have e : waysN n E = ((List.range n).map fun v => ((List.range v).map (dst E v)).sum).sum := rfl
  rw [e, ← h1, List.map_flatMap]
  have key : ∀ L : List Nat, (L.flatMap fun v => ((List.range n).map fun i => (v, i)).map (dsP E)).sum = (L.map fun v => ((List.range n).map (dst E v)).sum).sum := by
    intro L
    induction L with
    | nil => rfl
    | cons a r ih =>
      rw [List.flatMap_cons, List.sum_append, ih, List.map_cons, List.sum_cons, List.map_map]
      rfl
  exact key _
end
end Go.Proofs.Ytafdlilojlmchaa

namespace Go.Proofs.Ytafdlilojlmchaa

/-- a number put into a list in order, behind those that are at most it -/
def insA (out : List Int) (x : Int) : List Int := out.takeWhile (fun y => decide (y ≤ x)) ++ [x] ++ out.dropWhile (fun y => decide (y ≤ x))
def ascA (L : List Int) : List Int := L.foldl insA []
theorem take_whileA {out : List Int} {x : Int} : ∀ {k : Nat}, k ≤ out.length → (∀ (j : Nat) (hj : j < out.length), j < k → out[j] ≤ x) → (∀ (hk : k < out.length), x < out[k]) →
    out.takeWhile (fun y => decide (y ≤ x)) = out.take k ∧ out.dropWhile (fun y => decide (y ≤ x)) = out.drop k := by
  induction out with
  | nil => intro k hk _ _; simp
  | cons z r ih =>
    intro k hk h1 h2
    cases k with
    | zero =>
      have hz : ¬ z ≤ x := by have := h2 (by simp); simp at this; omega
      rw [List.takeWhile_cons, List.dropWhile_cons, decide_eq_false hz]
      simp
    | succ k =>
      have hz : z ≤ x := h1 0 (by simp) (by omega)
      obtain ⟨i1, i2⟩ := ih (k := k) (by simpa using hk) (fun j hj hjk => by
        have := h1 (j + 1) (by simp; omega) (by omega)
        simpa using this) (fun hk' => by
        have := h2 (by simp; omega)
        simpa using this)
      rw [List.takeWhile_cons, List.dropWhile_cons, decide_eq_true hz]
      simp [i1, i2]
theorem insA_at {out : List Int} {x : Int} {k : Nat} (hk : k ≤ out.length) (h1 : ∀ (j : Nat) (hj : j < out.length), j < k → out[j] ≤ x) (h2 : ∀ (hk : k < out.length), x < out[k]) :
    insA out x = out.take k ++ [x] ++ out.drop k := by
  obtain ⟨e1, e2⟩ := take_whileA hk h1 h2
  rw [insA, e1, e2]
theorem asc_snoc (L : List Int) (k : Nat) (h : k < L.length) : ascA (L.take (k + 1)) = insA (ascA (L.take k)) L[k] := by
  rw [ascA, List.take_succ_eq_append_getElem h, List.foldl_append]; rfl
/-- in order -/
def AscS : List Int → Prop
  | [] => True
  | x :: r => (∀ y ∈ r, x ≤ y) ∧ AscS r
theorem insA_perm (out : List Int) (x : Int) : (insA out x).Perm (out ++ [x]) := by
  rw [insA]
  have h := List.takeWhile_append_dropWhile (p := fun y => decide (y ≤ x)) (l := out)
  have e : out ++ [x] = out.takeWhile (fun y => decide (y ≤ x)) ++ out.dropWhile (fun y => decide (y ≤ x)) ++ [x] := by rw [h]
  rw [e, List.append_assoc, List.append_assoc]
  exact List.Perm.append_left _ List.perm_append_comm
theorem ascA_perm (L : List Int) : (ascA L).Perm L := by
  have key : ∀ (L out : List Int), (L.foldl insA out).Perm (out ++ L) := by
    intro L
    induction L with
    | nil => intro out; simp
    | cons x r ih =>
      intro out
      rw [List.foldl_cons]
      exact (ih _).trans (((insA_perm out x).append_right r).trans (by rw [List.append_assoc]; exact List.Perm.refl _))
  simpa [ascA] using key L []
theorem insA_sorted : ∀ (out : List Int) (x : Int), AscS out → AscS (insA out x)
  | [], x, _ => by simp [insA, AscS]
  | z :: r, x, h => by
    by_cases hz : z ≤ x
    · have e : insA (z :: r) x = z :: insA r x := by simp [insA, hz]
      rw [e]
      refine ⟨fun y hy => ?_, insA_sorted r x h.2⟩
      have := (insA_perm r x).mem_iff.1 hy
      rcases List.mem_append.1 this with h1 | h1
      · exact h.1 y h1
      · simp at h1; omega
    · have e : insA (z :: r) x = x :: z :: r := by simp [insA, hz]
      rw [e]
      refine ⟨fun y hy => ?_, h⟩
      rcases List.mem_cons.1 hy with rfl | h1
      · omega
      · have := h.1 y h1; omega
theorem ascA_sorted (L : List Int) : AscS (ascA L) := by
  have key : ∀ (L out : List Int), AscS out → AscS (L.foldl insA out) := by
    intro L
    induction L with
    | nil => intro out h; exact h
    | cons x r ih => intro out h; exact ih _ (insA_sorted out x h)
  exact key L [] trivial
theorem ascS_get : ∀ (l : List Int), AscS l → ∀ (i j : Nat) (hj : j < l.length) (hij : i ≤ j), l[i]'(by omega) ≤ l[j]
  | x :: r, h, 0, 0, _, _ => Int.le_refl _
  | x :: r, h, 0, j + 1, hj, _ => h.1 _ (by simp)
  | x :: r, h, i + 1, j + 1, hj, hij => by
    simp only [List.getElem_cons_succ]
    exact ascS_get r h.2 i j (by simpa using hj) (by omega)
/-- in a list in order more than i are less than a bound just if number i is -/
theorem asc_count : ∀ (l : List Int), AscS l → ∀ (i : Nat) (hi : i < l.length) (b : Int), i + 1 ≤ (l.filter fun x => decide (x < b)).length ↔ l[i] < b
  | x :: r, h, 0, _, b => by
    by_cases hx : x < b
    · simp [hx]
    · have : ∀ y ∈ r, ¬ y < b := fun y hy => by have := h.1 y hy; omega
      have e : (r.filter fun x => decide (x < b)) = [] := List.filter_eq_nil_iff.2 fun y hy => by simpa using this y hy
      simp [hx, e]
  | x :: r, h, i + 1, hi, b => by
    have hi' : i < r.length := by simpa using hi
    have ih := asc_count r h.2 i hi' b
    simp only [List.getElem_cons_succ]
    by_cases hx : x < b
    · rw [List.filter_cons_of_pos (by simpa using hx), List.length_cons]
      omega
    · have hn : ¬ r[i] < b := by have := h.1 r[i] (List.getElem_mem hi'); omega
      rw [List.filter_cons_of_neg (by simpa using hx)]
      have : (r.filter fun x => decide (x < b)).length = 0 := by
        rw [List.length_eq_zero_iff]
        exact List.filter_eq_nil_iff.2 fun y hy => by have := h.1 y hy; simp; omega
      omega
theorem filter_perm_len {l m : List Int} (h : l.Perm m) (p : Int → Bool) : (l.filter p).length = (m.filter p).length := (h.filter p).length_eq
end Go.Proofs.Ytafdlilojlmchaa
