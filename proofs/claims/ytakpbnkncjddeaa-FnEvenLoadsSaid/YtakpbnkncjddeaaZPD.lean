/-
  The contract of the program's function that tells for each pair those that it is in.
  The contracts of the two functions that tell the depths of a word's nodes.
  The contracts of the model's functions that answer a word's arms, its triangles and its row behind a stack.
-/
import Derived.Test.YtakpbnkncjddeaaZV
import Derived.Test.YtakpbnkncjddeaaWPairs
import Derived.Test.YtakpbnkncjddeaaZW
import Derived.Test.YtakpbnkncjddeaaZC
namespace Go.Proofs.Ytakpbnkncjddeaa
open Go.RowKit

theorem Try.infoIntP : (Try.prog.info? 3).map (fun i => (i.zero, i.size, i.bytes)) = some (some (.int .i64 0), 1, 8) := by kernel_rfl
theorem Try.infoRowP : (Try.prog.info? 23).map (fun i => (i.zero, i.size, i.bytes)) = some (some (.slice none 0 0), 1, 24) := by kernel_rfl
theorem Try.sizeIntP : (Try.prog.info? 3).map (·.size) = some 1 := by kernel_rfl

/-- what stands behind k bytes: the iterator, what is open, the rows; all in blocks from B on and below H -/
structure Pairs_ (s : ByteArray) (I B H k : Nat) (op : List Nat) (rows : List (List Nat)) (vo vr : Value) (w : World) : Prop where
  iter : w.heap[I]? = some (.stringIter s k)
  iterLt : B ≤ I ∧ I < H
  opn : Own w B H 3 vo (ints op)
  rws : ∃ RV, Own w B H 23 vr RV ∧ Rows_ w B H RV rows ∧ Apart_ RV vo

section
variable {s : ByteArray} {I B H H' k : Nat} {op : List Nat} {rows : List (List Nat)} {vo vr : Value} {w w' : World}
theorem Pairs_.more (h : Pairs_ s I B H k op rows vo vr w) (hH : H ≤ H') : Pairs_ s I B H' k op rows vo vr w :=
  ⟨h.iter, ⟨h.iterLt.1, Nat.lt_of_lt_of_le h.iterLt.2 hH⟩, h.opn.more hH, by obtain ⟨RV, a, b, c⟩ := h.rws; exact ⟨RV, a.more hH, b.more hH, c⟩⟩
theorem Pairs_.below (h : Pairs_ s I B H k op rows vo vr w) (hb : Below H w w') : Pairs_ s I B H k op rows vo vr w' :=
  ⟨by rw [hb.block I h.iterLt.2]; exact h.iter, h.iterLt, h.opn.below hb, by obtain ⟨RV, a, b, c⟩ := h.rws; exact ⟨RV, a.below hb, b.below hb, c⟩⟩
theorem Pairs_.next (h : Pairs_ s I B H k op rows vo vr w) (k' : Nat) : Pairs_ s I B H k' op rows vo vr (w.iterAt I s k') := by
  have ho : ∀ {t : TypeId} {v : Value} {xs : List Value}, Own w B H t v xs → Own (w.iterAt I s k') B H t v xs := fun {t v xs} hv => by
    refine ⟨own_iterAt hv.1 (fun e => ?_) s k', hv.2⟩
    rcases hv.1.2 with ⟨rfl, _⟩ | ⟨g, cap, cur, rfl, _, h2, _⟩
    · simp [Value.ownBlock] at e
    · simp only [Value.ownBlock, Option.some.injEq] at e
      subst e
      rw [h.iter] at h2
      cases h2
  refine ⟨Lib.iterAt_heap w I s k k' h.iter, h.iterLt, ho h.opn, ?_⟩
  obtain ⟨RV, a, b, c⟩ := h.rws
  exact ⟨RV, ho a, ⟨b.1, fun i v r h1 h2 => ho (b.2 i v r h1 h2)⟩, c⟩
/-- a ) -/
theorem Pairs_.pop {g cap n m : Nat} (h : Pairs_ s I B H k op rows (.slice (some ⟨g, 0, none⟩) m cap) vr w) (hl : op.length = n + 1) : Pairs_ s I B H k op.dropLast rows (.slice (some ⟨g, 0, none⟩) n cap) vr w := by
  have := h.opn.pop (n := n) (by rw [ints_length]; exact hl)
  rw [ints_dropLast] at this
  exact ⟨h.iter, h.iterLt, this, h.rws⟩
/-- a (, behind the copy: what is open grows -/
theorem Pairs_.push {n : Nat} {v' v7 : Value} (h : Pairs_ s I B H k op rows vo vr w) (h7 : Own w B (H + 1) 3 v7 (ints op)) (h7b : v7.ownBlock = some H) (hH : H < w.heap.size)
    (hown : w'.ownsRow B 3 1 v' (op.length + 1) (ints op ++ [.int .i64 n])) (hg : w.grownBy w' vo.ownBlock) (hv : v'.ownBlock = vo.ownBlock ∨ v'.ownBlock = some w.heap.size) :
    (∃ RV, Own w' B w'.heap.size 23 vr RV ∧ Rows_ w' B w'.heap.size RV rows ∧ Apart_ RV v') ∧ w'.heap[I]? = some (.stringIter s k) ∧ Own w' B w'.heap.size 3 v' (ints (op ++ [n])) ∧ Own w' B w'.heap.size 3 v7 (ints op) ∧ v7.ownBlock ≠ v'.ownBlock := by
  have hs := hg.size
  have ho : Own w' B w'.heap.size 3 v' (ints (op ++ [n])) := by
    rw [ints_snoc] at hown
    exact Own.of_own (by rw [ints_length, List.length_append]; exact hown)
  have hne : ∀ {u : Value} {q : Nat}, u.ownBlock = some q → q < w.heap.size → (vo.ownBlock ≠ some q) → u.ownBlock ≠ v'.ownBlock := fun {u q} h1 h2 h3 e => by
    rcases hv with e1 | e1
    · rw [e1, h1] at e; exact h3 e.symm
    · rw [e1, h1] at e; simp at e; omega
  have h7o : vo.ownBlock ≠ some H := fun e => by have := h.opn.2 H e; omega
  refine ⟨?_, ?_, ho, ?_, hne h7b hH h7o⟩
  · obtain ⟨RV, a, b, c⟩ := h.rws
    refine ⟨RV, (a.grown hg (a.ne h.opn (by decide))).more (by omega), ⟨b.1, fun i v r h1 h2 => ((b.2 i v r h1 h2).grown hg (c i v h1)).more (by omega)⟩, fun i u hu => ?_⟩
    rcases c i u hu with e | e
    · exact .inl e
    · cases hq : u.ownBlock with
      | none => exact .inl rfl
      | some q =>
        right
        have hi : i < rows.length := by rw [← b.1]; exact (List.getElem?_eq_some_iff.1 hu).1
        have hlt := (b.2 i u _ hu (List.getElem?_eq_getElem hi)).2 q hq
        rw [← hq]
        exact hne hq (by omega) (fun e2 => e (by rw [hq, e2]))
  · rw [hg.block I (by have := h.iterLt.2; omega) ?_]
    · exact h.iter
    · intro e
      rcases h.opn.1.2 with ⟨rfl, _⟩ | ⟨g, cap, cur, rfl, _, h2, _⟩
      · simp [Value.ownBlock] at e
      · simp only [Value.ownBlock, Option.some.injEq] at e
        subst e
        rw [h.iter] at h2
        cases h2
  · exact (h7.grown hg (.inr (by rw [h7b]; exact fun e => h7o e.symm))).more (by omega)
/-- a (, behind the last append: the rows grow -/
theorem Pairs_.rowAdd {vo' vr' v7 : Value} {op' : List Nat} {RV : List Value} (a : Own w B H 23 vr RV) (b : Rows_ w B H RV rows) (c : Apart_ RV vo')
    (hit : w.heap[I]? = some (.stringIter s k)) (hI : B ≤ I ∧ I < H) (ho : Own w B H 3 vo' (ints op')) (h7 : Own w B H 3 v7 (ints op)) (hne : v7.ownBlock ≠ vo'.ownBlock)
    (hown : w'.ownsRow B 23 1 vr' (rows.length + 1) (RV ++ [v7])) (hg : w.grownBy w' vr.ownBlock) (hH : H ≤ w.heap.size) :
    Pairs_ s I B w'.heap.size k op' (rows ++ [op]) vo' vr' w' := by
  have hs := hg.size
  have hle : H ≤ w'.heap.size := by omega
  have hr : ∀ {v : Value} {xs : List Value}, Own w B H 3 v xs → Own w' B w'.heap.size 3 v xs := fun {v xs} hv => (hv.grown hg (hv.ne a (by decide))).more hle
  refine ⟨?_, ⟨hI.1, by omega⟩, hr ho, RV ++ [v7], Own.of_own (by rw [List.length_append, b.1]; exact hown), Rows_.snoc ⟨b.1, fun i v r h1 h2 => hr (b.2 i v r h1 h2)⟩ (hr h7), fun i u hu => ?_⟩
  · rw [hg.block I (by omega) ?_]
    · exact hit
    · intro e
      rcases a.1.2 with ⟨rfl, _⟩ | ⟨g, cap, cur, rfl, _, h2, _⟩
      · simp [Value.ownBlock] at e
      · simp only [Value.ownBlock, Option.some.injEq] at e
        subst e
        rw [hit] at h2
        cases h2
  · by_cases hi : i < RV.length
    · rw [List.getElem?_append_left hi] at hu
      exact c i u hu
    · have hi' : i = RV.length := by
        have := (List.getElem?_eq_some_iff.1 hu).1
        simp at this; omega
      subst hi'
      rw [List.getElem?_append_right (Nat.le_refl _), Nat.sub_self] at hu
      simp at hu
      subst hu
      exact .inr hne
end

/-- what the function answers -/
def PairsOut (s : ByteArray) (w : World) (e : Ending) (w' : World) : Prop :=
  ∃ v RV, e = .returned v ∧ Own w' w.heap.size w'.heap.size 23 v RV ∧ Rows_ w' w.heap.size w'.heap.size RV (openP s.data.toList).1 ∧ Below w.heap.size w w'

end Go.Proofs.Ytakpbnkncjddeaa

namespace Go.Proofs.Ytakpbnkncjddeaa
open Go.RowKit

/-- a list of numbers in new memory -/
def IntsOut (l : List Int) (w : World) (e : Ending) (w' : World) : Prop :=
  ∃ v, e = .returned v ∧ Own w' w.heap.size w'.heap.size 3 v (iv l) ∧ Below w.heap.size w w'

theorem depths_opn {s : ByteArray} {k : Nat} (hk : k < s.size) (hc : s[k].toNat = 40) : depthsL (s.data.toList.take (k + 1)) = depthsL (s.data.toList.take k) ++ [((openP (s.data.toList.take k)).2.length : Int)] := by
  rw [depthsL, openP_next hk, stepOP, if_neg (by omega)]; simp [depthsL]
theorem depths_cls {s : ByteArray} {k : Nat} (hk : k < s.size) (hc : s[k].toNat = 41) : depthsL (s.data.toList.take (k + 1)) = depthsL (s.data.toList.take k) := by
  rw [depthsL, openP_next hk, stepOP, if_pos hc]; rfl
theorem open_opn {s : ByteArray} {k : Nat} (hk : k < s.size) (hc : s[k].toNat = 40) : (openP (s.data.toList.take (k + 1))).2.length = (openP (s.data.toList.take k)).2.length + 1 := by
  rw [openP_next hk, stepOP, if_neg (by omega)]; simp
theorem open_cls {s : ByteArray} {k : Nat} (hk : k < s.size) (hc : s[k].toNat = 41) : (openP (s.data.toList.take (k + 1))).2.length = (openP (s.data.toList.take k)).2.length - 1 := by
  rw [openP_next hk, stepOP, if_pos hc]; simp
theorem depthsL_length (l : List UInt8) : (depthsL l).length = (openP l).1.length := by simp [depthsL]

theorem nilOut (w w' : World) (hb : Below w.heap.size w w') : IntsOut [] w (.returned (.slice none 0 0)) w' := ⟨_, rfl, ⟨World.ownsRow_nil _ _ _ _, fun g hg => by simp [Value.ownBlock] at hg⟩, hb⟩
theorem IntsOut.of_below {l : List Int} {w w1 : World} {e : Ending} {w' : World} (hb : Below w.heap.size w w1) (h : IntsOut l w1 e w') : IntsOut l w e w' := by
  obtain ⟨v, he, ho, hb'⟩ := h
  refine ⟨v, he, ⟨⟨ho.1.1, ?_⟩, ho.2⟩, hb.trans (hb'.mono hb.size)⟩
  have := hb.size
  rcases ho.1.2 with h | ⟨g, cap, cur, a, b, c⟩
  · exact .inl h
  · exact .inr ⟨g, cap, cur, a, by omega, c⟩

/-- what both answer -/
def depOut (l : List UInt8) : List Int := if valid l then depthsL l else []
theorem depOut_length (s : ByteArray) : (depOut s.data.toList).length ≤ 18 := by
  unfold depOut
  split
  · rename_i h
    have h1 := valid_size h
    have h2 := (openP_le s.data.toList).1
    rw [size_list] at h2
    rw [depthsL_length]; omega
  · simp
end Go.Proofs.Ytakpbnkncjddeaa

namespace Go.Proofs.Ytakpbnkncjddeaa
open Go.RowKit

/-- a list of rows in the call's own memory -/
def RowsOut (rows : List (List Int)) (w : World) (e : Ending) (w' : World) : Prop :=
  ∃ v RV, e = .returned v ∧ Grid w' w.heap.size w'.heap.size v RV rows ∧ Below w.heap.size w w'
theorem GridOut.rows {rows : List (List Int)} {w : World} {e : Ending} {w' : World} (h : GridOut w.heap.size rows w e w') : RowsOut rows w e w' := by
  obtain ⟨g, c, RV, rfl, hG, hb⟩ := h
  exact ⟨_, RV, rfl, hG, hb⟩
theorem nilRows (w w' : World) (hb : Below w.heap.size w w') : RowsOut [] w (.returned (.slice none 0 0)) w' :=
  ⟨_, [], rfl, ⟨⟨World.ownsRow_nil _ _ _ _, fun q hq => by simp [Value.ownBlock] at hq⟩, RowsI.nil⟩, hb⟩

def binOut (l : List UInt8) : List (List Int) := if valid l then binL 18 l 0 else []
def fanOut (l : List UInt8) : List (List Int) := if valid l then fansL 18 l 0 (l.length / 2 + 1) else []
def stackOut (l : List UInt8) : List Int := if valid l then stackL l else []

end Go.Proofs.Ytakpbnkncjddeaa
