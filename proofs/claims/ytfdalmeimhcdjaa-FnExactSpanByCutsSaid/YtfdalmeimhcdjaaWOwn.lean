/-
  Words on slices that a call itself makes: where they lie, and what keeps them.
-/
import Derived.WalkKit
import Derived.Deep.AppendLies
import Derived.Laws.CopyOwn
import Derived.Lib.OthersKept
namespace Go.Proofs.Ytfdalmeimhcdjaa
open Go.RowKit

/-- a row of the call's own that lies in blocks from B on and below H -/
def Own (w : World) (B H : Nat) (t : TypeId) (v : Value) (xs : List Value) : Prop :=
  w.ownsRow B t 1 v xs.length xs ∧ ∀ g, v.ownBlock = some g → g < H

section
variable {w w' : World} {B H H' : Nat} {t t' : TypeId} {v v' : Value} {xs ys : List Value}

theorem Own.more (h : Own w B H t v xs) (hH : H ≤ H') : Own w B H' t v xs := ⟨h.1, fun g hg => Nat.lt_of_lt_of_le (h.2 g hg) hH⟩
theorem Own.of_own (h : w.ownsRow B t 1 v xs.length xs) : Own w B w.heap.size t v xs := ⟨h, fun g hg => (h.lt g hg).2⟩
theorem own_of_blocks {n : Nat} (h : w.ownsRow B t 1 v n xs) (hb : ∀ g, v.ownBlock = some g → w'.heap[g]? = w.heap[g]?) : w'.ownsRow B t 1 v n xs := by
  refine ⟨h.1, ?_⟩
  rcases h.2 with hn | ⟨g, cap, cur, rfl, h1, h2, rest⟩
  · exact .inl hn
  · exact .inr ⟨g, cap, cur, rfl, h1, by rw [hb g rfl]; exact h2, rest⟩
theorem Own.below (h : Own w B H t v xs) (hb : Below H w w') : Own w' B H t v xs :=
  ⟨own_of_blocks h.1 fun g hg => hb.block g (h.2 g hg), h.2⟩
theorem Own.grown {row : Option Nat} (h : Own w B H t v xs) (hg : w.grownBy w' row) (hne : v.ownBlock = none ∨ v.ownBlock ≠ row) : Own w' B H t v xs :=
  ⟨h.1.kept hg hne, h.2⟩
theorem Own.alloc (h : Own w B H t v xs) (o : Obj) : Own (w.alloc o) B H t v xs := ⟨h.1.alloc o, h.2⟩
/-- rows of different element types never share a block -/
theorem Own.ne {B' : Nat} (h : Own w B H t v xs) (h' : Own w B' H' t' v' ys) (ht : t ≠ t') : v.ownBlock = none ∨ v.ownBlock ≠ v'.ownBlock := by
  rcases h.1.2 with ⟨rfl, _⟩ | ⟨g, cap, cur, rfl, _, h2, _⟩
  · exact .inl rfl
  · right
    rcases h'.1.2 with ⟨rfl, _⟩ | ⟨g', cap', cur', rfl, _, h2', _⟩
    · simp [Value.ownBlock]
    · intro e
      simp only [Value.ownBlock, Option.some.injEq] at e
      subst e
      rw [h2] at h2'
      simp only [Option.some.injEq, Obj.cells.injEq] at h2'
      exact ht h2'.2.1
theorem Own.slice (h : Own w B H t v xs) : ∃ ao cap, v = .slice ao xs.length cap ∧ (ao = none → xs.length = 0 ∧ cap = 0) ∧ xs.length ≤ cap ∧ cap ≤ maxLen ∧ ∀ a, ao = some a → ∃ g, a = ⟨g, 0, none⟩ ∧ B ≤ g ∧ g < H := by
  rcases h.1.2 with ⟨rfl, h0⟩ | ⟨g, cap, cur, rfl, h1, h2, h3, h4, _⟩
  · exact ⟨none, 0, by rw [h0], fun _ => ⟨h0, rfl⟩, by omega, by simp [maxLen], fun a ha => by cases ha⟩
  · exact ⟨some ⟨g, 0, none⟩, cap, rfl, (fun e => by cases e), h3, h4, fun a ha => ⟨g, by cases ha; rfl, h1, h.2 g rfl⟩⟩
/-- a cell of it, wherever it lies -/
theorem Own.cell (h : Own w B H t v xs) (j : Nat) (hj : j < xs.length) : ∃ g cap, v = .slice (some ⟨g, 0, none⟩) xs.length cap ∧ B ≤ g ∧ g < H ∧ w.cell? ⟨g, j, none⟩ = xs[j]? ∧ w.frozen? ⟨g, j, none⟩ = false := by
  rcases h.1.2 with ⟨rfl, h0⟩ | ⟨g, cap, cur, rfl, h1, h2, h3, h4, _⟩
  · omega
  · exact ⟨g, cap, rfl, h1, h.2 g rfl, h.1.cellAt j (by omega), h.1.frozenAt j⟩
/-- its last element dropped -/
theorem Own.pop {g cap n m : Nat} (h : Own w B H t (.slice (some ⟨g, 0, none⟩) m cap) xs) (hl : xs.length = n + 1) : Own w B H t (.slice (some ⟨g, 0, none⟩) n cap) xs.dropLast := by
  obtain ⟨⟨_, h7⟩, h8⟩ := h
  rcases h7 with ⟨h0, _⟩ | ⟨g', cap', cur, hv, h1, h2, h3, h4, h5, h6⟩
  · cases h0
  · have hg : g = g' ∧ cap = cap' := by simp only [Value.slice.injEq, Option.some.injEq, Addr.mk.injEq, and_true] at hv; exact ⟨hv.1, hv.2.2⟩
    obtain ⟨rfl, rfl⟩ := hg
    have hd : xs.dropLast.length = n := by rw [List.length_dropLast, hl]; rfl
    refine ⟨⟨by rw [hd]; omega, .inr ⟨g, cap, cur, by rw [hd], h1, h2, by rw [hd]; omega, h4, h5, ?_⟩⟩, fun q hq => h8 q hq⟩
    have e : xs.dropLast = xs.take n := by rw [List.dropLast_eq_take, hl]; rfl
    rw [hd, e, ← h6, List.take_take, hl]
    congr 1
    omega
/-- a row that is full is known whole -/
theorem own_full {g n : Nat} (h : w.ownsRow B t 1 (.slice (some ⟨g, 0, none⟩) n n) n xs) : w.heap[g]? = some (.cells xs.toArray t (0, 0)) := by
  rcases h.2 with ⟨h0, _⟩ | ⟨g', cap', cur, hv, h1, h2, h3, h4, h5, h6⟩
  · cases h0
  · cases hv
    rw [h2, ← h6, List.take_of_length_le (by simp [h5])]
theorem own_of_full {g n : Nat} (hB : B ≤ g) (hn : n ≤ maxLen) (hl : xs.length = n) (h : w.heap[g]? = some (.cells xs.toArray t (0, 0))) : w.ownsRow B t 1 (.slice (some ⟨g, 0, none⟩) n n) n xs :=
  ⟨by simp [hl], .inr ⟨g, n, xs.toArray, rfl, hB, h, Nat.le_refl _, hn, by simp [hl], by simp [hl.symm]⟩⟩
end
end Go.Proofs.Ytfdalmeimhcdjaa
