/-
  The contract of the program's function that reads a word from its end.
-/
import Derived.Test.YtfdalmeimhcdjaaCMirror
namespace Go.Proofs.Ytfdalmeimhcdjaa
open Go.RowKit

theorem own_iterAt {w : World} {base : Nat} {e : TypeId} {size : Nat} {v : Value} {n : Nat} {xs : List Value} (h : w.ownsRow base e size v n xs) {k : Nat} (hk : v.ownBlock ≠ some k) (s : ByteArray) (p : Nat) : (w.iterAt k s p).ownsRow base e size v n xs := by
  obtain ⟨h1, h2⟩ := h
  refine ⟨h1, ?_⟩
  rcases h2 with h2 | ⟨g, cap, cur, a, b, c, d⟩
  · exact .inl h2
  · subst a
    exact .inr ⟨g, cap, cur, rfl, b, by rw [Lib.iterAt_other _ _ _ _ _ (fun e => hk (by simp [Value.ownBlock, e]))]; exact c, d⟩
theorem iterPos_of {w : World} {k : Nat} {s : ByteArray} {p : Nat} (h : w.heap[k]? = some (.stringIter s p)) : w.iterPos k = p := by simp [World.iterPos, h]

/-- one letter set: the row, the iterator, what lay before -/
theorem mirror_round {s : ByteArray} {w wr : World} {G I k : Nat} (hG : w.heap.size ≤ G) (hne : G ≠ I) (hI : w.heap.size ≤ I) (hk : k < s.size)
    (hit : wr.heap[I]? = some (.stringIter s k)) (hown : wr.ownsRow w.heap.size 5 1 (.slice (some ⟨G, 0, none⟩) s.size s.size) s.size (mcells s k)) (hb : Below w.heap.size w wr) (u : Value) (hu : u = .int .u8 ((flip s[k]).toNat : Int)) :
    ((wr.iterAt I s (k + 1)).setCell ⟨G, s.size - 1 - k, none⟩ u).heap[I]? = some (.stringIter s (k + 1)) ∧
    ((wr.iterAt I s (k + 1)).setCell ⟨G, s.size - 1 - k, none⟩ u).ownsRow w.heap.size 5 1 (.slice (some ⟨G, 0, none⟩) s.size s.size) s.size (mcells s (k + 1)) ∧
    Below w.heap.size w ((wr.iterAt I s (k + 1)).setCell ⟨G, s.size - 1 - k, none⟩ u) := by
  have h1 := own_iterAt hown (k := I) (by simp [Value.ownBlock, hne]) s (k + 1)
  have h2 := (h1.stored (s.size - 1 - k) u).1
  subst hu
  rw [mcells_step s k hk] at h2
  refine ⟨?_, h2, (Lib.below_iterAt hb hI s (k + 1)).setCell hG _⟩
  rw [Below.heap_setCell _ _ _ _ (fun e => hne e.symm)]
  exact Lib.iterAt_heap wr I s k (k + 1) hit

theorem flip_val {c : UInt8} (h : c.toNat = 40 ∨ c.toNat = 41) : (((c.toNat : Int) == 40) = true ∧ Value.int .u8 41 = .int .u8 ((flip c).toNat : Int)) ∨ (((c.toNat : Int) == 40) = false ∧ Value.int .u8 40 = .int .u8 ((flip c).toNat : Int)) := by
  rcases h with h | h
  · left; rw [h]; refine ⟨rfl, ?_⟩; rw [flip, if_pos h]; rfl
  · right; rw [h]; refine ⟨rfl, ?_⟩; rw [flip, if_neg (by omega)]; rfl

/-- what both answer -/
def mirOut (l : List UInt8) : ByteArray := if valid l then ⟨(mirrorL l).toArray⟩ else ⟨#[]⟩
end Go.Proofs.Ytfdalmeimhcdjaa
