/-
  Words on lists of numbers in the call's own memory.
-/
import Derived.Test.YtfdalmeimhcdjaaWOwn
import Derived.Deep.QuietTactic
namespace Go.Proofs.Ytfdalmeimhcdjaa
open Go.RowKit

def iv (l : List Int) : List Value := l.map (Value.int .i64)
theorem iv_length (l : List Int) : (iv l).length = l.length := by simp [iv]
theorem iv_at (l : List Int) (k : Nat) (h : k < l.length) : (iv l)[k]? = some (.int .i64 l[k]) := by simp [iv, h]
theorem iv_set (l : List Int) (k : Nat) (n : Int) : (iv l).set k (.int .i64 n) = iv (l.set k n) := by simp [iv, List.map_set]
theorem iv_snoc (l : List Int) (n : Int) : iv l ++ [.int .i64 n] = iv (l ++ [n]) := by simp [iv]

/-- nothing but draws -/
def Same (w w' : World) : Prop := w'.heap = w.heap ∧ Below w.heap.size w w'
theorem Same.refl (w : World) : Same w w := ⟨rfl, Below.refl _ _⟩
theorem Same.drewN {w w' : World} (h : Same w w') (n : Nat) : Same w (w'.drewN n) := ⟨h.1, h.2.trans ⟨rfl, rfl, rfl, Nat.le_refl _, fun _ _ => rfl⟩⟩
theorem Same.below {w w' : World} (h : Same w w') (B : Nat) : Below B w w' := ⟨h.2.os, h.2.tape, h.2.output, h.2.size, fun k _ => by rw [h.1]⟩
theorem Own.same {w w' : World} {B H : Nat} {t : TypeId} {v : Value} {xs : List Value} (h : Own w B H t v xs) (e : w'.heap = w.heap) : Own w' B H t v xs :=
  ⟨own_of_blocks h.1 fun g _ => by rw [e], h.2⟩
/-- the cell at a place, of a slice whose shape is known -/
theorem Own.at_ {w : World} {B H : Nat} {t : TypeId} {ao : Option Addr} {n c : Nat} {xs : List Value} (h : Own w B H t (.slice ao n c) xs) (k : Nat) (hk : k < xs.length) :
    ∃ g, ao = some ⟨g, 0, none⟩ ∧ B ≤ g ∧ g < H ∧ w.cell? ⟨g, k, none⟩ = xs[k]? ∧ w.frozen? ⟨g, k, none⟩ = false := by
  obtain ⟨g, cap, hv, h1, h2, h3, h4⟩ := h.cell k hk
  simp only [Value.slice.injEq] at hv
  exact ⟨g, hv.1, h1, h2, h3, h4⟩

end Go.Proofs.Ytfdalmeimhcdjaa
