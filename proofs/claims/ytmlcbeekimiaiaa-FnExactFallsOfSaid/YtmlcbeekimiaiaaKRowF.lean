/-
  Contracts of functions of rows and of texts, in one form.
-/
import Derived.Test.YtmlcbeekimiaiaaCHeapS
import Derived.Test.YtmlcbeekimiaiaaCTriedS
import Derived.Test.YtmlcbeekimiaiaaCHookS
namespace Go.Proofs.Ytmlcbeekimiaiaa
open Go.RowKit

/-- a function of a row of numbers, by its answer -/
def RowFn (f : FuncId) (val : List Int → Value) : Prop :=
  ∀ (l : List Int) (a : Option Addr) (cv : Nat) (w : World) (H : Nat), Hid (RdI w H a l) → H ≤ w.heap.size → l.length ≤ 1048576 → l.length ≤ cv →
    Calls Try.prog f #[.slice a l.length cv] w fun e w' => e = .returned (val l) ∧ Below w.heap.size w w'
/-- a function of a text, by its answer -/
def TextFn (f : FuncId) (val : List UInt8 → Value) : Prop :=
  ∀ (s : ByteArray) (w : World), s.size ≤ maxLen → Calls Try.prog f #[.string s] w fun e w' => e = .returned (val s.data.toList) ∧ Below w.heap.size w w'
theorem below_drew (B : Nat) (w : World) (n : Nat) : Below B w (w.drewN n) := ⟨rfl, rfl, rfl, Nat.le_refl _, fun _ _ => rfl⟩
def vB (b : List Int → Bool) (l : List Int) : Value := .bool (b l)
def vI (i : List Int → Int) (l : List Int) : Value := .int .i64 (i l)
def vT (t : List Int → ByteArray) (l : List Int) : Value := .string (t l)
def vN (i : List UInt8 → Int) (l : List UInt8) : Value := .int .i64 (i l)
theorem specValidRow_fn : RowFn 9 (vB rowB) := fun l a cv w H h1 _ h3 h4 =>
  (specValidRow_any l a cv w h1 h3 h4).mono fun e w' h => ⟨h.1, by obtain ⟨_, q, rfl⟩ := h; exact below_drew _ _ _⟩
theorem specHeapWord_fn : RowFn 13 (vT hwO) := fun l a cv w H h1 _ h3 h4 =>
  (specHeapWord_any l a cv w h1 h3 h4).mono fun e w' h => ⟨h.1, by obtain ⟨_, q, rfl⟩ := h; exact below_drew _ _ _⟩
theorem specFallsOf_fn : RowFn 21 (vI fallsO) := fun l a cv w H h1 _ h3 h4 =>
  (specFallsOf_any l a cv w h1 h3 h4).mono fun e w' h => ⟨h.1, by obtain ⟨_, q, rfl⟩ := h; exact below_drew _ _ _⟩
theorem specHeapsOf_fn : TextFn 15 (vN heapsO) := fun s w h =>
  (specHeapsOf_any s w h).mono fun e w' h => ⟨h.1, by obtain ⟨_, q, rfl⟩ := h; exact below_drew _ _ _⟩
theorem specHeapsByHooks_fn : TextFn 17 (vN heapsO) := fun s w h => specHeapsByHooks_any s w h
theorem specHeapsTried_fn : TextFn 19 (vN triedO) := fun s w h => specHeapsTried_any s w h
end Go.Proofs.Ytmlcbeekimiaiaa
