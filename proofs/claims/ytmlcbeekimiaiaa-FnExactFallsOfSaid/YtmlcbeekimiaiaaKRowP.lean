/-
  The contracts of the program's functions of rows and of texts, in one form.
-/
import Derived.Test.YtmlcbeekimiaiaaKRowF
import Derived.Test.YtmlcbeekimiaiaaCTriedP
namespace Go.Proofs.Ytmlcbeekimiaiaa
open Go.RowKit

theorem implValidRow_fn : RowFn 11 (vB rowB) := fun l a cv w _ h1 _ h3 _ =>
  (implValidRow_any l a cv w h1 h3).mono fun e w' h => ⟨h.1, by rw [h.2]; exact Below.refl _ _⟩
theorem implHeapWord_fn : RowFn 14 (vT hwO) := fun l a cv w _ h1 _ h3 h4 =>
  (implHeapWord_any l a cv w h1 h3 h4).mono fun e w' h => ⟨h.1, by obtain ⟨_, q, rfl⟩ := h; exact below_drew _ _ _⟩
theorem implFallsOf_fn : RowFn 22 (vI fallsO) := fun l a cv w _ h1 _ h3 _ =>
  (implFallsOf_any l a cv w h1 h3).mono fun e w' h => ⟨h.1, by obtain ⟨_, q, rfl⟩ := h; exact below_drew _ _ _⟩
theorem implHeapsOf_fn : TextFn 16 (vN heapsO) := fun s w h => implHeapsOf_any s w h
theorem implHeapsByHooks_fn : TextFn 18 (vN heapsO) := fun s w h => implHeapsByHooks_any s w h
theorem implHeapsTried_fn : TextFn 20 (vN triedO) := fun s w h => implHeapsTried_any s w h
/-- a function of rows at a row in some call's own memory -/
theorem rowFn_own {f : FuncId} {val : List Int → Value} (h : RowFn f val) (l : List Int) (v : Value) (w : World) {B H : Nat} (hv : Hid (Own w B H 3 v (iv l))) (hH : H ≤ w.heap.size) (hl : l.length ≤ 1048576) :
    Calls Try.prog f #[v] w fun e w' => e = .returned (val l) ∧ Below w.heap.size w w' := by
  obtain ⟨av, cv, rfl, _, hcv, _, _⟩ := hv.out.slice
  rw [iv_length] at hv hcv ⊢
  exact h l av cv w H (Lib.hid (own_rd hv.out)) hH hl hcv
end Go.Proofs.Ytmlcbeekimiaiaa
