/-
  Words on rows in worlds that are alike but for the tape, and in later worlds of whatever tape.
-/
import Derived.Test.YtchfnbcpjiiphaaZW
import Derived.Test.YtchfnbcpjiiphaaZG
import Derived.Test.YtchfnbcpjiiphaaZH
namespace Go.Proofs.Ytchfnbcpjiiphaa
open Go.RowKit

/-- below block number B the world w' is as w was, whatever its tape -/
structure BelowX (B : Nat) (w w' : World) : Prop where
  os : w'.os = w.os
  output : w'.output = w.output
  size : w.heap.size ≤ w'.heap.size
  block : ∀ k, k < B → w'.heap[k]? = w.heap[k]?
section
variable {B H : Nat} {t : TypeId} {v : Value} {xs : List Value} {a b c w w' w₁ : World}
theorem BelowX.refl (B : Nat) (w : World) : BelowX B w w := ⟨rfl, rfl, Nat.le_refl _, fun _ _ => rfl⟩
theorem BelowX.trans (h : BelowX B a b) (k : BelowX B b c) : BelowX B a c := ⟨k.os.trans h.os, k.output.trans h.output, Nat.le_trans h.size k.size, fun i hi => (k.block i hi).trans (h.block i hi)⟩
theorem BelowX.mono {B' : Nat} (h : BelowX B w w') (hB : B' ≤ B) : BelowX B' w w' := ⟨h.os, h.output, h.size, fun k hk => h.block k (Nat.lt_of_lt_of_le hk hB)⟩
theorem below_x (h : Below B w w') : BelowX B w w' := ⟨h.os, h.output, h.size, h.block⟩
theorem like_x (h : Like w w₁) : BelowX B w w₁ := ⟨h.os, h.output, Nat.le_of_eq h.size.symm, fun k _ => by rw [h.heap]⟩
theorem BelowX.like (h : BelowX B w w') (hl : Like w' w₁) : BelowX B w w₁ := h.trans (like_x hl)
theorem Own.x (h : Own w B H t v xs) (hb : BelowX H w w') : Own w' B H t v xs := ⟨own_of_blocks h.1 fun g hg => hb.block g (h.2 g hg), h.2⟩
theorem Own.like (h : Own w B H t v xs) (hl : Like w w₁) : Own w₁ B H t v xs := h.x (like_x hl)
theorem IsRow.x {k : IntKind} {a : Option Addr} {len cap : Nat} {zs : List Int} (h : IsRow k w a len cap zs) (hb : BelowX w.heap.size w w') : IsRow k w' a len cap zs := by
  rcases h with h | ⟨x, h1, h2, h3, h4, h5, h6⟩
  · exact .inl h
  · refine .inr ⟨x, h1, h2, h3, h4, fun i hi => ?_, h6⟩
    have hc := h5 i hi
    exact (World.cell?_of_block (hb.block _ (World.block_lt_of_cell? w _ hc))).trans hc
theorem IsRow.like {k : IntKind} {a : Option Addr} {len cap : Nat} {zs : List Int} (h : IsRow k w a len cap zs) (hl : Like w w₁) : IsRow k w₁ a len cap zs := h.x (like_x hl)
/-- rows that lie one above the other share no block -/
theorem own_apart {B' H' : Nat} {t' : TypeId} {v' : Value} {ys : List Value} (h : Own w B H t v xs) (h' : Own w' B' H' t' v' ys) (hH : H ≤ B') : v.ownBlock = none ∨ v.ownBlock ≠ v'.ownBlock := by
  cases h0 : v.ownBlock with
  | none => exact .inl rfl
  | some g =>
    right
    intro e
    have h2 := h.2 g h0
    have h3 := (h'.1.lt g e.symm).1
    omega
theorem own_apart' {B' H' : Nat} {t' : TypeId} {v' : Value} {ys : List Value} (h : Own w B H t v xs) (h' : Own w' B' H' t' v' ys) (hH : H ≤ B') : v'.ownBlock = none ∨ v'.ownBlock ≠ v.ownBlock := by
  rcases own_apart h h' hH with e | e
  · cases h0 : v'.ownBlock with
    | none => exact .inl rfl
    | some g => right; rw [e]; simp
  · exact .inr (Ne.symm e)
theorem BelowX.grown {row : Option Nat} (h : BelowX B a w) (hg : w.grownBy w' row) (hB : B ≤ w.heap.size) (hr : ∀ k, row = some k → B ≤ k) : BelowX B a w' := h.trans (below_x ((Below.refl B w).grown hg hB hr))
/-- nothing waits below the program's variables; above them there is no step -/
structure SetX (P : Program) (w : World) : Prop where
  set : Settled P w
  far : ∀ g, P.globals.size ≤ g → P.stepOf g = none
  size : P.globals.size ≤ w.heap.size
theorem SetX.x {P : Program} (h : SetX P w) (hb : BelowX w.heap.size w w') : SetX P w' := by
  refine ⟨⟨h.set.1, fun g c t hp => ?_⟩, h.far, Nat.le_trans h.size hb.size⟩
  by_cases hg : P.globals.size ≤ g
  · exact h.far g hg
  · rw [hb.block g (by have := h.size; omega)] at hp
    exact h.set.2 g c t hp
theorem same_like (h : Same w w') : Like w w' := ⟨h.1, h.2.os, h.2.output⟩
theorem SetX.like {P : Program} (h : SetX P w) (hl : Like w w₁) : SetX P w₁ := h.x (like_x hl)
theorem setX_start {P : Program} (hf : P.follows .staticDataAhead = true) (hr : (P.funcs.toList.all fun f => ((f.body.map readies).getD []).all fun g => decide (g < P.globals.size)) = true)
    (hg : ((List.range P.globals.size).all fun g => (P.stepOf g).isNone || (((begin P (fun _ _ => 0) default).world.heap[g]?).bind Obj.row?).isSome) = true) (hw : w.ShapedOpen P) (hs : P.globals.size ≤ w.heap.size) : SetX P w :=
  ⟨settled_start hf hr hg hw, fun _ h => stepOf_far hr h, hs⟩
end
end Go.Proofs.Ytchfnbcpjiiphaa
