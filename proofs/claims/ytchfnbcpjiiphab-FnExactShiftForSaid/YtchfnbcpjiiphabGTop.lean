/-
  A contract in the crowd is one good run from the start.
-/
import Derived.Test.YtchfnbcpjiiphabGWpX
namespace Go.Proofs.Ytchfnbcpjiiphab
open Go Go.Conc
section
variable {P : Program}
theorem good_of_callsX {f : FuncId} {args : Array Value} {W : World} {Post : Value → World → Prop} (hi : P.inits.idxOf? f = none) (hPost : ∀ v w w₁, Like w w₁ → Post v w → Post v w₁) (h : CallsX P f args W Post) :
    ∃ M last o w' t', runNT P (M + 1) (solo (G (Frame.enter P f args .normal) []) W) #[] = (.ended o w', t') ∧ runN P M (solo (G (Frame.enter P f args .normal) []) W) = .next last ∧ step P last = .ended o w' ∧ Good P Post last o w' t' := by
  have hb : Bed P (G (Frame.enter P f args .normal) []) #[G (Frame.enter P f args .normal) []] #[] (fun _ => 0) := ⟨rfl, leavers_one P _, 0, past_nil⟩
  obtain ⟨N, gs, g, w, sl, t, q, hr, hb', fr, v, rfl, hv, hp⟩ := h [] W _ none #[] _ (Like.refl W) hb
  obtain ⟨B, hP⟩ := hb'.past
  have hend : ∀ w₁, AtRel w w₁ → AtEnd P (fun _ => False) B Post (G fr []) w₁ := by
    rintro w₁ ⟨d, rfl⟩
    refine ⟨rfl, v, #[], ?_, by simp, hPost v w _ (Like.ona w w.tape d) hp⟩
    obtain ⟨h1, h2, h3, h4, fn, h5, h6⟩ := hv
    have e : (results fn fr.tmps).runT P (w.at d) #[] = (.ok v (w.at d), #[]) := by rw [h6]; rfl
    rw [← h1] at h5 hi
    simp [-Sem.runT_eq, stepG, unwind, G, h2, h3, h4, h5, e, seen_none, GStep.after, doReturn, hi]
  obtain ⟨N', last, o, w', t', e1, e2, e3, e4⟩ := beside_ends (D := fun _ _ _ => False) (fun _ _ _ h => h.elim) (sl := sl) (n := 0) hb'.top hb'.old hP hend
  refine ⟨N + N', last, o, w', t', ?_, ?_, e3, e4⟩
  · rw [Nat.add_assoc, solo_eq_crowd, runNT_add P N (N' + 1) _ _ _ _ hr]
    exact e1
  · have : runN P N (solo (G (Frame.enter P f args .normal) []) W) = .next (crowd gs w sl) := by
      rw [← runNT_fst P N _ #[]]
      exact congrArg Prod.fst hr
    rw [runN_add, this]
    exact e2
end
end Go.Proofs.Ytchfnbcpjiiphab
