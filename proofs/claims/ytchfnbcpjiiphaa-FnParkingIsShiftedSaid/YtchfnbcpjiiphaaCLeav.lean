/-
  From a contract in the crowd to a claim's row.
-/
import Derived.Test.YtchfnbcpjiiphaaCLike
import Derived.Test.YtchfnbcpjiiphaaZI
import Derived.Test.YtchfnbcpjiiphaaChecked
import Derived.Conc.LeavingOf
import Derived.Conc.Holds
namespace Go.Proofs.Ytchfnbcpjiiphaa
open Go Go.Conc Go.RowKit

/-- a word, and older memory that stays -/
def AnsX (v : Value) (w : World) (v' : Value) (w' : World) : Prop := v' = v ∧ BelowX w.heap.size w w'
theorem ansX_like {v : Value} {w : World} (v' : Value) (w' w₁ : World) (hl : Like w' w₁) (h : AnsX v w v' w') : AnsX v w v' w₁ := ⟨h.1, h.2.like hl⟩
theorem size_start {P : Program} {w : World} (h : decide (P.globals.size < (begin P (fun _ _ => 0) default).world.heap.size) = true) (hw : w.ShapedOpen P) : P.globals.size ≤ w.heap.size := by
  have h' := of_decide_eq_true h
  obtain ⟨o, _, ho, _⟩ := hw.2 ((begin P (fun _ _ => 0) default).world.heap.size - 1) (by omega) (by omega)
  have := (Array.getElem?_eq_some_iff.1 ho).1
  omega
theorem setX_now {w : World} (hw : w.ShapedOpen Try.prog) : SetX Try.prog w :=
  setX_start (by decide +kernel) (by decide +kernel) (by decide +kernel) hw (size_start (by decide +kernel) hw)
theorem below_of_x {B : Nat} {w w' : World} (h : BelowX B w w') : Below B w { w' with tape := w.tape } := ⟨h.os, rfl, h.output, h.size, h.block⟩
theorem kept_x {W W' : World} (h : BelowX W.heap.size W W') (may : MemPlace → Prop) : W.keptBut W' may := by
  have := (below_of_x h).frame may
  unfold World.keptBut at this ⊢
  exact this
section
variable {H : Type} {enc : TypeId × Value → H}
/-- the wrap of a row, of a call that starts goroutines -/
theorem leaving_of_callsX {a : Assume} {C : Checked} {os : Os} {f : FuncId} {fn : Func} {s : ChangeSpec} {conds : List PathCond} {apart fresh handsOn again : Bool}
    (own : ownKnob C.prog.godebug = none) (started : os.Started) (noInit : C.prog.inits.idxOf? f = none) (hfn : C.prog.funcs[f]? = some fn)
    (witness : ∃ (w : World) (tape : Tape) (i : Input), w.os = os ∧ (w.forCall tape i).Shaped C.prog ∧ i.vars = [] ∧ Input.okWide C.prog (w.forCall tape i) .any w.heap.size f i ∧
      s.pre6 enc C.prog fn conds apart (w.forCall tape i).memory i.args ∧ a.holds C.prog (lone (Frame.enter C.prog f i.args .normal) [] (w.forCall tape i)))
    (contract : ∀ (W : World) (base : Nat) (args : Array Value) (ds gs : List (DataW H)) (before : List MemPlace),
      (∀ (j : Nat) t v, fn.params[j]? = some t → args[j]? = some v → Value.okWide C.prog W .any base t v) →
      DataW.Whole enc C.prog fn.params.toList s.vars apart W args.toList ds gs before →
      conds.all (PathCond.test C.prog ⟨fn.params.toList, ds, s.plain.varTypes C.prog, gs⟩) = true →
      (DataW.weightsEach C.prog (fn.params.toList ++ s.plain.varTypes C.prog) (ds ++ gs)).all (· ≤ reachBytes) = true →
      W.ShapedOpen C.prog →
      CallsX C.prog f args W (AnsX (.bool true) W) ∧ ∀ W', BelowX W.heap.size W W' → s.post enc C.prog fn apart fresh handsOn again W args (.bool true) W') :
    ReturnsInLeavingWide a C os f .any (s.pre6 enc C.prog fn conds apart) (s.post enc C.prog fn apart fresh handsOn again) := by
  refine returnsInLeavingWide_of_good own started witness ?_
  intro w tape i _ hsh _ hok hpre _
  obtain ⟨_, _, _, fn', hfn', _, _, _, _, hval⟩ := hok
  have e : fn' = fn := Option.some.inj (hfn'.symm.trans hfn)
  subst e
  obtain ⟨⟨ds, gs, before, hw, hc⟩, hz⟩ := hpre
  have hw' := DataW.Whole.of_heap (w' := w.forCall tape i) (by rfl) hw
  obtain ⟨h1, h2⟩ := contract (w.forCall tape i) w.heap.size i.args ds gs before hval hw' hc (hz.weights hw) hsh
  obtain ⟨M, last, o, w', t', g1, g2, g3, g4⟩ := good_of_callsX noInit ansX_like h1
  exact ⟨M, last, o, w', t', g1, g2, g3, g4.mono fun v ⟨hv, hb⟩ => ChangeSpec.post_blind (by rw [hv]; exact h2 w' hb)⟩
end
end Go.Proofs.Ytchfnbcpjiiphaa
