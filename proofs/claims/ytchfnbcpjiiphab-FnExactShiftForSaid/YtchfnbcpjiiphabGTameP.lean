/-
  That the functions of a list are tame: by a test.
-/
import Derived.Test.YtchfnbcpjiiphabGStart
namespace Go.Proofs.Ytchfnbcpjiiphab
open Go Go.Conc
theorem results_one {fn : Func} {t : Tmp} (h : fn.results = #[.tmp t]) (tmps : Array Value) : results fn tmps = Sem.pure (tmps.getD t undef) := by unfold results; rw [h, Array.mapM_eq_foldlM]; rfl
theorem results_no {fn : Func} (h : fn.results = #[]) (tmps : Array Value) : results fn tmps = Sem.pure (.tuple #[]) := by unfold results; rw [h, Array.mapM_eq_foldlM]; rfl
def okFn (P : Program) (T : FuncId → Bool) (f : FuncId) : Bool :=
  match P.funcs[f]? with
  | none => false
  | some fn => !(fn.name == "runtime.NumGoroutine") && (match fn.body with | some c => tameCode T c | none => false) &&
    (match fn.results.toList with | [] => true | [.tmp _] => true | _ => false)
def inL (L : List FuncId) (f : FuncId) : Bool := L.any (· == f)
theorem tameP_of {P : Program} (L : List FuncId) (h : L.all (okFn P (inL L)) = true) : TameP P (inL L) := by
  intro f hf
  obtain ⟨f', hm, e⟩ := List.any_eq_true.1 hf
  have e' : f' = f := by simpa using e
  subst e'
  have hk := List.all_eq_true.1 h f' hm
  unfold okFn at hk
  cases hp : P.funcs[f']? with
  | none => rw [hp] at hk; cases hk
  | some fn =>
    rw [hp] at hk
    simp only [Bool.and_eq_true] at hk
    obtain ⟨⟨h1, h2⟩, h3⟩ := hk
    cases hb : fn.body with
    | none => rw [hb] at h2; cases h2
    | some c =>
      rw [hb] at h2
      refine ⟨fn, c, rfl, by simpa using h1, hb, h2, ?_⟩
      generalize hl : fn.results.toList = l at h3
      have hres : fn.results = l.toArray := by rw [← hl]
      match l, h3, hres with
      | [], _, hres => exact ⟨fun _ => .tuple #[], results_no hres⟩
      | [.tmp t], _, hres => exact ⟨fun tmps => tmps.getD t undef, results_one hres⟩
end Go.Proofs.Ytchfnbcpjiiphab
