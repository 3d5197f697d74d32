/-
  A step of a tame frame: it goes on to tame frames, alike at any place of any tape with the same answers and over any callers; or it leaves; or it raises; or the run ends.
-/
import Derived.Test.YtchfnbcpjiiphabGTame
import Derived.Test.YtchfnbcpjiiphabGLow
import Derived.Conc.Own4
namespace Go.Proofs.Ytchfnbcpjiiphab
open Go Go.Conc

def tameCode (T : FuncId → Bool) : Code → Bool
  | .skip => true
  | .ret => true
  | .exit _ => true
  | .seq a b => tameCode T a && tameCode T b
  | .cond _ a b => tameCode T a && tameCode T b
  | .block _ c => tameCode T c
  | .loop c => tameCode T c
  | .region _ ops _ => ops.all fun o => tameOp T o.op
  | _ => false
/-- those of a region's operations that are still to be done -/
def tameRest (T : FuncId → Bool) (ops : Array Oper) (l : List Nat) : Bool := l.all fun i => match ops[i]? with
  | some o => tameOp T o.op
  | none => true
theorem tameRest_all {T : FuncId → Bool} {ops : Array Oper} (h : (ops.all fun o => tameOp T o.op) = true) (l : List Nat) : tameRest T ops l = true := by
  refine List.all_eq_true.2 fun i _ => ?_
  cases ho : ops[i]? with
  | none => rfl
  | some o => exact Array.all_eq_true_iff_forall_mem.1 h o (Array.mem_of_getElem? ho)
theorem tameRest_tail {T : FuncId → Bool} {ops : Array Oper} {i : Nat} {l : List Nat} (h : tameRest T ops (i :: l) = true) : tameRest T ops l = true := by
  unfold tameRest at h ⊢
  rw [List.all_cons, Bool.and_eq_true] at h
  exact h.2
theorem tameRest_head {T : FuncId → Bool} {ops : Array Oper} {i : Nat} {l : List Nat} {o : Oper} (h : tameRest T ops (i :: l) = true) (ho : ops[i]? = some o) : tameOp T o.op = true := by
  unfold tameRest at h
  rw [List.all_cons, Bool.and_eq_true, ho] at h
  exact h.1
def tameItem (T : FuncId → Bool) : Item → Bool
  | .code c => tameCode T c
  | .inBlock _ => true
  | .inLoop c => tameCode T c
  | .inRegion ops l => tameRest T ops l
  | _ => false
structure TameF (T : FuncId → Bool) (fr : Frame) : Prop where
  fn : T fr.fn = true
  todo : ∀ x ∈ fr.todo, tameItem T x = true
  defers : fr.defers = []
  kind : fr.kind = .normal
  round : fr.roundOf = none
/-- the functions of which T says yes are tame -/
def TameP (P : Program) (T : FuncId → Bool) : Prop := ∀ f, T f = true → ∃ fn c, P.funcs[f]? = some fn ∧ (fn.name == "runtime.NumGoroutine") = false ∧ fn.body = some c ∧ tameCode T c = true ∧
  ∃ r : Array Value → Value, ∀ tmps, results fn tmps = Sem.pure (r tmps)
theorem TameP.bodied {P : Program} {T : FuncId → Bool} (h : TameP P T) (f : FuncId) (hf : T f = true) : Bodied P f := by
  obtain ⟨fn, c, h1, h2, h3, _⟩ := h f hf
  exact ⟨fn, h1, h2, by rw [h3]; rfl⟩
/-- nothing waits whose turn a load could bring about -/
def Settled (P : Program) (w : World) : Prop := P.follows .staticDataAhead = true ∧ ∀ (g : Nat) (c : Array Value) (t : TypeId), w.heap[g]? = some (Obj.pending c t) → P.stepOf g = none
theorem Settled.like {P : Program} {w w₁ : World} (h : Settled P w) (hl : Like w w₁) : Settled P w₁ := by
  refine ⟨h.1, fun g c t x => ?_⟩
  rw [hl.heap] at x
  exact h.2 g c t x
theorem Settled.on {P : Program} {w w' : World} (h : Settled P w) (h' : Waits w w') : Settled P w' := ⟨h.1, fun g c t x => h.2 g c t (h' g c t x)⟩
/-- a stack of tame frames -/
structure TameS (T : FuncId → Bool) (fr : Frame) (cs : List Frame) : Prop where
  top : TameF T fr
  mode : fr.mode = .run ∨ fr.mode = .returning
  rest : ∀ f ∈ cs, TameF T f ∧ f.mode = .run
inductive Fate (P : Program) (T : FuncId → Bool) (fr : Frame) (cs : List Frame) (w : World) : Prop
  | goes (k : Nat) (fr' : Frame) (cs' : List Frame) (w' : World) (es : Array Event) (ht : TameS T fr' cs') (hs : Settled P w') (he : ∀ e ∈ es, EvL (fun _ => False) w'.heap.size e) (hz : w.heap.size ≤ w'.heap.size) (hd : w'.drawn = w.drawn + k) (ht' : w'.tape = w.tape)
      (h : ∀ w₁, Like w w₁ → Tells w₁.tape w₁.drawn w k → ∃ w₁', (∀ base main, stepG P main (G fr (cs ++ base)) w₁ = .go (G fr' (cs' ++ base)) w₁' es) ∧ Like w' w₁' ∧ w₁'.tape = w₁.tape ∧ w₁'.drawn = w₁.drawn + k)
  | leaves (hc : cs = []) (hm : fr.mode = .returning)
  | raises (k : Nat) (chain : List PanicEntry) (es : Array Event) (h : ∀ w₁, Like w w₁ → Tells w₁.tape w₁.drawn w k → ∃ w₁', ∀ base main, stepG P main (G fr (cs ++ base)) w₁ = .go (G (fr.raise chain) (cs ++ base)) w₁' es)
  | ends (k : Nat) (h : ∀ w₁, Like w w₁ → Tells w₁.tape w₁.drawn w k → ∀ base main, ∃ o w' es, stepG P main (G fr (cs ++ base)) w₁ = .ended o w' es)
theorem exitTo_mem {id : Nat} : ∀ {k k' : List Item}, exitTo id k = some k' → ∀ x ∈ k', x ∈ k
  | [], k', h => by cases h
  | y :: k, k', h => by
    intro x hx
    cases y with
    | inBlock id' =>
      simp only [exitTo] at h
      split at h
      · injection h with h; rw [h]; exact List.mem_cons_of_mem _ hx
      · exact List.mem_cons_of_mem _ (exitTo_mem h x hx)
    | _ => exact List.mem_cons_of_mem _ (exitTo_mem (by simpa [exitTo] using h) x hx)
theorem tame_finish {T : FuncId → Bool} {fr : Frame} (h : TameF T fr) (hm : fr.mode = .run) (v : Value) : TameF T (fr.finish v) ∧ (fr.finish v).mode = .run := by
  obtain ⟨fn, tmps, todo, defers, mode, kind, round⟩ := fr
  obtain ⟨h1, h2, h3, h4, h5⟩ := h
  cases todo with
  | nil => exact ⟨⟨h1, h2, h3, h4, h5⟩, hm⟩
  | cons x k =>
    have hx := h2 x (List.mem_cons_self ..)
    cases x with
    | inRegion ops l =>
      cases l with
      | nil => exact ⟨⟨h1, h2, h3, h4, h5⟩, hm⟩
      | cons i rest =>
        refine ⟨⟨h1, fun y hy => ?_, h3, h4, h5⟩, hm⟩
        rcases List.mem_cons.1 hy with rfl | hy
        · exact tameRest_tail hx
        · exact h2 y (List.mem_cons_of_mem _ hy)
    | code c => exact ⟨⟨h1, h2, h3, h4, h5⟩, hm⟩
    | inBlock _ => exact ⟨⟨h1, h2, h3, h4, h5⟩, hm⟩
    | inLoop _ => exact ⟨⟨h1, h2, h3, h4, h5⟩, hm⟩
    | _ => cases hx
section
variable {P : Program} {T : FuncId → Bool} {main : Bool} {fr : Frame} {cs : List Frame} {s : Sem Next} {W W' : World} {es : Array Event}
theorem apply_value {v : Value} (hk : fr.kind = .normal) (h : s.runT P W #[] = (.ok (.value v) W', es)) : stepG.apply P true fr cs none s W = .go (G (fr.finish v) cs) W' (seen P fr.fn es) := by
  unfold stepG.apply
  simp [-Sem.runT_eq, h, hk, GStep.after, G]
theorem apply_skip (hk : fr.kind = .normal) (h : s.runT P W #[] = (.ok .skip W', es)) : stepG.apply P true fr cs none s W = .go (G (fr.finish undef) cs) W' (seen P fr.fn es) := by
  unfold stepG.apply
  simp [-Sem.runT_eq, h, hk, GStep.after, G]
theorem apply_enter {f : FuncId} {args : Array Value} {ops : Array Oper} {l : List Nat} {k : List Item} (hk : fr.kind = .normal) (ht : fr.todo = .inRegion ops l :: k) (h : s.runT P W #[] = (.ok (.enter f args) W', es)) :
    stepG.apply P true fr cs none s W = .go (G (Frame.enter P f args .normal) (fr :: cs)) W' (seen P fr.fn es) := by
  unfold stepG.apply
  simp [-Sem.runT_eq, h, hk, ht, GStep.after, G]
theorem apply_panic {v : Value} (hk : fr.kind = .normal) (h : s.runT P W #[] = (.halt (.panic v) W', es)) : stepG.apply P true fr cs none s W = .go (G (fr.raise [{ v, recovered := false }]) cs) W' (seen P fr.fn es) := by
  unfold stepG.apply
  simp [-Sem.runT_eq, h, hk, GStep.after, G]
theorem apply_stuck {x : String} (hk : fr.kind = .normal) (h : s.runT P W #[] = (.halt (.stuck x) W', es)) : ∃ o w' es', stepG.apply P true fr cs none s W = .ended o w' es' := by
  unfold stepG.apply
  simp [-Sem.runT_eq, h, hk, GStep.after]
theorem apply_unsup {u : Unsupported} (hk : fr.kind = .normal) (hu : ∀ g, u ≠ .initOrder g) (h : s.runT P W #[] = (.halt (.unsupported u) W', es)) : ∃ o w' es', stepG.apply P true fr cs none s W = .ended o w' es' := by
  unfold stepG.apply
  cases u <;> first | exact absurd rfl (hu _) | simp [-Sem.runT_eq, h, hk, GStep.after]
theorem apply_early {g : Nat} (hk : fr.kind = .normal) (hf : P.follows .staticDataAhead = true) (hg : P.stepOf g = none) (h : s.runT P W #[] = (.halt (.unsupported (.initOrder g)) W', es)) :
    ∃ o w' es', stepG.apply P true fr cs none s W = .ended o w' es' := by
  unfold stepG.apply
  simp [-Sem.runT_eq, h, hk, GStep.after, early, hf, hg]
theorem tame_enter (hP : TameP P T) {f : FuncId} (hf : T f = true) (args : Array Value) : TameF T (Frame.enter P f args .normal) ∧ (Frame.enter P f args .normal).mode = .run := by
  obtain ⟨fn, c, h1, h2, h3, h4, _⟩ := hP f hf
  refine ⟨⟨hf, fun x hx => ?_, rfl, rfl, rfl⟩, rfl⟩
  simp only [Frame.enter, h1, Option.bind_some, h3, Option.getD_some, List.mem_singleton] at hx
  subst hx
  exact h4
end
end Go.Proofs.Ytchfnbcpjiiphab
