/-
  Tame operations: calm, and what they yield is a value, nothing, or a call of a function of the same kind.
-/
import Derived.Test.YtchfnbcpjiiphabGKept
namespace Go.Proofs.Ytchfnbcpjiiphab
open Go
variable {P : Program}

def Yields (P : Program) {α : Type} (Pd : α → Prop) : Sem α → Prop
  | .pure a => Pd a
  | .load _ _ k => ∀ v, Yields P Pd (k v)
  | .store _ _ _ k => Yields P Pd k
  | .new _ k => ∀ r, Yields P Pd (k r)
  | .shape _ k => ∀ s, Yields P Pd (k s)
  | .freeze _ _ k => Yields P Pd k
  | .frozen _ k => ∀ b, Yields P Pd (k b)
  | .getObj _ k => ∀ o, Yields P Pd (k o)
  | .setObj _ _ k => Yields P Pd k
  | .choose _ k => ∀ n, Yields P Pd (k n)
  | .sys _ k => ∀ r, Yields P Pd (k r)
  | .program k => Yields P Pd (k P)
  | .mark _ k => Yields P Pd k
  | .halt _ => True
theorem yields_bind {α β : Type} (Pd : β → Prop) (s : Sem α) (f : α → Sem β) (hf : ∀ a, Yields P Pd (f a)) : Yields P Pd (s.bind f) := by
  induction s with
  | pure a => exact hf a
  | load m a k ih => exact fun v => ih v
  | store m a v k ih => exact ih
  | new o k ih => exact fun r => ih r
  | shape r k ih => exact fun x => ih x
  | freeze a n k ih => exact ih
  | frozen a k ih => exact fun b => ih b
  | getObj r k ih => exact fun o => ih o
  | setObj r o k ih => exact ih
  | choose q k ih => exact fun n => ih n
  | sys c k ih => exact fun n => ih n
  | program k ih => exact ih P
  | mark m k ih => exact ih
  | halt h' => trivial
theorem runT_yields {α : Type} (Pd : α → Prop) : ∀ (s : Sem α), Yields P Pd s → ∀ (w : World) (es : Array Event), ∀ a w', (s.runT P w es).1 = .ok a w' → Pd a := by
  intro s
  induction s with
  | pure a => intro h w es b w' e; injection e with e1 e2; rw [← e1]; exact h
  | halt h' => intro h w es b w' e; cases e
  | load m a k ih =>
    intro h w es b w' e
    unfold Sem.runT at e
    split at e
    · exact ih _ (h _) _ _ _ _ e
    · split at e
      · exact ih _ (h _) _ _ _ _ e
      · cases e
  | store m a v k ih =>
    intro h w es b w' e
    cases v with
    | agg _ => cases e
    | tuple _ => cases e
    | _ =>
      unfold Sem.runT at e
      split at e
      · split at e
        · cases e
        · exact ih h _ _ _ _ e
      · split at e
        · exact ih h _ _ _ _ e
        · cases e
  | new o k ih => exact fun h w es b w' e => ih _ (h _) _ _ _ _ e
  | shape r k ih => exact fun h w es b w' e => ih _ (h _) _ _ _ _ e
  | freeze a n k ih => exact fun h w es b w' e => ih h _ _ _ _ e
  | frozen a k ih => exact fun h w es b w' e => ih _ (h _) _ _ _ _ e
  | getObj r k ih =>
    intro h w es b w' e
    unfold Sem.runT at e
    split at e
    · cases e
    · exact ih _ (h _) _ _ _ _ e
    · cases e
  | setObj r o k ih =>
    intro h w es b w' e
    unfold Sem.runT at e
    split at e
    · cases e
    · exact ih h _ _ _ _ e
    · cases e
  | choose q k ih =>
    intro h w es b w' e
    unfold Sem.runT at e
    split at e
    · exact ih _ (h _) _ _ _ _ e
    · exact ih _ (h _) _ _ _ _ e
  | sys c k ih => exact fun h w es b w' e => ih _ (h _) _ _ _ _ e
  | program k ih => exact fun h w es b w' e => ih P h _ _ _ _ e
  | mark m k ih => exact fun h w es b w' e => ih h _ _ _ _ e

/-- a call of a function of which T says yes, or len, or append -/
def tameCall (T : FuncId → Bool) (c : Call) : Bool :=
  match c.callee with
  | .builtin .len => true
  | .builtin .append => true
  | .value (.func f) => T f
  | _ => false
def tameOp (T : FuncId → Bool) : Op → Bool
  | .move _ => true
  | .assign _ => true
  | .pick _ _ _ => true
  | .buildSlice _ _ _ => true
  | .load _ _ => true
  | .store _ _ _ => true
  | .binOp _ _ _ _ _ => true
  | .makeSlice _ _ _ => true
  | .makeChan _ _ => true
  | .indexAddr _ _ _ => true
  | .extract _ _ => true
  | .unOp .not _ _ => true
  | .call c => tameCall T c
  | _ => false
def NextT (T : FuncId → Bool) : Next → Prop
  | .value _ => True
  | .skip => True
  | .enter f _ => T f = true
  | _ => False
/-- a function that goes alone: it has a body, and is not the one that counts goroutines -/
def Bodied (P : Program) (f : FuncId) : Prop := ∃ fn, P.funcs[f]? = some fn ∧ (fn.name == "runtime.NumGoroutine") = false ∧ fn.body.isNone = false
theorem tame_v (T : FuncId → Bool) (s : Sem Value) (h : Calm P s) : Calm P (do pure (.value (← s)) : Sem Next) ∧ Yields P (NextT T) (do pure (.value (← s)) : Sem Next) :=
  ⟨calm_mbind _ _ h fun _ => trivial, yields_bind _ _ _ fun _ => trivial⟩
theorem tame_u (T : FuncId → Bool) (s : Sem Unit) (h : Calm P s) : Calm P (do s; pure .skip : Sem Next) ∧ Yields P (NextT T) (do s; pure .skip : Sem Next) :=
  ⟨calm_mbind _ _ h fun _ => trivial, yields_bind _ _ _ fun _ => trivial⟩
theorem calm_program_bind {β : Type} (f : Program → Sem β) (h : Calm P (f P)) : Calm P (program >>= f) := h
theorem yields_program_bind {β : Type} (Pd : β → Prop) (f : Program → Sem β) (h : Yields P Pd (f P)) : Yields P Pd (program >>= f) := h
theorem tame_callFunc (T : FuncId → Bool) (hT : ∀ f, T f = true → Bodied P f) (f : FuncId) (hf : T f = true) (args : Array Value) : Calm P (callFunc f args) ∧ Yields P (NextT T) (callFunc f args) := by
  obtain ⟨fn, h1, h2, h3⟩ := hT f hf
  constructor
  · unfold callFunc
    refine calm_program_bind _ ?_
    rw [h1]
    simp only [h2, h3, Bool.false_eq_true, if_false]
    trivial
  · unfold callFunc
    refine yields_program_bind _ _ ?_
    rw [h1]
    simp only [h2, h3, Bool.false_eq_true, if_false]
    exact hf
theorem exec_tame (T : FuncId → Bool) (hT : ∀ f, T f = true → Bodied P f) (ρ : Operand → Value) (hρ : ∀ f, ρ (.func f) = .func (.func f) #[] #[]) (o : Oper) (h : tameOp T o.op = true) :
    Calm P (execOp ρ o) ∧ Yields P (NextT T) (execOp ρ o) := by
  obtain ⟨dst, op, type, pos⟩ := o
  unfold execOp
  cases op <;> first | (cases h; done) | skip
  case move x => exact ⟨trivial, trivial⟩
  case assign x => exact ⟨trivial, trivial⟩
  case pick c a b => exact ⟨calm_mbind _ _ (calm_asBool _) fun _ => trivial, yields_bind _ _ _ fun _ => trivial⟩
  case buildSlice t n ps => exact tame_v T _ (calm_buildSlice _ _ _)
  case load t a => exact tame_v T _ (calm_loadAt _ _)
  case store t a x => exact tame_u T _ (calm_storeAt _ _ _)
  case binOp op t x y u => exact tame_v T _ (calm_mbind _ _ (calm_eqGuard _ _ _ _ _ _) fun _ => calm_binOp _ _ _ _)
  case unOp op t x =>
    cases op <;> first | (cases h; done) | skip
    exact tame_v T _ (calm_not _)
  case makeChan t x => exact tame_v T _ (calm_makeChan _ _)
  case makeSlice t l c => exact tame_v T _ (calm_makeSlice _ _ _)
  case indexAddr t x i => exact tame_v T _ (calm_indexAt _ _ _)
  case extract t i => exact tame_v T _ (calm_extract _ _)
  case call c =>
    obtain ⟨callee, args, ats⟩ := c
    cases callee with
    | builtin b =>
      cases b <;> first | (cases h; done) | skip
      · exact tame_v T _ (calm_append _ _ _)
      · exact tame_v T _ (calm_len _ _ _)
    | invoke r m => cases h
    | value x =>
      cases x with
      | func f =>
        have e : (do let d ← resolve ρ { callee := .value (.func f), args, argTypes := ats } type; invoke d.target d.args : Sem Next) = callFunc f (#[] ++ args.map ρ ++ #[]) := by
          unfold resolve
          dsimp only
          rw [hρ f]
          rfl
        dsimp only
        rw [e]
        exact tame_callFunc T hT f h _
      | tmp t => cases h
      | const v => cases h
      | global g => cases h
end Go.Proofs.Ytchfnbcpjiiphab
