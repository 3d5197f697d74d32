/-
  A calm stretch makes nothing that waits to be initialised, and breaks off mildly, or at what waits.
  Tame operations: calm, and what they yield is a value, nothing, or a call of a function of the same kind.
  What a calm stretch touches lies in the heap that it leaves.
-/
import Derived.Test.YtchfnbcpjiiphaaGCalmB
import Derived.Test.YtchfnbcpjiiphaaGCalmC
import Derived.Conc.Beside
namespace Go.Proofs.Ytchfnbcpjiiphaa
open Go

/-- what waits afterwards has waited before -/
def Waits (w w' : World) : Prop := ∀ (g : Nat) (c : Array Value) (t : TypeId), w'.heap[g]? = some (Obj.pending c t) → w.heap[g]? = some (Obj.pending c t)
theorem Waits.refl (w : World) : Waits w w := fun _ _ _ h => h
theorem Waits.trans {w₁ w₂ w₃ : World} (h : Waits w₁ w₂) (h' : Waits w₂ w₃) : Waits w₁ w₃ := fun g c t x => h g c t (h' g c t x)
theorem waits_set (w w' : World) (b : Nat) (o : Obj) (ho : ∀ c t, o ≠ .pending c t) (h : w'.heap = w.heap.setIfInBounds b o) : Waits w w' := by
  intro g c t hg
  rw [h, Array.getElem?_setIfInBounds] at hg
  split at hg
  · split at hg
    · exact absurd (Option.some.inj hg) (ho c t)
    · cases hg
  · exact hg
theorem waits_push (w w' : World) (o : Obj) (ho : ∀ c t, o ≠ .pending c t) (h : w'.heap = w.heap.push o) : Waits w w' := by
  intro g c t hg
  rw [h, Array.getElem?_push] at hg
  split at hg
  · exact absurd (Option.some.inj hg) (ho c t)
  · exact hg
theorem waits_setCell (w : World) (a : Addr) (v : Value) : Waits w (w.setCell a v) := by
  intro g c t hg
  unfold World.setCell at hg
  dsimp only at hg
  rw [Array.getElem?_modify] at hg
  split at hg
  · cases hw : w.heap[g]? with
    | none => rw [hw] at hg; cases hg
    | some o =>
      rw [hw] at hg
      cases o <;> first | exact hg | (simp only [Option.map_some, Option.some.injEq] at hg; cases hg)
  · exact hg
theorem waits_freeze (w : World) (a : Addr) (n : Nat) : Waits w (w.freeze a n) := by
  intro g c t hg
  unfold World.freeze at hg
  split at hg
  · exact hg
  dsimp only at hg
  rw [Array.getElem?_modify] at hg
  split at hg
  · cases hw : w.heap[g]? with
    | none => rw [hw] at hg; cases hg
    | some o =>
      rw [hw] at hg
      cases o <;> first | exact hg | (simp only [Option.map_some, Option.some.injEq] at hg; cases hg)
  · exact hg
theorem viewStore_heap {P : Program} {w w' : World} {at_ : Addr} {u : TypeId} {a : Addr} {v : Value} {b : Bool} {l : List Addr} (h : w.viewStore P at_ u a v b = .ok (w', l)) : Waits w w' := by
  unfold World.viewStore at h
  cases ht : tight P P.depth u with
  | false => rw [ht] at h; cases h
  | true =>
    simp only [ht, Bool.not_true, Bool.false_eq_true, if_false] at h
    cases hs : w.seen P at_ u a b with
    | error e => rw [hs] at h; cases h
    | ok r =>
      rw [hs] at h
      obtain ⟨c, e, frozen, first, like, cells⟩ := r
      cases hv : v.bytes? with
      | none => rw [hv] at h; cases h
      | some bytes =>
        rw [hv] at h
        dsimp only [bind, Except.bind] at h
        split at h
        · cases h
        · generalize List.foldlM (m := Except String) _ c cells = F at h
          cases F with
          | error e => cases h
          | ok c' =>
            injection h with h
            injection h with h1 h2
            exact waits_set w w' at_.block (.cells c' e frozen) (fun _ _ x => by cases x) (by rw [← h1])
theorem waits_farStore {P : Program} {w w' : World} {a : Addr} {v : Value} {b : Bool} {l : List Addr} (h : w.farStore P a v b = .ok (w', l)) : Waits w w' := by
  unfold World.farStore at h
  split at h
  · rename_i at_ u _
    split at h
    · injection h with h
      rename_i r hr
      subst h
      exact viewStore_heap hr
    · cases h
  · cases h
/-- mildly, or at what waits -/
def Soft (h : Halt) (w : World) : Prop := Mild h ∨ ∃ g c t, h = .unsupported (.initOrder g) ∧ w.heap[g]? = some (.pending c t)
def SoftEnd {α : Type} : Result α → Prop
  | .ok _ _ => True
  | .halt h w => Soft h w
theorem soft_noCell (w : World) (a : Addr) (x : String) : Soft (w.noCell a x) w := by
  unfold World.noCell
  split
  · rename_i c t h
    exact .inr ⟨_, c, t, rfl, h⟩
  · exact .inl fun g h => by cases h
  · exact .inl trivial
theorem soft_farLoad {P : Program} {w : World} {a : Addr} {b : Bool} {h : Halt} (hh : w.farLoad P a b = .error h) : Soft h w := by
  unfold World.farLoad at hh
  split at hh
  · split at hh
    · cases hh
    · injection hh with hh
      rw [← hh]
      exact .inl fun g h => by cases h
  · injection hh with hh
    rw [← hh]
    exact soft_noCell w a _
theorem soft_farStore {P : Program} {w : World} {a : Addr} {v : Value} {b : Bool} {h : Halt} (hh : w.farStore P a v b = .error h) : Soft h w := by
  unfold World.farStore at hh
  split at hh
  · split at hh
    · cases hh
    · injection hh with hh
      rw [← hh]
      exact .inl fun g h => by cases h
  · injection hh with hh
    rw [← hh]
    exact soft_noCell w a _
theorem runT_kept {α : Type} (P : Program) : ∀ (s : Sem α), Calm P s → ∀ (w : World) (es : Array Event), Waits w (worldOf (s.runT P w es).1) ∧ SoftEnd (s.runT P w es).1 := by
  intro s
  induction s with
  | pure a => exact fun _ w es => ⟨Waits.refl w, trivial⟩
  | halt h' => exact fun hC w es => ⟨Waits.refl w, .inl hC⟩
  | load m a k ih =>
    intro hC w es
    unfold Sem.runT
    split
    · exact ih _ (hC _) w _
    · split
      · exact ih _ (hC _) w _
      · rename_i h hh
        exact ⟨Waits.refl w, soft_farLoad hh⟩
  | store m a v k ih =>
    intro hC w es
    cases v with
    | agg _ => exact ⟨Waits.refl w, .inl trivial⟩
    | tuple _ => exact ⟨Waits.refl w, .inl trivial⟩
    | _ =>
      unfold Sem.runT
      split
      · split
        · exact ⟨Waits.refl w, .inl fun g h => by cases h⟩
        · exact ⟨(waits_setCell w a _).trans (ih hC (w.setCell a _) _).1, (ih hC (w.setCell a _) _).2⟩
      · split
        · rename_i w1 l hh
          exact ⟨(waits_farStore hh).trans (ih hC w1 _).1, (ih hC w1 _).2⟩
        · rename_i h hh
          exact ⟨Waits.refl w, soft_farStore hh⟩
  | new o k ih => exact fun hC w es => ⟨(waits_push w { w with heap := w.heap.push o } o hC.1 rfl).trans (ih _ (hC.2 _) _ es).1, (ih _ (hC.2 _) _ es).2⟩
  | shape r k ih => exact fun hC w es => ih _ (hC _) w es
  | freeze a n k ih => exact fun hC w es => ⟨(waits_freeze w a n).trans (ih hC _ es).1, (ih hC _ es).2⟩
  | frozen a k ih => exact fun hC w es => ih _ (hC _) w es
  | getObj r k ih =>
    intro hC w es
    unfold Sem.runT
    split
    · exact ⟨Waits.refl w, .inl trivial⟩
    · exact ih _ (hC.1 _) w _
    · exact ⟨Waits.refl w, .inl trivial⟩
  | setObj r o k ih => exact fun hC => hC.elim
  | choose q k ih =>
    intro hC w es
    unfold Sem.runT
    split
    · exact ih _ (hC _) w es
    · exact ih _ (hC _) { w with drawn := w.drawn + 1 } es
  | sys c k ih => exact fun hC => hC.elim
  | program k ih => exact fun hC w es => ih P hC w es
  | mark m k ih => exact fun hC w es => ih hC.2 w _
end Go.Proofs.Ytchfnbcpjiiphaa

namespace Go.Proofs.Ytchfnbcpjiiphaa
open Go
variable {P : Program}

def Yields (P : Program) {α : Type} (Pd : α → Prop) : Sem α → Prop
  | .pure a => Pd a
  | .load _ _ k => ∀ v, Yields P Pd (k v)
  | .store _ _ _ k => Yields P Pd k
  | .new _ k => ∀ r, Yields P Pd (k r)
  | .shape _ k => ∀ s, Yields P Pd (k s)
  | .freeze _ _ k => Yields P Pd k
  | .frozen _ k => ∀ b, Yields P Pd (k b)
  | .getObj _ k => ∀ o, Yields P Pd (k o)
  | .setObj _ _ k => Yields P Pd k
  | .choose _ k => ∀ n, Yields P Pd (k n)
  | .sys _ k => ∀ r, Yields P Pd (k r)
  | .program k => Yields P Pd (k P)
  | .mark _ k => Yields P Pd k
  | .halt _ => True
theorem yields_bind {α β : Type} (Pd : β → Prop) (s : Sem α) (f : α → Sem β) (hf : ∀ a, Yields P Pd (f a)) : Yields P Pd (s.bind f) := by
  induction s with
  | pure a => exact hf a
  | load m a k ih => exact fun v => ih v
  | store m a v k ih => exact ih
  | new o k ih => exact fun r => ih r
  | shape r k ih => exact fun x => ih x
  | freeze a n k ih => exact ih
  | frozen a k ih => exact fun b => ih b
  | getObj r k ih => exact fun o => ih o
  | setObj r o k ih => exact ih
  | choose q k ih => exact fun n => ih n
  | sys c k ih => exact fun n => ih n
  | program k ih => exact ih P
  | mark m k ih => exact ih
  | halt h' => trivial
theorem runT_yields {α : Type} (Pd : α → Prop) : ∀ (s : Sem α), Yields P Pd s → ∀ (w : World) (es : Array Event), ∀ a w', (s.runT P w es).1 = .ok a w' → Pd a := by
  intro s
  induction s with
  | pure a => intro h w es b w' e; injection e with e1 e2; rw [← e1]; exact h
  | halt h' => intro h w es b w' e; cases e
  | load m a k ih =>
    intro h w es b w' e
    unfold Sem.runT at e
    split at e
    · exact ih _ (h _) _ _ _ _ e
    · split at e
      · exact ih _ (h _) _ _ _ _ e
      · cases e
  | store m a v k ih =>
    intro h w es b w' e
    cases v with
    | agg _ => cases e
    | tuple _ => cases e
    | _ =>
      unfold Sem.runT at e
      split at e
      · split at e
        · cases e
        · exact ih h _ _ _ _ e
      · split at e
        · exact ih h _ _ _ _ e
        · cases e
  | new o k ih => exact fun h w es b w' e => ih _ (h _) _ _ _ _ e
  | shape r k ih => exact fun h w es b w' e => ih _ (h _) _ _ _ _ e
  | freeze a n k ih => exact fun h w es b w' e => ih h _ _ _ _ e
  | frozen a k ih => exact fun h w es b w' e => ih _ (h _) _ _ _ _ e
  | getObj r k ih =>
    intro h w es b w' e
    unfold Sem.runT at e
    split at e
    · cases e
    · exact ih _ (h _) _ _ _ _ e
    · cases e
  | setObj r o k ih =>
    intro h w es b w' e
    unfold Sem.runT at e
    split at e
    · cases e
    · exact ih h _ _ _ _ e
    · cases e
  | choose q k ih =>
    intro h w es b w' e
    unfold Sem.runT at e
    split at e
    · exact ih _ (h _) _ _ _ _ e
    · exact ih _ (h _) _ _ _ _ e
  | sys c k ih => exact fun h w es b w' e => ih _ (h _) _ _ _ _ e
  | program k ih => exact fun h w es b w' e => ih P h _ _ _ _ e
  | mark m k ih => exact fun h w es b w' e => ih h _ _ _ _ e

/-- a call of a function of which T says yes, or len, or append -/
def tameCall (T : FuncId → Bool) (c : Call) : Bool :=
  match c.callee with
  | .builtin .len => true
  | .builtin .append => true
  | .value (.func f) => T f
  | _ => false
def tameOp (T : FuncId → Bool) : Op → Bool
  | .move _ => true
  | .assign _ => true
  | .pick _ _ _ => true
  | .buildSlice _ _ _ => true
  | .load _ _ => true
  | .store _ _ _ => true
  | .binOp _ _ _ _ _ => true
  | .makeSlice _ _ _ => true
  | .makeChan _ _ => true
  | .indexAddr _ _ _ => true
  | .extract _ _ => true
  | .unOp .not _ _ => true
  | .call c => tameCall T c
  | .nilCheck _ => true
  | .convert _ _ _ => true
  | .slice _ _ _ _ _ => true
  | .fieldAddr _ _ _ => true
  | .field _ _ _ => true
  | .index _ _ _ => true
  | .box _ _ => true
  | .build _ _ => true
  | _ => false
def NextT (T : FuncId → Bool) : Next → Prop
  | .value _ => True
  | .skip => True
  | .enter f _ => T f = true
  | _ => False
/-- a function that goes alone: it has a body, and is not the one that counts goroutines -/
def Bodied (P : Program) (f : FuncId) : Prop := ∃ fn, P.funcs[f]? = some fn ∧ (fn.name == "runtime.NumGoroutine") = false ∧ fn.body.isNone = false
theorem tame_v (T : FuncId → Bool) (s : Sem Value) (h : Calm P s) : Calm P (do pure (.value (← s)) : Sem Next) ∧ Yields P (NextT T) (do pure (.value (← s)) : Sem Next) :=
  ⟨calm_mbind _ _ h fun _ => trivial, yields_bind _ _ _ fun _ => trivial⟩
theorem tame_u (T : FuncId → Bool) (s : Sem Unit) (h : Calm P s) : Calm P (do s; pure .skip : Sem Next) ∧ Yields P (NextT T) (do s; pure .skip : Sem Next) :=
  ⟨calm_mbind _ _ h fun _ => trivial, yields_bind _ _ _ fun _ => trivial⟩
theorem calm_program_bind {β : Type} (f : Program → Sem β) (h : Calm P (f P)) : Calm P (program >>= f) := h
theorem yields_program_bind {β : Type} (Pd : β → Prop) (f : Program → Sem β) (h : Yields P Pd (f P)) : Yields P Pd (program >>= f) := h
theorem tame_callFunc (T : FuncId → Bool) (hT : ∀ f, T f = true → Bodied P f) (f : FuncId) (hf : T f = true) (args : Array Value) : Calm P (callFunc f args) ∧ Yields P (NextT T) (callFunc f args) := by
  obtain ⟨fn, h1, h2, h3⟩ := hT f hf
  constructor
  · unfold callFunc
    refine calm_program_bind _ ?_
    rw [h1]
    simp only [h2, h3, Bool.false_eq_true, if_false]
    trivial
  · unfold callFunc
    refine yields_program_bind _ _ ?_
    rw [h1]
    simp only [h2, h3, Bool.false_eq_true, if_false]
    exact hf
/-- the nil check of a value -/
def nilChecked (v : Value) : Sem Next :=
  execOp (fun _ => v) { dst := none, op := .nilCheck (.tmp 0), type := 0, pos := "", after := #[], guard := none }
theorem tame_nil (T : FuncId → Bool) (v : Value) : Calm P (nilChecked v) ∧ Yields P (NextT T) (nilChecked v) := by
  unfold nilChecked execOp
  dsimp only
  constructor
  · split
    · exact calm_runtimePanic _
    · exact calm_runtimePanic _
    · exact calm_runtimePanic _
    · split
      · exact calm_runtimePanic _
      · refine calm_mbind _ _ calm_program fun _ => calm_mbind _ _ (calm_nilAhead _ _ _ _) fun _ => ?_
        split
        · exact calm_mbind _ _ (calm_unsupported _ (fun _ h => by cases h)) fun _ => calm_pure _
        · exact calm_pure _
      · exact calm_pure _
    · exact calm_pure _
  · split
    · trivial
    · trivial
    · trivial
    · split
      · trivial
      · refine yields_bind _ _ _ fun _ => yields_bind _ _ _ fun _ => ?_
        split
        · trivial
        · trivial
      · trivial
    · trivial
theorem exec_tame (T : FuncId → Bool) (hT : ∀ f, T f = true → Bodied P f) (ρ : Operand → Value) (hρ : ∀ f, ρ (.func f) = .func (.func f) #[] #[]) (o : Oper) (h : tameOp T o.op = true) :
    Calm P (execOp ρ o) ∧ Yields P (NextT T) (execOp ρ o) := by
  obtain ⟨dst, op, type, pos⟩ := o
  unfold execOp
  cases op <;> first | (cases h; done) | skip
  case move x => exact ⟨trivial, trivial⟩
  case assign x => exact ⟨trivial, trivial⟩
  case pick c a b => exact ⟨calm_mbind _ _ (calm_asBool _) fun _ => trivial, yields_bind _ _ _ fun _ => trivial⟩
  case buildSlice t n ps => exact tame_v T _ (calm_buildSlice _ _ _)
  case load t a => exact tame_v T _ (calm_loadAt _ _)
  case store t a x => exact tame_u T _ (calm_storeAt _ _ _)
  case binOp op t x y u => exact tame_v T _ (calm_mbind _ _ (calm_eqGuard _ _ _ _ _ _) fun _ => calm_binOp _ _ _ _)
  case unOp op t x =>
    cases op <;> first | (cases h; done) | skip
    exact tame_v T _ (calm_not _)
  case makeChan t x => exact tame_v T _ (calm_makeChan _ _)
  case makeSlice t l c => exact tame_v T _ (calm_makeSlice _ _ _)
  case indexAddr t x i => exact tame_v T _ (calm_indexAt _ _ _)
  case extract t i => exact tame_v T _ (calm_extract _ _)
  case convert s t x => exact tame_v T _ (calm_convert _ _ _)
  case slice t x l h m => exact tame_v T _ (calm_sliceAt _ _ _ _ _)
  case fieldAddr s x f => exact tame_v T _ (calm_fieldAt _ _ _)
  case field s x f => exact tame_v T _ (calm_field _ _ _)
  case index s x f => exact tame_v T _ (calm_index _ _ _)
  case box t x => exact tame_v T _ (calm_box _ _)
  case build t ps => exact tame_v T _ (calm_build _ _)
  case nilCheck x => exact tame_nil T _
  case call c =>
    obtain ⟨callee, args, ats⟩ := c
    cases callee with
    | builtin b =>
      cases b <;> first | (cases h; done) | skip
      · exact tame_v T _ (calm_append _ _ _)
      · exact tame_v T _ (calm_len _ _ _)
    | invoke r m => cases h
    | value x =>
      cases x with
      | func f =>
        have e : (do let d ← resolve ρ { callee := .value (.func f), args, argTypes := ats } type; invoke d.target d.args : Sem Next) = callFunc f (#[] ++ args.map ρ ++ #[]) := by
          unfold resolve
          dsimp only
          rw [hρ f]
          rfl
        dsimp only
        rw [e]
        exact tame_callFunc T hT f h _
      | tmp t => cases h
      | const v => cases h
      | global g => cases h
end Go.Proofs.Ytchfnbcpjiiphaa

namespace Go.Proofs.Ytchfnbcpjiiphaa
open Go Go.Conc

theorem seen_in {P : Program} {w : World} {at_ : Addr} {u : TypeId} {a : Addr} {b : Bool} {r : Array Value × TypeId × (Nat × Nat) × Nat × Value × List (Nat × Nat × List UInt8)} (h : w.seen P at_ u a b = .ok r) : at_.block < w.heap.size := by
  refine Nat.lt_of_not_le fun hle => ?_
  have hn : w.heap[at_.block]? = none := by simp [hle]
  unfold World.seen at h
  simp only [hn, bind, Except.bind] at h
  repeat' split at h
  all_goals first | cases h | contradiction
theorem farLoad_low {P : Program} {w : World} {a : Addr} {b : Bool} {v : Value} {l : List Addr} (h : w.farLoad P a b = .ok (v, l)) : ∀ x ∈ l, x.block < w.heap.size := by
  unfold World.farLoad at h
  split at h
  · rename_i at_ u _
    split at h
    · rename_i r hv
      injection h with h
      subst h
      unfold World.viewLoad at hv
      cases hs : w.seen P at_ u a b with
      | error e => rw [hs] at hv; cases hv
      | ok r =>
        have hin := seen_in hs
        rw [hs] at hv
        obtain ⟨c, e, frozen, first, like, cells⟩ := r
        dsimp only [bind, Except.bind] at hv
        split at hv
        · injection hv with hv
          injection hv with _ h2
          rw [← h2]
          intro x hx
          obtain ⟨y, _, rfl⟩ := List.mem_map.1 hx
          exact hin
        · cases hv
    · cases h
  · cases h
theorem viewStore_low {P : Program} {w w' : World} {at_ : Addr} {u : TypeId} {a : Addr} {v : Value} {b : Bool} {l : List Addr} (h : w.viewStore P at_ u a v b = .ok (w', l)) : w'.heap.size = w.heap.size ∧ ∀ x ∈ l, x.block < w.heap.size := by
  unfold World.viewStore at h
  cases ht : tight P P.depth u with
  | false => rw [ht] at h; cases h
  | true =>
    simp only [ht, Bool.not_true, Bool.false_eq_true, if_false] at h
    cases hs : w.seen P at_ u a b with
    | error e => rw [hs] at h; cases h
    | ok r =>
      have hin := seen_in hs
      rw [hs] at h
      obtain ⟨c, e, frozen, first, like, cells⟩ := r
      cases hv : v.bytes? with
      | none => rw [hv] at h; cases h
      | some bytes =>
        rw [hv] at h
        dsimp only [bind, Except.bind] at h
        split at h
        · cases h
        · generalize List.foldlM (m := Except String) _ c cells = F at h
          cases F with
          | error e => cases h
          | ok c' =>
            injection h with h
            injection h with h1 h2
            refine ⟨by rw [← h1]; simp, ?_⟩
            rw [← h2]
            intro x hx
            obtain ⟨y, _, rfl⟩ := List.mem_map.1 hx
            exact hin
theorem farStore_low {P : Program} {w w' : World} {a : Addr} {v : Value} {b : Bool} {l : List Addr} (h : w.farStore P a v b = .ok (w', l)) : w'.heap.size = w.heap.size ∧ ∀ x ∈ l, x.block < w.heap.size := by
  unfold World.farStore at h
  split at h
  · split at h
    · injection h with h
      rename_i r hr
      subst h
      exact viewStore_low hr
    · cases h
  · cases h
theorem cell_in {w : World} {a : Addr} {v : Value} (h : w.cell? a = some v) : a.block < w.heap.size := by
  refine Nat.lt_of_not_le fun hle => ?_
  have hn : w.heap[a.block]? = none := by simp [hle]
  unfold World.cell? at h
  rw [hn] at h
  cases h
theorem runT_low {α : Type} (P : Program) : ∀ (s : Sem α), Calm P s → ∀ (w : World) (es : Array Event), w.heap.size ≤ (worldOf (s.runT P w es).1).heap.size ∧
    ((∀ e ∈ es, (MemAct.ofEvent e).low w.heap.size) → ∀ e ∈ (s.runT P w es).2, (MemAct.ofEvent e).low (worldOf (s.runT P w es).1).heap.size) := by
  intro s
  have push : ∀ {es : Array Event} {e : Event} {B : Nat}, (∀ e ∈ es, (MemAct.ofEvent e).low B) → (MemAct.ofEvent e).low B → ∀ x ∈ es.push e, (MemAct.ofEvent x).low B := fun h1 h2 x hx => by
    rcases Array.mem_push.1 hx with h | h
    · exact h1 x h
    · rw [h]; exact h2
  have app : ∀ {es : Array Event} {l : List Addr} {b c : Bool} {B : Nat}, (∀ e ∈ es, (MemAct.ofEvent e).low B) → (∀ x ∈ l, x.block < B) → ∀ x ∈ es ++ l.toArray.map (⟨.cell ·, b, c⟩), (MemAct.ofEvent x).low B := fun h1 h2 x hx => by
    rcases Array.mem_append.1 hx with h | h
    · exact h1 x h
    · obtain ⟨a, ha, rfl⟩ := Array.mem_map.1 h
      exact h2 a (by simpa using ha)
  have objL : ∀ (r : Nat) (b c : Bool) (B : Nat), r < B → (MemAct.ofEvent ⟨.obj r, b, c⟩).low B := fun r b c B h => by
    cases b <;> cases c <;> exact h
  induction s with
  | pure a => exact fun _ w es => ⟨Nat.le_refl _, fun h => h⟩
  | halt h' => exact fun _ w es => ⟨Nat.le_refl _, fun h => h⟩
  | load m a k ih =>
    intro hC w es
    unfold Sem.runT
    split
    · rename_i v hv
      exact ⟨(ih _ (hC _) w _).1, fun h => (ih _ (hC _) w _).2 (push h (cell_in hv))⟩
    · split
      · rename_i v l hv
        exact ⟨(ih _ (hC _) w _).1, fun h => (ih _ (hC _) w _).2 (app h (farLoad_low hv))⟩
      · exact ⟨Nat.le_refl _, fun h => h⟩
  | store m a v k ih =>
    intro hC w es
    cases v with
    | agg _ => exact ⟨Nat.le_refl _, fun h => h⟩
    | tuple _ => exact ⟨Nat.le_refl _, fun h => h⟩
    | _ =>
      unfold Sem.runT
      split
      · rename_i hv
        split
        · exact ⟨Nat.le_refl _, fun h => h⟩
        · have hsz : ∀ u, (w.setCell a u).heap.size = w.heap.size := fun u => by unfold World.setCell; simp
          exact ⟨Nat.le_trans (Nat.le_of_eq (hsz _).symm) (ih hC _ _).1, fun h => (ih hC _ _).2 (by rw [hsz]; exact push h (cell_in hv))⟩
      · split
        · rename_i w1 l hh
          obtain ⟨hsz, hl⟩ := farStore_low hh
          obtain ⟨h1, h2⟩ := ih hC w1 (es ++ l.toArray.map (⟨.cell ·, true, m == .atomic⟩))
          exact ⟨Nat.le_trans (Nat.le_of_eq hsz.symm) h1, fun h => h2 (by rw [hsz]; exact app h hl)⟩
        · exact ⟨Nat.le_refl _, fun h => h⟩
  | new o k ih =>
    intro hC w es
    have hsz : ({ w with heap := w.heap.push o } : World).heap.size = w.heap.size + 1 := by simp
    obtain ⟨h1, h2⟩ := ih w.heap.size (hC.2 _) { w with heap := w.heap.push o } es
    exact ⟨by have := h1; rw [hsz] at this; exact Nat.le_of_succ_le this, fun h => h2 fun e he => MemAct.low_mono (by rw [hsz]; omega) (h e he)⟩
  | shape r k ih => exact fun hC w es => ih _ (hC _) w es
  | freeze a n k ih =>
    intro hC w es
    have hsz : (w.freeze a n).heap.size = w.heap.size := by unfold World.freeze; split <;> simp
    obtain ⟨h1, h2⟩ := ih hC (w.freeze a n) es
    exact ⟨Nat.le_trans (Nat.le_of_eq hsz.symm) h1, fun h => h2 (by rw [hsz]; exact h)⟩
  | frozen a k ih => exact fun hC w es => ih _ (hC _) w es
  | getObj r k ih =>
    intro hC w es
    unfold Sem.runT
    split
    · exact ⟨Nat.le_refl _, fun h => h⟩
    · rename_i o ho
      have hin : r < w.heap.size := (Array.getElem?_eq_some_iff.1 ho).1
      exact ⟨(ih _ (hC.1 _) w _).1, fun h => (ih _ (hC.1 _) w _).2 (push h (objL r _ _ _ hin))⟩
    · exact ⟨Nat.le_refl _, fun h => h⟩
  | setObj r o k ih => exact fun hC => hC.elim
  | choose q k ih =>
    intro hC w es
    unfold Sem.runT
    split
    · exact ih _ (hC _) w es
    · exact ih _ (hC _) { w with drawn := w.drawn + 1 } es
  | sys c k ih => exact fun hC => hC.elim
  | program k ih => exact fun hC w es => ih P hC w es
  | mark m k ih =>
    intro hC w es
    obtain ⟨h1, h2⟩ := ih hC.2 w (es.push ⟨.mark m, false, true⟩)
    exact ⟨h1, fun h => h2 (push h (by rw [hC.1]; trivial))⟩
/-- what a stretch lists, as the walk beside leavers asks it -/
theorem runT_evL {α : Type} (P : Program) (s : Sem α) (hC : Calm P s) (w : World) (fn : FuncId) : ∀ e ∈ seen P fn (s.runT P w #[]).2, EvL (fun _ => False) (worldOf (s.runT P w #[]).1).heap.size e := by
  intro e he
  have h1 := runT_calm P s hC w #[] (by simp) e (mem_seen he)
  have h2 := (runT_low P s hC w #[]).2 (by simp) e (mem_seen he)
  refine ⟨fun _ _ h => h.elim, fun h => ?_, fun h => ?_, h2⟩
  · cases h1.1 _ h
  · cases h1.1 _ h
end Go.Proofs.Ytchfnbcpjiiphaa
