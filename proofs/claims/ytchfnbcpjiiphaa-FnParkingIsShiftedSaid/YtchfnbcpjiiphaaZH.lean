/-
  A step of a tame frame: it goes on to tame frames, alike at any place of any tape with the same answers and over any callers; or it leaves; or it raises; or the run ends.
  Every step of a stack of tame frames has one of the four fates.
  A call that comes back when alone, whatever the tape, comes back by steps that hang on no place of a tape and on no callers: the tree of its steps, over all answers, is well-founded.
  From the lone calls, whatever the tape, to the tree of steps.
  A well-founded tree of steps is carried out beside goroutines that only leave, on whatever tape.
  Calls in a crowd of leavers: of a lone contract, whatever the tape, one for the crowd.
  Code in a crowd of leavers, goroutine 0's: by what follows, with no counts of steps.
  A contract in the crowd is one good run from the start.
  At a claim's start nothing waits whose turn a load could bring about.
  That the functions of a list are tame: by a test.
-/
import Derived.Test.YtchfnbcpjiiphaaZT
import Derived.Conc.Own4
import Derived.Conc.Walk
namespace Go.Proofs.Ytchfnbcpjiiphaa
open Go Go.Conc

def tameCode (T : FuncId → Bool) : Code → Bool
  | .skip => true
  | .ret => true
  | .exit _ => true
  | .seq a b => tameCode T a && tameCode T b
  | .cond _ a b => tameCode T a && tameCode T b
  | .block _ c => tameCode T c
  | .loop c => tameCode T c
  | .region _ ops _ => ops.all fun o => tameOp T o.op
  | _ => false
/-- those of a region's operations that are still to be done -/
def tameRest (T : FuncId → Bool) (ops : Array Oper) (l : List Nat) : Bool := l.all fun i => match ops[i]? with
  | some o => tameOp T o.op
  | none => true
theorem tameRest_all {T : FuncId → Bool} {ops : Array Oper} (h : (ops.all fun o => tameOp T o.op) = true) (l : List Nat) : tameRest T ops l = true := by
  refine List.all_eq_true.2 fun i _ => ?_
  cases ho : ops[i]? with
  | none => rfl
  | some o => exact Array.all_eq_true_iff_forall_mem.1 h o (Array.mem_of_getElem? ho)
theorem tameRest_tail {T : FuncId → Bool} {ops : Array Oper} {i : Nat} {l : List Nat} (h : tameRest T ops (i :: l) = true) : tameRest T ops l = true := by
  unfold tameRest at h ⊢
  rw [List.all_cons, Bool.and_eq_true] at h
  exact h.2
theorem tameRest_head {T : FuncId → Bool} {ops : Array Oper} {i : Nat} {l : List Nat} {o : Oper} (h : tameRest T ops (i :: l) = true) (ho : ops[i]? = some o) : tameOp T o.op = true := by
  unfold tameRest at h
  rw [List.all_cons, Bool.and_eq_true, ho] at h
  exact h.1
def tameItem (T : FuncId → Bool) : Item → Bool
  | .code c => tameCode T c
  | .inBlock _ => true
  | .inLoop c => tameCode T c
  | .inRegion ops l => tameRest T ops l
  | _ => false
structure TameF (T : FuncId → Bool) (fr : Frame) : Prop where
  fn : T fr.fn = true
  todo : ∀ x ∈ fr.todo, tameItem T x = true
  defers : fr.defers = []
  kind : fr.kind = .normal
  round : fr.roundOf = none
/-- the functions of which T says yes are tame -/
def TameP (P : Program) (T : FuncId → Bool) : Prop := ∀ f, T f = true → ∃ fn c, P.funcs[f]? = some fn ∧ (fn.name == "runtime.NumGoroutine") = false ∧ fn.body = some c ∧ tameCode T c = true ∧
  ∃ r : Array Value → Value, ∀ tmps, results fn tmps = Sem.pure (r tmps)
theorem TameP.bodied {P : Program} {T : FuncId → Bool} (h : TameP P T) (f : FuncId) (hf : T f = true) : Bodied P f := by
  obtain ⟨fn, c, h1, h2, h3, _⟩ := h f hf
  exact ⟨fn, h1, h2, by rw [h3]; rfl⟩
/-- nothing waits whose turn a load could bring about -/
def Settled (P : Program) (w : World) : Prop := P.follows .staticDataAhead = true ∧ ∀ (g : Nat) (c : Array Value) (t : TypeId), w.heap[g]? = some (Obj.pending c t) → P.stepOf g = none
theorem Settled.like {P : Program} {w w₁ : World} (h : Settled P w) (hl : Like w w₁) : Settled P w₁ := by
  refine ⟨h.1, fun g c t x => ?_⟩
  rw [hl.heap] at x
  exact h.2 g c t x
theorem Settled.on {P : Program} {w w' : World} (h : Settled P w) (h' : Waits w w') : Settled P w' := ⟨h.1, fun g c t x => h.2 g c t (h' g c t x)⟩
/-- a stack of tame frames -/
structure TameS (T : FuncId → Bool) (fr : Frame) (cs : List Frame) : Prop where
  top : TameF T fr
  mode : fr.mode = .run ∨ fr.mode = .returning
  rest : ∀ f ∈ cs, TameF T f ∧ f.mode = .run
inductive Fate (P : Program) (T : FuncId → Bool) (fr : Frame) (cs : List Frame) (w : World) : Prop
  | goes (k : Nat) (fr' : Frame) (cs' : List Frame) (w' : World) (es : Array Event) (ht : TameS T fr' cs') (hs : Settled P w') (he : ∀ e ∈ es, EvL (fun _ => False) w'.heap.size e) (hz : w.heap.size ≤ w'.heap.size) (hd : w'.drawn = w.drawn + k) (ht' : w'.tape = w.tape)
      (h : ∀ w₁, Like w w₁ → Tells w₁.tape w₁.drawn w k → ∃ w₁', (∀ base main, stepG P main (G fr (cs ++ base)) w₁ = .go (G fr' (cs' ++ base)) w₁' es) ∧ Like w' w₁' ∧ w₁'.tape = w₁.tape ∧ w₁'.drawn = w₁.drawn + k)
  | leaves (hc : cs = []) (hm : fr.mode = .returning)
  | raises (k : Nat) (chain : List PanicEntry) (es : Array Event) (h : ∀ w₁, Like w w₁ → Tells w₁.tape w₁.drawn w k → ∃ w₁', ∀ base main, stepG P main (G fr (cs ++ base)) w₁ = .go (G (fr.raise chain) (cs ++ base)) w₁' es)
  | ends (k : Nat) (h : ∀ w₁, Like w w₁ → Tells w₁.tape w₁.drawn w k → ∀ base main, ∃ o w' es, stepG P main (G fr (cs ++ base)) w₁ = .ended o w' es)
theorem exitTo_mem {id : Nat} : ∀ {k k' : List Item}, exitTo id k = some k' → ∀ x ∈ k', x ∈ k
  | [], k', h => by cases h
  | y :: k, k', h => by
    intro x hx
    cases y with
    | inBlock id' =>
      simp only [exitTo] at h
      split at h
      · injection h with h; rw [h]; exact List.mem_cons_of_mem _ hx
      · exact List.mem_cons_of_mem _ (exitTo_mem h x hx)
    | _ => exact List.mem_cons_of_mem _ (exitTo_mem (by simpa [exitTo] using h) x hx)
theorem tame_finish {T : FuncId → Bool} {fr : Frame} (h : TameF T fr) (hm : fr.mode = .run) (v : Value) : TameF T (fr.finish v) ∧ (fr.finish v).mode = .run := by
  obtain ⟨fn, tmps, todo, defers, mode, kind, round⟩ := fr
  obtain ⟨h1, h2, h3, h4, h5⟩ := h
  cases todo with
  | nil => exact ⟨⟨h1, h2, h3, h4, h5⟩, hm⟩
  | cons x k =>
    have hx := h2 x (List.mem_cons_self ..)
    cases x with
    | inRegion ops l =>
      cases l with
      | nil => exact ⟨⟨h1, h2, h3, h4, h5⟩, hm⟩
      | cons i rest =>
        refine ⟨⟨h1, fun y hy => ?_, h3, h4, h5⟩, hm⟩
        rcases List.mem_cons.1 hy with rfl | hy
        · exact tameRest_tail hx
        · exact h2 y (List.mem_cons_of_mem _ hy)
    | code c => exact ⟨⟨h1, h2, h3, h4, h5⟩, hm⟩
    | inBlock _ => exact ⟨⟨h1, h2, h3, h4, h5⟩, hm⟩
    | inLoop _ => exact ⟨⟨h1, h2, h3, h4, h5⟩, hm⟩
    | _ => cases hx
section
variable {P : Program} {T : FuncId → Bool} {main : Bool} {fr : Frame} {cs : List Frame} {s : Sem Next} {W W' : World} {es : Array Event}
theorem apply_value {v : Value} (hk : fr.kind = .normal) (h : s.runT P W #[] = (.ok (.value v) W', es)) : stepG.apply P true fr cs none s W = .go (G (fr.finish v) cs) W' (seen P fr.fn es) := by
  unfold stepG.apply
  simp [-Sem.runT_eq, h, hk, GStep.after, G]
theorem apply_skip (hk : fr.kind = .normal) (h : s.runT P W #[] = (.ok .skip W', es)) : stepG.apply P true fr cs none s W = .go (G (fr.finish undef) cs) W' (seen P fr.fn es) := by
  unfold stepG.apply
  simp [-Sem.runT_eq, h, hk, GStep.after, G]
theorem apply_enter {f : FuncId} {args : Array Value} {ops : Array Oper} {l : List Nat} {k : List Item} (hk : fr.kind = .normal) (ht : fr.todo = .inRegion ops l :: k) (h : s.runT P W #[] = (.ok (.enter f args) W', es)) :
    stepG.apply P true fr cs none s W = .go (G (Frame.enter P f args .normal) (fr :: cs)) W' (seen P fr.fn es) := by
  unfold stepG.apply
  simp [-Sem.runT_eq, h, hk, ht, GStep.after, G]
theorem apply_panic {v : Value} (hk : fr.kind = .normal) (h : s.runT P W #[] = (.halt (.panic v) W', es)) : stepG.apply P true fr cs none s W = .go (G (fr.raise [{ v, recovered := false }]) cs) W' (seen P fr.fn es) := by
  unfold stepG.apply
  simp [-Sem.runT_eq, h, hk, GStep.after, G]
theorem apply_stuck {x : String} (hk : fr.kind = .normal) (h : s.runT P W #[] = (.halt (.stuck x) W', es)) : ∃ o w' es', stepG.apply P true fr cs none s W = .ended o w' es' := by
  unfold stepG.apply
  simp [-Sem.runT_eq, h, hk, GStep.after]
theorem apply_unsup {u : Unsupported} (hk : fr.kind = .normal) (hu : ∀ g, u ≠ .initOrder g) (h : s.runT P W #[] = (.halt (.unsupported u) W', es)) : ∃ o w' es', stepG.apply P true fr cs none s W = .ended o w' es' := by
  unfold stepG.apply
  cases u <;> first | exact absurd rfl (hu _) | simp [-Sem.runT_eq, h, hk, GStep.after]
theorem apply_early {g : Nat} (hk : fr.kind = .normal) (hf : P.follows .staticDataAhead = true) (hg : P.stepOf g = none) (h : s.runT P W #[] = (.halt (.unsupported (.initOrder g)) W', es)) :
    ∃ o w' es', stepG.apply P true fr cs none s W = .ended o w' es' := by
  unfold stepG.apply
  simp [-Sem.runT_eq, h, hk, GStep.after, early, hf, hg]
theorem tame_enter (hP : TameP P T) {f : FuncId} (hf : T f = true) (args : Array Value) : TameF T (Frame.enter P f args .normal) ∧ (Frame.enter P f args .normal).mode = .run := by
  obtain ⟨fn, c, h1, h2, h3, h4, _⟩ := hP f hf
  refine ⟨⟨hf, fun x hx => ?_, rfl, rfl, rfl⟩, rfl⟩
  simp only [Frame.enter, h1, Option.bind_some, h3, Option.getD_some, List.mem_singleton] at hx
  subst hx
  exact h4
end
end Go.Proofs.Ytchfnbcpjiiphaa

namespace Go.Proofs.Ytchfnbcpjiiphaa
open Go Go.Conc
section
variable {P : Program} {T : FuncId → Bool} {fr : Frame} {cs : List Frame} {w : World}
theorem fate_quiet {fr' : Frame} (h : ∀ base main W, stepG P main (G fr (cs ++ base)) W = .go (G fr' (cs ++ base)) W) (ht : TameF T fr') (hm : fr'.mode = .run ∨ fr'.mode = .returning) (hcs : ∀ f ∈ cs, TameF T f ∧ f.mode = .run)
    (hs : Settled P w) : Fate P T fr cs w :=
  .goes 0 fr' cs w #[] ⟨ht, hm, hcs⟩ hs (by simp) (Nat.le_refl _) rfl rfl (fun w₁ hl _ => ⟨w₁, fun base main => h base main w₁, hl, rfl, rfl⟩)
theorem fate_op (hP : TameP P T) (hs : Settled P w) (hf : TameF T fr) (hm : fr.mode = .run) (hcs : ∀ f ∈ cs, TameF T f ∧ f.mode = .run) {ops : Array Oper} {l : List Nat} {k : List Item} (ht : fr.todo = .inRegion ops l :: k) (s : Sem Next)
    (hC : Calm P s) (hY : Yields P (NextT T) s) (h : ∀ base main W, stepG P main (G fr (cs ++ base)) W = stepG.apply P true fr (cs ++ base) none s W) : Fate P T fr cs w := by
  obtain ⟨n, hd, htp, htape⟩ := runT_like P s hC w #[]
  obtain ⟨hw, hsoft⟩ := runT_kept P s hC w #[]
  have hev := runT_evL P s hC w fr.fn
  have hz := (runT_low P s hC w #[]).1
  have hy := runT_yields (NextT T) s hY w #[]
  generalize hr : s.runT P w #[] = r at *
  obtain ⟨r, es⟩ := r
  cases r with
  | ok a w1 =>
    cases a with
    | value v =>
      exact .goes n (fr.finish v) cs w1 (seen P fr.fn es) ⟨(tame_finish hf hm v).1, .inl (tame_finish hf hm v).2, hcs⟩ (hs.on hw) hev hz hd htp
        (fun w₁ hl hτ => by
          obtain ⟨w₁', g1, g2, g3, g4⟩ := htape w₁ hl hτ
          exact ⟨w₁', fun base main => by rw [h]; exact apply_value hf.kind g1, g2, g3, g4⟩)
    | skip =>
      exact .goes n (fr.finish undef) cs w1 (seen P fr.fn es) ⟨(tame_finish hf hm undef).1, .inl (tame_finish hf hm undef).2, hcs⟩ (hs.on hw) hev hz hd htp
        (fun w₁ hl hτ => by
          obtain ⟨w₁', g1, g2, g3, g4⟩ := htape w₁ hl hτ
          exact ⟨w₁', fun base main => by rw [h]; exact apply_skip hf.kind g1, g2, g3, g4⟩)
    | enter f args =>
      have hT : T f = true := hy _ _ rfl
      refine .goes n (Frame.enter P f args .normal) (fr :: cs) w1 (seen P fr.fn es) ⟨(tame_enter hP hT args).1, .inl (tame_enter hP hT args).2, fun x hx => ?_⟩ (hs.on hw) hev hz hd htp
        (fun w₁ hl hτ => by
          obtain ⟨w₁', g1, g2, g3, g4⟩ := htape w₁ hl hτ
          exact ⟨w₁', fun base main => by rw [h]; exact apply_enter hf.kind ht g1, g2, g3, g4⟩)
      rcases List.mem_cons.1 hx with rfl | hx
      · exact ⟨hf, hm⟩
      · exact hcs x hx
    | _ => exact (hy _ _ rfl).elim
  | halt x w1 =>
    rcases hsoft with hmild | ⟨g, c, t, rfl, hg⟩
    · cases x with
      | panic v =>
        refine .raises n [{ v, recovered := false }] (seen P fr.fn es) fun w₁ hl hτ => ?_
        obtain ⟨w₁', g1, _⟩ := htape w₁ hl hτ
        exact ⟨w₁', fun base main => by rw [h]; exact apply_panic hf.kind g1⟩
      | stuck x =>
        refine .ends n fun w₁ hl hτ base main => ?_
        obtain ⟨w₁', g1, _⟩ := htape w₁ hl hτ
        rw [h]; exact apply_stuck hf.kind g1
      | unsupported u =>
        refine .ends n fun w₁ hl hτ base main => ?_
        obtain ⟨w₁', g1, _⟩ := htape w₁ hl hτ
        rw [h]; exact apply_unsup hf.kind hmild g1
      | _ => exact hmild.elim
    · refine .ends n fun w₁ hl hτ base main => ?_
      obtain ⟨w₁', g1, _⟩ := htape w₁ hl hτ
      rw [h]; exact apply_early hf.kind hs.1 ((hs.on hw).2 g c t hg) g1
theorem fate_ret (hP : TameP P T) (hs : Settled P w) (hf : TameF T fr) (hm : fr.mode = .returning) (hcs : ∀ f ∈ cs, TameF T f ∧ f.mode = .run) : Fate P T fr cs w := by
  cases cs with
  | nil => exact .leaves rfl hm
  | cons c cs =>
    obtain ⟨fn, code, h1, _, _, _, r, hr⟩ := hP fr.fn hf.fn
    have hc := hcs c (List.mem_cons_self ..)
    refine .goes 0 (c.finish (r fr.tmps)) cs w #[] ⟨(tame_finish hc.1 hc.2 _).1, .inl (tame_finish hc.1 hc.2 _).2, fun f hf => hcs f (List.mem_cons_of_mem _ hf)⟩ hs (by simp) (Nat.le_refl _) rfl rfl (fun w₁ hl _ => ⟨w₁, fun base main => ?_, hl, rfl, rfl⟩)
    obtain ⟨fn', tmps, todo, defers, mode, kind, round⟩ := fr
    obtain ⟨_, _, rfl, rfl, rfl⟩ := hf
    dsimp only at hm h1
    subst hm
    have e : (results fn tmps).runT P w₁ #[] = (.ok (r tmps) w₁, #[]) := by rw [hr]; rfl
    simp [-Sem.runT_eq, stepG, unwind, G, h1, e, seen_none, GStep.after, doReturn]
theorem fate (hP : TameP P T) (hs : Settled P w) (ht : TameS T fr cs) : Fate P T fr cs w := by
  obtain ⟨hf, hm, hcs⟩ := ht
  rcases hm with hm | hm
  case inr => exact fate_ret hP hs hf hm hcs
  obtain ⟨fn, tmps, todo, defers, mode, kind, round⟩ := fr
  have hf' := hf
  obtain ⟨h1, h2, rfl, rfl, rfl⟩ := hf
  dsimp only at hm h1 h2
  subst hm
  have mk : ∀ {todo' : List Item} {mode' : FrameMode}, (∀ x ∈ todo', tameItem T x = true) → TameF T { fn, tmps, todo := todo', defers := [], mode := mode', kind := .normal, roundOf := none } := fun h => ⟨h1, h, rfl, rfl, rfl⟩
  cases todo with
  | nil => exact fate_quiet (fr' := { fn, tmps, todo := [], defers := [], mode := .returning, kind := .normal, roundOf := none }) (fun base main W => rfl) (mk (by simp)) (.inr rfl) hcs hs
  | cons x k =>
    have hx := h2 x (List.mem_cons_self ..)
    have hk : ∀ y ∈ k, tameItem T y = true := fun y hy => h2 y (List.mem_cons_of_mem _ hy)
    cases x with
    | inBlock id => exact fate_quiet (fr' := { fn, tmps, todo := k, defers := [], mode := .run, kind := .normal, roundOf := none }) (fun base main W => rfl) (mk hk) (.inl rfl) hcs hs
    | inLoop c =>
      refine fate_quiet (fr' := { fn, tmps, todo := .code c :: .inLoop c :: k, defers := [], mode := .run, kind := .normal, roundOf := none }) (fun base main W => rfl) (mk fun y hy => ?_) (.inl rfl) hcs hs
      rcases List.mem_cons.1 hy with rfl | hy
      · exact hx
      · exact h2 y hy
    | inRegion ops l =>
      cases l with
      | nil => exact fate_quiet (fr' := { fn, tmps, todo := k, defers := [], mode := .run, kind := .normal, roundOf := none }) (fun base main W => rfl) (mk hk) (.inl rfl) hcs hs
      | cons i rest =>
        cases hw : ((ops[i]?).map (Region.wanted · (yielded ops tmps))).getD false with
        | false =>
          refine fate_quiet (fr' := (Frame.mk fn tmps (.inRegion ops (i :: rest) :: k) [] .run .normal none).finish undef) (fun base main W => ?_) (tame_finish hf' rfl undef).1 (.inl (tame_finish hf' rfl undef).2) hcs hs
          simp [stepG, stepG.exec, G, hw]
        | true =>
          cases ho : ops[i]? with
          | none => rw [ho] at hw; cases hw
          | some o =>
            have hop : tameOp T o.op = true := tameRest_head hx ho
            obtain ⟨hC, hY⟩ := exec_tame T hP.bodied (Frame.eval { fn, tmps, todo := .inRegion ops (i :: rest) :: k, defers := [], mode := .run, kind := .normal, roundOf := none }) (fun _ => rfl) o hop
            refine fate_op hP hs hf' rfl hcs rfl _ hC hY fun base main W => ?_
            rw [ho] at hw
            simp only [Option.map_some, Option.getD_some] at hw
            simp [-Sem.runT_eq, stepG, stepG.exec, stepG.oper, Frame.oper?, G, ho, hw]
    | code c =>
      cases c with
      | skip => exact fate_quiet (fr' := { fn, tmps, todo := k, defers := [], mode := .run, kind := .normal, roundOf := none }) (fun base main W => rfl) (mk hk) (.inl rfl) hcs hs
      | ret => exact fate_quiet (fr' := { fn, tmps, todo := .code .ret :: k, defers := [], mode := .returning, kind := .normal, roundOf := none }) (fun base main W => rfl) (mk h2) (.inr rfl) hcs hs
      | exit id =>
        cases he : exitTo id k with
        | some k' =>
          refine fate_quiet (fr' := { fn, tmps, todo := k', defers := [], mode := .run, kind := .normal, roundOf := none }) (fun base main W => ?_) (mk fun y hy => hk y (exitTo_mem he y hy)) (.inl rfl) hcs hs
          simp [stepG, stepG.exec, G, he]
        | none =>
          refine .ends 0 fun w₁ _ _ base main => ?_
          simp [stepG, stepG.exec, G, he]
      | seq a b =>
        have hab : tameCode T a = true ∧ tameCode T b = true := by simpa [tameItem, tameCode] using hx
        refine fate_quiet (fr' := { fn, tmps, todo := .code a :: .code b :: k, defers := [], mode := .run, kind := .normal, roundOf := none }) (fun base main W => rfl) (mk fun y hy => ?_) (.inl rfl) hcs hs
        rcases List.mem_cons.1 hy with rfl | hy
        · exact hab.1
        rcases List.mem_cons.1 hy with rfl | hy
        · exact hab.2
        · exact hk y hy
      | cond c a b =>
        have hab : tameCode T a = true ∧ tameCode T b = true := by simpa [tameItem, tameCode] using hx
        have hyes : ∀ t, Frame.eval { fn, tmps, todo := .code (.cond c a b) :: k, defers := [], mode := .run, kind := .normal, roundOf := none } c = .bool t → Fate P T { fn, tmps, todo := .code (.cond c a b) :: k, defers := [], mode := .run, kind := .normal, roundOf := none } cs w := fun t hc => by
          refine fate_quiet (fr' := { fn, tmps, todo := .code (if t then a else b) :: k, defers := [], mode := .run, kind := .normal, roundOf := none }) (fun base main W => ?_) (mk fun y hy => ?_) (.inl rfl) hcs hs
          · simp [stepG, stepG.exec, G, hc]
          · rcases List.mem_cons.1 hy with rfl | hy
            · cases t
              · exact hab.2
              · exact hab.1
            · exact hk y hy
        cases hc : Frame.eval { fn, tmps, todo := .code (.cond c a b) :: k, defers := [], mode := .run, kind := .normal, roundOf := none } c with
        | bool t => exact hyes t hc
        | _ => exact .ends 0 fun w₁ _ _ base main => by simp [stepG, stepG.exec, G, hc]
      | block id c =>
        refine fate_quiet (fr' := { fn, tmps, todo := .code c :: .inBlock id :: k, defers := [], mode := .run, kind := .normal, roundOf := none }) (fun base main W => rfl) (mk fun y hy => ?_) (.inl rfl) hcs hs
        rcases List.mem_cons.1 hy with rfl | hy
        · exact hx
        rcases List.mem_cons.1 hy with rfl | hy
        · rfl
        · exact hk y hy
      | loop c =>
        refine fate_quiet (fr' := { fn, tmps, todo := .code c :: .inLoop c :: k, defers := [], mode := .run, kind := .normal, roundOf := none }) (fun base main W => rfl) (mk fun y hy => ?_) (.inl rfl) hcs hs
        rcases List.mem_cons.1 hy with rfl | hy
        · exact hx
        rcases List.mem_cons.1 hy with rfl | hy
        · exact hx
        · exact hk y hy
      | region id ops draw =>
        have hreg : ∀ l, ∀ y ∈ Item.inRegion ops l :: k, tameItem T y = true := fun l y hy => by
          rcases List.mem_cons.1 hy with rfl | hy
          · exact tameRest_all (by simpa [tameItem, tameCode] using hx) l
          · exact hk y hy
        cases draw with
        | false => exact fate_quiet (fr' := { fn, tmps, todo := .inRegion ops (List.range ops.size) :: k, defers := [], mode := .run, kind := .normal, roundOf := none }) (fun base main W => rfl) (mk (hreg _)) (.inl rfl) hcs hs
        | true =>
          refine .goes 1 { fn, tmps, todo := .inRegion ops (Region.schedule (P.follows .mixedOrders) ops ((Question.order fn id).cut (w.tape w.drawn (.order fn id)))) :: k, defers := [], mode := .run, kind := .normal, roundOf := none } cs
            { w with drawn := w.drawn + 1 } #[] ⟨mk (hreg _), .inl rfl, hcs⟩ hs (by simp) (Nat.le_refl _) rfl rfl (fun w₁ hl hτ => ⟨{ w₁ with drawn := w₁.drawn + 1 }, fun base main => ?_, ⟨hl.heap, hl.os, hl.output⟩, rfl, rfl⟩)
          have h0 : w₁.tape w₁.drawn (.order fn id) = w.tape w.drawn (.order fn id) := hτ 0 (by omega) _
          have e : (choose (.order fn id)).run P w₁ = .ok ((Question.order fn id).cut (w.tape w.drawn (.order fn id))) { w₁ with drawn := w₁.drawn + 1 } := by
            rw [← h0]; rfl
          simp [stepG, stepG.exec, G, e]
      | _ => cases hx
    | _ => cases hx
end
end Go.Proofs.Ytchfnbcpjiiphaa

namespace Go.Proofs.Ytchfnbcpjiiphaa
open Go Go.Conc

/-- the tree of a stack's own steps, over all answers; it ends where the last frame leaves -/
inductive Well (P : Program) (Stop : Frame → World → Prop) : Frame → List Frame → World → Prop
  | stop {fr : Frame} {w : World} (h : ∀ w₁, Like w w₁ → Stop fr w₁) : Well P Stop fr [] w
  | step {fr : Frame} {cs : List Frame} {w : World} (F : World → Frame × List Frame × World × Array Event)
      (h : ∀ w₁, Like w w₁ → ∀ base main, stepG P main (G fr (cs ++ base)) w₁ = .go (G (F w₁).1 ((F w₁).2.1 ++ base)) (F w₁).2.2.1 (F w₁).2.2.2)
      (he : ∀ w₁, Like w w₁ → (∀ e ∈ (F w₁).2.2.2, EvL (fun _ => False) (F w₁).2.2.1.heap.size e) ∧ w.heap.size ≤ (F w₁).2.2.1.heap.size)
      (hn : ∀ w₁, Like w w₁ → Well P Stop (F w₁).1 (F w₁).2.1 (F w₁).2.2.1) : Well P Stop fr cs w
theorem Well.like {P : Program} {Stop : Frame → World → Prop} {fr : Frame} {cs : List Frame} {w w₁ : World} (h : Well P Stop fr cs w) (hl : Like w w₁) : Well P Stop fr cs w₁ := by
  cases h with
  | stop h => exact .stop fun w₂ h₂ => h w₂ (hl.trans h₂)
  | step F h he hn => exact .step F (fun w₂ h₂ => h w₂ (hl.trans h₂)) (fun w₂ h₂ => ⟨(he w₂ (hl.trans h₂)).1, by rw [hl.size]; exact (he w₂ (hl.trans h₂)).2⟩) (fun w₂ h₂ => hn w₂ (hl.trans h₂))

/-- a frame that a lone run does not come back through: entered by a value or by a panic, the run ends -/
def door (P : Program) : Frame := { fn := P.funcs.size, tmps := #[], todo := [.call { target := .nil, args := #[] } false "fmt's door" #[]], defers := [], mode := .run, kind := .normal, roundOf := none }
theorem door_text : ("fmt's door".startsWith "fmt's door") = true := by decide +kernel
set_option maxRecDepth 100000 in
theorem door_row : Extern.next "fmt's door" = none := by
  have h : (Extern.allNextRows.lookup "fmt's door") = none := by rfl
  unfold Extern.next
  rw [h]
  rfl
section
variable {P : Program}
theorem door_shut (v : Value) (w : World) : ∃ o w', step P (lone ((door P).finish v) [] w) = .ended o w' := by
  have h : ∃ o, (stepG P true { frame := (door P).finish v, callers := [], status := .running, dying := none } w).bare = .ended o w := by
    simp [stepG, stepG.exec, door, Frame.finish, door_row]
  obtain ⟨o, h⟩ := h
  exact ⟨o, w, step_lone_ended h⟩
theorem door_dead (chain : List PanicEntry) (w : World) : ∃ o w', step P (lone { door P with mode := .panicking chain } [] w) = .ended o w' := by
  have hc : Frame.catches P { door P with mode := .panicking chain } = true := by
    simp [Frame.catches, door, door_text]
  have h : ∃ o, (stepG P true { frame := { door P with mode := .panicking chain }, callers := [], status := .running, dying := none } w).bare = .ended o w := by
    have hd : ({ door P with mode := .panicking chain } : Frame).defers = [] := rfl
    have hm : ({ door P with mode := .panicking chain } : Frame).mode = .panicking chain := rfl
    generalize ({ door P with mode := .panicking chain } : Frame) = fr at hc hd hm
    simp [stepG, unwind, hd, hm, hc]
  obtain ⟨o, h⟩ := h
  exact ⟨o, w, step_lone_ended h⟩
/-- no way to a frame that leaves to the door -/
def Never (P : Program) (m : Machine) : Prop := ∀ n fr' w', fr'.mode = .returning → runN P n m ≠ .next (lone fr' [door P] w')
theorem lone_inj {fr fr' : Frame} {cs cs' : List Frame} {w w' : World} (h : lone fr cs w = lone fr' cs' w') : fr = fr' ∧ cs = cs' ∧ w = w' := by
  have hw : (lone fr cs w).world = (lone fr' cs' w').world := by rw [h]
  have hg : (lone fr cs w).gs[0]? = (lone fr' cs' w').gs[0]? := by rw [h]
  simp only [lone, List.size_toArray, List.length_cons, List.length_nil, Nat.zero_add, Nat.lt_add_one, getElem?_pos, Option.some.injEq] at hg
  simp at hg
  exact ⟨hg.1, hg.2, hw⟩
theorem runN_ended_step {m : Machine} {o : Outcome} {w : World} (h : step P m = .ended o w) (n : Nat) (m' : Machine) : runN P (n + 1) m ≠ .next m' := by
  simp [runN, h]
theorem runN_step {m m₁ : Machine} (h : step P m = .next m₁) (n : Nat) : runN P (n + 1) m = runN P n m₁ := by simp [runN, h]
theorem runN_on {m m₁ : Machine} {a : Nat} (h : runN P a m = .next m₁) (j : Nat) : runN P (a + j) m = runN P j m₁ := by rw [runN_add, h]
theorem never_panics : ∀ (cs : List Frame), (∀ f ∈ cs, f.defers = []) → ∀ (fr : Frame) (chain : List PanicEntry), fr.mode = .panicking chain → fr.defers = [] → ∀ w, Never P (lone fr (cs ++ [door P]) w) := by
  have raise_mode : ∀ (c : Frame) (chain : List PanicEntry), ∃ chain', (c.raise chain).mode = .panicking chain' ∧ (c.raise chain).defers = c.defers := fun c chain => by
    unfold Frame.raise
    split
    · exact ⟨_, rfl, rfl⟩
    · exact ⟨_, rfl, rfl⟩
  have one : ∀ (fr : Frame) (chain : List PanicEntry) (c : Frame) (cs : List Frame) (w : World), fr.mode = .panicking chain → fr.defers = [] →
      (∃ o w', step P (lone fr (c :: cs) w) = .ended o w') ∨ step P (lone fr (c :: cs) w) = .next (lone (c.raise chain) cs w) := fun fr chain c cs w hm hd => by
    cases hc : fr.catches P with
    | true =>
      have h : ∃ o, (stepG P true { frame := fr, callers := c :: cs, status := .running, dying := none } w).bare = .ended o w := by simp [stepG, unwind, hd, hm, hc]
      obtain ⟨o, h⟩ := h
      exact .inl ⟨o, w, step_lone_ended h⟩
    | false => exact .inr (step_lone_go (by simp [stepG, unwind, hd, hm, hc]))
  intro cs
  induction cs with
  | nil =>
    intro _ fr chain hm hd w n fr' w' hr hrun
    cases n with
    | zero =>
      have := (lone_inj (Stepped.next.inj hrun)).1
      rw [← this, hm] at hr
      cases hr
    | succ n =>
      rcases one fr chain (door P) [] w hm hd with ⟨o, w1, he⟩ | hs
      · exact runN_ended_step he n _ hrun
      · rw [List.nil_append, runN_step hs] at hrun
        obtain ⟨o, w1, he⟩ := door_dead (P := P) chain w
        cases n with
        | zero => exact absurd (lone_inj (Stepped.next.inj hrun)).2.1 (by simp)
        | succ n => exact runN_ended_step he n _ hrun
  | cons c cs ih =>
    intro hcs fr chain hm hd w n fr' w' hr hrun
    cases n with
    | zero =>
      have := (lone_inj (Stepped.next.inj hrun)).1
      rw [← this, hm] at hr
      cases hr
    | succ n =>
      rcases one fr chain c (cs ++ [door P]) w hm hd with ⟨o, w1, he⟩ | hs
      · exact runN_ended_step he n _ hrun
      · rw [List.cons_append, runN_step hs] at hrun
        obtain ⟨chain', h1, h2⟩ := raise_mode c chain
        exact ih (fun f hf => hcs f (List.mem_cons_of_mem _ hf)) (c.raise chain) chain' h1 (by rw [h2]; exact hcs c (List.mem_cons_self ..)) w n fr' w' hr hrun
/-- behind a frame that leaves to the door nothing with callers comes -/
theorem after_leave {m : Machine} {a b : Nat} {fr fr' : Frame} {cs' : List Frame} {w w' : World} {v : Value} (h : runN P a m = .next (lone fr [door P] w)) (hl : fr.leaving P w (.returned v))
    (h' : runN P b m = .next (lone fr' cs' w')) (hc : cs' ≠ []) : b ≤ a := by
  refine Nat.le_of_not_lt fun hlt => ?_
  obtain ⟨j, rfl⟩ : ∃ j, b = a + (j + 1) := ⟨b - a - 1, by omega⟩
  rw [runN_on h, runN_step (step_leave_returned hl)] at h'
  cases j with
  | zero => exact hc (lone_inj (Stepped.next.inj h')).2.1.symm
  | succ j =>
    obtain ⟨o, w1, he⟩ := door_shut (P := P) v w
    exact runN_ended_step he j _ h'
end
end Go.Proofs.Ytchfnbcpjiiphaa

namespace Go.Proofs.Ytchfnbcpjiiphaa
open Go Go.Conc

/-- a place on the way of a lone run: the answers drawn so far, the steps taken so far -/
structure Pt where
  fr : Frame
  cs : List Frame
  w : World
  p : Nat → Question → Nat
  D : Nat
  n : Nat
def Agree (p : Nat → Question → Nat) (D : Nat) (τ : Nat → Question → Nat) : Prop := ∀ i, i < D → ∀ q, τ i q = p i q
structure Reach' (P : Program) (T : FuncId → Bool) (fr0 : Frame) (w0 : World) (x : Pt) : Prop where
  tame : TameS T x.fr x.cs
  set : Settled P x.w
  run : ∀ τ, Agree x.p x.D τ → ∃ W, (∀ base, runN P x.n (lone fr0 base (ona w0 τ 0)) = .next (lone x.fr (x.cs ++ base) W)) ∧ Like x.w W ∧ W.tape = τ ∧ W.drawn = x.D
section
variable {P : Program} {T : FuncId → Bool} {Stop : Frame → World → Prop} {fr0 : Frame} {w0 : World}
theorem no_leave (hP : TameP P T) (hL : ∀ fr w, Stop fr w → ∃ v, fr.leaving P w (.returned v)) (hO : ∀ fr w w₁, Like w w₁ → Stop fr w → Stop fr w₁)
    (hcall : ∀ τ, ∃ n fr' w', runN P n (lone fr0 [door P] (ona w0 τ 0)) = .next (lone fr' [door P] w') ∧ Stop fr' w')
    {x : Pt} (hx : Reach' P T fr0 w0 x) (hn : ¬ Well P Stop x.fr x.cs x.w) : ¬ (x.cs = [] ∧ x.fr.mode = .returning) := by
  rintro ⟨hc, hm⟩
  apply hn
  obtain ⟨n, fr', w', hrun, hs⟩ := hcall x.p
  obtain ⟨W, hr, hlw, _, _⟩ := hx.run x.p (fun _ _ _ => rfl)
  replace hr := hr [door P]
  rw [hc, List.nil_append] at hr
  obtain ⟨v, hv⟩ := hL _ _ hs
  have hxl : ∃ v, x.fr.leaving P W (.returned v) := by
    obtain ⟨fn, code, h1, _, _, _, r, hr⟩ := hP x.fr.fn hx.tame.top.fn
    exact ⟨r x.fr.tmps, hm, hx.tame.top.defers, hx.tame.top.kind, fn, h1, by rw [hr]; rfl⟩
  obtain ⟨u, hu⟩ := hxl
  have e : n = x.n := Nat.le_antisymm (after_leave hr hu hrun (by simp)) (after_leave hrun hv hr (by simp))
  rw [e, hr] at hrun
  obtain ⟨e1, _, e3⟩ := lone_inj (Stepped.next.inj hrun)
  rw [hc]
  refine .stop fun w₁ hl => ?_
  rw [e1]
  exact hO _ _ w₁ (by rw [← e3]; exact hlw.symm.trans hl) hs
theorem next_pt (hP : TameP P T) (hL : ∀ fr w, Stop fr w → ∃ v, fr.leaving P w (.returned v)) (hO : ∀ fr w w₁, Like w w₁ → Stop fr w → Stop fr w₁)
    (hcall : ∀ τ, ∃ n fr' w', runN P n (lone fr0 [door P] (ona w0 τ 0)) = .next (lone fr' [door P] w') ∧ Stop fr' w')
    {x : Pt} (hx : Reach' P T fr0 w0 x) (hn : ¬ Well P Stop x.fr x.cs x.w) :
    ∃ y : Pt, Reach' P T fr0 w0 y ∧ ¬ Well P Stop y.fr y.cs y.w ∧ y.n = x.n + 1 ∧ x.D ≤ y.D ∧ ∀ i, i < x.D → ∀ q, y.p i q = x.p i q := by
  have key := no_leave hP hL hO hcall hx hn
  have hbad : ∃ v : World, Like x.w v ∧ ∀ fr' cs' w' es, (∀ base main, stepG P main (G x.fr (x.cs ++ base)) v = .go (G fr' (cs' ++ base)) w' es) → (∀ e ∈ es, EvL (fun _ => False) w'.heap.size e) ∧ x.w.heap.size ≤ w'.heap.size → ¬ Well P Stop fr' cs' w' := by
    refine Classical.byContradiction fun hne => hn ?_
    have g : ∀ v : World, ∃ t : Frame × List Frame × World × Array Event, Like x.w v → (∀ base main, stepG P main (G x.fr (x.cs ++ base)) v = .go (G t.1 (t.2.1 ++ base)) t.2.2.1 t.2.2.2) ∧ ((∀ e ∈ t.2.2.2, EvL (fun _ => False) t.2.2.1.heap.size e) ∧ x.w.heap.size ≤ t.2.2.1.heap.size) ∧ Well P Stop t.1 t.2.1 t.2.2.1 := fun v => by
      by_cases hv : Like x.w v
      · exact Classical.byContradiction fun h => hne ⟨v, hv, fun fr' cs' w' es h1 h2 h3 => h ⟨(fr', cs', w', es), fun _ => ⟨h1, h2, h3⟩⟩⟩
      · exact ⟨(x.fr, x.cs, x.w, #[]), fun h => absurd h hv⟩
    exact .step (fun v => Classical.choose (g v)) (fun v hv base main => (Classical.choose_spec (g v) hv).1 base main) (fun v hv => (Classical.choose_spec (g v) hv).2.1) (fun v hv => (Classical.choose_spec (g v) hv).2.2)
  obtain ⟨v, hxv, hbad⟩ := hbad
  have hset : Settled P v := hx.set.like hxv
  have hF := fate hP hset hx.tame
  -- the answers so far, and those that are drawn here
  obtain ⟨p', hp'⟩ : ∃ p' : Nat → Question → Nat, p' = fun i q => if i < x.D then x.p i q else v.tape (v.drawn + (i - x.D)) q := ⟨_, rfl⟩
  have hold : ∀ i, i < x.D → ∀ q, p' i q = x.p i q := fun i hi q => by rw [hp']; simp only [hi, if_true]
  have hnew : ∀ k τ₁, Agree p' (x.D + k) τ₁ → Tells τ₁ x.D v k := fun k τ₁ h j hj q => by
    have := h (x.D + j) (by omega) q
    rw [this, hp']
    have e : ¬ x.D + j < x.D := by omega
    simp only [e, if_false, Nat.add_sub_cancel_left]
  have hag : ∀ k τ₁, Agree p' (x.D + k) τ₁ → Agree x.p x.D τ₁ := fun k τ₁ h i hi q => by rw [h i (by omega) q]; exact hold i hi q
  -- where the lone run stands, and where it must still come to
  have back : ∀ k : Nat, (∀ n fr' w', n > x.n → fr'.mode = .returning → runN P n (lone fr0 [door P] (ona w0 p' 0)) ≠ .next (lone fr' [door P] w')) → False := fun k hnone => by
    obtain ⟨n, fr', w', hrun, hs⟩ := hcall p'
    obtain ⟨u, hv⟩ := hL _ _ hs
    obtain ⟨W, hr, _, _, _⟩ := hx.run p' (hag 0 p' fun _ _ _ => rfl)
    replace hr := hr [door P]
    have h1 := after_leave hrun hv hr (by simp)
    have h2 : n ≤ x.n := Nat.le_of_not_lt fun hlt => hnone n fr' w' hlt hv.1 hrun
    have e : n = x.n := Nat.le_antisymm h2 h1
    rw [e, hr] at hrun
    obtain ⟨e1, e2, _⟩ := lone_inj (Stepped.next.inj hrun)
    refine key ⟨?_, by rw [e1]; exact hv.1⟩
    have hlen := congrArg List.length e2
    simp only [List.length_append, List.length_cons, List.length_nil] at hlen
    exact List.eq_nil_of_length_eq_zero (by omega)
  cases hF with
  | goes k fr' cs' w' es ht hs he hz hd ht' h =>
    obtain ⟨v', hv1, hv2, _, _⟩ := h v (Like.refl v) (fun _ _ _ => rfl)
    refine ⟨⟨fr', cs', v', p', x.D + k, x.n + 1⟩, ⟨ht, hs.like hv2, fun τ₁ h₁ => ?_⟩, ?_, rfl, Nat.le_add_right _ _, hold⟩
    · obtain ⟨W, hr, hlw, hwt, hwd⟩ := hx.run τ₁ (hag k τ₁ h₁)
      obtain ⟨W', hst, hlw', hwt', hwd'⟩ := h W (hxv.symm.trans hlw) (by rw [hwt, hwd]; exact hnew k τ₁ h₁)
      refine ⟨W', fun base => ?_, hv2.symm.trans hlw', hwt'.trans hwt, by rw [hwd', hwd]⟩
      rw [runN_add, hr base]
      have : step P (lone x.fr (x.cs ++ base) W) = .next (lone fr' (cs' ++ base) W') := step_lone_go (by
        have e : stepG P true { frame := x.fr, callers := x.cs ++ base, status := .running, dying := none } W = _ := hst base true
        rw [e]
        rfl)
      simp [runN, this]
    · exact hbad fr' cs' v' es hv1 ⟨by rw [hv2.size]; exact he, by rw [hv2.size]; exact Nat.le_trans (Nat.le_of_eq hxv.size.symm) hz⟩
  | leaves hc hm => exact (key ⟨hc, hm⟩).elim
  | raises k chain es h =>
    refine (back k fun n fr' w₁ hlt hret hrun => ?_).elim
    obtain ⟨j, rfl⟩ : ∃ j, n = x.n + (j + 1) := ⟨n - x.n - 1, by omega⟩
    obtain ⟨W, hr, hlw, hwt, hwd⟩ := hx.run p' (hag 0 p' fun _ _ _ => rfl)
    obtain ⟨W', hst⟩ := h W (hxv.symm.trans hlw) (by rw [hwt, hwd]; exact hnew k p' fun _ _ _ => rfl)
    have hs : step P (lone x.fr (x.cs ++ [door P]) W) = .next (lone (x.fr.raise chain) (x.cs ++ [door P]) W') := step_lone_go (by
      have e : stepG P true { frame := x.fr, callers := x.cs ++ [door P], status := .running, dying := none } W = _ := hst [door P] true
      rw [e]
      rfl)
    rw [runN_on (hr [door P]), runN_step hs] at hrun
    have hrm : (x.fr.raise chain).mode = .panicking chain ∧ (x.fr.raise chain).defers = x.fr.defers := by
      unfold Frame.raise
      rcases hx.tame.mode with hm | hm <;> rw [hm] <;> exact ⟨rfl, rfl⟩
    exact never_panics x.cs (fun f hf => (hx.tame.rest f hf).1.defers) _ chain hrm.1 (by rw [hrm.2]; exact hx.tame.top.defers) _ j fr' w₁ hret hrun
  | ends k h =>
    refine (back k fun n fr' w₁ hlt hret hrun => ?_).elim
    obtain ⟨j, rfl⟩ : ∃ j, n = x.n + (j + 1) := ⟨n - x.n - 1, by omega⟩
    obtain ⟨W, hr, hlw, hwt, hwd⟩ := hx.run p' (hag 0 p' fun _ _ _ => rfl)
    obtain ⟨o, w2, es, hst⟩ := h W (hxv.symm.trans hlw) (by rw [hwt, hwd]; exact hnew k p' fun _ _ _ => rfl) [door P] true
    have hs : step P (lone x.fr (x.cs ++ [door P]) W) = .ended o w2 := step_lone_ended (by
      have e : stepG P true { frame := x.fr, callers := x.cs ++ [door P], status := .running, dying := none } W = _ := hst
      rw [e]
      rfl)
    rw [runN_on (hr [door P])] at hrun
    exact runN_ended_step hs j _ hrun
/-- the way that never ends, if there is one -/
noncomputable def chainOf {A : Type} (R : A → A → Prop) (Q : A → Prop) (h : ∀ x, Q x → ∃ y, Q y ∧ R x y) (x0 : A) (h0 : Q x0) : Nat → { x : A // Q x }
  | 0 => ⟨x0, h0⟩
  | n + 1 => ⟨Classical.choose (h _ (chainOf R Q h x0 h0 n).2), (Classical.choose_spec (h _ (chainOf R Q h x0 h0 n).2)).1⟩
theorem chainOf_step {A : Type} (R : A → A → Prop) (Q : A → Prop) (h : ∀ x, Q x → ∃ y, Q y ∧ R x y) (x0 : A) (h0 : Q x0) (n : Nat) : R (chainOf R Q h x0 h0 n).1 (chainOf R Q h x0 h0 (n + 1)).1 :=
  (Classical.choose_spec (h _ (chainOf R Q h x0 h0 n).2)).2
/-- ONE CALL THAT COMES BACK ALONE, WHATEVER THE TAPE: the tree of its steps is well-founded -/
theorem well_of_lone (hP : TameP P T) (hL : ∀ fr w, Stop fr w → ∃ v, fr.leaving P w (.returned v)) (hO : ∀ fr w w₁, Like w w₁ → Stop fr w → Stop fr w₁)
    (hcall : ∀ τ, ∃ n fr' w', runN P n (lone fr0 [door P] (ona w0 τ 0)) = .next (lone fr' [door P] w') ∧ Stop fr' w')
    (ht : TameS T fr0 []) (hs : Settled P w0) : Well P Stop fr0 [] w0 := by
  refine Classical.byContradiction fun hno => ?_
  let Q : Pt → Prop := fun x => Reach' P T fr0 w0 x ∧ ¬ Well P Stop x.fr x.cs x.w
  let R : Pt → Pt → Prop := fun x y => y.n = x.n + 1 ∧ x.D ≤ y.D ∧ ∀ i, i < x.D → ∀ q, y.p i q = x.p i q
  have hstep : ∀ x, Q x → ∃ y, Q y ∧ R x y := fun x hx => by
    obtain ⟨y, h1, h2, h3⟩ := next_pt hP hL hO hcall hx.1 hx.2
    exact ⟨y, ⟨h1, h2⟩, h3⟩
  have h0 : Q ⟨fr0, [], w0, fun _ _ => 0, 0, 0⟩ := ⟨⟨ht, hs, fun τ _ => ⟨ona w0 τ 0, fun base => rfl, Like.ona w0 τ 0, rfl, rfl⟩⟩, hno⟩
  obtain ⟨s, hs'⟩ : ∃ s : Nat → { x : Pt // Q x }, s = chainOf R Q hstep _ h0 := ⟨_, rfl⟩
  have hR : ∀ n, R (s n).1 (s (n + 1)).1 := fun n => by rw [hs']; exact chainOf_step R Q hstep _ h0 n
  have hn : ∀ n, (s n).1.n = n := fun n => by
    induction n with
    | zero => rw [hs']; rfl
    | succ n ih => rw [(hR n).1, ih]
  have hmono : ∀ m j, (s m).1.D ≤ (s (m + j)).1.D ∧ ∀ i, i < (s m).1.D → ∀ q, (s (m + j)).1.p i q = (s m).1.p i q := fun m j => by
    induction j with
    | zero => exact ⟨Nat.le_refl _, fun _ _ _ => rfl⟩
    | succ j ih =>
      obtain ⟨_, h1, h2⟩ := hR (m + j)
      exact ⟨Nat.le_trans ih.1 h1, fun i hi q => by rw [← ih.2 i hi q]; exact h2 i (Nat.lt_of_lt_of_le hi ih.1) q⟩
  obtain ⟨τ, hτ⟩ : ∃ τ : Nat → Question → Nat, ∀ n, Agree (s n).1.p (s n).1.D τ := by
    refine ⟨fun i q => Classical.epsilon fun a => ∃ n, i < (s n).1.D ∧ a = (s n).1.p i q, fun n i hi q => ?_⟩
    obtain ⟨m, hm, e⟩ := Classical.epsilon_spec (p := fun a => ∃ n, i < (s n).1.D ∧ a = (s n).1.p i q) ⟨_, n, hi, rfl⟩
    show Classical.epsilon _ = _
    rw [e]
    rcases Nat.le_total m n with h | h
    · obtain ⟨j, rfl⟩ := Nat.exists_eq_add_of_le h
      exact ((hmono m j).2 i hm q).symm
    · obtain ⟨j, rfl⟩ := Nat.exists_eq_add_of_le h
      exact (hmono n j).2 i hi q
  obtain ⟨n, fr', w', hrun, hst⟩ := hcall τ
  obtain ⟨v, hv⟩ := hL _ _ hst
  obtain ⟨W, hr, _, _, _⟩ := (s n).2.1.run τ (hτ n)
  replace hr := hr [door P]
  rw [hn n, hrun] at hr
  obtain ⟨e1, e2, _⟩ := lone_inj (Stepped.next.inj hr)
  refine no_leave hP hL hO hcall (s n).2.1 (s n).2.2 ⟨?_, by rw [← e1]; exact hv.1⟩
  have hlen := congrArg List.length e2
  simp only [List.length_append, List.length_cons, List.length_nil] at hlen
  exact List.eq_nil_of_length_eq_zero (by omega)
end
end Go.Proofs.Ytchfnbcpjiiphaa

namespace Go.Proofs.Ytchfnbcpjiiphaa
open Go Go.Conc
open Go.ConcN (sumTo upd sumTo_upd upd_ne upd_same)

/-- how a crowd stands between two calls that start goroutines: goroutine 0 is g, all others only leave, all that was done is known -/
structure Bed (P : Program) (g : Goroutine) (gs : Array Goroutine) (t : Trace) (q : Nat → Nat) : Prop where
  top : gs[0]? = some g
  old : Leavers P t gs q
  past : ∃ B, Past (fun _ => False) B t
/-- from goroutine 0 at g in world w, whatever the tape, and whoever is leaving, the run comes to a place of the same kind at which Q holds -/
def To (P : Program) (g : Goroutine) (w : World) (Q : Goroutine → World → Prop) : Prop :=
  ∀ w₁ gs sl t q, Like w w₁ → Bed P g gs t q → ∃ N gs' g' w' sl' t' q', runNT P N (crowd gs w₁ sl) t = (.next (crowd gs' w' sl'), t') ∧ Bed P g' gs' t' q' ∧ Q g' w'
theorem to_refl {P : Program} {g : Goroutine} {w : World} {Q : Goroutine → World → Prop} (h : ∀ w₁, Like w w₁ → Q g w₁) : To P g w Q :=
  fun w₁ gs sl t q hl hb => ⟨0, gs, g, w₁, sl, t, q, rfl, hb, h w₁ hl⟩
theorem runNT_add (P : Program) (a b : Nat) (m m₁ : Machine) (t t₁ : Trace) (h : runNT P a m t = (.next m₁, t₁)) : runNT P (a + b) m t = runNT P b m₁ t₁ := by
  induction a generalizing m t with
  | zero =>
    simp only [runNT, Prod.mk.injEq, Stepped.next.injEq] at h
    rw [h.1, h.2, Nat.zero_add]
  | succ a ih =>
    rw [show a + 1 + b = (a + b) + 1 by omega]
    simp only [runNT] at h ⊢
    split at h
    · rename_i m' ops hs
      first | rw [hs] | skip
      exact ih _ _ h
    · cases h
      rename_i hne _
      exact (hne _ rfl).elim
theorem to_trans {P : Program} {g : Goroutine} {w : World} {Q R : Goroutine → World → Prop} (h : To P g w Q) (h' : ∀ g' w', Q g' w' → To P g' w' R) : To P g w R := by
  intro w₁ gs sl t q hl hb
  obtain ⟨N, gs1, g1, w1, sl1, t1, q1, hr, hb1, hq⟩ := h w₁ gs sl t q hl hb
  obtain ⟨N', gs2, g2, w2, sl2, t2, q2, hr2, hb2, hq2⟩ := h' g1 w1 hq w1 gs1 sl1 t1 q1 (Like.refl w1) hb1
  exact ⟨N + N', gs2, g2, w2, sl2, t2, q2, by rw [runNT_add P N N' _ _ _ _ hr]; exact hr2, hb2, hq2⟩
theorem to_mono {P : Program} {g : Goroutine} {w : World} {Q R : Goroutine → World → Prop} (h : To P g w Q) (h' : ∀ g' w', Q g' w' → R g' w') : To P g w R := by
  intro w₁ gs sl t q hl hb
  obtain ⟨N, gs1, g1, w1, sl1, t1, q1, hr, hb1, hq⟩ := h w₁ gs sl t q hl hb
  exact ⟨N, gs1, g1, w1, sl1, t1, q1, hr, hb1, h' _ _ hq⟩
/-- the tape is no matter of the world that one starts from, nor what is counted at channels -/
theorem to_like {P : Program} {g : Goroutine} {w w₁ : World} {Q : Goroutine → World → Prop} (h : To P g w Q) (hl : Like w w₁) : To P g w₁ Q :=
  fun w₂ gs sl t q h₂ hb => h w₂ gs sl t q (hl.trans h₂) hb

section
variable {P : Program}
/-- one step of goroutine 0, whatever the tape, and what follows -/
theorem to_step {g : Goroutine} {w : World} {Q : Goroutine → World → Prop} (hrun : g.status = .running)
    (h : ∀ w₁, Like w w₁ → ∃ g' w' es, stepG P true g w₁ = .go g' w' es ∧ (∀ e ∈ es, EvL (fun _ => False) w'.heap.size e) ∧ w.heap.size ≤ w'.heap.size ∧ To P g' w' Q) : To P g w Q := by
  have main : ∀ (M : Nat) (w₁ : World) gs sl t q, sumTo gs.size q < M → Like w w₁ → Bed P g gs t q →
      ∃ N gs' g' w' sl' t' q', runNT P N (crowd gs w₁ sl) t = (.next (crowd gs' w' sl'), t') ∧ Bed P g' gs' t' q' ∧ Q g' w' := by
    intro M
    induction M with
    | zero => exact fun w₁ gs sl t q hM => absurd hM (Nat.not_lt_zero _)
    | succ M ih =>
      intro w₁ gs sl t q hM hlk hB
      obtain ⟨h0, hL, B, hP⟩ := hB
      have haw : ∀ x ∈ gs, awake x := by
        intro x hx
        obtain ⟨i, hi, rfl⟩ := Array.mem_iff_getElem.1 hx
        rcases Nat.eq_zero_or_pos i with rfl | hpos
        · have : gs[0] = g := by simpa [Array.getElem?_eq_getElem hi] using h0
          rw [this]; exact awake_of (.inl hrun)
        · exact awake_of ((hL.old i _ hpos (Array.getElem?_eq_getElem hi)).status.elim .inl fun x => .inr (.inr x))
      obtain ⟨i, x, d', sl', hi, hg, hst⟩ := crowd_pick (P := P) (w := w₁) (sl := sl) haw ⟨0, g, h0, hrun⟩
      have hlk' : Like w (w₁.at d') := hlk.trans (Like.ona w₁ w₁.tape d')
      rcases Nat.eq_zero_or_pos i with rfl | hpos
      · obtain rfl : x = g := by rw [h0] at hi; exact (Option.some.inj hi).symm
        obtain ⟨g', w', es, hgo, hes, _, hto⟩ := h (w₁.at d') hlk'
        have hrunT := runT_crowd_go (P := P) (sl := sl') (i := 0) hi (show stepG P (0 == 0) x (w₁.at d') = _ from hgo)
        have hlt : 0 < gs.size := (Array.getElem?_eq_some_iff.1 h0).1
        have hbed : Bed P g' ((gs.map (woken P x g' w')).setIfInBounds 0 g') (t ++ MemOp.ofEvents 0 x.frame.fn x.frame.place es) q := by
          refine ⟨by simp [hlt], ⟨fun j y hj hy => ?_, fun j hj => ?_⟩, ⟨max B w'.heap.size, (hP.mono (Nat.le_max_left _ _)).own fun e he => ⟨(hes e he).1, (hes e he).2.1, (hes e he).2.2.1, MemAct.low_mono (Nat.le_max_right _ _) (hes e he).2.2.2⟩⟩⟩
          · have hne : 0 ≠ j := by omega
            rw [Array.getElem?_setIfInBounds_ne hne, Array.getElem?_map] at hy
            obtain ⟨z, hz', rfl⟩ := Option.map_eq_some_iff.1 hy
            have hq := hL.old j z hj hz'
            rw [woken_quitsD hq, Deaf_other t (by omega) _ (fun op hop => by obtain ⟨e, _, rfl⟩ := Go.Conc.mem_ofEvents hop; rfl)]
            exact hq
          · rw [Deaf_other t (g' := 0) (by simp at hj; omega) _ (fun op hop => by obtain ⟨e, _, rfl⟩ := Go.Conc.mem_ofEvents hop; rfl)]
            exact hL.above j (by simpa using hj)
        obtain ⟨N, gs', g'', w'', sl'', t', q', hr, hb, hq⟩ := hto w' _ sl' _ q (Like.refl w') hbed
        exact ⟨N + 1, gs', g'', w'', sl'', t', q', by simp only [runNT, hst, hrunT]; exact hr, hb, hq⟩
      · have hq := hL.old i x hpos hi
        have hi0 : (i == 0) = false := by simp; omega
        have hlt : i < gs.size := (Array.getElem?_eq_some_iff.1 hi).1
        cases hqi : q i with
        | zero => rw [hqi] at hq; rw [hq.1] at hg; cases hg
        | succ k =>
          rw [hqi] at hq
          rcases hq with ⟨hf, _⟩ | ⟨_, g', es, hm, hstp, hq'⟩
          · rw [hf] at hg; cases hg
          have hrunT := runT_crowd_go (P := P) (sl := sl') (i := i) hi (by rw [hi0]; exact hstp (w₁.at d'))
          have hsz : ((gs.map (woken P x g' (w₁.at d'))).setIfInBounds i g').size = gs.size := by simp
          have hsum : sumTo gs.size (upd q i k) + (k + 1) = sumTo gs.size q + k := by
            have := sumTo_upd q k id hlt
            simpa [hqi] using this
          have hbed : Bed P g ((gs.map (woken P x g' (w₁.at d'))).setIfInBounds i g') (t ++ MemOp.ofEvents i x.frame.fn x.frame.place es) (upd q i k) := by
            refine ⟨?_, ⟨fun j y hj hy => ?_, fun j hj => ?_⟩, ⟨B, hP.mute (by omega) hm⟩⟩
            · have hne : i ≠ 0 := by omega
              rw [Array.getElem?_setIfInBounds_ne hne, Array.getElem?_map, h0]
              simp [woken_run hrun]
            · by_cases hji : i = j
              · subst hji
                rw [Array.getElem?_setIfInBounds_self_of_lt (by simpa using hlt)] at hy
                obtain rfl := Option.some.inj hy
                rw [upd_same, Deaf_own]
                exact hq'
              · rw [Array.getElem?_setIfInBounds_ne hji, Array.getElem?_map] at hy
                obtain ⟨z, hz', rfl⟩ := Option.map_eq_some_iff.1 hy
                have hqj := hL.old j z hj hz'
                rw [woken_quitsD hqj, upd_ne q k (Ne.symm hji), Deaf_other t hji _ (fun op hop => by obtain ⟨e, _, rfl⟩ := Go.Conc.mem_ofEvents hop; rfl)]
                exact hqj
            · rw [Deaf_other t (g' := i) (by simp at hj; omega) _ (fun op hop => by obtain ⟨e, _, rfl⟩ := Go.Conc.mem_ofEvents hop; rfl)]
              exact hL.above j (by simpa using hj)
          obtain ⟨N, gs', g'', w'', sl'', t', q', hr, hb, hq⟩ := ih (w₁.at d') _ sl' _ _ (by rw [hsz]; omega) hlk' hbed
          exact ⟨N + 1, gs', g'', w'', sl'', t', q', by simp only [runNT, hst, hrunT]; exact hr, hb, hq⟩
  exact fun w₁ gs sl t q hl hB => main _ w₁ gs sl t q (Nat.lt_succ_self _) hl hB
/-- a well-founded tree of steps is carried out beside goroutines that only leave -/
theorem well_to {Stop : Frame → World → Prop} {fr : Frame} {cs : List Frame} {w : World} (h : Well P Stop fr cs w) (base : List Frame) : To P (G fr (cs ++ base)) w fun g' w' => ∃ fr', g' = G fr' base ∧ Stop fr' w' := by
  induction h with
  | stop h => exact to_refl fun w₁ hl => ⟨_, rfl, h w₁ hl⟩
  | step F h he _ ih => exact to_step rfl fun w₁ hl => ⟨_, _, _, h w₁ hl base true, (he w₁ hl).1, (he w₁ hl).2, ih w₁ hl⟩
end
end Go.Proofs.Ytchfnbcpjiiphaa

namespace Go.Proofs.Ytchfnbcpjiiphaa
open Go Go.Conc
section
variable {P : Program} {T : FuncId → Bool}
/-- a frame of f that leaves with v -/
def LeavesV (P : Program) (f : FuncId) (fr : Frame) (v : Value) : Prop := fr.fn = f ∧ fr.mode = .returning ∧ fr.defers = [] ∧ fr.kind = .normal ∧ ∃ fn, P.funcs[f]? = some fn ∧ results fn fr.tmps = Sem.pure v
theorem LeavesV.leaving {f : FuncId} {fr : Frame} {v : Value} (h : LeavesV P f fr v) (w : World) : fr.leaving P w (.returned v) := by
  obtain ⟨h1, h2, h3, h4, fn, h5, h6⟩ := h
  exact ⟨h2, h3, h4, fn, by rw [h1]; exact h5, by rw [h6]; rfl⟩
theorem well_of_calls (hP : TameP P T) {f : FuncId} (hT : T f = true) {args : Array Value} {w : World} (hs : Settled P w) {Post : Value → World → Prop} (hPost : ∀ v w w₁, Like w w₁ → Post v w → Post v w₁)
    (h : ∀ τ, Calls P f args (ona w τ 0) fun e w' => ∃ v, e = .returned v ∧ Post v w') : Well P (fun fr w' => ∃ v, LeavesV P f fr v ∧ Post v w') (Frame.enter P f args .normal) [] w := by
  refine well_of_lone hP (fun fr w' ⟨v, hv, _⟩ => ⟨v, hv.leaving w'⟩) (fun fr w₁ w₂ hl ⟨v, hv, hp⟩ => ⟨v, hv, hPost v w₁ w₂ hl hp⟩) (fun τ => ?_) ⟨(tame_enter hP hT args).1, .inl (tame_enter hP hT args).2, by simp⟩ hs
  obtain ⟨e, w', fr, ⟨v, rfl, hp⟩, ⟨n, hn⟩, hf, hm, hd, hk, fn, hfn, hr⟩ := h τ [door P]
  refine ⟨n, fr, w', hn, v, ⟨hf, hm, hd, hk, fn, by rw [← hf]; exact hfn, ?_⟩, hp⟩
  obtain ⟨fn', _, h1, _, _, _, r, hr'⟩ := hP f hT
  rw [hf, h1] at hfn
  injection hfn with hfn
  subst hfn
  rw [hr'] at hr ⊢
  have : Result.ok (r fr.tmps) w' = Result.ok v w' := hr
  injection this with e1 _
  rw [e1]
/-- a contract in a crowd of leavers -/
def CallsX (P : Program) (f : FuncId) (args : Array Value) (w : World) (Post : Value → World → Prop) : Prop :=
  ∀ base, To P (G (Frame.enter P f args .normal) base) w fun g' w' => ∃ fr v, g' = G fr base ∧ LeavesV P f fr v ∧ Post v w'
theorem callsX_of_calls (hP : TameP P T) {f : FuncId} (hT : T f = true) {args : Array Value} {w : World} (hs : Settled P w) {Post : Value → World → Prop} (hPost : ∀ v w w₁, Like w w₁ → Post v w → Post v w₁)
    (h : ∀ τ, Calls P f args (ona w τ 0) fun e w' => ∃ v, e = .returned v ∧ Post v w') : CallsX P f args w Post := fun base =>
  to_mono (well_to (well_of_calls hP hT hs hPost h) base) fun _ _ ⟨fr, e, v, hv, hp⟩ => ⟨fr, v, e, hv, hp⟩
theorem CallsX.mono {f : FuncId} {args : Array Value} {w : World} {Post Post' : Value → World → Prop} (h : CallsX P f args w Post) (hp : ∀ v w, Post v w → Post' v w) : CallsX P f args w Post' := fun base =>
  to_mono (h base) fun _ _ ⟨fr, v, e, hv, q⟩ => ⟨fr, v, e, hv, hp _ _ q⟩
/-- a move that looks at no world -/
theorem to_move {g g' : Goroutine} {w : World} {R : Goroutine → World → Prop} (hrun : g.status = .running) (hgo : ∀ W, stepG P true g W = .go g' W) (h : To P g' w R) : To P g w R :=
  to_step hrun fun w₁ hl => ⟨g', w₁, #[], hgo w₁, by simp, Nat.le_of_eq hl.size.symm, to_like h hl⟩
/-- a frame leaves to its caller -/
theorem to_leave {f : FuncId} {fr c : Frame} {cs : List Frame} {w : World} {v : Value} {R : Goroutine → World → Prop} (hv : LeavesV P f fr v) (h : To P (G (c.finish v) cs) w R) : To P (G fr (c :: cs)) w R := by
  refine to_move rfl (fun W => ?_) h
  obtain ⟨h1, h2, h3, h4, fn, h5, h6⟩ := hv
  have e : (results fn fr.tmps).runT P W #[] = (.ok v W, #[]) := by rw [h6]; rfl
  rw [← h1] at h5
  simp [-Sem.runT_eq, stepG, unwind, G, h2, h3, h4, h5, e, seen_none, GStep.after, doReturn]
end
end Go.Proofs.Ytchfnbcpjiiphaa

namespace Go.Proofs.Ytchfnbcpjiiphaa
open Go Go.Conc
section
variable {P : Program}
/-- where goroutine 0 goes on behind a piece of code that is left by this way out -/
def AfterX (P : Program) (R : Goroutine → World → Prop) (b : Frame) (k : List Item) (cs : List Frame) : Exit → Act → World → Prop
  | .normal, a, w => To P (G (b.at a k) cs) w R
  | .exit id, a, w => ∃ k', exitTo id k = some k' ∧ To P (G (b.at a k') cs) w R
  | .ret, a, w => ∀ todo, To P (G { b.at a todo with mode := .returning } cs) w R
  | _, _, _ => False
theorem AfterX.push {R : Goroutine → World → Prop} {b : Frame} {x : Item} {k : List Item} {cs : List Frame} {e : Exit} {a : Act} {w : World} (hx : x.plain = true) (he : e ≠ .normal) (h : AfterX P R b k cs e a w) : AfterX P R b (x :: k) cs e a w := by
  cases e with
  | normal => exact absurd rfl he
  | exit id => obtain ⟨k', hk, hg⟩ := h; exact ⟨k', by cases x <;> simp_all [exitTo, Item.plain], hg⟩
  | ret => exact h
  | goto l => exact h
  | panic ch => exact h
  | outgrown => exact h
def WpX (P : Program) (c : Code) (Q : Exit → Act → World → Prop) (a : Act) (w : World) : Prop :=
  ∀ (b : Frame) (k : List Item) (cs : List Frame) (R : Goroutine → World → Prop), b.kind = .normal → (∀ e a' w', Q e a' w' → AfterX P R b k cs e a' w') → To P (G (b.at a (.code c :: k)) cs) w R
def OpsX (P : Program) (ops : Array Oper) (todo : List Nat) (Q : Exit → Act → World → Prop) (a : Act) (w : World) : Prop :=
  ∀ (b : Frame) (k : List Item) (cs : List Frame) (R : Goroutine → World → Prop), b.kind = .normal → (∀ e a' w', Q e a' w' → AfterX P R b k cs e a' w') → To P (G (b.at a (.inRegion ops todo :: k)) cs) w R
variable {Q : Exit → Act → World → Prop} {a : Act} {w : World}
theorem wpX_mono {c : Code} {Q' : Exit → Act → World → Prop} (h : WpX P c Q a w) (hq : ∀ e a w, Q e a w → Q' e a w) : WpX P c Q' a w :=
  fun b k cs R hb hc => h b k cs R hb fun e a' w' q => hc e a' w' (hq e a' w' q)
theorem wpX_like {c : Code} {w₁ : World} (h : WpX P c Q a w) (hl : Like w w₁) : WpX P c Q a w₁ := fun b k cs R hb hc => to_like (h b k cs R hb hc) hl
theorem wpX_skip (h : Q .normal a w) : WpX P .skip Q a w := fun _ _ _ _ _ hc => to_move rfl (fun _ => stepG_skip) (hc _ _ _ h)
theorem wpX_ret (h : Q .ret a w) : WpX P .ret Q a w := fun _ _ _ _ _ hc => to_move rfl (fun _ => stepG_ret') (hc _ _ _ h _)
theorem wpX_exit {id : Nat} (h : Q (.exit id) a w) : WpX P (.exit id) Q a w := fun b k cs R _ hc => by
  obtain ⟨k', hk', hg⟩ := hc _ _ _ h
  exact to_move rfl (fun _ => stepG_exit hk') hg
theorem wpX_seq {x y : Code} (h : WpX P x (Exit.then (fun a' w' => WpX P y Q a' w') Q) a w) : WpX P (.seq x y) Q a w := by
  intro b k cs R hb hc
  refine to_move rfl (fun _ => stepG_seq) (h b (.code y :: k) cs R hb fun e a' w' q => ?_)
  cases e with
  | normal => exact q b k cs R hb hc
  | exit id => exact (hc _ _ _ q).push rfl (by simp)
  | ret => exact AfterX.push (x := .code y) rfl (by simp) (hc _ _ _ q)
  | goto l => exact hc _ _ _ q
  | panic ch => exact hc _ _ _ q
  | outgrown => exact hc _ _ _ q
theorem wpX_cond {c : Operand} {x y : Code} {t : Bool} (hc : a.eval c = .bool t) (h : WpX P (if t then x else y) Q a w) : WpX P (.cond c x y) Q a w :=
  fun b k cs R hb hq => to_move rfl (fun _ => stepG_cond hc) (h b k cs R hb hq)
theorem wpX_block {id : Nat} {c : Code} (h : WpX P c (Exit.inBlock id Q) a w) : WpX P (.block id c) Q a w := by
  intro b k cs R hb hc
  refine to_move rfl (fun _ => stepG_block) (h b (.inBlock id :: k) cs R hb fun e a' w' q => ?_)
  cases e with
  | normal => exact to_move rfl (fun _ => stepG_inBlock) (hc _ _ _ q)
  | exit id' =>
    by_cases hid : id' = id
    · simp only [Exit.inBlock, hid, if_true] at q
      exact ⟨k, by simp [exitTo, hid], hc _ _ _ q⟩
    · simp only [Exit.inBlock, hid, if_false] at q
      obtain ⟨k', hk', hg⟩ := hc _ _ _ q
      have : (id == id') = false := by simp; exact fun h => hid h.symm
      exact ⟨k', by simp [exitTo, this, hk'], hg⟩
  | ret => exact fun todo => hc _ _ _ q todo
  | goto l => exact hc _ _ _ q
  | panic ch => exact hc _ _ _ q
  | outgrown => exact hc _ _ _ q
/-- a loop: an invariant, and a measure that every round lowers -/
theorem wpX_loop {c : Code} (I : Act → World → Prop) (μ : Act → World → Nat) (h₀ : I a w) (round : ∀ a w, I a w → WpX P c (Exit.then (fun a' w' => I a' w' ∧ μ a' w' < μ a w) Q) a w) : WpX P (.loop c) Q a w := by
  intro b k cs R hb hc
  have key : ∀ N a w, μ a w < N → I a w → To P (G (b.at a (.code c :: .inLoop c :: k)) cs) w R := by
    intro N
    induction N with
    | zero => exact fun a w h => absurd h (Nat.not_lt_zero _)
    | succ N ih =>
      intro a w hμ hI
      refine round a w hI b (.inLoop c :: k) cs R hb fun e a' w' q => ?_
      cases e with
      | normal => exact to_move rfl (fun _ => stepG_inLoop) (ih a' w' (by have := q.2; omega) q.1)
      | exit id => exact (hc _ _ _ q).push rfl (by simp)
      | ret => exact AfterX.push (x := .inLoop c) rfl (by simp) (hc _ _ _ q)
      | goto l => exact hc _ _ _ q
      | panic ch => exact hc _ _ _ q
      | outgrown => exact hc _ _ _ q
  exact to_move rfl (fun _ => stepG_loop) (key _ a w (Nat.lt_succ_self _) h₀)
theorem wpX_region {id : Nat} {ops : Array Oper} (h : OpsX P ops (List.range ops.size) Q a w) : WpX P (.region id ops false) Q a w :=
  fun b k cs R hb hc => to_move rfl (fun _ => stepG_region) (h b k cs R hb hc)
theorem opsX_nil {ops : Array Oper} (h : Q .normal a w) : OpsX P ops [] Q a w := fun _ _ _ _ _ hc => to_move rfl (fun _ => stepG_region_end) (hc _ _ _ h)
theorem opsX_unwanted {ops : Array Oper} {i : Nat} {rest : List Nat} {o : Oper} (ho : ops[i]? = some o) (hw : Region.wanted o (yielded ops a.tmps) = false) (h : OpsX P ops rest Q (a.put o.dst undef) w) : OpsX P ops (i :: rest) Q a w :=
  fun b k cs R hb hc => to_move rfl (fun _ => stepG_unwanted ho hw) (h b k cs R hb hc)
/-- an operation that is calm -/
theorem opsX_op {ops : Array Oper} {i : Nat} {rest : List Nat} {o : Oper} (ho : ops[i]? = some o) (hw : Region.wanted o (yielded ops a.tmps) = true) (ht : tameOp (fun _ => false) o.op = true)
    (h : ∀ w₁, Like w w₁ → uponK o a (fun a' w' => OpsX P ops rest Q a' w') ((execOp a.eval o).run P w₁)) : OpsX P ops (i :: rest) Q a w := by
  intro b k cs R hb hc
  refine to_step rfl fun w₁ hl => ?_
  obtain ⟨hC, _⟩ := exec_tame (P := P) (fun _ => false) (fun _ h => by cases h) a.eval (fun _ => rfl) o ht
  have hk : (b.at a (.inRegion ops (i :: rest) :: k)).kind = .normal := hb
  have hfin : ∀ v, (b.at a (.inRegion ops (i :: rest) :: k)).finish v = b.at (a.put o.dst v) (.inRegion ops rest :: k) := fun v => by rw [Frame.finish_at, ho]; rfl
  have hev := runT_evL P _ hC w₁ b.fn
  have hz := (runT_low P _ hC w₁ #[]).1
  have hr : (execOp a.eval o).runT P w₁ #[] = ((execOp a.eval o).run P w₁, ((execOp a.eval o).runT P w₁ #[]).2) := by
    have := Sem.runT_eq P (execOp a.eval o) w₁ #[]
    rw [this]
  have h1 := h w₁ hl
  generalize (execOp a.eval o).run P w₁ = r at h1 hr
  generalize ((execOp a.eval o).runT P w₁ #[]).2 = es at hr hev
  rw [hr] at hev hz
  rw [stepG_oper ho hw]
  cases r with
  | ok x w' =>
    cases x with
    | value v =>
      refine ⟨_, w', _, apply_value hk hr, hev, by rw [← hl.size]; exact hz, ?_⟩
      rw [hfin]
      exact h1 b k cs R hb hc
    | skip =>
      refine ⟨_, w', _, apply_skip hk hr, hev, by rw [← hl.size]; exact hz, ?_⟩
      rw [hfin]
      exact h1 b k cs R hb hc
    | _ => exact h1.elim
  | halt x w' => exact h1.elim
/-- through a call, by its contract in the crowd -/
theorem opsX_call {ops : Array Oper} {i : Nat} {rest : List Nat} {o : Oper} {f : FuncId} {args : Array Operand} {ats : Array TypeId} {Post : Value → World → Prop} (ho : ops[i]? = some o) (hw : Region.wanted o (yielded ops a.tmps) = true)
    (hop : o.op = .call { callee := .value (.func f), args, argTypes := ats }) (hf : Bodied P f) (hcall : CallsX P f (args.map a.eval) w Post) (hnext : ∀ v w', Post v w' → OpsX P ops rest Q (a.put o.dst v) w') : OpsX P ops (i :: rest) Q a w := by
  intro b k cs R hb hc
  have hk : (b.at a (.inRegion ops (i :: rest) :: k)).kind = .normal := hb
  have hfin : ∀ v, (b.at a (.inRegion ops (i :: rest) :: k)).finish v = b.at (a.put o.dst v) (.inRegion ops rest :: k) := fun v => by rw [Frame.finish_at, ho]; rfl
  have he : execOp a.eval o = callFunc f (#[] ++ args.map a.eval ++ #[]) := by
    unfold execOp
    rw [hop]
    rfl
  obtain ⟨fn, h1, h2, h3⟩ := hf
  have hr : ∀ W : World, (execOp a.eval o).runT P W #[] = (.ok (.enter f (args.map a.eval)) W, #[]) := fun W => by
    rw [he]
    show (match P.funcs[f]? with
      | none => (stuck "call: no such function" : Sem Next)
      | some fn => _).runT P W #[] = _
    rw [h1]
    simp only [h2, h3, Bool.false_eq_true, if_false]
    simp only [Array.append_empty, Array.empty_append]
    rfl
  refine to_move rfl (fun W => ?_) (to_trans (hcall (b.at a (.inRegion ops (i :: rest) :: k) :: cs)) fun g' w' ⟨fr, v, e, hv, hp⟩ => ?_)
  · rw [stepG_oper ho hw, apply_enter hk rfl (hr W), seen_none]
  · rw [e]
    refine to_leave hv ?_
    rw [hfin]
    exact hnext v w' hp b k cs R hb hc
/-- a function's contract from its body's walk -/
theorem callsX_of_wpX {f : FuncId} {fn : Func} {c : Code} {args : Array Value} {Post : Value → World → Prop} (hf : P.funcs[f]? = some fn) (hb : fn.body = some c) (hPost : ∀ v w w₁, Like w w₁ → Post v w → Post v w₁)
    (h : WpX P c (fun e a' w' => (e = .normal ∨ e = .ret) ∧ a'.defers = [] ∧ ∃ v, results fn a'.tmps = Sem.pure v ∧ Post v w') { tmps := args ++ Array.replicate (fn.ntmps - args.size) undef, defers := [] } w) : CallsX P f args w Post := by
  intro base
  rw [enter_at args hf hb]
  refine h _ [] base _ rfl fun e a' w' ⟨he, hd, v, hr, hp⟩ => ?_
  have hret : ∀ todo, To P (G { (Conc.base f).at a' todo with mode := .returning } base) w' fun g' w' => ∃ fr v, g' = G fr base ∧ LeavesV P f fr v ∧ Post v w' := fun todo =>
    to_refl fun w₁ hl => ⟨_, v, rfl, ⟨rfl, rfl, hd, rfl, fn, hf, hr⟩, hPost v w' w₁ hl hp⟩
  rcases he with rfl | rfl
  · exact to_move rfl (fun _ => stepG_end) (hret [])
  · exact hret
end
end Go.Proofs.Ytchfnbcpjiiphaa

namespace Go.Proofs.Ytchfnbcpjiiphaa
open Go Go.Conc
section
variable {P : Program}
theorem good_of_callsX {f : FuncId} {args : Array Value} {W : World} {Post : Value → World → Prop} (hi : P.inits.idxOf? f = none) (hPost : ∀ v w w₁, Like w w₁ → Post v w → Post v w₁) (h : CallsX P f args W Post) :
    ∃ M last o w' t', runNT P (M + 1) (solo (G (Frame.enter P f args .normal) []) W) #[] = (.ended o w', t') ∧ runN P M (solo (G (Frame.enter P f args .normal) []) W) = .next last ∧ step P last = .ended o w' ∧ Good P Post last o w' t' := by
  have hb : Bed P (G (Frame.enter P f args .normal) []) #[G (Frame.enter P f args .normal) []] #[] (fun _ => 0) := ⟨rfl, leavers_one P _, 0, past_nil⟩
  obtain ⟨N, gs, g, w, sl, t, q, hr, hb', fr, v, rfl, hv, hp⟩ := h [] W _ none #[] _ (Like.refl W) hb
  obtain ⟨B, hP⟩ := hb'.past
  have hend : ∀ w₁, AtRel w w₁ → AtEnd P (fun _ => False) B Post (G fr []) w₁ := by
    rintro w₁ ⟨d, rfl⟩
    refine ⟨rfl, v, #[], ?_, by simp, hPost v w _ (Like.ona w w.tape d) hp⟩
    obtain ⟨h1, h2, h3, h4, fn, h5, h6⟩ := hv
    have e : (results fn fr.tmps).runT P (w.at d) #[] = (.ok v (w.at d), #[]) := by rw [h6]; rfl
    rw [← h1] at h5 hi
    simp [-Sem.runT_eq, stepG, unwind, G, h2, h3, h4, h5, e, seen_none, GStep.after, doReturn, hi]
  obtain ⟨N', last, o, w', t', e1, e2, e3, e4⟩ := beside_ends (D := fun _ _ _ => False) (fun _ _ _ h => h.elim) (sl := sl) (n := 0) hb'.top hb'.old hP hend
  refine ⟨N + N', last, o, w', t', ?_, ?_, e3, e4⟩
  · rw [Nat.add_assoc, solo_eq_crowd, runNT_add P N (N' + 1) _ _ _ _ hr]
    exact e1
  · have : runN P N (solo (G (Frame.enter P f args .normal) []) W) = .next (crowd gs w sl) := by
      rw [← runNT_fst P N _ #[]]
      exact congrArg Prod.fst hr
    rw [runN_add, this]
    exact e2
end
end Go.Proofs.Ytchfnbcpjiiphaa

namespace Go.Proofs.Ytchfnbcpjiiphaa
open Go Go.Conc
theorem stepOf_far {P : Program} (hr : (P.funcs.toList.all fun f => ((f.body.map readies).getD []).all fun g => decide (g < P.globals.size)) = true) {g : Nat} (hg : P.globals.size ≤ g) : P.stepOf g = none := by
  unfold Program.stepOf
  rw [Array.findIdx?_eq_none_iff]
  intro f hf
  have := List.all_eq_true.1 hr f (by simpa using hf)
  cases hb : f.body with
  | none => rfl
  | some c =>
    rw [hb] at this
    simp only [Option.map_some, Option.getD_some, List.all_eq_true, decide_eq_true_eq] at this
    simp only [Option.map_some, Option.any_some]
    rw [← Bool.not_eq_true, List.contains_iff_mem]
    exact fun h => absurd (this g h) (by omega)
theorem settled_start {P : Program} {w : World} (hf : P.follows .staticDataAhead = true) (hr : (P.funcs.toList.all fun f => ((f.body.map readies).getD []).all fun g => decide (g < P.globals.size)) = true)
    (hg : ((List.range P.globals.size).all fun g => (P.stepOf g).isNone || (((begin P (fun _ _ => 0) default).world.heap[g]?).bind Obj.row?).isSome) = true) (hw : w.ShapedOpen P) : Settled P w := by
  refine ⟨hf, fun g c t hp => ?_⟩
  by_cases hlt : g < P.globals.size
  · have := List.all_eq_true.1 hg g (List.mem_range.2 hlt)
    rw [Bool.or_eq_true] at this
    rcases this with h | h
    · exact Option.isNone_iff_eq_none.1 h
    · obtain ⟨⟨zero, u⟩, hz⟩ := Option.isSome_iff_exists.1 h
      obtain ⟨cs, h1, _⟩ := hw.1 g zero u hlt hz
      rw [hp] at h1
      cases h1
  · exact stepOf_far hr (by omega)
end Go.Proofs.Ytchfnbcpjiiphaa

namespace Go.Proofs.Ytchfnbcpjiiphaa
open Go Go.Conc
theorem results_one {fn : Func} {t : Tmp} (h : fn.results = #[.tmp t]) (tmps : Array Value) : results fn tmps = Sem.pure (tmps.getD t undef) := by unfold results; rw [h, Array.mapM_eq_foldlM]; rfl
theorem results_no {fn : Func} (h : fn.results = #[]) (tmps : Array Value) : results fn tmps = Sem.pure (.tuple #[]) := by unfold results; rw [h, Array.mapM_eq_foldlM]; rfl
def okFn (P : Program) (T : FuncId → Bool) (f : FuncId) : Bool :=
  match P.funcs[f]? with
  | none => false
  | some fn => !(fn.name == "runtime.NumGoroutine") && (match fn.body with | some c => tameCode T c | none => false) &&
    (match fn.results.toList with | [] => true | [.tmp _] => true | _ => false)
def inL (L : List FuncId) (f : FuncId) : Bool := L.any (· == f)
theorem tameP_of {P : Program} (L : List FuncId) (h : L.all (okFn P (inL L)) = true) : TameP P (inL L) := by
  intro f hf
  obtain ⟨f', hm, e⟩ := List.any_eq_true.1 hf
  have e' : f' = f := by simpa using e
  subst e'
  have hk := List.all_eq_true.1 h f' hm
  unfold okFn at hk
  cases hp : P.funcs[f']? with
  | none => rw [hp] at hk; cases hk
  | some fn =>
    rw [hp] at hk
    simp only [Bool.and_eq_true] at hk
    obtain ⟨⟨h1, h2⟩, h3⟩ := hk
    cases hb : fn.body with
    | none => rw [hb] at h2; cases h2
    | some c =>
      rw [hb] at h2
      refine ⟨fn, c, rfl, by simpa using h1, hb, h2, ?_⟩
      generalize hl : fn.results.toList = l at h3
      have hres : fn.results = l.toArray := by rw [← hl]
      match l, h3, hres with
      | [], _, hres => exact ⟨fun _ => .tuple #[], results_no hres⟩
      | [.tmp t], _, hres => exact ⟨fun tmps => tmps.getD t undef, results_one hres⟩
end Go.Proofs.Ytchfnbcpjiiphaa
