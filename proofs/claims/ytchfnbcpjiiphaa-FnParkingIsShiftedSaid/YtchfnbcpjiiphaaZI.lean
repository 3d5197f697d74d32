/-
  A piece of tame code at the bottom of its own stack, whatever stands behind it: each of its steps has one of four fates.
  A piece of tame code that comes to its end when alone, whatever the tape: the tree of its steps is well-founded, whatever stands behind it.
  A piece of tame code in the crowd, by its lone walk.
  One calm operation of goroutine 0's in the crowd; what is blind to the tape.
-/
import Derived.Test.YtchfnbcpjiiphaaZH
namespace Go.Proofs.Ytchfnbcpjiiphaa
open Go Go.Conc

/-- a frame that has more to do behind -/
def more (b : Frame) (K : List Item) : Frame := { b with todo := b.todo ++ K }
def frX : Option (Frame × List Frame) → Frame → Frame
  | none, b => b
  | some (fr, _), _ => fr
def csX : Option (Frame × List Frame) → Frame → List Frame → List Frame
  | none, _, base => base
  | some (_, cs), b, base => cs ++ b :: base
/-- the goroutine of a piece: its calls' frames over its own -/
def GX (top : Option (Frame × List Frame)) (b : Frame) (base : List Frame) : Goroutine := G (frX top b) (csX top b base)
def loneX (top : Option (Frame × List Frame)) (b : Frame) (base : List Frame) (w : World) : Machine := lone (frX top b) (csX top b base) w
/-- what stands behind a piece that is walked alone: the run ends there -/
def wall : List Item := [.code (.exit 0)]
structure TameB (T : FuncId → Bool) (b : Frame) : Prop where
  todo : ∀ x ∈ b.todo, tameItem T x = true
  defers : b.defers = []
  kind : b.kind = .normal
  round : b.roundOf = none
structure TameX (T : FuncId → Bool) (top : Option (Frame × List Frame)) (b : Frame) : Prop where
  bot : TameB T b
  mode : b.mode = .run ∨ (top = none ∧ b.mode = .returning)
  up : ∀ fr cs, top = some (fr, cs) → TameS T fr cs ∧ ∃ ops i l k, b.todo = .inRegion ops (i :: l) :: k
/-- where a piece has been left -/
def AtEnd (b : Frame) : Prop := b.mode = .returning ∨ b.mode = .run ∧ b.todo = []
inductive FateX (P : Program) (T : FuncId → Bool) (top : Option (Frame × List Frame)) (b : Frame) (w : World) : Prop
  | goes (k : Nat) (top' : Option (Frame × List Frame)) (b' : Frame) (w' : World) (es : Array Event) (ht : TameX T top' b') (hfn : b'.fn = b.fn) (hs : Settled P w') (he : ∀ e ∈ es, EvL (fun _ => False) w'.heap.size e) (hz : w.heap.size ≤ w'.heap.size)
      (h : ∀ w₁, Like w w₁ → Tells w₁.tape w₁.drawn w k → ∃ w₁', (∀ K base main, stepG P main (GX top (more b K) base) w₁ = .go (GX top' (more b' K) base) w₁' es) ∧ Like w' w₁' ∧ w₁'.tape = w₁.tape ∧ w₁'.drawn = w₁.drawn + k)
  | stops (hc : top = none) (hm : AtEnd b)
  | raises (k : Nat) (chain : List PanicEntry) (es : Array Event) (h : ∀ w₁, Like w w₁ → Tells w₁.tape w₁.drawn w k → ∃ w₁', ∀ base main, stepG P main (GX top (more b wall) base) w₁ = .go (G ((frX top (more b wall)).raise chain) (csX top (more b wall) base)) w₁' es)
  | ends (k : Nat) (h : ∀ w₁, Like w w₁ → Tells w₁.tape w₁.drawn w k → ∀ base main, ∃ o w' es, stepG P main (GX top (more b wall) base) w₁ = .ended o w' es)
section
variable {P : Program} {T : FuncId → Bool} {b : Frame} {w : World}
theorem more_finish {ops : Array Oper} {i : Nat} {l : List Nat} {k : List Item} (h : b.todo = .inRegion ops (i :: l) :: k) (v : Value) (K : List Item) : (more b K).finish v = more (b.finish v) K := by
  obtain ⟨fn, tmps, todo, defers, mode, kind, round⟩ := b
  dsimp only at h
  subst h
  rfl
theorem more_eval (K : List Item) : (more b K).eval = b.eval := by funext x; cases x <;> rfl
theorem tameB_finish (h : TameB T b) (hm : b.mode = .run) (v : Value) : TameB T (b.finish v) ∧ (b.finish v).mode = .run ∧ (b.finish v).fn = b.fn := by
  obtain ⟨fn, tmps, todo, defers, mode, kind, round⟩ := b
  obtain ⟨h2, h3, h4, h5⟩ := h
  cases todo with
  | nil => exact ⟨⟨h2, h3, h4, h5⟩, hm, rfl⟩
  | cons x k =>
    have hx := h2 x (List.mem_cons_self ..)
    cases x with
    | inRegion ops l =>
      cases l with
      | nil => exact ⟨⟨h2, h3, h4, h5⟩, hm, rfl⟩
      | cons i rest =>
        refine ⟨⟨fun y hy => ?_, h3, h4, h5⟩, hm, rfl⟩
        rcases List.mem_cons.1 hy with rfl | hy
        · exact tameRest_tail hx
        · exact h2 y (List.mem_cons_of_mem _ hy)
    | code c => exact ⟨⟨h2, h3, h4, h5⟩, hm, rfl⟩
    | inBlock _ => exact ⟨⟨h2, h3, h4, h5⟩, hm, rfl⟩
    | inLoop _ => exact ⟨⟨h2, h3, h4, h5⟩, hm, rfl⟩
    | _ => cases hx
theorem fateX_quiet {b' : Frame} (h : ∀ K base main W, stepG P main (GX none (more b K) base) W = .go (GX none (more b' K) base) W) (ht : TameB T b') (hm : b'.mode = .run ∨ b'.mode = .returning) (hfn : b'.fn = b.fn) (hs : Settled P w) : FateX P T none b w :=
  .goes 0 none b' w #[] ⟨ht, hm.imp id fun h => ⟨rfl, h⟩, fun _ _ h => by cases h⟩ hfn hs (by simp) (Nat.le_refl _) (fun w₁ hl _ => ⟨w₁, fun K base main => h K base main w₁, hl, rfl, rfl⟩)
theorem fateX_op (hP : TameP P T) (hs : Settled P w) (hf : TameB T b) (hm : b.mode = .run) {ops : Array Oper} {i : Nat} {l : List Nat} {k : List Item} (ht : b.todo = .inRegion ops (i :: l) :: k) (s : Sem Next)
    (hC : Calm P s) (hY : Yields P (NextT T) s) (h : ∀ K base main W, stepG P main (G (more b K) base) W = stepG.apply P true (more b K) base none s W) : FateX P T none b w := by
  obtain ⟨n, hd, htp, htape⟩ := runT_like P s hC w #[]
  obtain ⟨hw, hsoft⟩ := runT_kept P s hC w #[]
  have hev := runT_evL P s hC w b.fn
  have hz := (runT_low P s hC w #[]).1
  have hy := runT_yields (NextT T) s hY w #[]
  have hkind : ∀ K, (more b K).kind = .normal := fun _ => hf.kind
  generalize hr : s.runT P w #[] = r at *
  obtain ⟨r, es⟩ := r
  have fin : ∀ (v : Value) (w1 : World), r = .ok (.value v) w1 ∨ (r = .ok .skip w1 ∧ v = undef) → (∀ w₁, Like w w₁ → Tells w₁.tape w₁.drawn w n → ∃ w₁', (∀ K base main, stepG P main (G (more b K) base) w₁ = .go (G ((more b K).finish v) base) w₁' (seen P b.fn es)) ∧ Like w1 w₁' ∧ w₁'.tape = w₁.tape ∧ w₁'.drawn = w₁.drawn + n) →
      Settled P w1 → (∀ e ∈ seen P b.fn es, EvL (fun _ => False) w1.heap.size e) → w.heap.size ≤ w1.heap.size → FateX P T none b w := fun v w1 _ hg hs1 hev1 hz1 => by
    obtain ⟨f1, f2, f3⟩ := tameB_finish hf hm v
    exact .goes n none (b.finish v) w1 (seen P b.fn es) ⟨f1, .inl f2, fun _ _ h => by cases h⟩ f3 hs1 hev1 hz1 (fun w₁ hl hτ => by
      obtain ⟨w₁', g1, g2⟩ := hg w₁ hl hτ
      exact ⟨w₁', fun K base main => by rw [← more_finish ht]; exact g1 K base main, g2⟩)
  cases r with
  | ok a w1 =>
    cases a with
    | value v =>
      exact fin v w1 (.inl rfl) (fun w₁ hl hτ => by
        obtain ⟨w₁', g1, g2, g3, g4⟩ := htape w₁ hl hτ
        exact ⟨w₁', fun K base main => by rw [h]; exact apply_value (hkind K) g1, g2, g3, g4⟩) (hs.on hw) hev hz
    | skip =>
      exact fin undef w1 (.inr ⟨rfl, rfl⟩) (fun w₁ hl hτ => by
        obtain ⟨w₁', g1, g2, g3, g4⟩ := htape w₁ hl hτ
        exact ⟨w₁', fun K base main => by rw [h]; exact apply_skip (hkind K) g1, g2, g3, g4⟩) (hs.on hw) hev hz
    | enter f args =>
      have hT : T f = true := hy _ _ rfl
      refine .goes n (some (Frame.enter P f args .normal, [])) b w1 (seen P b.fn es) ⟨hf, .inl hm, fun fr cs he => ?_⟩ rfl (hs.on hw) hev hz
        (fun w₁ hl hτ => by
          obtain ⟨w₁', g1, g2, g3, g4⟩ := htape w₁ hl hτ
          have htK : ∀ K, (more b K).todo = .inRegion ops (i :: l) :: (k ++ K) := fun K => by
            show b.todo ++ K = _
            rw [ht]; rfl
          exact ⟨w₁', fun K base main => by rw [show GX none (more b K) base = G (more b K) base from rfl, h]; exact apply_enter (hkind K) (htK K) g1, g2, g3, g4⟩)
      injection he with he
      injection he with e1 e2
      subst e1 e2
      exact ⟨⟨(tame_enter hP hT args).1, .inl (tame_enter hP hT args).2, by simp⟩, ops, i, l, k, ht⟩
    | _ => exact (hy _ _ rfl).elim
  | halt x w1 =>
    have h' : ∀ base main W, stepG P main (GX none (more b wall) base) W = stepG.apply P true (more b wall) base none s W := fun base main W => h wall base main W
    rcases hsoft with hmild | ⟨g, c, t, rfl, hg⟩
    · cases x with
      | panic v =>
        refine .raises n [{ v, recovered := false }] (seen P b.fn es) fun w₁ hl hτ => ?_
        obtain ⟨w₁', g1, _⟩ := htape w₁ hl hτ
        exact ⟨w₁', fun base main => by rw [h']; exact apply_panic (hkind wall) g1⟩
      | stuck x =>
        refine .ends n fun w₁ hl hτ base main => ?_
        obtain ⟨w₁', g1, _⟩ := htape w₁ hl hτ
        rw [h']; exact apply_stuck (hkind wall) g1
      | unsupported u =>
        refine .ends n fun w₁ hl hτ base main => ?_
        obtain ⟨w₁', g1, _⟩ := htape w₁ hl hτ
        rw [h']; exact apply_unsup (hkind wall) hmild g1
      | _ => exact hmild.elim
    · refine .ends n fun w₁ hl hτ base main => ?_
      obtain ⟨w₁', g1, _⟩ := htape w₁ hl hτ
      rw [h']; exact apply_early (hkind wall) hs.1 ((hs.on hw).2 g c t hg) g1
/-- a call's frame that leaves to the piece -/
theorem fateX_back (hP : TameP P T) (hs : Settled P w) (hb : TameB T b) (hbm : b.mode = .run) {fr : Frame} (hf : TameF T fr) (hm : fr.mode = .returning) {ops : Array Oper} {i : Nat} {l : List Nat} {k : List Item} (ht : b.todo = .inRegion ops (i :: l) :: k) : FateX P T (some (fr, [])) b w := by
  obtain ⟨fn, code, h1, _, _, _, r, hr⟩ := hP fr.fn hf.fn
  obtain ⟨f1, f2, f3⟩ := tameB_finish hb hbm (r fr.tmps)
  refine .goes 0 none (b.finish (r fr.tmps)) w #[] ⟨f1, .inl f2, fun _ _ h => by cases h⟩ f3 hs (by simp) (Nat.le_refl _) (fun w₁ hl _ => ⟨w₁, fun K base main => ?_, hl, rfl, rfl⟩)
  rw [← more_finish ht]
  obtain ⟨fn', tmps, todo, defers, mode, kind, round⟩ := fr
  obtain ⟨_, _, rfl, rfl, rfl⟩ := hf
  dsimp only at hm h1
  subst hm
  have e : (results fn tmps).runT P w₁ #[] = (.ok (r tmps) w₁, #[]) := by rw [hr]; rfl
  simp [-Sem.runT_eq, stepG, unwind, GX, frX, csX, G, h1, e, seen_none, GStep.after, doReturn]
theorem fateX (hP : TameP P T) (hs : Settled P w) {top : Option (Frame × List Frame)} (ht : TameX T top b) : FateX P T top b w := by
  obtain ⟨hf, hm, hup⟩ := ht
  cases top with
  | some x =>
    obtain ⟨fr, cs⟩ := x
    obtain ⟨hS, ops, i, l, k, htodo⟩ := hup fr cs rfl
    have hbm : b.mode = .run := hm.resolve_right fun h => by cases h.1
    have hG : ∀ (fr : Frame) (cs : List Frame) K base, GX (some (fr, cs)) (more b K) base = G fr (cs ++ (more b K :: base)) := fun _ _ _ _ => rfl
    cases fate hP hs hS with
    | goes n fr' cs' w' es ht hs' he hz hd ht' h =>
      refine .goes n (some (fr', cs')) b w' es ⟨hf, .inl hbm, fun fr2 cs2 he2 => ?_⟩ rfl hs' he hz (fun w₁ hl hτ => by
        obtain ⟨w₁', g1, g2, g3, g4⟩ := h w₁ hl hτ
        exact ⟨w₁', fun K base main => by rw [hG, hG]; exact g1 _ main, g2, g3, g4⟩)
      injection he2 with he2
      injection he2 with e1 e2
      subst e1 e2
      exact ⟨ht, ops, i, l, k, htodo⟩
    | leaves hc hmr =>
      subst hc
      exact fateX_back hP hs hf hbm hS.top hmr htodo
    | raises n chain es h =>
      refine .raises n chain es fun w₁ hl hτ => ?_
      obtain ⟨w₁', g1⟩ := h w₁ hl hτ
      exact ⟨w₁', fun base main => by rw [hG]; exact g1 _ main⟩
    | ends n h =>
      refine .ends n fun w₁ hl hτ base main => ?_
      rw [hG]
      exact h w₁ hl hτ _ main
  | none =>
    rcases hm with hm | ⟨_, hm⟩
    case inr => exact .stops rfl (.inl hm)
    obtain ⟨fn, tmps, todo, defers, mode, kind, round⟩ := b
    have hf' := hf
    obtain ⟨h2, rfl, rfl, rfl⟩ := hf
    dsimp only at hm h2
    subst hm
    have mk : ∀ {todo' : List Item} {mode' : FrameMode}, (∀ x ∈ todo', tameItem T x = true) → TameB T { fn, tmps, todo := todo', defers := [], mode := mode', kind := .normal, roundOf := none } := fun h => ⟨h, rfl, rfl, rfl⟩
    cases todo with
    | nil => exact .stops rfl (.inr ⟨rfl, rfl⟩)
    | cons x k =>
      have hx := h2 x (List.mem_cons_self ..)
      have hk : ∀ y ∈ k, tameItem T y = true := fun y hy => h2 y (List.mem_cons_of_mem _ hy)
      cases x with
      | inBlock id => exact fateX_quiet (b' := { fn, tmps, todo := k, defers := [], mode := .run, kind := .normal, roundOf := none }) (fun K base main W => rfl) (mk hk) (.inl rfl) rfl hs
      | inLoop c =>
        refine fateX_quiet (b' := { fn, tmps, todo := .code c :: .inLoop c :: k, defers := [], mode := .run, kind := .normal, roundOf := none }) (fun K base main W => rfl) (mk fun y hy => ?_) (.inl rfl) rfl hs
        rcases List.mem_cons.1 hy with rfl | hy
        · exact hx
        · exact h2 y hy
      | inRegion ops l =>
        cases l with
        | nil => exact fateX_quiet (b' := { fn, tmps, todo := k, defers := [], mode := .run, kind := .normal, roundOf := none }) (fun K base main W => rfl) (mk hk) (.inl rfl) rfl hs
        | cons i rest =>
          cases hw : ((ops[i]?).map (Region.wanted · (yielded ops tmps))).getD false with
          | false =>
            obtain ⟨f1, f2, f3⟩ := tameB_finish hf' rfl undef
            refine fateX_quiet (b' := (Frame.mk fn tmps (.inRegion ops (i :: rest) :: k) [] .run .normal none).finish undef) (fun K base main W => ?_) f1 (.inl f2) f3 hs
            rw [← more_finish rfl]
            simp [stepG, stepG.exec, GX, frX, csX, more, G, hw]
          | true =>
            cases ho : ops[i]? with
            | none => rw [ho] at hw; cases hw
            | some o =>
              have hop : tameOp T o.op = true := tameRest_head hx ho
              obtain ⟨hC, hY⟩ := exec_tame T hP.bodied (Frame.eval { fn, tmps, todo := .inRegion ops (i :: rest) :: k, defers := [], mode := .run, kind := .normal, roundOf := none }) (fun _ => rfl) o hop
              refine fateX_op hP hs hf' rfl rfl _ hC hY fun K base main W => ?_
              have hev := more_eval (b := Frame.mk fn tmps (.inRegion ops (i :: rest) :: k) [] .run .normal none) K
              rw [ho] at hw
              simp only [Option.map_some, Option.getD_some] at hw
              rw [← hev]
              simp [-Sem.runT_eq, stepG, stepG.exec, stepG.oper, Frame.oper?, more, G, ho, hw]
      | code c =>
        cases c with
        | skip => exact fateX_quiet (b' := { fn, tmps, todo := k, defers := [], mode := .run, kind := .normal, roundOf := none }) (fun K base main W => rfl) (mk hk) (.inl rfl) rfl hs
        | ret => exact fateX_quiet (b' := { fn, tmps, todo := .code .ret :: k, defers := [], mode := .returning, kind := .normal, roundOf := none }) (fun K base main W => rfl) (mk h2) (.inr rfl) rfl hs
        | exit id =>
          cases he : exitTo id k with
          | some k' =>
            have key : ∀ (k : List Item) (k' : List Item) (K : List Item), exitTo id k = some k' → exitTo id (k ++ K) = some (k' ++ K) := by
              intro k
              induction k with
              | nil => exact fun k' K h => by cases h
              | cons y k ih =>
                intro k' K h
                cases y with
                | inBlock id' =>
                  simp only [exitTo, List.cons_append] at h ⊢
                  split at h
                  · injection h with h; subst h; simp_all
                  · rename_i hne; simp only [hne]; exact ih _ _ h
                | _ => simpa [exitTo] using ih _ K (by simpa [exitTo] using h)
            refine fateX_quiet (b' := { fn, tmps, todo := k', defers := [], mode := .run, kind := .normal, roundOf := none }) (fun K base main W => ?_) (mk fun y hy => hk y (exitTo_mem he y hy)) (.inl rfl) rfl hs
            simp [stepG, stepG.exec, GX, frX, csX, more, G, key _ _ K he]
          | none =>
            have key : ∀ (k : List Item), exitTo id k = none → exitTo id (k ++ wall) = none := by
              intro k
              induction k with
              | nil => exact fun _ => rfl
              | cons y k ih =>
                intro h
                cases y with
                | inBlock id' =>
                  simp only [exitTo, List.cons_append] at h ⊢
                  split at h
                  · cases h
                  · rename_i hne; simp only [hne]; exact ih h
                | _ => simpa [exitTo] using ih (by simpa [exitTo] using h)
            exact .ends 0 fun w₁ _ _ base main => by simp [stepG, stepG.exec, GX, frX, csX, more, G, key _ he]
        | seq a b =>
          have hab : tameCode T a = true ∧ tameCode T b = true := by simpa [tameItem, tameCode] using hx
          refine fateX_quiet (b' := { fn, tmps, todo := .code a :: .code b :: k, defers := [], mode := .run, kind := .normal, roundOf := none }) (fun K base main W => rfl) (mk fun y hy => ?_) (.inl rfl) rfl hs
          rcases List.mem_cons.1 hy with rfl | hy
          · exact hab.1
          rcases List.mem_cons.1 hy with rfl | hy
          · exact hab.2
          · exact hk y hy
        | cond c a b =>
          have hab : tameCode T a = true ∧ tameCode T b = true := by simpa [tameItem, tameCode] using hx
          have hyes : ∀ t : Bool, Frame.eval { fn, tmps, todo := .code (.cond c a b) :: k, defers := [], mode := .run, kind := .normal, roundOf := none } c = .bool t → FateX P T none { fn, tmps, todo := .code (.cond c a b) :: k, defers := [], mode := .run, kind := .normal, roundOf := none } w := fun t hc => by
            refine fateX_quiet (b' := { fn, tmps, todo := .code (if t then a else b) :: k, defers := [], mode := .run, kind := .normal, roundOf := none }) (fun K base main W => ?_) (mk fun y hy => ?_) (.inl rfl) rfl hs
            · have hev := more_eval (b := Frame.mk fn tmps (.code (.cond c a b) :: k) [] .run .normal none) K
              rw [← hev] at hc
              simp only [more, List.cons_append] at hc
              simp [stepG, stepG.exec, GX, frX, csX, more, G, hc]
            · rcases List.mem_cons.1 hy with rfl | hy
              · cases t
                · exact hab.2
                · exact hab.1
              · exact hk y hy
          cases hc : Frame.eval { fn, tmps, todo := .code (.cond c a b) :: k, defers := [], mode := .run, kind := .normal, roundOf := none } c with
          | bool t => exact hyes t hc
          | _ =>
            have hev := more_eval (b := Frame.mk fn tmps (.code (.cond c a b) :: k) [] .run .normal none) wall
            rw [← hev] at hc
            simp only [more, List.cons_append] at hc
            exact .ends 0 fun w₁ _ _ base main => by simp [stepG, stepG.exec, GX, frX, csX, more, G, hc]
        | block id c =>
          refine fateX_quiet (b' := { fn, tmps, todo := .code c :: .inBlock id :: k, defers := [], mode := .run, kind := .normal, roundOf := none }) (fun K base main W => rfl) (mk fun y hy => ?_) (.inl rfl) rfl hs
          rcases List.mem_cons.1 hy with rfl | hy
          · exact hx
          rcases List.mem_cons.1 hy with rfl | hy
          · rfl
          · exact hk y hy
        | loop c =>
          refine fateX_quiet (b' := { fn, tmps, todo := .code c :: .inLoop c :: k, defers := [], mode := .run, kind := .normal, roundOf := none }) (fun K base main W => rfl) (mk fun y hy => ?_) (.inl rfl) rfl hs
          rcases List.mem_cons.1 hy with rfl | hy
          · exact hx
          rcases List.mem_cons.1 hy with rfl | hy
          · exact hx
          · exact hk y hy
        | region id ops draw =>
          have hreg : ∀ l, ∀ y ∈ Item.inRegion ops l :: k, tameItem T y = true := fun l y hy => by
            rcases List.mem_cons.1 hy with rfl | hy
            · exact tameRest_all (by simpa [tameItem, tameCode] using hx) l
            · exact hk y hy
          cases draw with
          | false => exact fateX_quiet (b' := { fn, tmps, todo := .inRegion ops (List.range ops.size) :: k, defers := [], mode := .run, kind := .normal, roundOf := none }) (fun K base main W => rfl) (mk (hreg _)) (.inl rfl) rfl hs
          | true =>
            refine .goes 1 none { fn, tmps, todo := .inRegion ops (Region.schedule (P.follows .mixedOrders) ops ((Question.order fn id).cut (w.tape w.drawn (.order fn id)))) :: k, defers := [], mode := .run, kind := .normal, roundOf := none }
              { w with drawn := w.drawn + 1 } #[] ⟨mk (hreg _), .inl rfl, fun _ _ h => by cases h⟩ rfl hs (by simp) (Nat.le_refl _) (fun w₁ hl hτ => ⟨{ w₁ with drawn := w₁.drawn + 1 }, fun K base main => ?_, ⟨hl.heap, hl.os, hl.output⟩, rfl, rfl⟩)
            have h0 : w₁.tape w₁.drawn (.order fn id) = w.tape w.drawn (.order fn id) := hτ 0 (by omega) _
            have e : (choose (.order fn id)).run P w₁ = .ok ((Question.order fn id).cut (w.tape w.drawn (.order fn id))) { w₁ with drawn := w₁.drawn + 1 } := by
              rw [← h0]; rfl
            simp [stepG, stepG.exec, GX, frX, csX, more, G, e]
        | _ => cases hx
      | _ => cases hx
end
end Go.Proofs.Ytchfnbcpjiiphaa

namespace Go.Proofs.Ytchfnbcpjiiphaa
open Go Go.Conc

inductive WellX (P : Program) (Stop : Frame → World → Prop) : Option (Frame × List Frame) → Frame → World → Prop
  | stop {b : Frame} {w : World} (h : ∀ w₁, Like w w₁ → Stop b w₁) : WellX P Stop none b w
  | step {top : Option (Frame × List Frame)} {b : Frame} {w : World} (F : World → Option (Frame × List Frame) × Frame × World × Array Event)
      (h : ∀ w₁, Like w w₁ → ∀ K base main, stepG P main (GX top (more b K) base) w₁ = .go (GX (F w₁).1 (more (F w₁).2.1 K) base) (F w₁).2.2.1 (F w₁).2.2.2)
      (he : ∀ w₁, Like w w₁ → (∀ e ∈ (F w₁).2.2.2, EvL (fun _ => False) (F w₁).2.2.1.heap.size e) ∧ w.heap.size ≤ (F w₁).2.2.1.heap.size)
      (hn : ∀ w₁, Like w w₁ → WellX P Stop (F w₁).1 (F w₁).2.1 (F w₁).2.2.1) : WellX P Stop top b w
theorem wellX_to {P : Program} {Stop : Frame → World → Prop} {top : Option (Frame × List Frame)} {b : Frame} {w : World} (h : WellX P Stop top b w) (K : List Item) (base : List Frame) :
    To P (GX top (more b K) base) w fun g' w' => ∃ b', g' = G (more b' K) base ∧ Stop b' w' := by
  induction h with
  | stop h => exact to_refl fun w₁ hl => ⟨_, rfl, h w₁ hl⟩
  | step F h he _ ih => exact to_step rfl fun w₁ hl => ⟨_, _, _, h w₁ hl K base true, (he w₁ hl).1, (he w₁ hl).2, ih w₁ hl⟩
/-- a frame at which a piece that is walked alone has been left -/
structure StopAt (f : Frame) : Prop where
  defers : f.defers = []
  kind : f.kind = .normal
  round : f.roundOf = none
  mode : f.mode = .returning ∨ f.mode = .run ∧ f.todo = wall
structure PtX where
  top : Option (Frame × List Frame)
  b : Frame
  w : World
  p : Nat → Question → Nat
  D : Nat
  n : Nat
structure ReachX (P : Program) (T : FuncId → Bool) (b0 : Frame) (w0 : World) (x : PtX) : Prop where
  tame : TameX T x.top x.b
  fn : x.b.fn = b0.fn
  set : Settled P x.w
  run : ∀ τ, Agree x.p x.D τ → ∃ W, (∀ base, runN P x.n (lone (more b0 wall) base (ona w0 τ 0)) = .next (loneX x.top (more x.b wall) base W)) ∧ Like x.w W ∧ W.tape = τ ∧ W.drawn = x.D
section
variable {P : Program} {T : FuncId → Bool} {StopF : Frame → World → Prop} {b0 : Frame} {w0 : World}
theorem step_loneX {fr : Frame} {cs : List Frame} {b : Frame} {base : List Frame} {w w' : World} {top : Option (Frame × List Frame)} {es : Array Event} (h : stepG P true (GX top b base) w = .go (G fr cs) w' es) : step P (loneX top b base w) = .next (lone fr cs w') :=
  step_lone_go (by
    have e : stepG P true { frame := frX top b, callers := csX top b base, status := .running, dying := none } w = _ := h
    rw [e]
    rfl)
/-- behind where a piece has been left the run ends, or stands at no caller -/
theorem stop_ends {f : Frame} (hf : StopAt f) (w : World) : (∃ o w', step P (lone f [door P] w) = .ended o w') ∨ ∃ v w', step P (lone f [door P] w) = .next (lone ((door P).finish v) [] w') := by
  obtain ⟨fn, tmps, todo, defers, mode, kind, round⟩ := f
  obtain ⟨rfl, rfl, rfl, hm⟩ := hf
  dsimp only at hm
  rcases hm with rfl | ⟨rfl, rfl⟩
  · cases hfn : P.funcs[fn]? with
    | none => exact .inr ⟨tmps.getD 0 undef, w, step_lone_go (by simp [stepG, unwind, doReturn, hfn])⟩
    | some x =>
      cases hr : (results x tmps).runT P w #[] with
      | mk r es =>
        cases r with
        | ok v w' => exact .inr ⟨v, w', step_lone_go (by simp [-Sem.runT_eq, stepG, unwind, doReturn, hfn, hr])⟩
        | halt x' w' =>
          refine .inl ?_
          have h : ∃ o w2, (stepG P true { frame := { fn, tmps, todo, defers := [], mode := .returning, kind := .normal, roundOf := none }, callers := [door P], status := .running, dying := none } w).bare = .ended o w2 := by
            cases x' <;> simp [-Sem.runT_eq, stepG, unwind, hfn, hr]
          obtain ⟨o, w2, h⟩ := h
          exact ⟨o, w2, step_lone_ended h⟩
  · refine .inl ?_
    have h : ∃ o w2, (stepG P true { frame := { fn, tmps, todo := wall, defers := [], mode := .run, kind := .normal, roundOf := none }, callers := [door P], status := .running, dying := none } w).bare = .ended o w2 := by
      simp [stepG, stepG.exec, wall, exitTo]
    obtain ⟨o, w2, h⟩ := h
    exact ⟨o, w2, step_lone_ended h⟩
theorem after_stop {m : Machine} {a b : Nat} {f fr' : Frame} {cs' : List Frame} {w w' : World} (h : runN P a m = .next (lone f [door P] w)) (hf : StopAt f) (h' : runN P b m = .next (lone fr' cs' w')) (hc : cs' ≠ []) : b ≤ a := by
  refine Nat.le_of_not_lt fun hlt => ?_
  obtain ⟨j, rfl⟩ : ∃ j, b = a + (j + 1) := ⟨b - a - 1, by omega⟩
  rw [runN_on h] at h'
  rcases stop_ends (P := P) hf w with ⟨o, w1, he⟩ | ⟨v, w1, he⟩
  · exact runN_ended_step he j _ h'
  · rw [runN_step he] at h'
    cases j with
    | zero => exact hc (lone_inj (Stepped.next.inj h')).2.1.symm
    | succ j =>
      obtain ⟨o, w2, he2⟩ := door_shut (P := P) v w1
      exact runN_ended_step he2 j _ h'
/-- a panic never comes to where a piece is left -/
theorem never_stops : ∀ (cs : List Frame), (∀ f ∈ cs, f.defers = []) → ∀ (fr : Frame) (chain : List PanicEntry), fr.mode = .panicking chain → fr.defers = [] → ∀ w n f w', StopAt f → runN P n (lone fr (cs ++ [door P]) w) ≠ .next (lone f [door P] w') := by
  have raise_mode : ∀ (c : Frame) (chain : List PanicEntry), ∃ chain', (c.raise chain).mode = .panicking chain' ∧ (c.raise chain).defers = c.defers := fun c chain => by
    unfold Frame.raise
    split
    · exact ⟨_, rfl, rfl⟩
    · exact ⟨_, rfl, rfl⟩
  have one : ∀ (fr : Frame) (chain : List PanicEntry) (c : Frame) (cs : List Frame) (w : World), fr.mode = .panicking chain → fr.defers = [] →
      (∃ o w', step P (lone fr (c :: cs) w) = .ended o w') ∨ step P (lone fr (c :: cs) w) = .next (lone (c.raise chain) cs w) := fun fr chain c cs w hm hd => by
    cases hc : fr.catches P with
    | true =>
      have h : ∃ o, (stepG P true { frame := fr, callers := c :: cs, status := .running, dying := none } w).bare = .ended o w := by simp [stepG, unwind, hd, hm, hc]
      obtain ⟨o, h⟩ := h
      exact .inl ⟨o, w, step_lone_ended h⟩
    | false => exact .inr (step_lone_go (by simp [stepG, unwind, hd, hm, hc]))
  have away : ∀ (fr f : Frame) (chain : List PanicEntry), fr.mode = .panicking chain → StopAt f → fr ≠ f := fun fr f chain hm hs he => by
    subst he
    rcases hs.mode with h | ⟨h, _⟩ <;> rw [hm] at h <;> cases h
  intro cs
  induction cs with
  | nil =>
    intro _ fr chain hm hd w n f w' hs hrun
    cases n with
    | zero => exact away fr f chain hm hs (lone_inj (Stepped.next.inj hrun)).1
    | succ n =>
      rcases one fr chain (door P) [] w hm hd with ⟨o, w1, he⟩ | hstep
      · exact runN_ended_step he n _ hrun
      · rw [List.nil_append, runN_step hstep] at hrun
        obtain ⟨o, w1, he⟩ := door_dead (P := P) chain w
        cases n with
        | zero => exact absurd (lone_inj (Stepped.next.inj hrun)).2.1 (by simp)
        | succ n => exact runN_ended_step he n _ hrun
  | cons c cs ih =>
    intro hcs fr chain hm hd w n f w' hs hrun
    cases n with
    | zero => exact away fr f chain hm hs (lone_inj (Stepped.next.inj hrun)).1
    | succ n =>
      rcases one fr chain c (cs ++ [door P]) w hm hd with ⟨o, w1, he⟩ | hstep
      · exact runN_ended_step he n _ hrun
      · rw [List.cons_append, runN_step hstep] at hrun
        obtain ⟨chain', h1, h2⟩ := raise_mode c chain
        exact ih (fun f hf => hcs f (List.mem_cons_of_mem _ hf)) (c.raise chain) chain' h1 (by rw [h2]; exact hcs c (List.mem_cons_self ..)) w n f w' hs hrun
variable (P T StopF b0) in
def StopB (b : Frame) (w : World) : Prop := StopF (more b wall) w ∧ AtEnd b ∧ b.fn = b0.fn ∧ TameB T b
theorem csX_door {top : Option (Frame × List Frame)} {b : Frame} (h : csX top b [door P] = [door P]) : top = none := by
  cases top with
  | none => rfl
  | some x =>
    have := congrArg List.length h
    simp [csX] at this
theorem csX_ne {top : Option (Frame × List Frame)} {b : Frame} : csX top b [door P] ≠ [] := by cases top <;> simp [csX]
theorem atEnd_stop {b : Frame} (hb : TameB T b) (h : AtEnd b) : StopAt (more b wall) := by
  obtain ⟨fn, tmps, todo, defers, mode, kind, round⟩ := b
  obtain ⟨h2, rfl, rfl, rfl⟩ := hb
  refine ⟨rfl, rfl, rfl, ?_⟩
  rcases h with h | ⟨h, h'⟩
  · exact .inl h
  · dsimp only at h h'
    subst h'
    exact .inr ⟨h, rfl⟩
theorem stop_atEnd {b : Frame} (h : StopAt (more b wall)) : AtEnd b := by
  rcases h.mode with h | ⟨h, h'⟩
  · exact .inl h
  · refine .inr ⟨h, ?_⟩
    have := congrArg List.length h'
    simp only [more, List.length_append] at this
    exact List.eq_nil_of_length_eq_zero (by omega)
theorem no_stop (hL : ∀ f w, StopF f w → StopAt f) (hO : ∀ f w w₁, Like w w₁ → StopF f w → StopF f w₁)
    (hcall : ∀ τ, ∃ n f' w', runN P n (lone (more b0 wall) [door P] (ona w0 τ 0)) = .next (lone f' [door P] w') ∧ StopF f' w')
    {x : PtX} (hx : ReachX P T b0 w0 x) (hn : ¬ WellX P (StopB T StopF b0) x.top x.b x.w) : ¬ (x.top = none ∧ AtEnd x.b) := by
  rintro ⟨hc, hm⟩
  apply hn
  obtain ⟨n, f', w', hrun, hs⟩ := hcall x.p
  obtain ⟨W, hr, hlw, _, _⟩ := hx.run x.p (fun _ _ _ => rfl)
  replace hr := hr [door P]
  rw [hc] at hr
  have e : n = x.n := Nat.le_antisymm (after_stop hr (atEnd_stop hx.tame.bot hm) hrun (by simp)) (after_stop hrun (hL _ _ hs) hr (by simp [csX]))
  rw [e, hr] at hrun
  obtain ⟨e1, _, e3⟩ := lone_inj (Stepped.next.inj hrun)
  rw [hc]
  refine .stop fun w₁ hl => ⟨?_, hm, hx.fn, hx.tame.bot⟩
  rw [show more x.b wall = f' from e1]
  exact hO _ _ w₁ (by rw [← e3]; exact hlw.symm.trans hl) hs
theorem next_ptX (hP : TameP P T) (hL : ∀ f w, StopF f w → StopAt f) (hO : ∀ f w w₁, Like w w₁ → StopF f w → StopF f w₁)
    (hcall : ∀ τ, ∃ n f' w', runN P n (lone (more b0 wall) [door P] (ona w0 τ 0)) = .next (lone f' [door P] w') ∧ StopF f' w')
    {x : PtX} (hx : ReachX P T b0 w0 x) (hn : ¬ WellX P (StopB T StopF b0) x.top x.b x.w) :
    ∃ y : PtX, ReachX P T b0 w0 y ∧ ¬ WellX P (StopB T StopF b0) y.top y.b y.w ∧ y.n = x.n + 1 ∧ x.D ≤ y.D ∧ ∀ i, i < x.D → ∀ q, y.p i q = x.p i q := by
  have key := no_stop hL hO hcall hx hn
  have hbad : ∃ v : World, Like x.w v ∧ ∀ top' b' w' es, (∀ K base main, stepG P main (GX x.top (more x.b K) base) v = .go (GX top' (more b' K) base) w' es) → (∀ e ∈ es, EvL (fun _ => False) w'.heap.size e) ∧ x.w.heap.size ≤ w'.heap.size → ¬ WellX P (StopB T StopF b0) top' b' w' := by
    refine Classical.byContradiction fun hne => hn ?_
    have g : ∀ v : World, ∃ t : Option (Frame × List Frame) × Frame × World × Array Event, Like x.w v → (∀ K base main, stepG P main (GX x.top (more x.b K) base) v = .go (GX t.1 (more t.2.1 K) base) t.2.2.1 t.2.2.2) ∧ ((∀ e ∈ t.2.2.2, EvL (fun _ => False) t.2.2.1.heap.size e) ∧ x.w.heap.size ≤ t.2.2.1.heap.size) ∧ WellX P (StopB T StopF b0) t.1 t.2.1 t.2.2.1 := fun v => by
      by_cases hv : Like x.w v
      · exact Classical.byContradiction fun h => hne ⟨v, hv, fun top' b' w' es h1 h2 h3 => h ⟨(top', b', w', es), fun _ => ⟨h1, h2, h3⟩⟩⟩
      · exact ⟨(x.top, x.b, x.w, #[]), fun h => absurd h hv⟩
    exact .step (fun v => Classical.choose (g v)) (fun v hv K base main => (Classical.choose_spec (g v) hv).1 K base main) (fun v hv => (Classical.choose_spec (g v) hv).2.1) (fun v hv => (Classical.choose_spec (g v) hv).2.2)
  obtain ⟨v, hxv, hbad⟩ := hbad
  have hset : Settled P v := hx.set.like hxv
  have hF := fateX hP hset hx.tame
  obtain ⟨p', hp'⟩ : ∃ p' : Nat → Question → Nat, p' = fun i q => if i < x.D then x.p i q else v.tape (v.drawn + (i - x.D)) q := ⟨_, rfl⟩
  have hold : ∀ i, i < x.D → ∀ q, p' i q = x.p i q := fun i hi q => by rw [hp']; simp only [hi, if_true]
  have hnew : ∀ k τ₁, Agree p' (x.D + k) τ₁ → Tells τ₁ x.D v k := fun k τ₁ h j hj q => by
    have := h (x.D + j) (by omega) q
    rw [this, hp']
    have e : ¬ x.D + j < x.D := by omega
    simp only [e, if_false, Nat.add_sub_cancel_left]
  have hag : ∀ k τ₁, Agree p' (x.D + k) τ₁ → Agree x.p x.D τ₁ := fun k τ₁ h i hi q => by rw [h i (by omega) q]; exact hold i hi q
  have back : (∀ n f' w', n > x.n → StopAt f' → runN P n (lone (more b0 wall) [door P] (ona w0 p' 0)) ≠ .next (lone f' [door P] w')) → False := fun hnone => by
    obtain ⟨n, f', w', hrun, hs⟩ := hcall p'
    obtain ⟨W, hr, _, _, _⟩ := hx.run p' (hag 0 p' fun _ _ _ => rfl)
    replace hr := hr [door P]
    have h1 := after_stop hrun (hL _ _ hs) hr csX_ne
    have h2 : n ≤ x.n := Nat.le_of_not_lt fun hlt => hnone n f' w' hlt (hL _ _ hs) hrun
    have e : n = x.n := Nat.le_antisymm h2 h1
    rw [e, hr] at hrun
    obtain ⟨e1, e2, _⟩ := lone_inj (Stepped.next.inj hrun)
    have ht := csX_door e2
    rw [ht] at e1
    refine key ⟨ht, stop_atEnd ?_⟩
    rw [show more x.b wall = f' from e1]
    exact hL _ _ hs
  cases hF with
  | goes k top' b' w' es ht hfn hs he hz h =>
    obtain ⟨v', hv1, hv2, _, _⟩ := h v (Like.refl v) (fun _ _ _ => rfl)
    refine ⟨⟨top', b', v', p', x.D + k, x.n + 1⟩, ⟨ht, hfn.trans hx.fn, hs.like hv2, fun τ₁ h₁ => ?_⟩, ?_, rfl, Nat.le_add_right _ _, hold⟩
    · obtain ⟨W, hr, hlw, hwt, hwd⟩ := hx.run τ₁ (hag k τ₁ h₁)
      obtain ⟨W', hst, hlw', hwt', hwd'⟩ := h W (hxv.symm.trans hlw) (by rw [hwt, hwd]; exact hnew k τ₁ h₁)
      refine ⟨W', fun base => ?_, hv2.symm.trans hlw', hwt'.trans hwt, by rw [hwd', hwd]⟩
      rw [runN_add, hr base]
      have : step P (loneX x.top (more x.b wall) base W) = .next (loneX top' (more b' wall) base W') := step_loneX (hst wall base true)
      simp [runN, this]
    · exact hbad top' b' v' es hv1 ⟨by rw [hv2.size]; exact he, by rw [hv2.size]; exact Nat.le_trans (Nat.le_of_eq hxv.size.symm) hz⟩
  | stops hc hm => exact (key ⟨hc, hm⟩).elim
  | raises k chain es h =>
    refine (back fun n f' w₁ hlt hst' hrun => ?_).elim
    obtain ⟨j, rfl⟩ : ∃ j, n = x.n + (j + 1) := ⟨n - x.n - 1, by omega⟩
    obtain ⟨W, hr, hlw, hwt, hwd⟩ := hx.run p' (hag 0 p' fun _ _ _ => rfl)
    obtain ⟨W', hst⟩ := h W (hxv.symm.trans hlw) (by rw [hwt, hwd]; exact hnew k p' fun _ _ _ => rfl)
    have hs : step P (loneX x.top (more x.b wall) [door P] W) = .next (lone ((frX x.top (more x.b wall)).raise chain) (csX x.top (more x.b wall) [door P]) W') := step_loneX (hst [door P] true)
    rw [runN_on (hr [door P]), runN_step hs] at hrun
    have hrm : ∀ fr : Frame, (fr.mode = .run ∨ fr.mode = .returning) → (fr.raise chain).mode = .panicking chain ∧ (fr.raise chain).defers = fr.defers := fun fr hm => by
      unfold Frame.raise
      rcases hm with hm | hm <;> rw [hm] <;> exact ⟨rfl, rfl⟩
    cases htop : x.top with
    | none =>
      rw [htop] at hrun
      have hmode : x.b.mode = .run ∨ x.b.mode = .returning := hx.tame.mode.imp id (·.2)
      exact never_stops [] (by simp) _ chain (hrm (more x.b wall) hmode).1 (by rw [(hrm (more x.b wall) hmode).2]; exact hx.tame.bot.defers) _ j f' w₁ hst' hrun
    | some y =>
      obtain ⟨fr, cs⟩ := y
      rw [htop] at hrun
      have hS := (hx.tame.up fr cs htop).1
      have hcs : csX (some (fr, cs)) (more x.b wall) [door P] = (cs ++ [more x.b wall]) ++ [door P] := by simp [csX]
      rw [hcs] at hrun
      refine never_stops (cs ++ [more x.b wall]) (fun f hf => ?_) _ chain (hrm fr hS.mode).1 (by rw [(hrm fr hS.mode).2]; exact hS.top.defers) _ j f' w₁ hst' hrun
      rcases List.mem_append.1 hf with hf | hf
      · exact (hS.rest f hf).1.defers
      · rw [List.mem_singleton.1 hf]
        exact hx.tame.bot.defers
  | ends k h =>
    refine (back fun n f' w₁ hlt hst' hrun => ?_).elim
    obtain ⟨j, rfl⟩ : ∃ j, n = x.n + (j + 1) := ⟨n - x.n - 1, by omega⟩
    obtain ⟨W, hr, hlw, hwt, hwd⟩ := hx.run p' (hag 0 p' fun _ _ _ => rfl)
    obtain ⟨o, w2, es, hst⟩ := h W (hxv.symm.trans hlw) (by rw [hwt, hwd]; exact hnew k p' fun _ _ _ => rfl) [door P] true
    have hs : step P (loneX x.top (more x.b wall) [door P] W) = .ended o w2 := step_lone_ended (by
      have e : stepG P true { frame := frX x.top (more x.b wall), callers := csX x.top (more x.b wall) [door P], status := .running, dying := none } W = _ := hst
      rw [e]
      rfl)
    rw [runN_on (hr [door P])] at hrun
    exact runN_ended_step hs j _ hrun
/-- A PIECE THAT COMES TO ITS END ALONE, WHATEVER THE TAPE: the tree of its steps is well-founded -/
theorem wellX_of_lone (hP : TameP P T) (hL : ∀ f w, StopF f w → StopAt f) (hO : ∀ f w w₁, Like w w₁ → StopF f w → StopF f w₁)
    (hcall : ∀ τ, ∃ n f' w', runN P n (lone (more b0 wall) [door P] (ona w0 τ 0)) = .next (lone f' [door P] w') ∧ StopF f' w')
    (ht : TameX T none b0) (hs : Settled P w0) : WellX P (StopB T StopF b0) none b0 w0 := by
  refine Classical.byContradiction fun hno => ?_
  let Q : PtX → Prop := fun x => ReachX P T b0 w0 x ∧ ¬ WellX P (StopB T StopF b0) x.top x.b x.w
  let R : PtX → PtX → Prop := fun x y => y.n = x.n + 1 ∧ x.D ≤ y.D ∧ ∀ i, i < x.D → ∀ q, y.p i q = x.p i q
  have hstep : ∀ x, Q x → ∃ y, Q y ∧ R x y := fun x hx => by
    obtain ⟨y, h1, h2, h3⟩ := next_ptX hP hL hO hcall hx.1 hx.2
    exact ⟨y, ⟨h1, h2⟩, h3⟩
  have h0 : Q ⟨none, b0, w0, fun _ _ => 0, 0, 0⟩ := ⟨⟨ht, rfl, hs, fun τ _ => ⟨ona w0 τ 0, fun base => rfl, Like.ona w0 τ 0, rfl, rfl⟩⟩, hno⟩
  obtain ⟨s, hs'⟩ : ∃ s : Nat → { x : PtX // Q x }, s = chainOf R Q hstep _ h0 := ⟨_, rfl⟩
  have hR : ∀ n, R (s n).1 (s (n + 1)).1 := fun n => by rw [hs']; exact chainOf_step R Q hstep _ h0 n
  have hn : ∀ n, (s n).1.n = n := fun n => by
    induction n with
    | zero => rw [hs']; rfl
    | succ n ih => rw [(hR n).1, ih]
  have hmono : ∀ m j, (s m).1.D ≤ (s (m + j)).1.D ∧ ∀ i, i < (s m).1.D → ∀ q, (s (m + j)).1.p i q = (s m).1.p i q := fun m j => by
    induction j with
    | zero => exact ⟨Nat.le_refl _, fun _ _ _ => rfl⟩
    | succ j ih =>
      obtain ⟨_, h1, h2⟩ := hR (m + j)
      exact ⟨Nat.le_trans ih.1 h1, fun i hi q => by rw [← ih.2 i hi q]; exact h2 i (Nat.lt_of_lt_of_le hi ih.1) q⟩
  obtain ⟨τ, hτ⟩ : ∃ τ : Nat → Question → Nat, ∀ n, Agree (s n).1.p (s n).1.D τ := by
    refine ⟨fun i q => Classical.epsilon fun a => ∃ n, i < (s n).1.D ∧ a = (s n).1.p i q, fun n i hi q => ?_⟩
    obtain ⟨m, hm, e⟩ := Classical.epsilon_spec (p := fun a => ∃ n, i < (s n).1.D ∧ a = (s n).1.p i q) ⟨_, n, hi, rfl⟩
    show Classical.epsilon _ = _
    rw [e]
    rcases Nat.le_total m n with h | h
    · obtain ⟨j, rfl⟩ := Nat.exists_eq_add_of_le h
      exact ((hmono m j).2 i hm q).symm
    · obtain ⟨j, rfl⟩ := Nat.exists_eq_add_of_le h
      exact (hmono n j).2 i hi q
  obtain ⟨n, f', w', hrun, hst⟩ := hcall τ
  obtain ⟨W, hr, _, _, _⟩ := (s n).2.1.run τ (hτ n)
  replace hr := hr [door P]
  rw [hn n, hrun] at hr
  obtain ⟨e1, e2, _⟩ := lone_inj (Stepped.next.inj hr)
  have htn := csX_door e2.symm
  rw [htn] at e1
  refine no_stop hL hO hcall (s n).2.1 (s n).2.2 ⟨htn, stop_atEnd ?_⟩
  rw [show more (s n).1.b wall = f' from e1.symm]
  exact hL _ _ hst
end
end Go.Proofs.Ytchfnbcpjiiphaa

namespace Go.Proofs.Ytchfnbcpjiiphaa
open Go Go.Conc
section
variable {P : Program} {T : FuncId → Bool}
theorem at_more (b : Frame) (a : Act) (l k : List Item) : more (b.at a l) k = b.at a (l ++ k) := rfl
/-- items that come to an end alone do so in the crowd -/
theorem to_of_arrives (hP : TameP P T) {b : Frame} (hb : b.kind = .normal) {a : Act} (ha : a.defers = []) {items : List Item} (hit : ∀ x ∈ items, tameItem T x = true) {w : World} (hs : Settled P w) {Q : Exit → Act → World → Prop}
    (hQ : ∀ e a' w' w₁, Like w' w₁ → Q e a' w' → Q e a' w₁)
    (h : ∀ w₁, Like w w₁ → ∀ k cs, ∃ e a' w', ((e = .normal ∨ e = .ret) ∧ a'.defers = [] ∧ Q e a' w') ∧ Arrives P (lone (b.at a (items ++ k)) cs w₁) b k cs e a' w') (k : List Item) (cs : List Frame) :
    To P (G (b.at a (items ++ k)) cs) w fun g' w' => ∃ a', a'.defers = [] ∧ ((g' = G (b.at a' k) cs ∧ Q .normal a' w') ∨ ∃ todo, g' = G { b.at a' todo with mode := .returning } cs ∧ Q .ret a' w') := by
  let StopF : Frame → World → Prop := fun f w' => StopAt f ∧ ((f.mode = .returning ∧ Q .ret ⟨f.tmps, f.defers⟩ w') ∨ (f.mode = .run ∧ Q .normal ⟨f.tmps, f.defers⟩ w'))
  have hw : WellX P (StopB T StopF (b.at a items)) none (b.at a items) w := by
    refine wellX_of_lone hP (fun f w' h => h.1) (fun f w' w₁ hl h => ⟨h.1, h.2.imp (fun h => ⟨h.1, hQ _ _ _ _ hl h.2⟩) (fun h => ⟨h.1, hQ _ _ _ _ hl h.2⟩)⟩) (fun τ => ?_) ⟨⟨hit, ha, hb, rfl⟩, .inl rfl, fun _ _ h => by cases h⟩ hs
    obtain ⟨e, a', w', ⟨he, hd, hq⟩, harr⟩ := h (ona w τ 0) (Like.ona w τ 0) wall [door P]
    rcases he with rfl | rfl
    · obtain ⟨n, hn⟩ := harr
      exact ⟨n, _, w', hn, ⟨hd, hb, rfl, .inr ⟨rfl, rfl⟩⟩, .inr ⟨rfl, hq⟩⟩
    · obtain ⟨todo, n, hn⟩ := harr
      exact ⟨n, _, w', hn, ⟨hd, hb, rfl, .inl rfl⟩, .inl ⟨rfl, hq⟩⟩
  refine to_mono (wellX_to hw k cs) fun g' w' ⟨b', e, ⟨⟨hst, hq⟩, hend, hfn, hB⟩⟩ => ?_
  subst e
  obtain ⟨fn, tmps, todo, defers, mode, kind, round⟩ := b'
  obtain ⟨_, rfl, rfl, rfl⟩ := hB
  dsimp only at hfn
  refine ⟨⟨tmps, []⟩, rfl, ?_⟩
  have hfn' : fn = b.fn := hfn
  subst hfn'
  rcases hq with ⟨hm, hq⟩ | ⟨hm, hq⟩
  · have hm' : mode = .returning := hm
    subst hm'
    refine .inr ⟨todo ++ k, ?_, hq⟩
    unfold more Frame.at
    rw [hb]
  · have hm' : mode = .run := hm
    subst hm'
    rcases hend with h | ⟨_, h⟩
    · cases h
    · have h' : todo = [] := h
      subst h'
      refine .inl ⟨?_, hq⟩
      unfold more Frame.at
      rw [hb]
      rfl
theorem to_piece {b : Frame} {k : List Item} {cs : List Frame} {w : World} {g : Goroutine} {Q : Exit → Act → World → Prop} {R : Goroutine → World → Prop} (h : To P g w fun g' w' => ∃ a', a'.defers = [] ∧ ((g' = G (b.at a' k) cs ∧ Q .normal a' w') ∨ ∃ todo, g' = G { b.at a' todo with mode := .returning } cs ∧ Q .ret a' w'))
    (hc : ∀ e a' w', a'.defers = [] → Q e a' w' → AfterX P R b k cs e a' w') : To P g w R :=
  to_trans h fun g' w' ⟨a', hd, h⟩ => by
    rcases h with ⟨rfl, hq⟩ | ⟨todo, rfl, hq⟩
    · exact hc _ _ _ hd hq
    · exact hc _ _ _ hd hq todo
/-- code -/
theorem wpX_of_wp (hP : TameP P T) {c : Code} (hc : tameCode T c = true) {a : Act} (ha : a.defers = []) {w : World} (hs : Settled P w) {Q : Exit → Act → World → Prop} (hQ : ∀ e a' w' w₁, Like w' w₁ → Q e a' w' → Q e a' w₁)
    (h : ∀ w₁, Like w w₁ → c.wp P (fun e a' w' => (e = .normal ∨ e = .ret) ∧ a'.defers = [] ∧ Q e a' w') a w₁) : WpX P c Q a w := fun b k cs _ hb hq =>
  to_piece (to_of_arrives hP hb ha (items := [.code c]) (by simpa [tameItem] using hc) hs hQ (fun w₁ hl k cs => h w₁ hl b k cs) k cs) fun e a' w' _ q => hq e a' w' q
/-- what is left of a region's operations -/
theorem opsX_of_wpOps (hP : TameP P T) {ops : Array Oper} {l : List Nat} (hc : tameRest T ops l = true) {a : Act} (ha : a.defers = []) {w : World} (hs : Settled P w) {Q : Exit → Act → World → Prop} (hQ : ∀ e a' w' w₁, Like w' w₁ → Q e a' w' → Q e a' w₁)
    (h : ∀ w₁, Like w w₁ → wpOps P ops (fun e a' w' => (e = .normal ∨ e = .ret) ∧ a'.defers = [] ∧ Q e a' w') l a w₁) : OpsX P ops l Q a w := fun b k cs _ hb hq =>
  to_piece (to_of_arrives hP hb ha (items := [.inRegion ops l]) (by simpa [tameItem] using hc) hs hQ (fun w₁ hl k cs => wp_ops l a w₁ (h w₁ hl) b k cs) k cs) fun e a' w' _ q => hq e a' w' q
end
end Go.Proofs.Ytchfnbcpjiiphaa

namespace Go.Proofs.Ytchfnbcpjiiphaa
open Go Go.Conc
section
variable {P : Program}
/-- one calm operation, at the grain of goroutines -/
theorem to_op {b : Frame} (hb : b.kind = .normal) {a : Act} {k : List Item} {cs : List Frame} {w : World} {R : Goroutine → World → Prop} {ops : Array Oper} {i : Nat} {rest : List Nat} {o : Oper} (ho : ops[i]? = some o) (hw : Region.wanted o (yielded ops a.tmps) = true) (ht : tameOp (fun _ => false) o.op = true)
    (h : ∀ w₁, Like w w₁ → uponK o a (fun a' w' => To P (G (b.at a' (.inRegion ops rest :: k)) cs) w' R) ((execOp a.eval o).run P w₁)) : To P (G (b.at a (.inRegion ops (i :: rest) :: k)) cs) w R := by
  refine to_step rfl fun w₁ hl => ?_
  obtain ⟨hC, _⟩ := exec_tame (P := P) (fun _ => false) (fun _ h => by cases h) a.eval (fun _ => rfl) o ht
  have hk : (b.at a (.inRegion ops (i :: rest) :: k)).kind = .normal := hb
  have hfin : ∀ v, (b.at a (.inRegion ops (i :: rest) :: k)).finish v = b.at (a.put o.dst v) (.inRegion ops rest :: k) := fun v => by rw [Frame.finish_at, ho]; rfl
  have hev := runT_evL P _ hC w₁ b.fn
  have hz := (runT_low P _ hC w₁ #[]).1
  have hr : (execOp a.eval o).runT P w₁ #[] = ((execOp a.eval o).run P w₁, ((execOp a.eval o).runT P w₁ #[]).2) := by
    have := Sem.runT_eq P (execOp a.eval o) w₁ #[]
    rw [this]
  have h1 := h w₁ hl
  generalize (execOp a.eval o).run P w₁ = r at h1 hr
  generalize ((execOp a.eval o).runT P w₁ #[]).2 = es at hr hev
  rw [hr] at hev hz
  rw [stepG_oper ho hw]
  cases r with
  | ok x w' =>
    cases x with
    | value v =>
      refine ⟨_, w', _, apply_value hk hr, hev, by rw [← hl.size]; exact hz, ?_⟩
      rw [hfin]
      exact h1
    | skip =>
      refine ⟨_, w', _, apply_skip hk hr, hev, by rw [← hl.size]; exact hz, ?_⟩
      rw [hfin]
      exact h1
    | _ => exact h1.elim
  | halt x w' => exact h1.elim
/-- blind to the tape -/
def LikeQ (Q : Exit → Act → World → Prop) : Prop := ∀ e a w w₁, Like w w₁ → Q e a w → Q e a w₁
theorem likeQ_then {y : Code} {Q : Exit → Act → World → Prop} (h : LikeQ Q) : LikeQ (Exit.then (fun a w => WpX P y Q a w) Q) := fun e a w w₁ hl q => by
  cases e <;> first | exact wpX_like q hl | exact h _ _ _ _ hl q
theorem likeQ_block {id : Nat} {Q : Exit → Act → World → Prop} (h : LikeQ Q) : LikeQ (Exit.inBlock id Q) := fun e a w w₁ hl q => by
  cases e with
  | exit id' =>
    unfold Exit.inBlock at q ⊢
    dsimp only at q ⊢
    split at q
    · rename_i he; rw [if_pos he]; exact h _ _ _ _ hl q
    · rename_i he; rw [if_neg he]; exact h _ _ _ _ hl q
  | _ => exact h _ _ _ _ hl q
/-- what a function must achieve -/
def postX (fn : Func) (Post : Value → World → Prop) (e : Exit) (a : Act) (w : World) : Prop := (e = .normal ∨ e = .ret) ∧ a.defers = [] ∧ ∃ v, results fn a.tmps = Sem.pure v ∧ Post v w
theorem likeQ_post {fn : Func} {Post : Value → World → Prop} (h : ∀ v w w₁, Like w w₁ → Post v w → Post v w₁) : LikeQ (postX fn Post) := fun _ _ _ _ hl ⟨h1, h2, v, h3, h4⟩ => ⟨h1, h2, v, h3, h v _ _ hl h4⟩
/-- a piece ahead of the rest, by its lone walk -/
theorem wpX_piece {T : FuncId → Bool} (hP : TameP P T) {x y : Code} (hc : tameCode T x = true) {a : Act} (ha : a.defers = []) {w : World} (hs : Settled P w) {Q : Exit → Act → World → Prop} (hQ : LikeQ Q)
    (h : ∀ w₁, Like w w₁ → x.wp P (fun e a' w' => (e = .normal ∨ e = .ret) ∧ a'.defers = [] ∧ Exit.then (fun a w => WpX P y Q a w) Q e a' w') a w₁) : WpX P (.seq x y) Q a w :=
  wpX_seq (wpX_of_wp hP hc ha hs (likeQ_then hQ) h)
/-- the rest of a function, by its lone walk -/
theorem wpX_last {T : FuncId → Bool} (hP : TameP P T) {x : Code} (hc : tameCode T x = true) {a : Act} (ha : a.defers = []) {w : World} (hs : Settled P w) {fn : Func} {Post : Value → World → Prop} (hQ : ∀ v w w₁, Like w w₁ → Post v w → Post v w₁)
    (h : ∀ w₁, Like w w₁ → x.wp P (bodyPost P fn fun e w' => ∃ v, e = .returned v ∧ Post v w') a w₁) (hr : ∀ tmps, ∃ v, results fn tmps = Sem.pure v) : WpX P x (postX fn Post) a w := by
  refine wpX_of_wp hP hc ha hs (likeQ_post hQ) fun w₁ hl => ?_
  refine Code.wp_mono (fun e a' w' q => ?_) (h w₁ hl)
  have key : ∀ e, (e = Exit.normal ∨ e = Exit.ret) → (a'.defers = [] ∧ ∃ v, (results fn a'.tmps).run P w' = .ok v w' ∧ ∃ u, Ending.returned v = .returned u ∧ Post u w') → (e = .normal ∨ e = .ret) ∧ a'.defers = [] ∧ postX fn Post e a' w' := by
    rintro e he ⟨hd, v, hv, u, hu, hp⟩
    injection hu with hu
    subst hu
    obtain ⟨x, hx⟩ := hr a'.tmps
    have hxv : x = v := by
      rw [hx] at hv
      have hv' : Result.ok x w' = Result.ok v w' := hv
      injection hv'
    subst hxv
    exact ⟨he, hd, he, hd, x, hx, hp⟩
  cases e with
  | normal => exact key _ (.inl rfl) q
  | ret => exact key _ (.inr rfl) q
  | exit id => exact q.elim
  | goto l => exact q.elim
  | panic ch => obtain ⟨_, u, hu, _⟩ := q; cases hu
  | outgrown => obtain ⟨u, hu, _⟩ := q; cases hu
/-- a function's last piece, to where it leaves -/
theorem to_end {f : FuncId} {fn : Func} {c : Code} {a : Act} {w : World} {cs : List Frame} {Post : Value → World → Prop} (hf : P.funcs[f]? = some fn) (hPost : ∀ v w w₁, Like w w₁ → Post v w → Post v w₁) (h : WpX P c (postX fn Post) a w) :
    To P (G ((Conc.base f).at a [.code c]) cs) w fun g' w' => ∃ fr v, g' = G fr cs ∧ LeavesV P f fr v ∧ Post v w' := by
  refine h _ [] cs _ rfl fun e a' w' ⟨he, hd, v, hr, hp⟩ => ?_
  have hret : ∀ todo, To P (G { (Conc.base f).at a' todo with mode := .returning } cs) w' fun g' w' => ∃ fr v, g' = G fr cs ∧ LeavesV P f fr v ∧ Post v w' := fun todo =>
    to_refl fun w₁ hl => ⟨_, v, rfl, ⟨rfl, rfl, hd, rfl, fn, hf, hr⟩, hPost v w' w₁ hl hp⟩
  rcases he with rfl | rfl
  · exact to_move rfl (fun _ => stepG_end) (hret [])
  · exact hret
variable {ops : Array Oper} {i : Nat} {rest : List Nat} {o : Oper} {Q : Exit → Act → World → Prop} {a : Act} {w : World}
theorem opsX_like {l : List Nat} {w₁ : World} (h : OpsX P ops l Q a w) (hl : Like w w₁) : OpsX P ops l Q a w₁ := fun b k cs R hb hc => to_like (h b k cs R hb hc) hl
/-- one calm operation, what follows behind a variable -/
theorem opsX_k (ho : ops[i]? = some o) (hw : Region.wanted o (yielded ops a.tmps) = true) (ht : tameOp (fun _ => false) o.op = true)
    (h : ∀ w₁, Like w w₁ → ∀ K : Act → World → Prop, (∀ a' w', OpsX P ops rest Q a' w' → K a' w') → uponK o a K ((execOp a.eval o).run P w₁)) : OpsX P ops (i :: rest) Q a w :=
  opsX_op ho hw ht fun w₁ hl => h w₁ hl _ fun _ _ x => x
/-- one that leaves the world as it is: the walk goes on in the world that it came in -/
theorem opsX_pure (ho : ops[i]? = some o) (hw : Region.wanted o (yielded ops a.tmps) = true) (ht : tameOp (fun _ => false) o.op = true)
    (h : ∀ w₁, Like w w₁ → ∀ K : Act → World → Prop, (∀ a', OpsX P ops rest Q a' w → K a' w₁) → uponK o a K ((execOp a.eval o).run P w₁)) : OpsX P ops (i :: rest) Q a w :=
  opsX_op ho hw ht fun w₁ hl => h w₁ hl _ fun _ x => opsX_like x hl
/-- a lone contract in the crowd -/
theorem callsX_lone {T : FuncId → Bool} (hP : TameP P T) {f : FuncId} (hT : T f = true) {args : Array Value} (hs : Settled P w) {Post : Value → World → Prop} (hPost : ∀ v w w₁, Like w w₁ → Post v w → Post v w₁)
    (h : ∀ w₁, Like w w₁ → Calls P f args w₁ fun e w' => ∃ v, e = .returned v ∧ Post v w') : CallsX P f args w Post := callsX_of_calls hP hT hs hPost fun τ => h _ (Like.ona w τ 0)
/-- .. of one that only looks -/
theorem opsX_callp {T : FuncId → Bool} (hP : TameP P T) {f : FuncId} {args : Array Operand} {ats : Array TypeId} {v : Value} {vals : Array Value} (h : ∀ w₁, Like w w₁ → Calls P f vals w₁ fun e w' => e = .returned v ∧ Like w₁ w') (ho : ops[i]? = some o) (hw : Region.wanted o (yielded ops a.tmps) = true)
    (hop : o.op = .call { callee := .value (.func f), args, argTypes := ats }) (hv : args.map a.eval = vals) (hT : T f = true) (hs : Settled P w)
    (hn : OpsX P ops rest Q (a.put o.dst v) w) : OpsX P ops (i :: rest) Q a w := by
  refine opsX_call (Post := fun v' w' => v' = v ∧ Like w w') ho hw hop (hP.bodied f hT) (by rw [hv]; exact callsX_lone hP hT hs (fun _ _ _ hl q => ⟨q.1, q.2.trans hl⟩) fun w₁ hl => (h w₁ hl).mono fun e w' q => ⟨v, q.1, rfl, hl.trans q.2⟩) fun v' w' ⟨hv', hl⟩ => ?_
  subst hv'
  exact opsX_like hn hl
/-- a call that has a contract in the crowd -/
theorem opsX_calls {f : FuncId} {args : Array Operand} {ats : Array TypeId} {fn : Func} {vals : Array Value} {Post : Value → World → Prop} (hcall : CallsX P f vals w Post) (ho : ops[i]? = some o) (hw : Region.wanted o (yielded ops a.tmps) = true)
    (hop : o.op = .call { callee := .value (.func f), args, argTypes := ats }) (hv : args.map a.eval = vals) (hf : P.funcs[f]? = some fn) (hn : (fn.name == "runtime.NumGoroutine") = false) (hb : fn.body.isNone = false)
    (hnext : ∀ v w', Post v w' → OpsX P ops rest Q (a.put o.dst v) w') : OpsX P ops (i :: rest) Q a w :=
  opsX_call ho hw hop ⟨fn, hf, hn, hb⟩ (by rw [hv]; exact hcall) hnext
theorem callsX_of_postX {f : FuncId} {fn : Func} {c : Code} {args : Array Value} {Post : Value → World → Prop} (hf : P.funcs[f]? = some fn) (hb : fn.body = some c) (hPost : ∀ v w w₁, Like w w₁ → Post v w → Post v w₁)
    (h : WpX P c (postX fn Post) { tmps := args ++ Array.replicate (fn.ntmps - args.size) undef, defers := [] } w) : CallsX P f args w Post := callsX_of_wpX hf hb hPost h
/-- what is left of a region from operation k on, by the lone walk -/
theorem opsX_of_wpList {T : FuncId → Bool} (hP : TameP P T) (k : Nat) {l : List Nat} (hr : l = List.range' k (ops.toList.drop k).length) (hc : tameRest T ops l = true) (ha : a.defers = []) (hs : Settled P w) (hQ : LikeQ Q)
    (h : ∀ w₁, Like w w₁ → wpList P ops (fun e a' w' => (e = .normal ∨ e = .ret) ∧ a'.defers = [] ∧ Q e a' w') (ops.toList.drop k) a w₁) : OpsX P ops l Q a w := by
  refine opsX_of_wpOps hP hc ha hs hQ fun w₁ hl => ?_
  rw [hr, wpOps_eq_wpList _ k (fun j => by rw [List.getElem?_drop, Array.getElem?_toList])]
  exact h w₁ hl
end
end Go.Proofs.Ytchfnbcpjiiphaa
