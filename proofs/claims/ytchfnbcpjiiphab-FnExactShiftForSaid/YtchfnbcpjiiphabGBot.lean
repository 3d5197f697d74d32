/-
  A piece of tame code at the bottom of its own stack, whatever stands behind it: each of its steps has one of four fates.
-/
import Derived.Test.YtchfnbcpjiiphabGWpX
namespace Go.Proofs.Ytchfnbcpjiiphab
open Go Go.Conc

/-- a frame that has more to do behind -/
def more (b : Frame) (K : List Item) : Frame := { b with todo := b.todo ++ K }
def frX : Option (Frame × List Frame) → Frame → Frame
  | none, b => b
  | some (fr, _), _ => fr
def csX : Option (Frame × List Frame) → Frame → List Frame → List Frame
  | none, _, base => base
  | some (_, cs), b, base => cs ++ b :: base
/-- the goroutine of a piece: its calls' frames over its own -/
def GX (top : Option (Frame × List Frame)) (b : Frame) (base : List Frame) : Goroutine := G (frX top b) (csX top b base)
def loneX (top : Option (Frame × List Frame)) (b : Frame) (base : List Frame) (w : World) : Machine := lone (frX top b) (csX top b base) w
/-- what stands behind a piece that is walked alone: the run ends there -/
def wall : List Item := [.code (.exit 0)]
structure TameB (T : FuncId → Bool) (b : Frame) : Prop where
  todo : ∀ x ∈ b.todo, tameItem T x = true
  defers : b.defers = []
  kind : b.kind = .normal
  round : b.roundOf = none
structure TameX (T : FuncId → Bool) (top : Option (Frame × List Frame)) (b : Frame) : Prop where
  bot : TameB T b
  mode : b.mode = .run ∨ (top = none ∧ b.mode = .returning)
  up : ∀ fr cs, top = some (fr, cs) → TameS T fr cs ∧ ∃ ops i l k, b.todo = .inRegion ops (i :: l) :: k
/-- where a piece has been left -/
def AtEnd (b : Frame) : Prop := b.mode = .returning ∨ b.mode = .run ∧ b.todo = []
inductive FateX (P : Program) (T : FuncId → Bool) (top : Option (Frame × List Frame)) (b : Frame) (w : World) : Prop
  | goes (k : Nat) (top' : Option (Frame × List Frame)) (b' : Frame) (w' : World) (es : Array Event) (ht : TameX T top' b') (hfn : b'.fn = b.fn) (hs : Settled P w') (he : ∀ e ∈ es, EvL (fun _ => False) w'.heap.size e) (hz : w.heap.size ≤ w'.heap.size)
      (h : ∀ w₁, Like w w₁ → Tells w₁.tape w₁.drawn w k → ∃ w₁', (∀ K base main, stepG P main (GX top (more b K) base) w₁ = .go (GX top' (more b' K) base) w₁' es) ∧ Like w' w₁' ∧ w₁'.tape = w₁.tape ∧ w₁'.drawn = w₁.drawn + k)
  | stops (hc : top = none) (hm : AtEnd b)
  | raises (k : Nat) (chain : List PanicEntry) (es : Array Event) (h : ∀ w₁, Like w w₁ → Tells w₁.tape w₁.drawn w k → ∃ w₁', ∀ base main, stepG P main (GX top (more b wall) base) w₁ = .go (G ((frX top (more b wall)).raise chain) (csX top (more b wall) base)) w₁' es)
  | ends (k : Nat) (h : ∀ w₁, Like w w₁ → Tells w₁.tape w₁.drawn w k → ∀ base main, ∃ o w' es, stepG P main (GX top (more b wall) base) w₁ = .ended o w' es)
section
variable {P : Program} {T : FuncId → Bool} {b : Frame} {w : World}
theorem more_finish {ops : Array Oper} {i : Nat} {l : List Nat} {k : List Item} (h : b.todo = .inRegion ops (i :: l) :: k) (v : Value) (K : List Item) : (more b K).finish v = more (b.finish v) K := by
  obtain ⟨fn, tmps, todo, defers, mode, kind, round⟩ := b
  dsimp only at h
  subst h
  rfl
theorem more_eval (K : List Item) : (more b K).eval = b.eval := by funext x; cases x <;> rfl
theorem tameB_finish (h : TameB T b) (hm : b.mode = .run) (v : Value) : TameB T (b.finish v) ∧ (b.finish v).mode = .run ∧ (b.finish v).fn = b.fn := by
  obtain ⟨fn, tmps, todo, defers, mode, kind, round⟩ := b
  obtain ⟨h2, h3, h4, h5⟩ := h
  cases todo with
  | nil => exact ⟨⟨h2, h3, h4, h5⟩, hm, rfl⟩
  | cons x k =>
    have hx := h2 x (List.mem_cons_self ..)
    cases x with
    | inRegion ops l =>
      cases l with
      | nil => exact ⟨⟨h2, h3, h4, h5⟩, hm, rfl⟩
      | cons i rest =>
        refine ⟨⟨fun y hy => ?_, h3, h4, h5⟩, hm, rfl⟩
        rcases List.mem_cons.1 hy with rfl | hy
        · exact tameRest_tail hx
        · exact h2 y (List.mem_cons_of_mem _ hy)
    | code c => exact ⟨⟨h2, h3, h4, h5⟩, hm, rfl⟩
    | inBlock _ => exact ⟨⟨h2, h3, h4, h5⟩, hm, rfl⟩
    | inLoop _ => exact ⟨⟨h2, h3, h4, h5⟩, hm, rfl⟩
    | _ => cases hx
theorem fateX_quiet {b' : Frame} (h : ∀ K base main W, stepG P main (GX none (more b K) base) W = .go (GX none (more b' K) base) W) (ht : TameB T b') (hm : b'.mode = .run ∨ b'.mode = .returning) (hfn : b'.fn = b.fn) (hs : Settled P w) : FateX P T none b w :=
  .goes 0 none b' w #[] ⟨ht, hm.imp id fun h => ⟨rfl, h⟩, fun _ _ h => by cases h⟩ hfn hs (by simp) (Nat.le_refl _) (fun w₁ hl _ => ⟨w₁, fun K base main => h K base main w₁, hl, rfl, rfl⟩)
theorem fateX_op (hP : TameP P T) (hs : Settled P w) (hf : TameB T b) (hm : b.mode = .run) {ops : Array Oper} {i : Nat} {l : List Nat} {k : List Item} (ht : b.todo = .inRegion ops (i :: l) :: k) (s : Sem Next)
    (hC : Calm P s) (hY : Yields P (NextT T) s) (h : ∀ K base main W, stepG P main (G (more b K) base) W = stepG.apply P true (more b K) base none s W) : FateX P T none b w := by
  obtain ⟨n, hd, htp, htape⟩ := runT_like P s hC w #[]
  obtain ⟨hw, hsoft⟩ := runT_kept P s hC w #[]
  have hev := runT_evL P s hC w b.fn
  have hz := (runT_low P s hC w #[]).1
  have hy := runT_yields (NextT T) s hY w #[]
  have hkind : ∀ K, (more b K).kind = .normal := fun _ => hf.kind
  generalize hr : s.runT P w #[] = r at *
  obtain ⟨r, es⟩ := r
  have fin : ∀ (v : Value) (w1 : World), r = .ok (.value v) w1 ∨ (r = .ok .skip w1 ∧ v = undef) → (∀ w₁, Like w w₁ → Tells w₁.tape w₁.drawn w n → ∃ w₁', (∀ K base main, stepG P main (G (more b K) base) w₁ = .go (G ((more b K).finish v) base) w₁' (seen P b.fn es)) ∧ Like w1 w₁' ∧ w₁'.tape = w₁.tape ∧ w₁'.drawn = w₁.drawn + n) →
      Settled P w1 → (∀ e ∈ seen P b.fn es, EvL (fun _ => False) w1.heap.size e) → w.heap.size ≤ w1.heap.size → FateX P T none b w := fun v w1 _ hg hs1 hev1 hz1 => by
    obtain ⟨f1, f2, f3⟩ := tameB_finish hf hm v
    exact .goes n none (b.finish v) w1 (seen P b.fn es) ⟨f1, .inl f2, fun _ _ h => by cases h⟩ f3 hs1 hev1 hz1 (fun w₁ hl hτ => by
      obtain ⟨w₁', g1, g2⟩ := hg w₁ hl hτ
      exact ⟨w₁', fun K base main => by rw [← more_finish ht]; exact g1 K base main, g2⟩)
  cases r with
  | ok a w1 =>
    cases a with
    | value v =>
      exact fin v w1 (.inl rfl) (fun w₁ hl hτ => by
        obtain ⟨w₁', g1, g2, g3, g4⟩ := htape w₁ hl hτ
        exact ⟨w₁', fun K base main => by rw [h]; exact apply_value (hkind K) g1, g2, g3, g4⟩) (hs.on hw) hev hz
    | skip =>
      exact fin undef w1 (.inr ⟨rfl, rfl⟩) (fun w₁ hl hτ => by
        obtain ⟨w₁', g1, g2, g3, g4⟩ := htape w₁ hl hτ
        exact ⟨w₁', fun K base main => by rw [h]; exact apply_skip (hkind K) g1, g2, g3, g4⟩) (hs.on hw) hev hz
    | enter f args =>
      have hT : T f = true := hy _ _ rfl
      refine .goes n (some (Frame.enter P f args .normal, [])) b w1 (seen P b.fn es) ⟨hf, .inl hm, fun fr cs he => ?_⟩ rfl (hs.on hw) hev hz
        (fun w₁ hl hτ => by
          obtain ⟨w₁', g1, g2, g3, g4⟩ := htape w₁ hl hτ
          have htK : ∀ K, (more b K).todo = .inRegion ops (i :: l) :: (k ++ K) := fun K => by
            show b.todo ++ K = _
            rw [ht]; rfl
          exact ⟨w₁', fun K base main => by rw [show GX none (more b K) base = G (more b K) base from rfl, h]; exact apply_enter (hkind K) (htK K) g1, g2, g3, g4⟩)
      injection he with he
      injection he with e1 e2
      subst e1 e2
      exact ⟨⟨(tame_enter hP hT args).1, .inl (tame_enter hP hT args).2, by simp⟩, ops, i, l, k, ht⟩
    | _ => exact (hy _ _ rfl).elim
  | halt x w1 =>
    have h' : ∀ base main W, stepG P main (GX none (more b wall) base) W = stepG.apply P true (more b wall) base none s W := fun base main W => h wall base main W
    rcases hsoft with hmild | ⟨g, c, t, rfl, hg⟩
    · cases x with
      | panic v =>
        refine .raises n [{ v, recovered := false }] (seen P b.fn es) fun w₁ hl hτ => ?_
        obtain ⟨w₁', g1, _⟩ := htape w₁ hl hτ
        exact ⟨w₁', fun base main => by rw [h']; exact apply_panic (hkind wall) g1⟩
      | stuck x =>
        refine .ends n fun w₁ hl hτ base main => ?_
        obtain ⟨w₁', g1, _⟩ := htape w₁ hl hτ
        rw [h']; exact apply_stuck (hkind wall) g1
      | unsupported u =>
        refine .ends n fun w₁ hl hτ base main => ?_
        obtain ⟨w₁', g1, _⟩ := htape w₁ hl hτ
        rw [h']; exact apply_unsup (hkind wall) hmild g1
      | _ => exact hmild.elim
    · refine .ends n fun w₁ hl hτ base main => ?_
      obtain ⟨w₁', g1, _⟩ := htape w₁ hl hτ
      rw [h']; exact apply_early (hkind wall) hs.1 ((hs.on hw).2 g c t hg) g1
/-- a call's frame that leaves to the piece -/
theorem fateX_back (hP : TameP P T) (hs : Settled P w) (hb : TameB T b) (hbm : b.mode = .run) {fr : Frame} (hf : TameF T fr) (hm : fr.mode = .returning) {ops : Array Oper} {i : Nat} {l : List Nat} {k : List Item} (ht : b.todo = .inRegion ops (i :: l) :: k) : FateX P T (some (fr, [])) b w := by
  obtain ⟨fn, code, h1, _, _, _, r, hr⟩ := hP fr.fn hf.fn
  obtain ⟨f1, f2, f3⟩ := tameB_finish hb hbm (r fr.tmps)
  refine .goes 0 none (b.finish (r fr.tmps)) w #[] ⟨f1, .inl f2, fun _ _ h => by cases h⟩ f3 hs (by simp) (Nat.le_refl _) (fun w₁ hl _ => ⟨w₁, fun K base main => ?_, hl, rfl, rfl⟩)
  rw [← more_finish ht]
  obtain ⟨fn', tmps, todo, defers, mode, kind, round⟩ := fr
  obtain ⟨_, _, rfl, rfl, rfl⟩ := hf
  dsimp only at hm h1
  subst hm
  have e : (results fn tmps).runT P w₁ #[] = (.ok (r tmps) w₁, #[]) := by rw [hr]; rfl
  simp [-Sem.runT_eq, stepG, unwind, GX, frX, csX, G, h1, e, seen_none, GStep.after, doReturn]
theorem fateX (hP : TameP P T) (hs : Settled P w) {top : Option (Frame × List Frame)} (ht : TameX T top b) : FateX P T top b w := by
  obtain ⟨hf, hm, hup⟩ := ht
  cases top with
  | some x =>
    obtain ⟨fr, cs⟩ := x
    obtain ⟨hS, ops, i, l, k, htodo⟩ := hup fr cs rfl
    have hbm : b.mode = .run := hm.resolve_right fun h => by cases h.1
    have hG : ∀ (fr : Frame) (cs : List Frame) K base, GX (some (fr, cs)) (more b K) base = G fr (cs ++ (more b K :: base)) := fun _ _ _ _ => rfl
    cases fate hP hs hS with
    | goes n fr' cs' w' es ht hs' he hz hd ht' h =>
      refine .goes n (some (fr', cs')) b w' es ⟨hf, .inl hbm, fun fr2 cs2 he2 => ?_⟩ rfl hs' he hz (fun w₁ hl hτ => by
        obtain ⟨w₁', g1, g2, g3, g4⟩ := h w₁ hl hτ
        exact ⟨w₁', fun K base main => by rw [hG, hG]; exact g1 _ main, g2, g3, g4⟩)
      injection he2 with he2
      injection he2 with e1 e2
      subst e1 e2
      exact ⟨ht, ops, i, l, k, htodo⟩
    | leaves hc hmr =>
      subst hc
      exact fateX_back hP hs hf hbm hS.top hmr htodo
    | raises n chain es h =>
      refine .raises n chain es fun w₁ hl hτ => ?_
      obtain ⟨w₁', g1⟩ := h w₁ hl hτ
      exact ⟨w₁', fun base main => by rw [hG]; exact g1 _ main⟩
    | ends n h =>
      refine .ends n fun w₁ hl hτ base main => ?_
      rw [hG]
      exact h w₁ hl hτ _ main
  | none =>
    rcases hm with hm | ⟨_, hm⟩
    case inr => exact .stops rfl (.inl hm)
    obtain ⟨fn, tmps, todo, defers, mode, kind, round⟩ := b
    have hf' := hf
    obtain ⟨h2, rfl, rfl, rfl⟩ := hf
    dsimp only at hm h2
    subst hm
    have mk : ∀ {todo' : List Item} {mode' : FrameMode}, (∀ x ∈ todo', tameItem T x = true) → TameB T { fn, tmps, todo := todo', defers := [], mode := mode', kind := .normal, roundOf := none } := fun h => ⟨h, rfl, rfl, rfl⟩
    cases todo with
    | nil => exact .stops rfl (.inr ⟨rfl, rfl⟩)
    | cons x k =>
      have hx := h2 x (List.mem_cons_self ..)
      have hk : ∀ y ∈ k, tameItem T y = true := fun y hy => h2 y (List.mem_cons_of_mem _ hy)
      cases x with
      | inBlock id => exact fateX_quiet (b' := { fn, tmps, todo := k, defers := [], mode := .run, kind := .normal, roundOf := none }) (fun K base main W => rfl) (mk hk) (.inl rfl) rfl hs
      | inLoop c =>
        refine fateX_quiet (b' := { fn, tmps, todo := .code c :: .inLoop c :: k, defers := [], mode := .run, kind := .normal, roundOf := none }) (fun K base main W => rfl) (mk fun y hy => ?_) (.inl rfl) rfl hs
        rcases List.mem_cons.1 hy with rfl | hy
        · exact hx
        · exact h2 y hy
      | inRegion ops l =>
        cases l with
        | nil => exact fateX_quiet (b' := { fn, tmps, todo := k, defers := [], mode := .run, kind := .normal, roundOf := none }) (fun K base main W => rfl) (mk hk) (.inl rfl) rfl hs
        | cons i rest =>
          cases hw : ((ops[i]?).map (Region.wanted · (yielded ops tmps))).getD false with
          | false =>
            obtain ⟨f1, f2, f3⟩ := tameB_finish hf' rfl undef
            refine fateX_quiet (b' := (Frame.mk fn tmps (.inRegion ops (i :: rest) :: k) [] .run .normal none).finish undef) (fun K base main W => ?_) f1 (.inl f2) f3 hs
            rw [← more_finish rfl]
            simp [stepG, stepG.exec, GX, frX, csX, more, G, hw]
          | true =>
            cases ho : ops[i]? with
            | none => rw [ho] at hw; cases hw
            | some o =>
              have hop : tameOp T o.op = true := tameRest_head hx ho
              obtain ⟨hC, hY⟩ := exec_tame T hP.bodied (Frame.eval { fn, tmps, todo := .inRegion ops (i :: rest) :: k, defers := [], mode := .run, kind := .normal, roundOf := none }) (fun _ => rfl) o hop
              refine fateX_op hP hs hf' rfl rfl _ hC hY fun K base main W => ?_
              have hev := more_eval (b := Frame.mk fn tmps (.inRegion ops (i :: rest) :: k) [] .run .normal none) K
              rw [ho] at hw
              simp only [Option.map_some, Option.getD_some] at hw
              rw [← hev]
              simp [-Sem.runT_eq, stepG, stepG.exec, stepG.oper, Frame.oper?, more, G, ho, hw]
      | code c =>
        cases c with
        | skip => exact fateX_quiet (b' := { fn, tmps, todo := k, defers := [], mode := .run, kind := .normal, roundOf := none }) (fun K base main W => rfl) (mk hk) (.inl rfl) rfl hs
        | ret => exact fateX_quiet (b' := { fn, tmps, todo := .code .ret :: k, defers := [], mode := .returning, kind := .normal, roundOf := none }) (fun K base main W => rfl) (mk h2) (.inr rfl) rfl hs
        | exit id =>
          cases he : exitTo id k with
          | some k' =>
            have key : ∀ (k : List Item) (k' : List Item) (K : List Item), exitTo id k = some k' → exitTo id (k ++ K) = some (k' ++ K) := by
              intro k
              induction k with
              | nil => exact fun k' K h => by cases h
              | cons y k ih =>
                intro k' K h
                cases y with
                | inBlock id' =>
                  simp only [exitTo, List.cons_append] at h ⊢
                  split at h
                  · injection h with h; subst h; simp_all
                  · rename_i hne; simp only [hne]; exact ih _ _ h
                | _ => simpa [exitTo] using ih _ K (by simpa [exitTo] using h)
            refine fateX_quiet (b' := { fn, tmps, todo := k', defers := [], mode := .run, kind := .normal, roundOf := none }) (fun K base main W => ?_) (mk fun y hy => hk y (exitTo_mem he y hy)) (.inl rfl) rfl hs
            simp [stepG, stepG.exec, GX, frX, csX, more, G, key _ _ K he]
          | none =>
            have key : ∀ (k : List Item), exitTo id k = none → exitTo id (k ++ wall) = none := by
              intro k
              induction k with
              | nil => exact fun _ => rfl
              | cons y k ih =>
                intro h
                cases y with
                | inBlock id' =>
                  simp only [exitTo, List.cons_append] at h ⊢
                  split at h
                  · cases h
                  · rename_i hne; simp only [hne]; exact ih h
                | _ => simpa [exitTo] using ih (by simpa [exitTo] using h)
            exact .ends 0 fun w₁ _ _ base main => by simp [stepG, stepG.exec, GX, frX, csX, more, G, key _ he]
        | seq a b =>
          have hab : tameCode T a = true ∧ tameCode T b = true := by simpa [tameItem, tameCode] using hx
          refine fateX_quiet (b' := { fn, tmps, todo := .code a :: .code b :: k, defers := [], mode := .run, kind := .normal, roundOf := none }) (fun K base main W => rfl) (mk fun y hy => ?_) (.inl rfl) rfl hs
          rcases List.mem_cons.1 hy with rfl | hy
          · exact hab.1
          rcases List.mem_cons.1 hy with rfl | hy
          · exact hab.2
          · exact hk y hy
        | cond c a b =>
          have hab : tameCode T a = true ∧ tameCode T b = true := by simpa [tameItem, tameCode] using hx
          have hyes : ∀ t : Bool, Frame.eval { fn, tmps, todo := .code (.cond c a b) :: k, defers := [], mode := .run, kind := .normal, roundOf := none } c = .bool t → FateX P T none { fn, tmps, todo := .code (.cond c a b) :: k, defers := [], mode := .run, kind := .normal, roundOf := none } w := fun t hc => by
            refine fateX_quiet (b' := { fn, tmps, todo := .code (if t then a else b) :: k, defers := [], mode := .run, kind := .normal, roundOf := none }) (fun K base main W => ?_) (mk fun y hy => ?_) (.inl rfl) rfl hs
            · have hev := more_eval (b := Frame.mk fn tmps (.code (.cond c a b) :: k) [] .run .normal none) K
              rw [← hev] at hc
              simp only [more, List.cons_append] at hc
              simp [stepG, stepG.exec, GX, frX, csX, more, G, hc]
            · rcases List.mem_cons.1 hy with rfl | hy
              · cases t
                · exact hab.2
                · exact hab.1
              · exact hk y hy
          cases hc : Frame.eval { fn, tmps, todo := .code (.cond c a b) :: k, defers := [], mode := .run, kind := .normal, roundOf := none } c with
          | bool t => exact hyes t hc
          | _ =>
            have hev := more_eval (b := Frame.mk fn tmps (.code (.cond c a b) :: k) [] .run .normal none) wall
            rw [← hev] at hc
            simp only [more, List.cons_append] at hc
            exact .ends 0 fun w₁ _ _ base main => by simp [stepG, stepG.exec, GX, frX, csX, more, G, hc]
        | block id c =>
          refine fateX_quiet (b' := { fn, tmps, todo := .code c :: .inBlock id :: k, defers := [], mode := .run, kind := .normal, roundOf := none }) (fun K base main W => rfl) (mk fun y hy => ?_) (.inl rfl) rfl hs
          rcases List.mem_cons.1 hy with rfl | hy
          · exact hx
          rcases List.mem_cons.1 hy with rfl | hy
          · rfl
          · exact hk y hy
        | loop c =>
          refine fateX_quiet (b' := { fn, tmps, todo := .code c :: .inLoop c :: k, defers := [], mode := .run, kind := .normal, roundOf := none }) (fun K base main W => rfl) (mk fun y hy => ?_) (.inl rfl) rfl hs
          rcases List.mem_cons.1 hy with rfl | hy
          · exact hx
          rcases List.mem_cons.1 hy with rfl | hy
          · exact hx
          · exact hk y hy
        | region id ops draw =>
          have hreg : ∀ l, ∀ y ∈ Item.inRegion ops l :: k, tameItem T y = true := fun l y hy => by
            rcases List.mem_cons.1 hy with rfl | hy
            · exact tameRest_all (by simpa [tameItem, tameCode] using hx) l
            · exact hk y hy
          cases draw with
          | false => exact fateX_quiet (b' := { fn, tmps, todo := .inRegion ops (List.range ops.size) :: k, defers := [], mode := .run, kind := .normal, roundOf := none }) (fun K base main W => rfl) (mk (hreg _)) (.inl rfl) rfl hs
          | true =>
            refine .goes 1 none { fn, tmps, todo := .inRegion ops (Region.schedule (P.follows .mixedOrders) ops ((Question.order fn id).cut (w.tape w.drawn (.order fn id)))) :: k, defers := [], mode := .run, kind := .normal, roundOf := none }
              { w with drawn := w.drawn + 1 } #[] ⟨mk (hreg _), .inl rfl, fun _ _ h => by cases h⟩ rfl hs (by simp) (Nat.le_refl _) (fun w₁ hl hτ => ⟨{ w₁ with drawn := w₁.drawn + 1 }, fun K base main => ?_, ⟨hl.heap, hl.os, hl.output⟩, rfl, rfl⟩)
            have h0 : w₁.tape w₁.drawn (.order fn id) = w.tape w.drawn (.order fn id) := hτ 0 (by omega) _
            have e : (choose (.order fn id)).run P w₁ = .ok ((Question.order fn id).cut (w.tape w.drawn (.order fn id))) { w₁ with drawn := w₁.drawn + 1 } := by
              rw [← h0]; rfl
            simp [stepG, stepG.exec, GX, frX, csX, more, G, e]
        | _ => cases hx
      | _ => cases hx
end
end Go.Proofs.Ytchfnbcpjiiphab
