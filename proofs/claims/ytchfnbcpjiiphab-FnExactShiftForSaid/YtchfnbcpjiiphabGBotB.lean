/-
  A piece of tame code that comes to its end when alone, whatever the tape: the tree of its steps is well-founded, whatever stands behind it.
-/
import Derived.Test.YtchfnbcpjiiphabGBot
namespace Go.Proofs.Ytchfnbcpjiiphab
open Go Go.Conc

inductive WellX (P : Program) (Stop : Frame → World → Prop) : Option (Frame × List Frame) → Frame → World → Prop
  | stop {b : Frame} {w : World} (h : ∀ w₁, Like w w₁ → Stop b w₁) : WellX P Stop none b w
  | step {top : Option (Frame × List Frame)} {b : Frame} {w : World} (F : World → Option (Frame × List Frame) × Frame × World × Array Event)
      (h : ∀ w₁, Like w w₁ → ∀ K base main, stepG P main (GX top (more b K) base) w₁ = .go (GX (F w₁).1 (more (F w₁).2.1 K) base) (F w₁).2.2.1 (F w₁).2.2.2)
      (he : ∀ w₁, Like w w₁ → (∀ e ∈ (F w₁).2.2.2, EvL (fun _ => False) (F w₁).2.2.1.heap.size e) ∧ w.heap.size ≤ (F w₁).2.2.1.heap.size)
      (hn : ∀ w₁, Like w w₁ → WellX P Stop (F w₁).1 (F w₁).2.1 (F w₁).2.2.1) : WellX P Stop top b w
theorem wellX_to {P : Program} {Stop : Frame → World → Prop} {top : Option (Frame × List Frame)} {b : Frame} {w : World} (h : WellX P Stop top b w) (K : List Item) (base : List Frame) :
    To P (GX top (more b K) base) w fun g' w' => ∃ b', g' = G (more b' K) base ∧ Stop b' w' := by
  induction h with
  | stop h => exact to_refl fun w₁ hl => ⟨_, rfl, h w₁ hl⟩
  | step F h he _ ih => exact to_step rfl fun w₁ hl => ⟨_, _, _, h w₁ hl K base true, (he w₁ hl).1, (he w₁ hl).2, ih w₁ hl⟩
/-- a frame at which a piece that is walked alone has been left -/
structure StopAt (f : Frame) : Prop where
  defers : f.defers = []
  kind : f.kind = .normal
  round : f.roundOf = none
  mode : f.mode = .returning ∨ f.mode = .run ∧ f.todo = wall
structure PtX where
  top : Option (Frame × List Frame)
  b : Frame
  w : World
  p : Nat → Question → Nat
  D : Nat
  n : Nat
structure ReachX (P : Program) (T : FuncId → Bool) (b0 : Frame) (w0 : World) (x : PtX) : Prop where
  tame : TameX T x.top x.b
  fn : x.b.fn = b0.fn
  set : Settled P x.w
  run : ∀ τ, Agree x.p x.D τ → ∃ W, (∀ base, runN P x.n (lone (more b0 wall) base (ona w0 τ 0)) = .next (loneX x.top (more x.b wall) base W)) ∧ Like x.w W ∧ W.tape = τ ∧ W.drawn = x.D
section
variable {P : Program} {T : FuncId → Bool} {StopF : Frame → World → Prop} {b0 : Frame} {w0 : World}
theorem step_loneX {fr : Frame} {cs : List Frame} {b : Frame} {base : List Frame} {w w' : World} {top : Option (Frame × List Frame)} {es : Array Event} (h : stepG P true (GX top b base) w = .go (G fr cs) w' es) : step P (loneX top b base w) = .next (lone fr cs w') :=
  step_lone_go (by
    have e : stepG P true { frame := frX top b, callers := csX top b base, status := .running, dying := none } w = _ := h
    rw [e]
    rfl)
/-- behind where a piece has been left the run ends, or stands at no caller -/
theorem stop_ends {f : Frame} (hf : StopAt f) (w : World) : (∃ o w', step P (lone f [door P] w) = .ended o w') ∨ ∃ v w', step P (lone f [door P] w) = .next (lone ((door P).finish v) [] w') := by
  obtain ⟨fn, tmps, todo, defers, mode, kind, round⟩ := f
  obtain ⟨rfl, rfl, rfl, hm⟩ := hf
  dsimp only at hm
  rcases hm with rfl | ⟨rfl, rfl⟩
  · cases hfn : P.funcs[fn]? with
    | none => exact .inr ⟨tmps.getD 0 undef, w, step_lone_go (by simp [stepG, unwind, doReturn, hfn])⟩
    | some x =>
      cases hr : (results x tmps).runT P w #[] with
      | mk r es =>
        cases r with
        | ok v w' => exact .inr ⟨v, w', step_lone_go (by simp [-Sem.runT_eq, stepG, unwind, doReturn, hfn, hr])⟩
        | halt x' w' =>
          refine .inl ?_
          have h : ∃ o w2, (stepG P true { frame := { fn, tmps, todo, defers := [], mode := .returning, kind := .normal, roundOf := none }, callers := [door P], status := .running, dying := none } w).bare = .ended o w2 := by
            cases x' <;> simp [-Sem.runT_eq, stepG, unwind, hfn, hr]
          obtain ⟨o, w2, h⟩ := h
          exact ⟨o, w2, step_lone_ended h⟩
  · refine .inl ?_
    have h : ∃ o w2, (stepG P true { frame := { fn, tmps, todo := wall, defers := [], mode := .run, kind := .normal, roundOf := none }, callers := [door P], status := .running, dying := none } w).bare = .ended o w2 := by
      simp [stepG, stepG.exec, wall, exitTo]
    obtain ⟨o, w2, h⟩ := h
    exact ⟨o, w2, step_lone_ended h⟩
theorem after_stop {m : Machine} {a b : Nat} {f fr' : Frame} {cs' : List Frame} {w w' : World} (h : runN P a m = .next (lone f [door P] w)) (hf : StopAt f) (h' : runN P b m = .next (lone fr' cs' w')) (hc : cs' ≠ []) : b ≤ a := by
  refine Nat.le_of_not_lt fun hlt => ?_
  obtain ⟨j, rfl⟩ : ∃ j, b = a + (j + 1) := ⟨b - a - 1, by omega⟩
  rw [runN_on h] at h'
  rcases stop_ends (P := P) hf w with ⟨o, w1, he⟩ | ⟨v, w1, he⟩
  · exact runN_ended_step he j _ h'
  · rw [runN_step he] at h'
    cases j with
    | zero => exact hc (lone_inj (Stepped.next.inj h')).2.1.symm
    | succ j =>
      obtain ⟨o, w2, he2⟩ := door_shut (P := P) v w1
      exact runN_ended_step he2 j _ h'
/-- a panic never comes to where a piece is left -/
theorem never_stops : ∀ (cs : List Frame), (∀ f ∈ cs, f.defers = []) → ∀ (fr : Frame) (chain : List PanicEntry), fr.mode = .panicking chain → fr.defers = [] → ∀ w n f w', StopAt f → runN P n (lone fr (cs ++ [door P]) w) ≠ .next (lone f [door P] w') := by
  have raise_mode : ∀ (c : Frame) (chain : List PanicEntry), ∃ chain', (c.raise chain).mode = .panicking chain' ∧ (c.raise chain).defers = c.defers := fun c chain => by
    unfold Frame.raise
    split
    · exact ⟨_, rfl, rfl⟩
    · exact ⟨_, rfl, rfl⟩
  have one : ∀ (fr : Frame) (chain : List PanicEntry) (c : Frame) (cs : List Frame) (w : World), fr.mode = .panicking chain → fr.defers = [] →
      (∃ o w', step P (lone fr (c :: cs) w) = .ended o w') ∨ step P (lone fr (c :: cs) w) = .next (lone (c.raise chain) cs w) := fun fr chain c cs w hm hd => by
    cases hc : fr.catches P with
    | true =>
      have h : ∃ o, (stepG P true { frame := fr, callers := c :: cs, status := .running, dying := none } w).bare = .ended o w := by simp [stepG, unwind, hd, hm, hc]
      obtain ⟨o, h⟩ := h
      exact .inl ⟨o, w, step_lone_ended h⟩
    | false => exact .inr (step_lone_go (by simp [stepG, unwind, hd, hm, hc]))
  have away : ∀ (fr f : Frame) (chain : List PanicEntry), fr.mode = .panicking chain → StopAt f → fr ≠ f := fun fr f chain hm hs he => by
    subst he
    rcases hs.mode with h | ⟨h, _⟩ <;> rw [hm] at h <;> cases h
  intro cs
  induction cs with
  | nil =>
    intro _ fr chain hm hd w n f w' hs hrun
    cases n with
    | zero => exact away fr f chain hm hs (lone_inj (Stepped.next.inj hrun)).1
    | succ n =>
      rcases one fr chain (door P) [] w hm hd with ⟨o, w1, he⟩ | hstep
      · exact runN_ended_step he n _ hrun
      · rw [List.nil_append, runN_step hstep] at hrun
        obtain ⟨o, w1, he⟩ := door_dead (P := P) chain w
        cases n with
        | zero => exact absurd (lone_inj (Stepped.next.inj hrun)).2.1 (by simp)
        | succ n => exact runN_ended_step he n _ hrun
  | cons c cs ih =>
    intro hcs fr chain hm hd w n f w' hs hrun
    cases n with
    | zero => exact away fr f chain hm hs (lone_inj (Stepped.next.inj hrun)).1
    | succ n =>
      rcases one fr chain c (cs ++ [door P]) w hm hd with ⟨o, w1, he⟩ | hstep
      · exact runN_ended_step he n _ hrun
      · rw [List.cons_append, runN_step hstep] at hrun
        obtain ⟨chain', h1, h2⟩ := raise_mode c chain
        exact ih (fun f hf => hcs f (List.mem_cons_of_mem _ hf)) (c.raise chain) chain' h1 (by rw [h2]; exact hcs c (List.mem_cons_self ..)) w n f w' hs hrun
variable (P T StopF b0) in
def StopB (b : Frame) (w : World) : Prop := StopF (more b wall) w ∧ AtEnd b ∧ b.fn = b0.fn ∧ TameB T b
theorem csX_door {top : Option (Frame × List Frame)} {b : Frame} (h : csX top b [door P] = [door P]) : top = none := by
  cases top with
  | none => rfl
  | some x =>
    have := congrArg List.length h
    simp [csX] at this
theorem csX_ne {top : Option (Frame × List Frame)} {b : Frame} : csX top b [door P] ≠ [] := by cases top <;> simp [csX]
theorem atEnd_stop {b : Frame} (hb : TameB T b) (h : AtEnd b) : StopAt (more b wall) := by
  obtain ⟨fn, tmps, todo, defers, mode, kind, round⟩ := b
  obtain ⟨h2, rfl, rfl, rfl⟩ := hb
  refine ⟨rfl, rfl, rfl, ?_⟩
  rcases h with h | ⟨h, h'⟩
  · exact .inl h
  · dsimp only at h h'
    subst h'
    exact .inr ⟨h, rfl⟩
theorem stop_atEnd {b : Frame} (h : StopAt (more b wall)) : AtEnd b := by
  rcases h.mode with h | ⟨h, h'⟩
  · exact .inl h
  · refine .inr ⟨h, ?_⟩
    have := congrArg List.length h'
    simp only [more, List.length_append] at this
    exact List.eq_nil_of_length_eq_zero (by omega)
theorem no_stop (hL : ∀ f w, StopF f w → StopAt f) (hO : ∀ f w w₁, Like w w₁ → StopF f w → StopF f w₁)
    (hcall : ∀ τ, ∃ n f' w', runN P n (lone (more b0 wall) [door P] (ona w0 τ 0)) = .next (lone f' [door P] w') ∧ StopF f' w')
    {x : PtX} (hx : ReachX P T b0 w0 x) (hn : ¬ WellX P (StopB T StopF b0) x.top x.b x.w) : ¬ (x.top = none ∧ AtEnd x.b) := by
  rintro ⟨hc, hm⟩
  apply hn
  obtain ⟨n, f', w', hrun, hs⟩ := hcall x.p
  obtain ⟨W, hr, hlw, _, _⟩ := hx.run x.p (fun _ _ _ => rfl)
  replace hr := hr [door P]
  rw [hc] at hr
  have e : n = x.n := Nat.le_antisymm (after_stop hr (atEnd_stop hx.tame.bot hm) hrun (by simp)) (after_stop hrun (hL _ _ hs) hr (by simp [csX]))
  rw [e, hr] at hrun
  obtain ⟨e1, _, e3⟩ := lone_inj (Stepped.next.inj hrun)
  rw [hc]
  refine .stop fun w₁ hl => ⟨?_, hm, hx.fn, hx.tame.bot⟩
  rw [show more x.b wall = f' from e1]
  exact hO _ _ w₁ (by rw [← e3]; exact hlw.symm.trans hl) hs
theorem next_ptX (hP : TameP P T) (hL : ∀ f w, StopF f w → StopAt f) (hO : ∀ f w w₁, Like w w₁ → StopF f w → StopF f w₁)
    (hcall : ∀ τ, ∃ n f' w', runN P n (lone (more b0 wall) [door P] (ona w0 τ 0)) = .next (lone f' [door P] w') ∧ StopF f' w')
    {x : PtX} (hx : ReachX P T b0 w0 x) (hn : ¬ WellX P (StopB T StopF b0) x.top x.b x.w) :
    ∃ y : PtX, ReachX P T b0 w0 y ∧ ¬ WellX P (StopB T StopF b0) y.top y.b y.w ∧ y.n = x.n + 1 ∧ x.D ≤ y.D ∧ ∀ i, i < x.D → ∀ q, y.p i q = x.p i q := by
  have key := no_stop hL hO hcall hx hn
  have hbad : ∃ v : World, Like x.w v ∧ ∀ top' b' w' es, (∀ K base main, stepG P main (GX x.top (more x.b K) base) v = .go (GX top' (more b' K) base) w' es) → (∀ e ∈ es, EvL (fun _ => False) w'.heap.size e) ∧ x.w.heap.size ≤ w'.heap.size → ¬ WellX P (StopB T StopF b0) top' b' w' := by
    refine Classical.byContradiction fun hne => hn ?_
    have g : ∀ v : World, ∃ t : Option (Frame × List Frame) × Frame × World × Array Event, Like x.w v → (∀ K base main, stepG P main (GX x.top (more x.b K) base) v = .go (GX t.1 (more t.2.1 K) base) t.2.2.1 t.2.2.2) ∧ ((∀ e ∈ t.2.2.2, EvL (fun _ => False) t.2.2.1.heap.size e) ∧ x.w.heap.size ≤ t.2.2.1.heap.size) ∧ WellX P (StopB T StopF b0) t.1 t.2.1 t.2.2.1 := fun v => by
      by_cases hv : Like x.w v
      · exact Classical.byContradiction fun h => hne ⟨v, hv, fun top' b' w' es h1 h2 h3 => h ⟨(top', b', w', es), fun _ => ⟨h1, h2, h3⟩⟩⟩
      · exact ⟨(x.top, x.b, x.w, #[]), fun h => absurd h hv⟩
    exact .step (fun v => Classical.choose (g v)) (fun v hv K base main => (Classical.choose_spec (g v) hv).1 K base main) (fun v hv => (Classical.choose_spec (g v) hv).2.1) (fun v hv => (Classical.choose_spec (g v) hv).2.2)
  obtain ⟨v, hxv, hbad⟩ := hbad
  have hset : Settled P v := hx.set.like hxv
  have hF := fateX hP hset hx.tame
  obtain ⟨p', hp'⟩ : ∃ p' : Nat → Question → Nat, p' = fun i q => if i < x.D then x.p i q else v.tape (v.drawn + (i - x.D)) q := ⟨_, rfl⟩
  have hold : ∀ i, i < x.D → ∀ q, p' i q = x.p i q := fun i hi q => by rw [hp']; simp only [hi, if_true]
  have hnew : ∀ k τ₁, Agree p' (x.D + k) τ₁ → Tells τ₁ x.D v k := fun k τ₁ h j hj q => by
    have := h (x.D + j) (by omega) q
    rw [this, hp']
    have e : ¬ x.D + j < x.D := by omega
    simp only [e, if_false, Nat.add_sub_cancel_left]
  have hag : ∀ k τ₁, Agree p' (x.D + k) τ₁ → Agree x.p x.D τ₁ := fun k τ₁ h i hi q => by rw [h i (by omega) q]; exact hold i hi q
  have back : (∀ n f' w', n > x.n → StopAt f' → runN P n (lone (more b0 wall) [door P] (ona w0 p' 0)) ≠ .next (lone f' [door P] w')) → False := fun hnone => by
    obtain ⟨n, f', w', hrun, hs⟩ := hcall p'
    obtain ⟨W, hr, _, _, _⟩ := hx.run p' (hag 0 p' fun _ _ _ => rfl)
    replace hr := hr [door P]
    have h1 := after_stop hrun (hL _ _ hs) hr csX_ne
    have h2 : n ≤ x.n := Nat.le_of_not_lt fun hlt => hnone n f' w' hlt (hL _ _ hs) hrun
    have e : n = x.n := Nat.le_antisymm h2 h1
    rw [e, hr] at hrun
    obtain ⟨e1, e2, _⟩ := lone_inj (Stepped.next.inj hrun)
    have ht := csX_door e2
    rw [ht] at e1
    refine key ⟨ht, stop_atEnd ?_⟩
    rw [show more x.b wall = f' from e1]
    exact hL _ _ hs
  cases hF with
  | goes k top' b' w' es ht hfn hs he hz h =>
    obtain ⟨v', hv1, hv2, _, _⟩ := h v (Like.refl v) (fun _ _ _ => rfl)
    refine ⟨⟨top', b', v', p', x.D + k, x.n + 1⟩, ⟨ht, hfn.trans hx.fn, hs.like hv2, fun τ₁ h₁ => ?_⟩, ?_, rfl, Nat.le_add_right _ _, hold⟩
    · obtain ⟨W, hr, hlw, hwt, hwd⟩ := hx.run τ₁ (hag k τ₁ h₁)
      obtain ⟨W', hst, hlw', hwt', hwd'⟩ := h W (hxv.symm.trans hlw) (by rw [hwt, hwd]; exact hnew k τ₁ h₁)
      refine ⟨W', fun base => ?_, hv2.symm.trans hlw', hwt'.trans hwt, by rw [hwd', hwd]⟩
      rw [runN_add, hr base]
      have : step P (loneX x.top (more x.b wall) base W) = .next (loneX top' (more b' wall) base W') := step_loneX (hst wall base true)
      simp [runN, this]
    · exact hbad top' b' v' es hv1 ⟨by rw [hv2.size]; exact he, by rw [hv2.size]; exact Nat.le_trans (Nat.le_of_eq hxv.size.symm) hz⟩
  | stops hc hm => exact (key ⟨hc, hm⟩).elim
  | raises k chain es h =>
    refine (back fun n f' w₁ hlt hst' hrun => ?_).elim
    obtain ⟨j, rfl⟩ : ∃ j, n = x.n + (j + 1) := ⟨n - x.n - 1, by omega⟩
    obtain ⟨W, hr, hlw, hwt, hwd⟩ := hx.run p' (hag 0 p' fun _ _ _ => rfl)
    obtain ⟨W', hst⟩ := h W (hxv.symm.trans hlw) (by rw [hwt, hwd]; exact hnew k p' fun _ _ _ => rfl)
    have hs : step P (loneX x.top (more x.b wall) [door P] W) = .next (lone ((frX x.top (more x.b wall)).raise chain) (csX x.top (more x.b wall) [door P]) W') := step_loneX (hst [door P] true)
    rw [runN_on (hr [door P]), runN_step hs] at hrun
    have hrm : ∀ fr : Frame, (fr.mode = .run ∨ fr.mode = .returning) → (fr.raise chain).mode = .panicking chain ∧ (fr.raise chain).defers = fr.defers := fun fr hm => by
      unfold Frame.raise
      rcases hm with hm | hm <;> rw [hm] <;> exact ⟨rfl, rfl⟩
    cases htop : x.top with
    | none =>
      rw [htop] at hrun
      have hmode : x.b.mode = .run ∨ x.b.mode = .returning := hx.tame.mode.imp id (·.2)
      exact never_stops [] (by simp) _ chain (hrm (more x.b wall) hmode).1 (by rw [(hrm (more x.b wall) hmode).2]; exact hx.tame.bot.defers) _ j f' w₁ hst' hrun
    | some y =>
      obtain ⟨fr, cs⟩ := y
      rw [htop] at hrun
      have hS := (hx.tame.up fr cs htop).1
      have hcs : csX (some (fr, cs)) (more x.b wall) [door P] = (cs ++ [more x.b wall]) ++ [door P] := by simp [csX]
      rw [hcs] at hrun
      refine never_stops (cs ++ [more x.b wall]) (fun f hf => ?_) _ chain (hrm fr hS.mode).1 (by rw [(hrm fr hS.mode).2]; exact hS.top.defers) _ j f' w₁ hst' hrun
      rcases List.mem_append.1 hf with hf | hf
      · exact (hS.rest f hf).1.defers
      · rw [List.mem_singleton.1 hf]
        exact hx.tame.bot.defers
  | ends k h =>
    refine (back fun n f' w₁ hlt hst' hrun => ?_).elim
    obtain ⟨j, rfl⟩ : ∃ j, n = x.n + (j + 1) := ⟨n - x.n - 1, by omega⟩
    obtain ⟨W, hr, hlw, hwt, hwd⟩ := hx.run p' (hag 0 p' fun _ _ _ => rfl)
    obtain ⟨o, w2, es, hst⟩ := h W (hxv.symm.trans hlw) (by rw [hwt, hwd]; exact hnew k p' fun _ _ _ => rfl) [door P] true
    have hs : step P (loneX x.top (more x.b wall) [door P] W) = .ended o w2 := step_lone_ended (by
      have e : stepG P true { frame := frX x.top (more x.b wall), callers := csX x.top (more x.b wall) [door P], status := .running, dying := none } W = _ := hst
      rw [e]
      rfl)
    rw [runN_on (hr [door P])] at hrun
    exact runN_ended_step hs j _ hrun
/-- A PIECE THAT COMES TO ITS END ALONE, WHATEVER THE TAPE: the tree of its steps is well-founded -/
theorem wellX_of_lone (hP : TameP P T) (hL : ∀ f w, StopF f w → StopAt f) (hO : ∀ f w w₁, Like w w₁ → StopF f w → StopF f w₁)
    (hcall : ∀ τ, ∃ n f' w', runN P n (lone (more b0 wall) [door P] (ona w0 τ 0)) = .next (lone f' [door P] w') ∧ StopF f' w')
    (ht : TameX T none b0) (hs : Settled P w0) : WellX P (StopB T StopF b0) none b0 w0 := by
  refine Classical.byContradiction fun hno => ?_
  let Q : PtX → Prop := fun x => ReachX P T b0 w0 x ∧ ¬ WellX P (StopB T StopF b0) x.top x.b x.w
  let R : PtX → PtX → Prop := fun x y => y.n = x.n + 1 ∧ x.D ≤ y.D ∧ ∀ i, i < x.D → ∀ q, y.p i q = x.p i q
  have hstep : ∀ x, Q x → ∃ y, Q y ∧ R x y := fun x hx => by
    obtain ⟨y, h1, h2, h3⟩ := next_ptX hP hL hO hcall hx.1 hx.2
    exact ⟨y, ⟨h1, h2⟩, h3⟩
  have h0 : Q ⟨none, b0, w0, fun _ _ => 0, 0, 0⟩ := ⟨⟨ht, rfl, hs, fun τ _ => ⟨ona w0 τ 0, fun base => rfl, Like.ona w0 τ 0, rfl, rfl⟩⟩, hno⟩
  obtain ⟨s, hs'⟩ : ∃ s : Nat → { x : PtX // Q x }, s = chainOf R Q hstep _ h0 := ⟨_, rfl⟩
  have hR : ∀ n, R (s n).1 (s (n + 1)).1 := fun n => by rw [hs']; exact chainOf_step R Q hstep _ h0 n
  have hn : ∀ n, (s n).1.n = n := fun n => by
    induction n with
    | zero => rw [hs']; rfl
    | succ n ih => rw [(hR n).1, ih]
  have hmono : ∀ m j, (s m).1.D ≤ (s (m + j)).1.D ∧ ∀ i, i < (s m).1.D → ∀ q, (s (m + j)).1.p i q = (s m).1.p i q := fun m j => by
    induction j with
    | zero => exact ⟨Nat.le_refl _, fun _ _ _ => rfl⟩
    | succ j ih =>
      obtain ⟨_, h1, h2⟩ := hR (m + j)
      exact ⟨Nat.le_trans ih.1 h1, fun i hi q => by rw [← ih.2 i hi q]; exact h2 i (Nat.lt_of_lt_of_le hi ih.1) q⟩
  obtain ⟨τ, hτ⟩ : ∃ τ : Nat → Question → Nat, ∀ n, Agree (s n).1.p (s n).1.D τ := by
    refine ⟨fun i q => Classical.epsilon fun a => ∃ n, i < (s n).1.D ∧ a = (s n).1.p i q, fun n i hi q => ?_⟩
    obtain ⟨m, hm, e⟩ := Classical.epsilon_spec (p := fun a => ∃ n, i < (s n).1.D ∧ a = (s n).1.p i q) ⟨_, n, hi, rfl⟩
    show Classical.epsilon _ = _
    rw [e]
    rcases Nat.le_total m n with h | h
    · obtain ⟨j, rfl⟩ := Nat.exists_eq_add_of_le h
      exact ((hmono m j).2 i hm q).symm
    · obtain ⟨j, rfl⟩ := Nat.exists_eq_add_of_le h
      exact (hmono n j).2 i hi q
  obtain ⟨n, f', w', hrun, hst⟩ := hcall τ
  obtain ⟨W, hr, _, _, _⟩ := (s n).2.1.run τ (hτ n)
  replace hr := hr [door P]
  rw [hn n, hrun] at hr
  obtain ⟨e1, e2, _⟩ := lone_inj (Stepped.next.inj hr)
  have htn := csX_door e2.symm
  rw [htn] at e1
  refine no_stop hL hO hcall (s n).2.1 (s n).2.2 ⟨htn, stop_atEnd ?_⟩
  rw [show more (s n).1.b wall = f' from e1.symm]
  exact hL _ _ hst
end
end Go.Proofs.Ytchfnbcpjiiphab
