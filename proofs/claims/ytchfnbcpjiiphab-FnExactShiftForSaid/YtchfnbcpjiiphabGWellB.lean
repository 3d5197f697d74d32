/-
  From the lone calls, whatever the tape, to the tree of steps.
-/
import Derived.Test.YtchfnbcpjiiphabGWell
namespace Go.Proofs.Ytchfnbcpjiiphab
open Go Go.Conc

/-- a place on the way of a lone run: the answers drawn so far, the steps taken so far -/
structure Pt where
  fr : Frame
  cs : List Frame
  w : World
  p : Nat → Question → Nat
  D : Nat
  n : Nat
def Agree (p : Nat → Question → Nat) (D : Nat) (τ : Nat → Question → Nat) : Prop := ∀ i, i < D → ∀ q, τ i q = p i q
structure Reach' (P : Program) (T : FuncId → Bool) (fr0 : Frame) (w0 : World) (x : Pt) : Prop where
  tame : TameS T x.fr x.cs
  set : Settled P x.w
  run : ∀ τ, Agree x.p x.D τ → ∃ W, (∀ base, runN P x.n (lone fr0 base (ona w0 τ 0)) = .next (lone x.fr (x.cs ++ base) W)) ∧ Like x.w W ∧ W.tape = τ ∧ W.drawn = x.D
section
variable {P : Program} {T : FuncId → Bool} {Stop : Frame → World → Prop} {fr0 : Frame} {w0 : World}
theorem no_leave (hP : TameP P T) (hL : ∀ fr w, Stop fr w → ∃ v, fr.leaving P w (.returned v)) (hO : ∀ fr w w₁, Like w w₁ → Stop fr w → Stop fr w₁)
    (hcall : ∀ τ, ∃ n fr' w', runN P n (lone fr0 [door P] (ona w0 τ 0)) = .next (lone fr' [door P] w') ∧ Stop fr' w')
    {x : Pt} (hx : Reach' P T fr0 w0 x) (hn : ¬ Well P Stop x.fr x.cs x.w) : ¬ (x.cs = [] ∧ x.fr.mode = .returning) := by
  rintro ⟨hc, hm⟩
  apply hn
  obtain ⟨n, fr', w', hrun, hs⟩ := hcall x.p
  obtain ⟨W, hr, hlw, _, _⟩ := hx.run x.p (fun _ _ _ => rfl)
  replace hr := hr [door P]
  rw [hc, List.nil_append] at hr
  obtain ⟨v, hv⟩ := hL _ _ hs
  have hxl : ∃ v, x.fr.leaving P W (.returned v) := by
    obtain ⟨fn, code, h1, _, _, _, r, hr⟩ := hP x.fr.fn hx.tame.top.fn
    exact ⟨r x.fr.tmps, hm, hx.tame.top.defers, hx.tame.top.kind, fn, h1, by rw [hr]; rfl⟩
  obtain ⟨u, hu⟩ := hxl
  have e : n = x.n := Nat.le_antisymm (after_leave hr hu hrun (by simp)) (after_leave hrun hv hr (by simp))
  rw [e, hr] at hrun
  obtain ⟨e1, _, e3⟩ := lone_inj (Stepped.next.inj hrun)
  rw [hc]
  refine .stop fun w₁ hl => ?_
  rw [e1]
  exact hO _ _ w₁ (by rw [← e3]; exact hlw.symm.trans hl) hs
theorem next_pt (hP : TameP P T) (hL : ∀ fr w, Stop fr w → ∃ v, fr.leaving P w (.returned v)) (hO : ∀ fr w w₁, Like w w₁ → Stop fr w → Stop fr w₁)
    (hcall : ∀ τ, ∃ n fr' w', runN P n (lone fr0 [door P] (ona w0 τ 0)) = .next (lone fr' [door P] w') ∧ Stop fr' w')
    {x : Pt} (hx : Reach' P T fr0 w0 x) (hn : ¬ Well P Stop x.fr x.cs x.w) :
    ∃ y : Pt, Reach' P T fr0 w0 y ∧ ¬ Well P Stop y.fr y.cs y.w ∧ y.n = x.n + 1 ∧ x.D ≤ y.D ∧ ∀ i, i < x.D → ∀ q, y.p i q = x.p i q := by
  have key := no_leave hP hL hO hcall hx hn
  have hbad : ∃ v : World, Like x.w v ∧ ∀ fr' cs' w' es, (∀ base main, stepG P main (G x.fr (x.cs ++ base)) v = .go (G fr' (cs' ++ base)) w' es) → (∀ e ∈ es, EvL (fun _ => False) w'.heap.size e) ∧ x.w.heap.size ≤ w'.heap.size → ¬ Well P Stop fr' cs' w' := by
    refine Classical.byContradiction fun hne => hn ?_
    have g : ∀ v : World, ∃ t : Frame × List Frame × World × Array Event, Like x.w v → (∀ base main, stepG P main (G x.fr (x.cs ++ base)) v = .go (G t.1 (t.2.1 ++ base)) t.2.2.1 t.2.2.2) ∧ ((∀ e ∈ t.2.2.2, EvL (fun _ => False) t.2.2.1.heap.size e) ∧ x.w.heap.size ≤ t.2.2.1.heap.size) ∧ Well P Stop t.1 t.2.1 t.2.2.1 := fun v => by
      by_cases hv : Like x.w v
      · exact Classical.byContradiction fun h => hne ⟨v, hv, fun fr' cs' w' es h1 h2 h3 => h ⟨(fr', cs', w', es), fun _ => ⟨h1, h2, h3⟩⟩⟩
      · exact ⟨(x.fr, x.cs, x.w, #[]), fun h => absurd h hv⟩
    exact .step (fun v => Classical.choose (g v)) (fun v hv base main => (Classical.choose_spec (g v) hv).1 base main) (fun v hv => (Classical.choose_spec (g v) hv).2.1) (fun v hv => (Classical.choose_spec (g v) hv).2.2)
  obtain ⟨v, hxv, hbad⟩ := hbad
  have hset : Settled P v := hx.set.like hxv
  have hF := fate hP hset hx.tame
  -- the answers so far, and those that are drawn here
  obtain ⟨p', hp'⟩ : ∃ p' : Nat → Question → Nat, p' = fun i q => if i < x.D then x.p i q else v.tape (v.drawn + (i - x.D)) q := ⟨_, rfl⟩
  have hold : ∀ i, i < x.D → ∀ q, p' i q = x.p i q := fun i hi q => by rw [hp']; simp only [hi, if_true]
  have hnew : ∀ k τ₁, Agree p' (x.D + k) τ₁ → Tells τ₁ x.D v k := fun k τ₁ h j hj q => by
    have := h (x.D + j) (by omega) q
    rw [this, hp']
    have e : ¬ x.D + j < x.D := by omega
    simp only [e, if_false, Nat.add_sub_cancel_left]
  have hag : ∀ k τ₁, Agree p' (x.D + k) τ₁ → Agree x.p x.D τ₁ := fun k τ₁ h i hi q => by rw [h i (by omega) q]; exact hold i hi q
  -- where the lone run stands, and where it must still come to
  have back : ∀ k : Nat, (∀ n fr' w', n > x.n → fr'.mode = .returning → runN P n (lone fr0 [door P] (ona w0 p' 0)) ≠ .next (lone fr' [door P] w')) → False := fun k hnone => by
    obtain ⟨n, fr', w', hrun, hs⟩ := hcall p'
    obtain ⟨u, hv⟩ := hL _ _ hs
    obtain ⟨W, hr, _, _, _⟩ := hx.run p' (hag 0 p' fun _ _ _ => rfl)
    replace hr := hr [door P]
    have h1 := after_leave hrun hv hr (by simp)
    have h2 : n ≤ x.n := Nat.le_of_not_lt fun hlt => hnone n fr' w' hlt hv.1 hrun
    have e : n = x.n := Nat.le_antisymm h2 h1
    rw [e, hr] at hrun
    obtain ⟨e1, e2, _⟩ := lone_inj (Stepped.next.inj hrun)
    refine key ⟨?_, by rw [e1]; exact hv.1⟩
    have hlen := congrArg List.length e2
    simp only [List.length_append, List.length_cons, List.length_nil] at hlen
    exact List.eq_nil_of_length_eq_zero (by omega)
  cases hF with
  | goes k fr' cs' w' es ht hs he hz hd ht' h =>
    obtain ⟨v', hv1, hv2, _, _⟩ := h v (Like.refl v) (fun _ _ _ => rfl)
    refine ⟨⟨fr', cs', v', p', x.D + k, x.n + 1⟩, ⟨ht, hs.like hv2, fun τ₁ h₁ => ?_⟩, ?_, rfl, Nat.le_add_right _ _, hold⟩
    · obtain ⟨W, hr, hlw, hwt, hwd⟩ := hx.run τ₁ (hag k τ₁ h₁)
      obtain ⟨W', hst, hlw', hwt', hwd'⟩ := h W (hxv.symm.trans hlw) (by rw [hwt, hwd]; exact hnew k τ₁ h₁)
      refine ⟨W', fun base => ?_, hv2.symm.trans hlw', hwt'.trans hwt, by rw [hwd', hwd]⟩
      rw [runN_add, hr base]
      have : step P (lone x.fr (x.cs ++ base) W) = .next (lone fr' (cs' ++ base) W') := step_lone_go (by
        have e : stepG P true { frame := x.fr, callers := x.cs ++ base, status := .running, dying := none } W = _ := hst base true
        rw [e]
        rfl)
      simp [runN, this]
    · exact hbad fr' cs' v' es hv1 ⟨by rw [hv2.size]; exact he, by rw [hv2.size]; exact Nat.le_trans (Nat.le_of_eq hxv.size.symm) hz⟩
  | leaves hc hm => exact (key ⟨hc, hm⟩).elim
  | raises k chain es h =>
    refine (back k fun n fr' w₁ hlt hret hrun => ?_).elim
    obtain ⟨j, rfl⟩ : ∃ j, n = x.n + (j + 1) := ⟨n - x.n - 1, by omega⟩
    obtain ⟨W, hr, hlw, hwt, hwd⟩ := hx.run p' (hag 0 p' fun _ _ _ => rfl)
    obtain ⟨W', hst⟩ := h W (hxv.symm.trans hlw) (by rw [hwt, hwd]; exact hnew k p' fun _ _ _ => rfl)
    have hs : step P (lone x.fr (x.cs ++ [door P]) W) = .next (lone (x.fr.raise chain) (x.cs ++ [door P]) W') := step_lone_go (by
      have e : stepG P true { frame := x.fr, callers := x.cs ++ [door P], status := .running, dying := none } W = _ := hst [door P] true
      rw [e]
      rfl)
    rw [runN_on (hr [door P]), runN_step hs] at hrun
    have hrm : (x.fr.raise chain).mode = .panicking chain ∧ (x.fr.raise chain).defers = x.fr.defers := by
      unfold Frame.raise
      rcases hx.tame.mode with hm | hm <;> rw [hm] <;> exact ⟨rfl, rfl⟩
    exact never_panics x.cs (fun f hf => (hx.tame.rest f hf).1.defers) _ chain hrm.1 (by rw [hrm.2]; exact hx.tame.top.defers) _ j fr' w₁ hret hrun
  | ends k h =>
    refine (back k fun n fr' w₁ hlt hret hrun => ?_).elim
    obtain ⟨j, rfl⟩ : ∃ j, n = x.n + (j + 1) := ⟨n - x.n - 1, by omega⟩
    obtain ⟨W, hr, hlw, hwt, hwd⟩ := hx.run p' (hag 0 p' fun _ _ _ => rfl)
    obtain ⟨o, w2, es, hst⟩ := h W (hxv.symm.trans hlw) (by rw [hwt, hwd]; exact hnew k p' fun _ _ _ => rfl) [door P] true
    have hs : step P (lone x.fr (x.cs ++ [door P]) W) = .ended o w2 := step_lone_ended (by
      have e : stepG P true { frame := x.fr, callers := x.cs ++ [door P], status := .running, dying := none } W = _ := hst
      rw [e]
      rfl)
    rw [runN_on (hr [door P])] at hrun
    exact runN_ended_step hs j _ hrun
/-- the way that never ends, if there is one -/
noncomputable def chainOf {A : Type} (R : A → A → Prop) (Q : A → Prop) (h : ∀ x, Q x → ∃ y, Q y ∧ R x y) (x0 : A) (h0 : Q x0) : Nat → { x : A // Q x }
  | 0 => ⟨x0, h0⟩
  | n + 1 => ⟨Classical.choose (h _ (chainOf R Q h x0 h0 n).2), (Classical.choose_spec (h _ (chainOf R Q h x0 h0 n).2)).1⟩
theorem chainOf_step {A : Type} (R : A → A → Prop) (Q : A → Prop) (h : ∀ x, Q x → ∃ y, Q y ∧ R x y) (x0 : A) (h0 : Q x0) (n : Nat) : R (chainOf R Q h x0 h0 n).1 (chainOf R Q h x0 h0 (n + 1)).1 :=
  (Classical.choose_spec (h _ (chainOf R Q h x0 h0 n).2)).2
/-- ONE CALL THAT COMES BACK ALONE, WHATEVER THE TAPE: the tree of its steps is well-founded -/
theorem well_of_lone (hP : TameP P T) (hL : ∀ fr w, Stop fr w → ∃ v, fr.leaving P w (.returned v)) (hO : ∀ fr w w₁, Like w w₁ → Stop fr w → Stop fr w₁)
    (hcall : ∀ τ, ∃ n fr' w', runN P n (lone fr0 [door P] (ona w0 τ 0)) = .next (lone fr' [door P] w') ∧ Stop fr' w')
    (ht : TameS T fr0 []) (hs : Settled P w0) : Well P Stop fr0 [] w0 := by
  refine Classical.byContradiction fun hno => ?_
  let Q : Pt → Prop := fun x => Reach' P T fr0 w0 x ∧ ¬ Well P Stop x.fr x.cs x.w
  let R : Pt → Pt → Prop := fun x y => y.n = x.n + 1 ∧ x.D ≤ y.D ∧ ∀ i, i < x.D → ∀ q, y.p i q = x.p i q
  have hstep : ∀ x, Q x → ∃ y, Q y ∧ R x y := fun x hx => by
    obtain ⟨y, h1, h2, h3⟩ := next_pt hP hL hO hcall hx.1 hx.2
    exact ⟨y, ⟨h1, h2⟩, h3⟩
  have h0 : Q ⟨fr0, [], w0, fun _ _ => 0, 0, 0⟩ := ⟨⟨ht, hs, fun τ _ => ⟨ona w0 τ 0, fun base => rfl, Like.ona w0 τ 0, rfl, rfl⟩⟩, hno⟩
  obtain ⟨s, hs'⟩ : ∃ s : Nat → { x : Pt // Q x }, s = chainOf R Q hstep _ h0 := ⟨_, rfl⟩
  have hR : ∀ n, R (s n).1 (s (n + 1)).1 := fun n => by rw [hs']; exact chainOf_step R Q hstep _ h0 n
  have hn : ∀ n, (s n).1.n = n := fun n => by
    induction n with
    | zero => rw [hs']; rfl
    | succ n ih => rw [(hR n).1, ih]
  have hmono : ∀ m j, (s m).1.D ≤ (s (m + j)).1.D ∧ ∀ i, i < (s m).1.D → ∀ q, (s (m + j)).1.p i q = (s m).1.p i q := fun m j => by
    induction j with
    | zero => exact ⟨Nat.le_refl _, fun _ _ _ => rfl⟩
    | succ j ih =>
      obtain ⟨_, h1, h2⟩ := hR (m + j)
      exact ⟨Nat.le_trans ih.1 h1, fun i hi q => by rw [← ih.2 i hi q]; exact h2 i (Nat.lt_of_lt_of_le hi ih.1) q⟩
  obtain ⟨τ, hτ⟩ : ∃ τ : Nat → Question → Nat, ∀ n, Agree (s n).1.p (s n).1.D τ := by
    refine ⟨fun i q => Classical.epsilon fun a => ∃ n, i < (s n).1.D ∧ a = (s n).1.p i q, fun n i hi q => ?_⟩
    obtain ⟨m, hm, e⟩ := Classical.epsilon_spec (p := fun a => ∃ n, i < (s n).1.D ∧ a = (s n).1.p i q) ⟨_, n, hi, rfl⟩
    show Classical.epsilon _ = _
    rw [e]
    rcases Nat.le_total m n with h | h
    · obtain ⟨j, rfl⟩ := Nat.exists_eq_add_of_le h
      exact ((hmono m j).2 i hm q).symm
    · obtain ⟨j, rfl⟩ := Nat.exists_eq_add_of_le h
      exact (hmono n j).2 i hi q
  obtain ⟨n, fr', w', hrun, hst⟩ := hcall τ
  obtain ⟨v, hv⟩ := hL _ _ hst
  obtain ⟨W, hr, _, _, _⟩ := (s n).2.1.run τ (hτ n)
  replace hr := hr [door P]
  rw [hn n, hrun] at hr
  obtain ⟨e1, e2, _⟩ := lone_inj (Stepped.next.inj hr)
  refine no_leave hP hL hO hcall (s n).2.1 (s n).2.2 ⟨?_, by rw [← e1]; exact hv.1⟩
  have hlen := congrArg List.length e2
  simp only [List.length_append, List.length_cons, List.length_nil] at hlen
  exact List.eq_nil_of_length_eq_zero (by omega)
end
end Go.Proofs.Ytchfnbcpjiiphab
