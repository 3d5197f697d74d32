/-
  A call that comes back when alone, whatever the tape, comes back by steps that hang on no place of a tape and on no callers: the tree of its steps, over all answers, is well-founded.
-/
import Derived.Test.YtchfnbcpjiiphabGFateB
namespace Go.Proofs.Ytchfnbcpjiiphab
open Go Go.Conc

/-- the tree of a stack's own steps, over all answers; it ends where the last frame leaves -/
inductive Well (P : Program) (Stop : Frame → World → Prop) : Frame → List Frame → World → Prop
  | stop {fr : Frame} {w : World} (h : ∀ w₁, Like w w₁ → Stop fr w₁) : Well P Stop fr [] w
  | step {fr : Frame} {cs : List Frame} {w : World} (F : World → Frame × List Frame × World × Array Event)
      (h : ∀ w₁, Like w w₁ → ∀ base main, stepG P main (G fr (cs ++ base)) w₁ = .go (G (F w₁).1 ((F w₁).2.1 ++ base)) (F w₁).2.2.1 (F w₁).2.2.2)
      (he : ∀ w₁, Like w w₁ → (∀ e ∈ (F w₁).2.2.2, EvL (fun _ => False) (F w₁).2.2.1.heap.size e) ∧ w.heap.size ≤ (F w₁).2.2.1.heap.size)
      (hn : ∀ w₁, Like w w₁ → Well P Stop (F w₁).1 (F w₁).2.1 (F w₁).2.2.1) : Well P Stop fr cs w
theorem Well.like {P : Program} {Stop : Frame → World → Prop} {fr : Frame} {cs : List Frame} {w w₁ : World} (h : Well P Stop fr cs w) (hl : Like w w₁) : Well P Stop fr cs w₁ := by
  cases h with
  | stop h => exact .stop fun w₂ h₂ => h w₂ (hl.trans h₂)
  | step F h he hn => exact .step F (fun w₂ h₂ => h w₂ (hl.trans h₂)) (fun w₂ h₂ => ⟨(he w₂ (hl.trans h₂)).1, by rw [hl.size]; exact (he w₂ (hl.trans h₂)).2⟩) (fun w₂ h₂ => hn w₂ (hl.trans h₂))

/-- a frame that a lone run does not come back through: entered by a value or by a panic, the run ends -/
def door (P : Program) : Frame := { fn := P.funcs.size, tmps := #[], todo := [.call { target := .nil, args := #[] } false "fmt's door" #[]], defers := [], mode := .run, kind := .normal, roundOf := none }
theorem door_text : ("fmt's door".startsWith "fmt's door") = true := by decide +kernel
set_option maxRecDepth 100000 in
theorem door_row : Extern.next "fmt's door" = none := by
  have h : (Extern.allNextRows.lookup "fmt's door") = none := by rfl
  unfold Extern.next
  rw [h]
  rfl
section
variable {P : Program}
theorem door_shut (v : Value) (w : World) : ∃ o w', step P (lone ((door P).finish v) [] w) = .ended o w' := by
  have h : ∃ o, (stepG P true { frame := (door P).finish v, callers := [], status := .running, dying := none } w).bare = .ended o w := by
    simp [stepG, stepG.exec, door, Frame.finish, door_row]
  obtain ⟨o, h⟩ := h
  exact ⟨o, w, step_lone_ended h⟩
theorem door_dead (chain : List PanicEntry) (w : World) : ∃ o w', step P (lone { door P with mode := .panicking chain } [] w) = .ended o w' := by
  have hc : Frame.catches P { door P with mode := .panicking chain } = true := by
    simp [Frame.catches, door, door_text]
  have h : ∃ o, (stepG P true { frame := { door P with mode := .panicking chain }, callers := [], status := .running, dying := none } w).bare = .ended o w := by
    have hd : ({ door P with mode := .panicking chain } : Frame).defers = [] := rfl
    have hm : ({ door P with mode := .panicking chain } : Frame).mode = .panicking chain := rfl
    generalize ({ door P with mode := .panicking chain } : Frame) = fr at hc hd hm
    simp [stepG, unwind, hd, hm, hc]
  obtain ⟨o, h⟩ := h
  exact ⟨o, w, step_lone_ended h⟩
/-- no way to a frame that leaves to the door -/
def Never (P : Program) (m : Machine) : Prop := ∀ n fr' w', fr'.mode = .returning → runN P n m ≠ .next (lone fr' [door P] w')
theorem lone_inj {fr fr' : Frame} {cs cs' : List Frame} {w w' : World} (h : lone fr cs w = lone fr' cs' w') : fr = fr' ∧ cs = cs' ∧ w = w' := by
  have hw : (lone fr cs w).world = (lone fr' cs' w').world := by rw [h]
  have hg : (lone fr cs w).gs[0]? = (lone fr' cs' w').gs[0]? := by rw [h]
  simp only [lone, List.size_toArray, List.length_cons, List.length_nil, Nat.zero_add, Nat.lt_add_one, getElem?_pos, Option.some.injEq] at hg
  simp at hg
  exact ⟨hg.1, hg.2, hw⟩
theorem runN_ended_step {m : Machine} {o : Outcome} {w : World} (h : step P m = .ended o w) (n : Nat) (m' : Machine) : runN P (n + 1) m ≠ .next m' := by
  simp [runN, h]
theorem runN_step {m m₁ : Machine} (h : step P m = .next m₁) (n : Nat) : runN P (n + 1) m = runN P n m₁ := by simp [runN, h]
theorem runN_on {m m₁ : Machine} {a : Nat} (h : runN P a m = .next m₁) (j : Nat) : runN P (a + j) m = runN P j m₁ := by rw [runN_add, h]
theorem never_panics : ∀ (cs : List Frame), (∀ f ∈ cs, f.defers = []) → ∀ (fr : Frame) (chain : List PanicEntry), fr.mode = .panicking chain → fr.defers = [] → ∀ w, Never P (lone fr (cs ++ [door P]) w) := by
  have raise_mode : ∀ (c : Frame) (chain : List PanicEntry), ∃ chain', (c.raise chain).mode = .panicking chain' ∧ (c.raise chain).defers = c.defers := fun c chain => by
    unfold Frame.raise
    split
    · exact ⟨_, rfl, rfl⟩
    · exact ⟨_, rfl, rfl⟩
  have one : ∀ (fr : Frame) (chain : List PanicEntry) (c : Frame) (cs : List Frame) (w : World), fr.mode = .panicking chain → fr.defers = [] →
      (∃ o w', step P (lone fr (c :: cs) w) = .ended o w') ∨ step P (lone fr (c :: cs) w) = .next (lone (c.raise chain) cs w) := fun fr chain c cs w hm hd => by
    cases hc : fr.catches P with
    | true =>
      have h : ∃ o, (stepG P true { frame := fr, callers := c :: cs, status := .running, dying := none } w).bare = .ended o w := by simp [stepG, unwind, hd, hm, hc]
      obtain ⟨o, h⟩ := h
      exact .inl ⟨o, w, step_lone_ended h⟩
    | false => exact .inr (step_lone_go (by simp [stepG, unwind, hd, hm, hc]))
  intro cs
  induction cs with
  | nil =>
    intro _ fr chain hm hd w n fr' w' hr hrun
    cases n with
    | zero =>
      have := (lone_inj (Stepped.next.inj hrun)).1
      rw [← this, hm] at hr
      cases hr
    | succ n =>
      rcases one fr chain (door P) [] w hm hd with ⟨o, w1, he⟩ | hs
      · exact runN_ended_step he n _ hrun
      · rw [List.nil_append, runN_step hs] at hrun
        obtain ⟨o, w1, he⟩ := door_dead (P := P) chain w
        cases n with
        | zero => exact absurd (lone_inj (Stepped.next.inj hrun)).2.1 (by simp)
        | succ n => exact runN_ended_step he n _ hrun
  | cons c cs ih =>
    intro hcs fr chain hm hd w n fr' w' hr hrun
    cases n with
    | zero =>
      have := (lone_inj (Stepped.next.inj hrun)).1
      rw [← this, hm] at hr
      cases hr
    | succ n =>
      rcases one fr chain c (cs ++ [door P]) w hm hd with ⟨o, w1, he⟩ | hs
      · exact runN_ended_step he n _ hrun
      · rw [List.cons_append, runN_step hs] at hrun
        obtain ⟨chain', h1, h2⟩ := raise_mode c chain
        exact ih (fun f hf => hcs f (List.mem_cons_of_mem _ hf)) (c.raise chain) chain' h1 (by rw [h2]; exact hcs c (List.mem_cons_self ..)) w n fr' w' hr hrun
/-- behind a frame that leaves to the door nothing with callers comes -/
theorem after_leave {m : Machine} {a b : Nat} {fr fr' : Frame} {cs' : List Frame} {w w' : World} {v : Value} (h : runN P a m = .next (lone fr [door P] w)) (hl : fr.leaving P w (.returned v))
    (h' : runN P b m = .next (lone fr' cs' w')) (hc : cs' ≠ []) : b ≤ a := by
  refine Nat.le_of_not_lt fun hlt => ?_
  obtain ⟨j, rfl⟩ : ∃ j, b = a + (j + 1) := ⟨b - a - 1, by omega⟩
  rw [runN_on h, runN_step (step_leave_returned hl)] at h'
  cases j with
  | zero => exact hc (lone_inj (Stepped.next.inj h')).2.1.symm
  | succ j =>
    obtain ⟨o, w1, he⟩ := door_shut (P := P) v w
    exact runN_ended_step he j _ h'
end
end Go.Proofs.Ytchfnbcpjiiphab
