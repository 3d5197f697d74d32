/-
  Meanwhile: what each of the crowd's steps adds to the trace; those that only leave.
-/
import Derived.Test.YtchfnbcpjiiphaaGMid
import Derived.Conc.CrowdComm
namespace Go.Proofs.Ytchfnbcpjiiphaa
open Go Go.Conc
open Go.ConcN (sumTo upd sumTo_upd upd_ne upd_same)
section
variable {P : Program} {Mine : Loc → Prop} {j p : Nat} {t : Trace}
theorem deaf_calm {u : Trace} (hu : ∀ op ∈ u, op.act ≠ .mark .disable ∧ op.act ≠ .mark .enable) (g : Nat) : Deaf (t ++ u) g = Deaf t g := by
  have key : ∀ (l : List MemOp) (d : Nat), (∀ op ∈ l, op.act ≠ .mark .disable ∧ op.act ≠ .mark .enable) → l.foldl (deafStep g) d = d := by
    intro l
    induction l with
    | nil => exact fun d _ => rfl
    | cons x l ih =>
      intro d h
      have hx := h x (by simp)
      have : deafStep g d x = d := by
        unfold deafStep
        split
        · rename_i e; exact absurd e hx.1
        · rename_i e; exact absurd e hx.2
        · rfl
      rw [List.foldl_cons, this]
      exact ih d fun op hop => h op (by simp [hop])
  have := Deaf_append t g u.toList
  rw [show t ++ u.toList.toArray = t ++ u by simp] at this
  rw [this]
  exact key _ _ fun op hop => hu op (by simpa using hop)
theorem calm_ofEvents {g : Nat} {fn : FuncId} {pos : String} {es : Array Event} (h : ∀ e ∈ es, ∀ m, e.loc = .mark m → Neutral m) : ∀ op ∈ MemOp.ofEvents g fn pos es, op.act ≠ .mark .disable ∧ op.act ≠ .mark .enable := by
  intro op hop
  obtain ⟨e, he, rfl⟩ := Go.Conc.mem_ofEvents hop
  exact ⟨fun hm => (ofEvent_noMark (h e he) _ hm).ne_disable rfl, fun hm => (ofEvent_noMark (h e he) _ hm).ne_enable rfl⟩
theorem Mid.own0 (h : Mid Mine j p t) {fn : FuncId} {pos : String} {es : Array Event} (hes : ∀ e ∈ es, EvA Mine e) : Mid Mine j p (t ++ MemOp.ofEvents 0 fn pos es) := by
  have hc := calm_ofEvents (g := 0) (fn := fn) (pos := pos) fun e he => (hes e he).1
  refine h.app (fun op hop => ?_) ((deaf_calm hc 0).trans h.hears) ((deaf_calm hc j).trans h.hearsJ)
  obtain ⟨e, he, rfl⟩ := Go.Conc.mem_ofEvents hop
  refine .inl ⟨rfl, fun x hx hw => ?_⟩
  obtain ⟨h1, h2⟩ := ofEvent_touch (hes e he).1 hx
  rw [h1]
  exact (hes e he).2 (h2 ▸ hw)
theorem Mid.ownJ (h : Mid Mine j p t) {fn : FuncId} {pos : String} {es : Array Event} (hes : ∀ e ∈ es, EvB Mine e) : Mid Mine j p (t ++ MemOp.ofEvents j fn pos es) := by
  have hc := calm_ofEvents (g := j) (fn := fn) (pos := pos) fun e he => (hes e he).1
  refine h.app (fun op hop => ?_) ((deaf_calm hc 0).trans h.hears) ((deaf_calm hc j).trans h.hearsJ)
  obtain ⟨e, he, rfl⟩ := Go.Conc.mem_ofEvents hop
  refine .inr (.inl ⟨rfl, fun x hx => ?_⟩)
  obtain ⟨h1, h2⟩ := ofEvent_touch (hes e he).1 hx
  rw [h1, h2]
  exact (hes e he).2
/-- operations on a channel touch no memory -/
theorem Mid.comm (h : Mid Mine j p t) {u : Trace} (hu : ∀ op ∈ u, op.act.touch? = none ∧ op.act ≠ .mark .disable ∧ op.act ≠ .mark .enable) : Mid Mine j p (t ++ u) :=
  h.app (fun op hop => .inr (.inr (hu op hop).1)) ((deaf_calm (fun op hop => (hu op hop).2) 0).trans h.hears) ((deaf_calm (fun op hop => (hu op hop).2) j).trans h.hearsJ)
/-- one that leaves says something of the library's -/
theorem Mid.slip (h : Mid Mine j p t) {i : Nat} (hi : i ≠ 0) (hij : i ≠ j) {fn : FuncId} {pos : String} {es : Array Event} (hm : ∀ e ∈ es, e.mute = true) : Mid Mine j p (t ++ MemOp.ofEvents i fn pos es) := by
  have hu : ∀ op ∈ MemOp.ofEvents i fn pos es, op.g = i := fun op hop => by obtain ⟨e, _, rfl⟩ := Go.Conc.mem_ofEvents hop; rfl
  refine h.app (fun op hop => .inr (.inr ?_)) ((Deaf_other t hi _ hu).trans h.hears) ((Deaf_other t hij _ hu).trans h.hearsJ)
  obtain ⟨e, he, rfl⟩ := Go.Conc.mem_ofEvents hop
  exact touch_mute (hm e he)
/-- all but goroutine 0 and the sender only leave -/
structure Crew (P : Program) (j : Nat) (t : Trace) (gs : Array Goroutine) (q : Nat → Nat) : Prop where
  old : ∀ i g, 0 < i → i ≠ j → gs[i]? = some g → QuitsD P (q i) (Deaf t i) g
  above : ∀ i, gs.size ≤ i → Deaf t i = 0
theorem Crew.keep {gs gs' : Array Goroutine} {q : Nat → Nat} {u : Trace} (h : Crew P j t gs q) (hs : gs'.size = gs.size) (hg : ∀ i x, 0 < i → i ≠ j → gs'[i]? = some x → gs[i]? = some x) (hu : ∀ op ∈ u, op.act ≠ .mark .disable ∧ op.act ≠ .mark .enable) :
    Crew P j (t ++ u) gs' q :=
  ⟨fun i x hi hij hx => by rw [deaf_calm hu]; exact h.old i x hi hij (hg i x hi hij hx), fun i hi => by rw [deaf_calm hu]; exact h.above i (by omega)⟩
/-- those that leave stand as they were, whoever has moved -/
theorem Crew.moved {gs : Array Goroutine} {q : Nat → Nat} (h : Crew P j t gs q) {g g' : Goroutine} {w' : World} {m : Nat} (hm : m = 0 ∨ m = j) {y : Goroutine} :
    ∀ i x, 0 < i → i ≠ j → ((gs.map (woken P g g' w')).setIfInBounds m y)[i]? = some x → gs[i]? = some x := by
  intro i x hi hij hx
  have hne : m ≠ i := by rcases hm with rfl | rfl <;> omega
  rw [Array.getElem?_setIfInBounds_ne hne, Array.getElem?_map] at hx
  obtain ⟨z, hz, rfl⟩ := Option.map_eq_some_iff.1 hx
  rw [woken_quitsD (h.old i z hi hij hz)]
  exact hz
/-- one that leaves slips -/
theorem Crew.slip {gs : Array Goroutine} {q : Nat → Nat} (h : Crew P j t gs q) {i k : Nat} {x g' : Goroutine} {w' : World} {fn : FuncId} {pos : String} {es : Array Event} (hlt : i < gs.size) (hq : QuitsD P k (deafBehind (Deaf t i) es) g') :
    Crew P j (t ++ MemOp.ofEvents i fn pos es) ((gs.map (woken P x g' w')).setIfInBounds i g') (upd q i k) := by
  have ho : ∀ l, i ≠ l → Deaf (t ++ MemOp.ofEvents i fn pos es) l = Deaf t l := fun l hl => Deaf_other t hl _ (fun op hop => by obtain ⟨e, _, rfl⟩ := Go.Conc.mem_ofEvents hop; rfl)
  refine ⟨fun l y hl hlj hy => ?_, fun l hl => ?_⟩
  · by_cases hil : i = l
    · subst hil
      rw [Array.getElem?_setIfInBounds_self_of_lt (by simpa using hlt)] at hy
      obtain rfl := Option.some.inj hy
      rw [upd_same, Deaf_own]
      exact hq
    · rw [Array.getElem?_setIfInBounds_ne hil, Array.getElem?_map] at hy
      obtain ⟨z, hz, rfl⟩ := Option.map_eq_some_iff.1 hy
      have hqj := h.old l z hl hlj hz
      rw [woken_quitsD hqj, upd_ne q k (Ne.symm hil), ho l hil]
      exact hqj
  · rw [ho l (by simp at hl; omega)]
    exact h.above l (by simpa using hl)
/-- nobody who leaves offers anything at a channel -/
theorem Crew.silent {gs : Array Goroutine} {q : Nat → Nat} (h : Crew P j t gs q) (c : Nat) (send : Bool) : ∀ i x, 0 < i → i ≠ j → gs[i]? = some x → offersAt x c send = [] := fun i x hi hij hx =>
  offersAt_of_not_blocked (by rcases (h.old i x hi hij hx).status with e | e <;> rw [e] <;> simp) c send
end
end Go.Proofs.Ytchfnbcpjiiphaa
