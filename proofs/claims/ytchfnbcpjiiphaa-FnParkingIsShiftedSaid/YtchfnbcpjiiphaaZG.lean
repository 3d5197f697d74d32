/-
  What a step does hangs on the tape only by the answers that it draws: the same answers at another place of another tape give the same.
  The operations of which the functions of parking are made are calm: no system call, and of the library's words only the one that speaks of room.
-/
import Derived.Conc.Own
namespace Go.Proofs.Ytchfnbcpjiiphaa
open Go

/-- the world with another tape, drawn so far -/
def ona (w : World) (τ : Nat → Question → Nat) (d : Nat) : World := { w with tape := τ, drawn := d }
theorem ona_self (w : World) : ona w w.tape w.drawn = w := rfl
theorem ona_ona (w : World) (τ τ' : Nat → Question → Nat) (d d' : Nat) : ona (ona w τ d) τ' d' = ona w τ' d' := rfl
/-- the same answers, k of them -/
def Tells (τ : Nat → Question → Nat) (d : Nat) (w : World) (k : Nat) : Prop := ∀ j, j < k → ∀ q, τ (d + j) q = w.tape (w.drawn + j) q
theorem Tells.less {τ : Nat → Question → Nat} {d k k' : Nat} {w : World} (h : Tells τ d w k) (hk : k' ≤ k) : Tells τ d w k' := fun j hj q => h j (by omega) q
theorem Tells.behind {τ : Nat → Question → Nat} {d k n : Nat} {w w₁ : World} (h : Tells τ d w k) (ht : w₁.tape = w.tape) (hd : w₁.drawn = w.drawn + n) : Tells τ (d + n) w₁ (k - n) := fun j hj q => by
  have := h (n + j) (by omega) q
  rw [ht, hd, Nat.add_assoc, Nat.add_assoc]
  exact this
def worldOf {α : Type} : Result α → World
  | .ok _ w => w
  | .halt _ w => w
def mapOf {α : Type} (f : World → World) : Result α → Result α
  | .ok a w => .ok a (f w)
  | .halt h w => .halt h (f w)

/-- the ways in which a calm stretch breaks off of itself -/
def Mild : Halt → Prop
  | .panic _ => True
  | .stuck _ => True
  | .unsupported u => ∀ g, u ≠ .initOrder g
  | _ => False
/-- no system call, no object set, none made that waits, and of the library's words only the one that speaks of room -/
def Calm (P : Program) {α : Type} : Sem α → Prop
  | .pure _ => True
  | .load _ _ k => ∀ v, Calm P (k v)
  | .store _ _ _ k => Calm P k
  | .new o k => (∀ c t, o ≠ .pending c t) ∧ ∀ r, Calm P (k r)
  | .shape _ k => ∀ s, Calm P (k s)
  | .freeze _ _ k => Calm P k
  | .frozen _ k => ∀ b, Calm P (k b)
  | .getObj _ k => (∀ o, Calm P (k o)) ∧ True
  | .setObj _ _ _ => False
  | .choose _ k => ∀ n, Calm P (k n)
  | .sys _ _ => False
  | .program k => Calm P (k P)
  | .mark m k => m = .noRoom ∧ Calm P k
  | .halt h => Mild h
theorem calm_bind {P : Program} {α β : Type} (s : Sem α) (f : α → Sem β) (h : Calm P s) (hf : ∀ a, Calm P (f a)) : Calm P (s.bind f) := by
  induction s with
  | pure a => exact hf a
  | load m a k ih => exact fun v => ih v (h v)
  | store m a v k ih => exact ih h
  | new o k ih => exact ⟨h.1, fun r => ih r (h.2 r)⟩
  | shape r k ih => exact fun x => ih x (h x)
  | freeze a n k ih => exact ih h
  | frozen a k ih => exact fun b => ih b (h b)
  | getObj r k ih => exact ⟨fun o => ih o (h.1 o), trivial⟩
  | setObj r o k ih => exact h.elim
  | choose q k ih => exact fun n => ih n (h n)
  | sys c k ih => exact h.elim
  | program k ih => exact ih P h
  | mark m k ih => exact ⟨h.1, ih h.2⟩
  | halt h' => exact h
/-- what a calm stretch lists: no word of the library's but the one that speaks of room, and no output -/
def CalmE (e : Event) : Prop := (∀ m, e.loc = .mark m → m = .noRoom) ∧ e.loc ≠ .output
/-- the same world but for the tape and what is drawn of it -/
structure Like (w w₁ : World) : Prop where
  heap : w₁.heap = w.heap
  os : w₁.os = w.os
  output : w₁.output = w.output
theorem Like.refl (w : World) : Like w w := ⟨rfl, rfl, rfl⟩
theorem Like.ona (w : World) (τ : Nat → Question → Nat) (d : Nat) : Like w (ona w τ d) := ⟨rfl, rfl, rfl⟩
theorem Like.trans {w₁ w₂ w₃ : World} (h : Like w₁ w₂) (h' : Like w₂ w₃) : Like w₁ w₃ := ⟨h'.heap.trans h.heap, h'.os.trans h.os, h'.output.trans h.output⟩
theorem Like.symm {w w₁ : World} (h : Like w w₁) : Like w₁ w := ⟨h.heap.symm, h.os.symm, h.output.symm⟩
theorem Like.size {w w₁ : World} (h : Like w w₁) : w₁.heap.size = w.heap.size := by rw [h.heap]
/-- it is that world on another tape -/
theorem Like.eq {w w₁ : World} (h : Like w w₁) : w₁ = Go.Proofs.Ytchfnbcpjiiphaa.ona w w₁.tape w₁.drawn := by
  obtain ⟨a, b, c, d, e⟩ := w₁
  obtain ⟨h1, h2, h3⟩ := h
  dsimp only at h1 h2 h3
  subst h1 h2 h3
  rfl
theorem Like.cell {w w₁ : World} (h : Like w w₁) (a : Addr) : w₁.cell? a = w.cell? a := by unfold World.cell?; rw [h.heap]
theorem Like.shape {w w₁ : World} (h : Like w w₁) (r : Nat) : w₁.shape? r = w.shape? r := by unfold World.shape?; rw [h.heap]
theorem Like.frozen {w w₁ : World} (h : Like w w₁) (a : Addr) : w₁.frozen? a = w.frozen? a := by unfold World.frozen?; rw [h.heap]
theorem Like.set {w w₁ : World} (h : Like w w₁) (b : Nat) (o : Obj) : Like { w with heap := w.heap.setIfInBounds b o } { w₁ with heap := w₁.heap.setIfInBounds b o } := ⟨by simp only [h.heap], h.os, h.output⟩
theorem Like.push {w w₁ : World} (h : Like w w₁) (o : Obj) : Like { w with heap := w.heap.push o } { w₁ with heap := w₁.heap.push o } := ⟨by simp only [h.heap], h.os, h.output⟩
theorem Like.setCell {w w₁ : World} (h : Like w w₁) (a : Addr) (v : Value) : Like (w.setCell a v) (w₁.setCell a v) := by
  unfold World.setCell
  exact ⟨by simp only [h.heap], h.os, h.output⟩
theorem Like.freeze {w w₁ : World} (h : Like w w₁) (a : Addr) (n : Nat) : Like (w.freeze a n) (w₁.freeze a n) := by
  unfold World.freeze
  split
  · exact h
  · exact ⟨by simp only [h.heap], h.os, h.output⟩
theorem Like.seen {w w₁ : World} (h : Like w w₁) (P : Program) (at_ : Addr) (u : TypeId) (a : Addr) (b : Bool) : w₁.seen P at_ u a b = w.seen P at_ u a b := by unfold World.seen; rw [h.heap]
theorem Like.noCell {w w₁ : World} (h : Like w w₁) (a : Addr) (x : String) : w₁.noCell a x = w.noCell a x := by unfold World.noCell; rw [h.heap]
theorem Like.farLoad {w w₁ : World} (h : Like w w₁) (P : Program) (a : Addr) (b : Bool) : w₁.farLoad P a b = w.farLoad P a b := by
  unfold World.farLoad
  have hv : ∀ at_ u, w₁.viewLoad P at_ u a b = w.viewLoad P at_ u a b := fun at_ u => by unfold World.viewLoad; rw [h.seen]
  rw [h.noCell, h.heap]
  simp only [hv]
/-- a store far off goes alike -/
theorem Like.viewStore {w w₁ : World} (h : Like w w₁) (P : Program) (at_ : Addr) (u : TypeId) (a : Addr) (v : Value) (b : Bool) :
    (∃ x, w.viewStore P at_ u a v b = .error x ∧ w₁.viewStore P at_ u a v b = .error x) ∨
    ∃ o l, w.viewStore P at_ u a v b = .ok ({ w with heap := w.heap.setIfInBounds at_.block o }, l) ∧ w₁.viewStore P at_ u a v b = .ok ({ w₁ with heap := w₁.heap.setIfInBounds at_.block o }, l) := by
  unfold World.viewStore
  rw [h.seen]
  cases ht : tight P P.depth u with
  | false => exact .inl ⟨_, rfl, rfl⟩
  | true =>
    simp only [Bool.not_true, Bool.false_eq_true, if_false]
    cases w.seen P at_ u a b with
    | error e => exact .inl ⟨_, rfl, rfl⟩
    | ok r =>
      obtain ⟨c, e, frozen, first, like, cells⟩ := r
      cases v.bytes? with
      | none => exact .inl ⟨_, rfl, rfl⟩
      | some bytes =>
        dsimp only [bind, Except.bind]
        split
        · exact .inl ⟨_, rfl, rfl⟩
        · generalize List.foldlM (m := Except String) _ c cells = F
          cases F with
          | error e => exact .inl ⟨_, rfl, rfl⟩
          | ok c' => exact .inr ⟨.cells c' e frozen, _, rfl, rfl⟩
theorem Like.farStore {w w₁ : World} (h : Like w w₁) (P : Program) (a : Addr) (v : Value) (b : Bool) :
    (∃ x, w.farStore P a v b = .error x ∧ w₁.farStore P a v b = .error x) ∨
    ∃ k o l, w.farStore P a v b = .ok ({ w with heap := w.heap.setIfInBounds k o }, l) ∧ w₁.farStore P a v b = .ok ({ w₁ with heap := w₁.heap.setIfInBounds k o }, l) := by
  unfold World.farStore
  rw [h.noCell, h.heap]
  split
  · rename_i at_ u _
    rcases h.viewStore P at_ u a v b with ⟨x, h1, h2⟩ | ⟨o, l, h1, h2⟩
    · rw [h1, h2]; exact .inl ⟨_, rfl, rfl⟩
    · rw [h1, h2]; exact .inr ⟨at_.block, o, l, rfl, by rw [h.heap]⟩
  · exact .inl ⟨_, rfl, rfl⟩
def putW {α : Type} (w₁ : World) : Result α → Result α
  | .ok a _ => .ok a w₁
  | .halt h _ => .halt h w₁
/-- from a like world, with the same answers, a calm stretch does the same -/
theorem runT_like {α : Type} (P : Program) : ∀ (s : Sem α), Calm P s → ∀ (w : World) (es : Array Event), ∃ k, (worldOf (s.runT P w es).1).drawn = w.drawn + k ∧ (worldOf (s.runT P w es).1).tape = w.tape ∧
    ∀ w₁, Like w w₁ → Tells w₁.tape w₁.drawn w k → ∃ w₁', s.runT P w₁ es = (putW w₁' (s.runT P w es).1, (s.runT P w es).2) ∧ Like (worldOf (s.runT P w es).1) w₁' ∧ w₁'.tape = w₁.tape ∧ w₁'.drawn = w₁.drawn + k := by
  intro s
  induction s with
  | pure a => exact fun _ w es => ⟨0, rfl, rfl, fun w₁ h _ => ⟨w₁, rfl, h, rfl, rfl⟩⟩
  | halt h => exact fun _ w es => ⟨0, rfl, rfl, fun w₁ h _ => ⟨w₁, rfl, h, rfl, rfl⟩⟩
  | load m a k ih =>
    intro hC w es
    cases hc : w.cell? a with
    | some v =>
      have e : ∀ x : World, x.cell? a = some v → (Sem.load m a k).runT P x es = (k v).runT P x (es.push ⟨.cell a, false, m == .atomic⟩) := fun x hx => by rw [Sem.runT]; simp only [hx]
      obtain ⟨n, h1, h2, h3⟩ := ih v (hC _) w (es.push ⟨.cell a, false, m == .atomic⟩)
      rw [e w hc]
      exact ⟨n, h1, h2, fun w₁ hl ht => by rw [e w₁ ((hl.cell a).trans hc)]; exact h3 w₁ hl ht⟩
    | none =>
      cases hf : w.farLoad P a (m == .atomic) with
      | ok r =>
        have e : ∀ x : World, x.cell? a = none → x.farLoad P a (m == .atomic) = .ok r → (Sem.load m a k).runT P x es = (k r.1).runT P x (es ++ r.2.toArray.map (⟨.cell ·, false, m == .atomic⟩)) := fun x hx hy => by rw [Sem.runT]; simp only [hx, hy]
        obtain ⟨n, h1, h2, h3⟩ := ih r.1 (hC _) w (es ++ r.2.toArray.map (⟨.cell ·, false, m == .atomic⟩))
        rw [e w hc hf]
        exact ⟨n, h1, h2, fun w₁ hl ht => by rw [e w₁ ((hl.cell a).trans hc) ((hl.farLoad P a _).trans hf)]; exact h3 w₁ hl ht⟩
      | error x =>
        have e : ∀ y : World, y.cell? a = none → y.farLoad P a (m == .atomic) = .error x → (Sem.load m a k).runT P y es = (.halt x y, es) := fun y hx hy => by rw [Sem.runT]; simp only [hx, hy]
        rw [e w hc hf]
        exact ⟨0, rfl, rfl, fun w₁ hl _ => ⟨w₁, by rw [e w₁ ((hl.cell a).trans hc) ((hl.farLoad P a _).trans hf)]; rfl, hl, rfl, rfl⟩⟩
  | store m a v k ih =>
    intro hC w es
    have main : (∃ H, ∀ x : World, ∀ u, x.cell? a = some u → x.frozen? a = true → (Sem.store m a v k).runT P x es = (.halt H x, es)) →
        (∀ x : World, ∀ u, x.cell? a = some u → x.frozen? a = false → (Sem.store m a v k).runT P x es = k.runT P (x.setCell a v) (es.push ⟨.cell a, true, m == .atomic⟩)) →
        (∀ x : World, ∀ r, x.cell? a = none → x.farStore P a v (m == .atomic) = .ok r → (Sem.store m a v k).runT P x es = k.runT P r.1 (es ++ r.2.toArray.map (⟨.cell ·, true, m == .atomic⟩))) →
        (∀ x : World, ∀ h, x.cell? a = none → x.farStore P a v (m == .atomic) = .error h → (Sem.store m a v k).runT P x es = (.halt h x, es)) →
        ∃ n, (worldOf ((Sem.store m a v k).runT P w es).1).drawn = w.drawn + n ∧ (worldOf ((Sem.store m a v k).runT P w es).1).tape = w.tape ∧
          ∀ w₁, Like w w₁ → Tells w₁.tape w₁.drawn w n → ∃ w₁', (Sem.store m a v k).runT P w₁ es = (putW w₁' ((Sem.store m a v k).runT P w es).1, ((Sem.store m a v k).runT P w es).2) ∧
            Like (worldOf ((Sem.store m a v k).runT P w es).1) w₁' ∧ w₁'.tape = w₁.tape ∧ w₁'.drawn = w₁.drawn + n := by
      rintro ⟨X, e1⟩ e2 e3 e4
      cases hc : w.cell? a with
      | some u =>
        cases hz : w.frozen? a with
        | true =>
          rw [e1 w u hc hz]
          exact ⟨0, rfl, rfl, fun w₁ hl _ => ⟨w₁, by rw [e1 w₁ u ((hl.cell a).trans hc) ((hl.frozen a).trans hz)]; rfl, hl, rfl, rfl⟩⟩
        | false =>
          rw [e2 w u hc hz]
          obtain ⟨n, h1, h2, h3⟩ := ih hC (w.setCell a v) (es.push ⟨.cell a, true, m == .atomic⟩)
          exact ⟨n, h1, h2, fun w₁ hl ht => by rw [e2 w₁ u ((hl.cell a).trans hc) ((hl.frozen a).trans hz)]; exact h3 (w₁.setCell a v) (hl.setCell a v) ht⟩
      | none =>
        rcases (Like.refl w).farStore P a v (m == .atomic) with ⟨x, f1, _⟩ | ⟨b, o, l, f1, _⟩
        · rw [e4 w x hc f1]
          refine ⟨0, rfl, rfl, fun w₁ hl _ => ⟨w₁, ?_, hl, rfl, rfl⟩⟩
          rcases hl.farStore P a v (m == .atomic) with ⟨y, g1, g2⟩ | ⟨b, o, l, g1, _⟩
          · rw [f1] at g1
            injection g1 with g1
            subst g1
            rw [e4 w₁ x ((hl.cell a).trans hc) g2]
            rfl
          · rw [f1] at g1; cases g1
        · rw [e3 w _ hc f1]
          obtain ⟨n, h1, h2, h3⟩ := ih hC { w with heap := w.heap.setIfInBounds b o } (es ++ l.toArray.map (⟨.cell ·, true, m == .atomic⟩))
          refine ⟨n, h1, h2, fun w₁ hl ht => ?_⟩
          rcases hl.farStore P a v (m == .atomic) with ⟨y, g1, _⟩ | ⟨b', o', l', g1, g2⟩
          · rw [f1] at g1; cases g1
          · rw [f1] at g1
            injection g1 with g1
            injection g1 with g1 g1'
            subst g1'
            rw [e3 w₁ _ ((hl.cell a).trans hc) g2]
            have hw : Like { w with heap := w.heap.setIfInBounds b o } { w₁ with heap := w₁.heap.setIfInBounds b' o' } := by
              rw [g1]
              exact hl.set b' o'
            exact h3 _ hw ht
    cases v with
    | agg _ => exact ⟨0, rfl, rfl, fun w₁ h _ => ⟨w₁, rfl, h, rfl, rfl⟩⟩
    | tuple _ => exact ⟨0, rfl, rfl, fun w₁ h _ => ⟨w₁, rfl, h, rfl, rfl⟩⟩
    | _ =>
      refine main ⟨.unsupported (.unsafePointer "a write to bytes that a string shares"), fun x u h1 h2 => ?_⟩ (fun x u h1 h2 => ?_) (fun x r h1 h2 => ?_) (fun x h h1 h2 => ?_)
      · conv => lhs; unfold Sem.runT
        simp only [h1, h2, if_true]
      · conv => lhs; unfold Sem.runT
        simp only [h1, h2, Bool.false_eq_true, if_false]
      · conv => lhs; unfold Sem.runT
        simp only [h1, h2]
      · conv => lhs; unfold Sem.runT
        simp only [h1, h2]
  | new o k ih =>
    intro hC w es
    obtain ⟨n, h1, h2, h3⟩ := ih w.heap.size (hC.2 _) { w with heap := w.heap.push o } es
    refine ⟨n, h1, h2, fun w₁ hl ht => ?_⟩
    obtain ⟨w₁', g1, g2, g3, g4⟩ := h3 { w₁ with heap := w₁.heap.push o } (hl.push o) ht
    exact ⟨w₁', by show (k w₁.heap.size).runT P _ es = (putW w₁' ((k w.heap.size).runT P _ es).1, _); rw [hl.size]; exact g1, g2, g3, g4⟩
  | shape r k ih =>
    intro hC w es
    obtain ⟨n, h1, h2, h3⟩ := ih (w.shape? r) (hC _) w es
    exact ⟨n, h1, h2, fun w₁ hl ht => by
      obtain ⟨w₁', g1, g2⟩ := h3 w₁ hl ht
      exact ⟨w₁', by rw [Sem.runT, hl.shape]; exact g1, g2⟩⟩
  | freeze a n k ih =>
    intro hC w es
    have hd : ∀ x : World, (x.freeze a n).drawn = x.drawn ∧ (x.freeze a n).tape = x.tape := fun x => by unfold World.freeze; split <;> exact ⟨rfl, rfl⟩
    obtain ⟨m, h1, h2, h3⟩ := ih hC (w.freeze a n) es
    refine ⟨m, by rw [← (hd w).1]; exact h1, by rw [← (hd w).2]; exact h2, fun w₁ hl ht => ?_⟩
    obtain ⟨w₁', g1, g2, g3, g4⟩ := h3 (w₁.freeze a n) (hl.freeze a n) (by rw [(hd w₁).1, (hd w₁).2]; exact fun j hj q => by rw [(hd w).1, (hd w).2]; exact ht j hj q)
    exact ⟨w₁', g1, g2, by rw [← (hd w₁).2]; exact g3, by rw [← (hd w₁).1]; exact g4⟩
  | frozen a k ih =>
    intro hC w es
    obtain ⟨n, h1, h2, h3⟩ := ih (w.frozen? a) (hC _) w es
    exact ⟨n, h1, h2, fun w₁ hl ht => by
      obtain ⟨w₁', g1, g2⟩ := h3 w₁ hl ht
      exact ⟨w₁', by rw [Sem.runT, hl.frozen]; exact g1, g2⟩⟩
  | getObj r k ih =>
    intro hC w es
    cases h : w.heap[r]? with
    | none =>
      have e : ∀ x : World, x.heap[r]? = none → (Sem.getObj r k).runT P x es = (.halt (.stuck "getObj: no such block") x, es) := fun x hx => by rw [Sem.runT]; simp only [hx]
      rw [e w h]
      refine ⟨0, rfl, rfl, fun w₁ hl _ => ⟨w₁, ?_, hl, rfl, rfl⟩⟩
      rw [e w₁ (by rw [hl.heap]; exact h)]; rfl
    | some o =>
      by_cases hcell : ∃ c t f, o = .cells c t f
      · obtain ⟨c, t, f, rfl⟩ := hcell
        have e : ∀ x : World, x.heap[r]? = some (.cells c t f) → (Sem.getObj r k).runT P x es = (.halt (.stuck "getObj: a row of cells") x, es) := fun x hx => by rw [Sem.runT]; simp only [hx]
        rw [e w h]
        refine ⟨0, rfl, rfl, fun w₁ hl _ => ⟨w₁, ?_, hl, rfl, rfl⟩⟩
        rw [e w₁ (by rw [hl.heap]; exact h)]; rfl
      · have e : ∀ (x : World) o, (∀ c t f, o ≠ .cells c t f) → x.heap[r]? = some o → (Sem.getObj r k).runT P x es = (k o).runT P x (es.push ⟨.obj r, false, o.isChan⟩) := fun x o ho hx => by
          cases o <;> first | exact absurd rfl (ho _ _ _) | (rw [Sem.runT]; simp only [hx])
        have ho : ∀ c t f, o ≠ .cells c t f := fun c t f hh => hcell ⟨c, t, f, hh⟩
        obtain ⟨n, h1, h2, h3⟩ := ih o (hC.1 _) w (es.push ⟨.obj r, false, o.isChan⟩)
        rw [e w o ho h]
        refine ⟨n, h1, h2, fun w₁ hl ht => ?_⟩
        obtain ⟨w₁', g1, g2⟩ := h3 w₁ hl ht
        refine ⟨w₁', ?_, g2⟩
        rw [e w₁ o ho (by rw [hl.heap]; exact h)]; exact g1
  | setObj r o k ih => exact fun hC => hC.elim
  | choose q k ih =>
    intro hC w es
    by_cases hf : q.forced = true
    · obtain ⟨n, h1, h2, h3⟩ := ih 0 (hC _) w es
      have e : ∀ x : World, (Sem.choose q k).runT P x es = (k 0).runT P x es := fun x => by rw [Sem.runT]; simp only [hf, if_true]
      simp only [e]
      exact ⟨n, h1, h2, h3⟩
    · have hf' : q.forced = false := by simpa using hf
      have e : ∀ x : World, (Sem.choose q k).runT P x es = (k (q.cut (x.tape x.drawn q))).runT P { x with drawn := x.drawn + 1 } es := fun x => by rw [Sem.runT]; simp only [hf', Bool.false_eq_true, if_false]
      simp only [e]
      obtain ⟨n, h1, h2, h3⟩ := ih (q.cut (w.tape w.drawn q)) (hC _) { w with drawn := w.drawn + 1 } es
      refine ⟨n + 1, by rw [h1]; show w.drawn + 1 + n = _; omega, h2, fun w₁ hl ht => ?_⟩
      have h0 : w₁.tape w₁.drawn q = w.tape w.drawn q := ht 0 (by omega) q
      rw [h0]
      obtain ⟨w₁', g1, g2, g3, g4⟩ := h3 { w₁ with drawn := w₁.drawn + 1 } ⟨hl.heap, hl.os, hl.output⟩ ((ht.behind (w₁ := { w with drawn := w.drawn + 1 }) rfl rfl).less (by omega))
      exact ⟨w₁', g1, g2, g3, by rw [g4]; show w₁.drawn + 1 + n = _; omega⟩
  | sys c k ih => exact fun hC => hC.elim
  | program k ih => exact fun hC w es => ih P hC w es
  | mark m k ih => exact fun hC w es => ih hC.2 w _
theorem runT_calm {α : Type} (P : Program) : ∀ (s : Sem α), Calm P s → ∀ (w : World) (es : Array Event), (∀ e ∈ es, CalmE e) → ∀ e ∈ (s.runT P w es).2, CalmE e := by
  intro s
  have cellE : ∀ a b c, CalmE ⟨.cell a, b, c⟩ := fun a b c => ⟨fun m h => (by cases h), (by intro h; cases h)⟩
  have objE : ∀ a b c, CalmE ⟨.obj a, b, c⟩ := fun a b c => ⟨fun m h => (by cases h), (by intro h; cases h)⟩
  have push : ∀ {es : Array Event} {e : Event}, (∀ e ∈ es, CalmE e) → CalmE e → ∀ x ∈ es.push e, CalmE x := fun h1 h2 x hx => by
    rcases Array.mem_push.1 hx with h | h
    · exact h1 x h
    · rw [h]; exact h2
  have app : ∀ {es : Array Event} {l : List Addr} {b c : Bool}, (∀ e ∈ es, CalmE e) → ∀ x ∈ es ++ l.toArray.map (⟨.cell ·, b, c⟩), CalmE x := fun h1 x hx => by
    rcases Array.mem_append.1 hx with h | h
    · exact h1 x h
    · obtain ⟨a, _, rfl⟩ := Array.mem_map.1 h
      exact cellE _ _ _
  induction s with
  | pure a => exact fun _ w es h => h
  | halt h' => exact fun _ w es h => h
  | load m a k ih =>
    intro hC w es h
    unfold Sem.runT
    split
    · exact ih _ (hC _) w _ (push h (cellE _ _ _))
    · split
      · exact ih _ (hC _) w _ (app h)
      · exact h
  | store m a v k ih =>
    intro hC w es h
    cases v with
    | agg _ => exact h
    | tuple _ => exact h
    | _ =>
      unfold Sem.runT
      split
      · split
        · exact h
        · exact ih hC _ _ (push h (cellE _ _ _))
      · split
        · exact ih hC _ _ (app h)
        · exact h
  | new o k ih => exact fun hC w es h => ih _ (hC.2 _) _ es h
  | shape r k ih => exact fun hC w es h => ih _ (hC _) w es h
  | freeze a n k ih => exact fun hC w es h => ih hC _ es h
  | frozen a k ih => exact fun hC w es h => ih _ (hC _) w es h
  | getObj r k ih =>
    intro hC w es h
    unfold Sem.runT
    split
    · exact h
    · exact ih _ (hC.1 _) w _ (push h (objE _ _ _))
    · exact h
  | setObj r o k ih => exact fun hC => hC.elim
  | choose q k ih =>
    intro hC w es h
    unfold Sem.runT
    split
    · exact ih _ (hC _) w es h
    · exact ih _ (hC _) _ es h
  | sys c k ih => exact fun hC => hC.elim
  | program k ih => exact fun hC w es h => ih P hC w es h
  | mark m k ih => exact fun hC w es h => ih hC.2 w _ (push h ⟨fun m' h' => by injection h' with h'; rw [← h']; exact hC.1, (by intro h; cases h)⟩)
end Go.Proofs.Ytchfnbcpjiiphaa

namespace Go.Proofs.Ytchfnbcpjiiphaa
open Go
variable {P : Program}

theorem calm_pure {α : Type} (a : α) : Calm P (pure a : Sem α) := trivial
theorem calm_mbind {α β : Type} (s : Sem α) (f : α → Sem β) (h : Calm P s) (hf : ∀ a, Calm P (f a)) : Calm P (s >>= f) := calm_bind s f h hf
theorem calm_map {α β : Type} (s : Sem α) (f : α → β) (h : Calm P s) : Calm P (f <$> s) := by
  show Calm P (s.bind (fun a => .pure (f a)))
  exact calm_bind s _ h fun _ => trivial
theorem calm_ite {α : Type} (c : Prop) [Decidable c] (a b : Sem α) (h1 : c → Calm P a) (h2 : ¬ c → Calm P b) : Calm P (if c then a else b) := by
  split
  · exact h1 ‹_›
  · exact h2 ‹_›
theorem calm_stuck {α : Type} (x : String) : Calm P (stuck x : Sem α) := trivial
theorem calm_unsupported {α : Type} (x : Unsupported) (h : ∀ g, x ≠ .initOrder g) : Calm P (unsupported x : Sem α) := h
theorem calm_goPanic {α : Type} (v : Value) : Calm P (goPanic v : Sem α) := trivial
theorem calm_load (a : Addr) (m : Mode) : Calm P (load a m) := fun _ => trivial
theorem calm_store (a : Addr) (v : Value) (m : Mode) : Calm P (store a v m) := trivial
theorem calm_newObj (o : Obj) (h : ∀ c t, o ≠ .pending c t) : Calm P (newObj o) := ⟨h, fun _ => trivial⟩
theorem calm_shape (r : Nat) : Calm P (shape r) := fun _ => trivial
theorem calm_frozen (a : Addr) : Calm P (frozen a) := fun _ => trivial
theorem calm_getObj_bind {β : Type} (r : Nat) (f : Obj → Sem β) (h : ∀ o, Calm P (f o)) : Calm P (getObj r >>= f) := ⟨h, trivial⟩
theorem calm_choose (q : Question) : Calm P (choose q) := fun _ => trivial
theorem calm_program : Calm P program := trivial
theorem calm_room : Calm P (mark .noRoom) := ⟨rfl, trivial⟩
theorem calm_askRoom (n : Nat) : Calm P (askRoom n) := by
  unfold askRoom
  split
  · exact calm_room
  · exact calm_pure _
theorem calm_typeInfo (t : TypeId) : Calm P (typeInfo t) := by
  unfold typeInfo
  refine calm_mbind _ _ calm_program fun p => ?_
  split
  · exact calm_pure _
  · exact calm_stuck _
theorem calm_underlying (t : TypeId) : Calm P (underlying t) := by
  unfold underlying
  refine calm_mbind _ _ calm_program fun p => ?_
  split
  · exact calm_pure _
  · exact calm_stuck _
theorem calm_zeroValue (t : TypeId) : Calm P (zeroValue t) := by
  unfold zeroValue
  refine calm_mbind _ _ (calm_typeInfo t) fun i => ?_
  split
  · exact calm_pure _
  · exact calm_unsupported _ (fun _ h => by cases h)
theorem calm_sizeOf (t : TypeId) : Calm P (sizeOf t) := calm_mbind _ _ (calm_typeInfo t) fun _ => calm_pure _
theorem calm_isAgg (t : TypeId) : Calm P (isAgg t) := by
  unfold isAgg
  refine calm_mbind _ _ (calm_underlying t) fun i => ?_
  split <;> exact calm_pure _
theorem calm_loadCellsFrom (a : Addr) : ∀ (n i : Nat) (acc : Array Value), Calm P (loadCellsFrom a i n acc)
  | 0, _, _ => trivial
  | n + 1, i, _ => calm_mbind _ _ (calm_load _ _) fun _ => calm_loadCellsFrom a n (i + 1) _
theorem calm_loadCells (a : Addr) (n : Nat) : Calm P (loadCells a n) := calm_loadCellsFrom a n 0 _
theorem calm_storeCells (a : Addr) : ∀ (vs : List Value) (i : Nat), Calm P (storeCells a vs i)
  | [], _ => trivial
  | _ :: vs, i => calm_mbind _ _ (calm_store _ _ _) fun _ => calm_storeCells a vs (i + 1)
theorem calm_loadVar (t : TypeId) (a : Addr) : Calm P (loadVar t a) := by
  unfold loadVar
  refine calm_mbind _ _ (calm_isAgg t) fun b => ?_
  split
  · exact calm_mbind _ _ (calm_sizeOf t) fun _ => calm_mbind _ _ (calm_loadCells _ _) fun _ => calm_pure _
  · exact calm_load _ _
theorem calm_storeVar (t : TypeId) (a : Addr) (v : Value) : Calm P (storeVar t a v) := by
  unfold storeVar
  refine calm_mbind _ _ (calm_sizeOf t) fun n => ?_
  split
  · exact calm_mbind _ _ (calm_stuck _) fun _ => calm_storeCells _ _ _
  · exact calm_storeCells _ _ _
theorem calm_newRow (e : TypeId) (c : Array Value) : Calm P (newRow e c) := calm_mbind _ _ (calm_newObj _ (by simp)) fun _ => calm_pure _
theorem calm_newVar (t : TypeId) (v : Value) : Calm P (newVar t v) := calm_newRow _ _
theorem calm_elemOf (t : TypeId) : Calm P (elemOf t) := by
  unfold elemOf
  refine calm_mbind _ _ (calm_underlying t) fun i => ?_
  split
  · exact calm_pure _
  · exact calm_stuck _
theorem calm_runtimePanic {α : Type} (e : RuntimeError) : Calm P (runtimePanic e : Sem α) := by
  unfold runtimePanic
  refine calm_mbind _ _ calm_program fun p => ?_
  cases e <;> dsimp only
  · exact calm_goPanic _
  · exact calm_goPanic _
  · exact calm_goPanic _
  · exact calm_goPanic _
  · exact calm_mbind _ _ (calm_elemOf _) fun _ => calm_mbind _ _ (calm_newVar _ _) fun _ => calm_goPanic _
  · exact calm_mbind _ _ (calm_elemOf _) fun _ => calm_mbind _ _ (calm_newVar _ _) fun _ => calm_goPanic _
  · exact calm_goPanic _
theorem calm_boundsPanic {α : Type} (k : IntKind) (x y : Int) (c : BoundsCode) : Calm P (boundsPanic k x y c : Sem α) := by
  unfold boundsPanic
  split
  · exact calm_mbind _ _ (calm_map _ _ (calm_choose _)) fun _ => calm_runtimePanic _
  · exact calm_mbind _ _ (calm_pure _) fun _ => calm_runtimePanic _
theorem calm_asIntOf (v : Value) : Calm P (asIntOf v) := by unfold asIntOf; split <;> first | trivial | exact calm_unsupported _ (fun _ h => by cases h)
theorem calm_asInt (v : Value) : Calm P (asInt v) := calm_mbind _ _ (calm_asIntOf v) fun _ => calm_pure _
theorem calm_asBool (v : Value) : Calm P (asBool v) := by unfold asBool; split <;> trivial
theorem calm_asAddr (v : Value) : Calm P (asAddr v) := by
  unfold asAddr
  split
  · trivial
  · exact calm_runtimePanic _
  · trivial
theorem calm_sureAddr (v : Value) : Calm P (Instr.sureAddr v) := by unfold Instr.sureAddr; split <;> first | trivial | exact calm_unsupported _ (fun _ h => by cases h)
theorem calm_loadAt (t : TypeId) (v : Value) : Calm P (Instr.loadAt t v) := calm_mbind _ _ (calm_sureAddr v) fun _ => calm_loadVar _ _
theorem calm_storeAt (t : TypeId) (v u : Value) : Calm P (Instr.storeAt t v u) := calm_mbind _ _ (calm_sureAddr v) fun _ => calm_storeVar _ _ _
theorem calm_lenOf (x : Value) : Calm P (Builtin.lenOf x) := by unfold Builtin.lenOf; split <;> trivial
theorem calm_firstCells (s n : Nat) (x : Value) : Calm P (Builtin.firstCells s n x) := by
  unfold Builtin.firstCells
  split
  · exact calm_loadCells _ _
  · exact calm_pure _
  · exact calm_pure _
  · exact calm_stuck _
theorem calm_holdsCells (a : Addr) (n : Nat) : Calm P (Builtin.holdsCells a n) := by
  unfold Builtin.holdsCells
  refine calm_mbind _ _ (calm_shape _) fun r => ?_
  split <;> exact calm_pure _
theorem calm_mayShare (a b c : Nat) (o : Option Addr) (x : Value) : Calm P (Builtin.mayShare a b c o x) := by
  unfold Builtin.mayShare
  repeat' (first
    | with_reducible exact calm_pure _
    | with_reducible exact calm_stuck _
    | ((with_reducible refine calm_unsupported _ ?_); intro _ h; cases h)
    | with_reducible exact calm_boundsPanic _ _ _ _
    | with_reducible exact calm_runtimePanic _
    | with_reducible exact calm_sizeOf _
    | with_reducible exact calm_zeroValue _
    | with_reducible exact calm_typeInfo _
    | with_reducible exact calm_underlying _
    | with_reducible exact calm_sureAddr _
    | with_reducible exact calm_asIntOf _
    | with_reducible exact calm_asInt _
    | with_reducible exact calm_askRoom _
    | with_reducible exact calm_choose _
    | with_reducible exact calm_newRow _ _
    | with_reducible exact calm_lenOf _
    | with_reducible exact calm_firstCells _ _ _
    | with_reducible exact calm_storeCells _ _ _
    | with_reducible exact calm_room
    | with_reducible exact calm_holdsCells _ _
    | with_reducible exact calm_frozen _
    | with_reducible exact calm_loadCells _ _
    | with_reducible refine calm_mbind _ _ ?_ (fun _ => ?_)
    | with_reducible refine calm_ite _ _ _ (fun _ => ?_) (fun _ => ?_)
    | split
    | dsimp only)
theorem calm_len (ts : Array TypeId) (t : TypeId) (args : Array Value) : Calm P (Builtin.len_ ts t args) := by
  unfold Builtin.len_
  split
  · refine calm_mbind _ _ (calm_underlying _) fun d => ?_
    split
    · exact calm_pure _
    · exact calm_pure _
    · refine calm_mbind _ _ (calm_underlying _) fun d => ?_
      split
      · exact calm_pure _
      · exact calm_stuck _
    · exact calm_pure _
    · exact calm_pure _
    · exact calm_pure _
    · refine calm_getObj_bind _ _ (fun d => ?_)
      split
      · exact calm_pure _
      · exact calm_stuck _
    · refine calm_getObj_bind _ _ (fun d => ?_)
      split
      · exact calm_pure _
      · exact calm_stuck _
    · exact calm_stuck _
  · exact calm_stuck _
theorem calm_indexAt (t : TypeId) (x i : Value) : Calm P (Instr.indexAt t x i) := by
  unfold Instr.indexAt
  repeat' (first
    | with_reducible exact calm_pure _
    | with_reducible exact calm_stuck _
    | ((with_reducible refine calm_unsupported _ ?_); intro _ h; cases h)
    | with_reducible exact calm_boundsPanic _ _ _ _
    | with_reducible exact calm_runtimePanic _
    | with_reducible exact calm_sizeOf _
    | with_reducible exact calm_zeroValue _
    | with_reducible exact calm_typeInfo _
    | with_reducible exact calm_underlying _
    | with_reducible exact calm_sureAddr _
    | with_reducible exact calm_asIntOf _
    | with_reducible exact calm_asInt _
    | with_reducible exact calm_askRoom _
    | with_reducible exact calm_choose _
    | with_reducible exact calm_newRow _ _
    | with_reducible exact calm_lenOf _
    | with_reducible exact calm_firstCells _ _ _
    | with_reducible exact calm_mayShare _ _ _ _ _
    | with_reducible exact calm_storeCells _ _ _
    | with_reducible exact calm_room
    | with_reducible exact calm_holdsCells _ _
    | with_reducible exact calm_frozen _
    | with_reducible exact calm_loadCells _ _
    | with_reducible refine calm_mbind _ _ ?_ (fun _ => ?_)
    | with_reducible refine calm_ite _ _ _ (fun _ => ?_) (fun _ => ?_)
    | split
    | dsimp only)
theorem calm_buildSlice (t : TypeId) (n : Nat) (parts : Array (Nat × Value)) : Calm P (Instr.buildSlice t n parts) := by
  unfold Instr.buildSlice
  repeat' (first
    | with_reducible exact calm_pure _
    | with_reducible exact calm_stuck _
    | ((with_reducible refine calm_unsupported _ ?_); intro _ h; cases h)
    | with_reducible exact calm_boundsPanic _ _ _ _
    | with_reducible exact calm_runtimePanic _
    | with_reducible exact calm_sizeOf _
    | with_reducible exact calm_zeroValue _
    | with_reducible exact calm_typeInfo _
    | with_reducible exact calm_underlying _
    | with_reducible exact calm_sureAddr _
    | with_reducible exact calm_asIntOf _
    | with_reducible exact calm_asInt _
    | with_reducible exact calm_askRoom _
    | with_reducible exact calm_choose _
    | with_reducible exact calm_newRow _ _
    | with_reducible exact calm_lenOf _
    | with_reducible exact calm_firstCells _ _ _
    | with_reducible exact calm_mayShare _ _ _ _ _
    | with_reducible exact calm_storeCells _ _ _
    | with_reducible exact calm_room
    | with_reducible exact calm_holdsCells _ _
    | with_reducible exact calm_frozen _
    | with_reducible exact calm_loadCells _ _
    | with_reducible refine calm_mbind _ _ ?_ (fun _ => ?_)
    | with_reducible refine calm_ite _ _ _ (fun _ => ?_) (fun _ => ?_)
    | split
    | dsimp only)
theorem calm_makeSlice (t : TypeId) (x i : Value) : Calm P (Instr.makeSlice t x i) := by
  unfold Instr.makeSlice
  repeat' (first
    | with_reducible exact calm_pure _
    | with_reducible exact calm_stuck _
    | ((with_reducible refine calm_unsupported _ ?_); intro _ h; cases h)
    | with_reducible exact calm_boundsPanic _ _ _ _
    | with_reducible exact calm_runtimePanic _
    | with_reducible exact calm_sizeOf _
    | with_reducible exact calm_zeroValue _
    | with_reducible exact calm_typeInfo _
    | with_reducible exact calm_underlying _
    | with_reducible exact calm_sureAddr _
    | with_reducible exact calm_asIntOf _
    | with_reducible exact calm_asInt _
    | with_reducible exact calm_askRoom _
    | with_reducible exact calm_choose _
    | with_reducible exact calm_newRow _ _
    | with_reducible exact calm_lenOf _
    | with_reducible exact calm_firstCells _ _ _
    | with_reducible exact calm_mayShare _ _ _ _ _
    | with_reducible exact calm_storeCells _ _ _
    | with_reducible exact calm_room
    | with_reducible exact calm_holdsCells _ _
    | with_reducible exact calm_frozen _
    | with_reducible exact calm_loadCells _ _
    | with_reducible refine calm_mbind _ _ ?_ (fun _ => ?_)
    | with_reducible refine calm_ite _ _ _ (fun _ => ?_) (fun _ => ?_)
    | split
    | dsimp only)
theorem calm_append (ts : Array TypeId) (t : TypeId) (args : Array Value) : Calm P (Builtin.append_ ts t args) := by
  unfold Builtin.append_
  repeat' (first
    | with_reducible exact calm_pure _
    | with_reducible exact calm_stuck _
    | ((with_reducible refine calm_unsupported _ ?_); intro _ h; cases h)
    | with_reducible exact calm_boundsPanic _ _ _ _
    | with_reducible exact calm_runtimePanic _
    | with_reducible exact calm_sizeOf _
    | with_reducible exact calm_zeroValue _
    | with_reducible exact calm_typeInfo _
    | with_reducible exact calm_underlying _
    | with_reducible exact calm_sureAddr _
    | with_reducible exact calm_asIntOf _
    | with_reducible exact calm_asInt _
    | with_reducible exact calm_askRoom _
    | with_reducible exact calm_choose _
    | with_reducible exact calm_newRow _ _
    | with_reducible exact calm_lenOf _
    | with_reducible exact calm_firstCells _ _ _
    | with_reducible exact calm_mayShare _ _ _ _ _
    | with_reducible exact calm_storeCells _ _ _
    | with_reducible exact calm_room
    | with_reducible exact calm_holdsCells _ _
    | with_reducible exact calm_frozen _
    | with_reducible exact calm_loadCells _ _
    | with_reducible refine calm_mbind _ _ ?_ (fun _ => ?_)
    | with_reducible refine calm_ite _ _ _ (fun _ => ?_) (fun _ => ?_)
    | split
    | dsimp only)
theorem calm_not (x : Value) : Calm P (Op.unary .not x) := by unfold Op.unary; split <;> first | trivial | contradiction
end Go.Proofs.Ytchfnbcpjiiphaa
