/-
  A calm stretch makes nothing that waits to be initialised, and breaks off mildly, or at what waits.
-/
import Derived.Test.YtchfnbcpjiiphabGCalmB
namespace Go.Proofs.Ytchfnbcpjiiphab
open Go

/-- what waits afterwards has waited before -/
def Waits (w w' : World) : Prop := ∀ (g : Nat) (c : Array Value) (t : TypeId), w'.heap[g]? = some (Obj.pending c t) → w.heap[g]? = some (Obj.pending c t)
theorem Waits.refl (w : World) : Waits w w := fun _ _ _ h => h
theorem Waits.trans {w₁ w₂ w₃ : World} (h : Waits w₁ w₂) (h' : Waits w₂ w₃) : Waits w₁ w₃ := fun g c t x => h g c t (h' g c t x)
theorem waits_set (w w' : World) (b : Nat) (o : Obj) (ho : ∀ c t, o ≠ .pending c t) (h : w'.heap = w.heap.setIfInBounds b o) : Waits w w' := by
  intro g c t hg
  rw [h, Array.getElem?_setIfInBounds] at hg
  split at hg
  · split at hg
    · exact absurd (Option.some.inj hg) (ho c t)
    · cases hg
  · exact hg
theorem waits_push (w w' : World) (o : Obj) (ho : ∀ c t, o ≠ .pending c t) (h : w'.heap = w.heap.push o) : Waits w w' := by
  intro g c t hg
  rw [h, Array.getElem?_push] at hg
  split at hg
  · exact absurd (Option.some.inj hg) (ho c t)
  · exact hg
theorem waits_setCell (w : World) (a : Addr) (v : Value) : Waits w (w.setCell a v) := by
  intro g c t hg
  unfold World.setCell at hg
  dsimp only at hg
  rw [Array.getElem?_modify] at hg
  split at hg
  · cases hw : w.heap[g]? with
    | none => rw [hw] at hg; cases hg
    | some o =>
      rw [hw] at hg
      cases o <;> first | exact hg | (simp only [Option.map_some, Option.some.injEq] at hg; cases hg)
  · exact hg
theorem waits_freeze (w : World) (a : Addr) (n : Nat) : Waits w (w.freeze a n) := by
  intro g c t hg
  unfold World.freeze at hg
  split at hg
  · exact hg
  dsimp only at hg
  rw [Array.getElem?_modify] at hg
  split at hg
  · cases hw : w.heap[g]? with
    | none => rw [hw] at hg; cases hg
    | some o =>
      rw [hw] at hg
      cases o <;> first | exact hg | (simp only [Option.map_some, Option.some.injEq] at hg; cases hg)
  · exact hg
theorem viewStore_heap {P : Program} {w w' : World} {at_ : Addr} {u : TypeId} {a : Addr} {v : Value} {b : Bool} {l : List Addr} (h : w.viewStore P at_ u a v b = .ok (w', l)) : Waits w w' := by
  unfold World.viewStore at h
  cases ht : tight P P.depth u with
  | false => rw [ht] at h; cases h
  | true =>
    simp only [ht, Bool.not_true, Bool.false_eq_true, if_false] at h
    cases hs : w.seen P at_ u a b with
    | error e => rw [hs] at h; cases h
    | ok r =>
      rw [hs] at h
      obtain ⟨c, e, frozen, first, like, cells⟩ := r
      cases hv : v.bytes? with
      | none => rw [hv] at h; cases h
      | some bytes =>
        rw [hv] at h
        dsimp only [bind, Except.bind] at h
        split at h
        · cases h
        · generalize List.foldlM (m := Except String) _ c cells = F at h
          cases F with
          | error e => cases h
          | ok c' =>
            injection h with h
            injection h with h1 h2
            exact waits_set w w' at_.block (.cells c' e frozen) (fun _ _ x => by cases x) (by rw [← h1])
theorem waits_farStore {P : Program} {w w' : World} {a : Addr} {v : Value} {b : Bool} {l : List Addr} (h : w.farStore P a v b = .ok (w', l)) : Waits w w' := by
  unfold World.farStore at h
  split at h
  · rename_i at_ u _
    split at h
    · injection h with h
      rename_i r hr
      subst h
      exact viewStore_heap hr
    · cases h
  · cases h
/-- mildly, or at what waits -/
def Soft (h : Halt) (w : World) : Prop := Mild h ∨ ∃ g c t, h = .unsupported (.initOrder g) ∧ w.heap[g]? = some (.pending c t)
def SoftEnd {α : Type} : Result α → Prop
  | .ok _ _ => True
  | .halt h w => Soft h w
theorem soft_noCell (w : World) (a : Addr) (x : String) : Soft (w.noCell a x) w := by
  unfold World.noCell
  split
  · rename_i c t h
    exact .inr ⟨_, c, t, rfl, h⟩
  · exact .inl fun g h => by cases h
  · exact .inl trivial
theorem soft_farLoad {P : Program} {w : World} {a : Addr} {b : Bool} {h : Halt} (hh : w.farLoad P a b = .error h) : Soft h w := by
  unfold World.farLoad at hh
  split at hh
  · split at hh
    · cases hh
    · injection hh with hh
      rw [← hh]
      exact .inl fun g h => by cases h
  · injection hh with hh
    rw [← hh]
    exact soft_noCell w a _
theorem soft_farStore {P : Program} {w : World} {a : Addr} {v : Value} {b : Bool} {h : Halt} (hh : w.farStore P a v b = .error h) : Soft h w := by
  unfold World.farStore at hh
  split at hh
  · split at hh
    · cases hh
    · injection hh with hh
      rw [← hh]
      exact .inl fun g h => by cases h
  · injection hh with hh
    rw [← hh]
    exact soft_noCell w a _
theorem runT_kept {α : Type} (P : Program) : ∀ (s : Sem α), Calm P s → ∀ (w : World) (es : Array Event), Waits w (worldOf (s.runT P w es).1) ∧ SoftEnd (s.runT P w es).1 := by
  intro s
  induction s with
  | pure a => exact fun _ w es => ⟨Waits.refl w, trivial⟩
  | halt h' => exact fun hC w es => ⟨Waits.refl w, .inl hC⟩
  | load m a k ih =>
    intro hC w es
    unfold Sem.runT
    split
    · exact ih _ (hC _) w _
    · split
      · exact ih _ (hC _) w _
      · rename_i h hh
        exact ⟨Waits.refl w, soft_farLoad hh⟩
  | store m a v k ih =>
    intro hC w es
    cases v with
    | agg _ => exact ⟨Waits.refl w, .inl trivial⟩
    | tuple _ => exact ⟨Waits.refl w, .inl trivial⟩
    | _ =>
      unfold Sem.runT
      split
      · split
        · exact ⟨Waits.refl w, .inl fun g h => by cases h⟩
        · exact ⟨(waits_setCell w a _).trans (ih hC (w.setCell a _) _).1, (ih hC (w.setCell a _) _).2⟩
      · split
        · rename_i w1 l hh
          exact ⟨(waits_farStore hh).trans (ih hC w1 _).1, (ih hC w1 _).2⟩
        · rename_i h hh
          exact ⟨Waits.refl w, soft_farStore hh⟩
  | new o k ih => exact fun hC w es => ⟨(waits_push w { w with heap := w.heap.push o } o hC.1 rfl).trans (ih _ (hC.2 _) _ es).1, (ih _ (hC.2 _) _ es).2⟩
  | shape r k ih => exact fun hC w es => ih _ (hC _) w es
  | freeze a n k ih => exact fun hC w es => ⟨(waits_freeze w a n).trans (ih hC _ es).1, (ih hC _ es).2⟩
  | frozen a k ih => exact fun hC w es => ih _ (hC _) w es
  | getObj r k ih =>
    intro hC w es
    unfold Sem.runT
    split
    · exact ⟨Waits.refl w, .inl trivial⟩
    · exact ih _ (hC.1 _) w _
    · exact ⟨Waits.refl w, .inl trivial⟩
  | setObj r o k ih => exact fun hC => hC.elim
  | choose q k ih =>
    intro hC w es
    unfold Sem.runT
    split
    · exact ih _ (hC _) w es
    · exact ih _ (hC _) { w with drawn := w.drawn + 1 } es
  | sys c k ih => exact fun hC => hC.elim
  | program k ih => exact fun hC w es => ih P hC w es
  | mark m k ih => exact fun hC w es => ih hC.2 w _
end Go.Proofs.Ytchfnbcpjiiphab
