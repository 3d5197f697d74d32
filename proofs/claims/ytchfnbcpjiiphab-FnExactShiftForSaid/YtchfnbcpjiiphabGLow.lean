/-
  What a calm stretch touches lies in the heap that it leaves.
-/
import Derived.Test.YtchfnbcpjiiphabGKept
import Derived.Conc.Beside
namespace Go.Proofs.Ytchfnbcpjiiphab
open Go Go.Conc

theorem seen_in {P : Program} {w : World} {at_ : Addr} {u : TypeId} {a : Addr} {b : Bool} {r : Array Value × TypeId × (Nat × Nat) × Nat × Value × List (Nat × Nat × List UInt8)} (h : w.seen P at_ u a b = .ok r) : at_.block < w.heap.size := by
  refine Nat.lt_of_not_le fun hle => ?_
  have hn : w.heap[at_.block]? = none := by simp [hle]
  unfold World.seen at h
  simp only [hn, bind, Except.bind] at h
  repeat' split at h
  all_goals first | cases h | contradiction
theorem farLoad_low {P : Program} {w : World} {a : Addr} {b : Bool} {v : Value} {l : List Addr} (h : w.farLoad P a b = .ok (v, l)) : ∀ x ∈ l, x.block < w.heap.size := by
  unfold World.farLoad at h
  split at h
  · rename_i at_ u _
    split at h
    · rename_i r hv
      injection h with h
      subst h
      unfold World.viewLoad at hv
      cases hs : w.seen P at_ u a b with
      | error e => rw [hs] at hv; cases hv
      | ok r =>
        have hin := seen_in hs
        rw [hs] at hv
        obtain ⟨c, e, frozen, first, like, cells⟩ := r
        dsimp only [bind, Except.bind] at hv
        split at hv
        · injection hv with hv
          injection hv with _ h2
          rw [← h2]
          intro x hx
          obtain ⟨y, _, rfl⟩ := List.mem_map.1 hx
          exact hin
        · cases hv
    · cases h
  · cases h
theorem viewStore_low {P : Program} {w w' : World} {at_ : Addr} {u : TypeId} {a : Addr} {v : Value} {b : Bool} {l : List Addr} (h : w.viewStore P at_ u a v b = .ok (w', l)) : w'.heap.size = w.heap.size ∧ ∀ x ∈ l, x.block < w.heap.size := by
  unfold World.viewStore at h
  cases ht : tight P P.depth u with
  | false => rw [ht] at h; cases h
  | true =>
    simp only [ht, Bool.not_true, Bool.false_eq_true, if_false] at h
    cases hs : w.seen P at_ u a b with
    | error e => rw [hs] at h; cases h
    | ok r =>
      have hin := seen_in hs
      rw [hs] at h
      obtain ⟨c, e, frozen, first, like, cells⟩ := r
      cases hv : v.bytes? with
      | none => rw [hv] at h; cases h
      | some bytes =>
        rw [hv] at h
        dsimp only [bind, Except.bind] at h
        split at h
        · cases h
        · generalize List.foldlM (m := Except String) _ c cells = F at h
          cases F with
          | error e => cases h
          | ok c' =>
            injection h with h
            injection h with h1 h2
            refine ⟨by rw [← h1]; simp, ?_⟩
            rw [← h2]
            intro x hx
            obtain ⟨y, _, rfl⟩ := List.mem_map.1 hx
            exact hin
theorem farStore_low {P : Program} {w w' : World} {a : Addr} {v : Value} {b : Bool} {l : List Addr} (h : w.farStore P a v b = .ok (w', l)) : w'.heap.size = w.heap.size ∧ ∀ x ∈ l, x.block < w.heap.size := by
  unfold World.farStore at h
  split at h
  · split at h
    · injection h with h
      rename_i r hr
      subst h
      exact viewStore_low hr
    · cases h
  · cases h
theorem cell_in {w : World} {a : Addr} {v : Value} (h : w.cell? a = some v) : a.block < w.heap.size := by
  refine Nat.lt_of_not_le fun hle => ?_
  have hn : w.heap[a.block]? = none := by simp [hle]
  unfold World.cell? at h
  rw [hn] at h
  cases h
theorem runT_low {α : Type} (P : Program) : ∀ (s : Sem α), Calm P s → ∀ (w : World) (es : Array Event), w.heap.size ≤ (worldOf (s.runT P w es).1).heap.size ∧
    ((∀ e ∈ es, (MemAct.ofEvent e).low w.heap.size) → ∀ e ∈ (s.runT P w es).2, (MemAct.ofEvent e).low (worldOf (s.runT P w es).1).heap.size) := by
  intro s
  have push : ∀ {es : Array Event} {e : Event} {B : Nat}, (∀ e ∈ es, (MemAct.ofEvent e).low B) → (MemAct.ofEvent e).low B → ∀ x ∈ es.push e, (MemAct.ofEvent x).low B := fun h1 h2 x hx => by
    rcases Array.mem_push.1 hx with h | h
    · exact h1 x h
    · rw [h]; exact h2
  have app : ∀ {es : Array Event} {l : List Addr} {b c : Bool} {B : Nat}, (∀ e ∈ es, (MemAct.ofEvent e).low B) → (∀ x ∈ l, x.block < B) → ∀ x ∈ es ++ l.toArray.map (⟨.cell ·, b, c⟩), (MemAct.ofEvent x).low B := fun h1 h2 x hx => by
    rcases Array.mem_append.1 hx with h | h
    · exact h1 x h
    · obtain ⟨a, ha, rfl⟩ := Array.mem_map.1 h
      exact h2 a (by simpa using ha)
  have objL : ∀ (r : Nat) (b c : Bool) (B : Nat), r < B → (MemAct.ofEvent ⟨.obj r, b, c⟩).low B := fun r b c B h => by
    cases b <;> cases c <;> exact h
  induction s with
  | pure a => exact fun _ w es => ⟨Nat.le_refl _, fun h => h⟩
  | halt h' => exact fun _ w es => ⟨Nat.le_refl _, fun h => h⟩
  | load m a k ih =>
    intro hC w es
    unfold Sem.runT
    split
    · rename_i v hv
      exact ⟨(ih _ (hC _) w _).1, fun h => (ih _ (hC _) w _).2 (push h (cell_in hv))⟩
    · split
      · rename_i v l hv
        exact ⟨(ih _ (hC _) w _).1, fun h => (ih _ (hC _) w _).2 (app h (farLoad_low hv))⟩
      · exact ⟨Nat.le_refl _, fun h => h⟩
  | store m a v k ih =>
    intro hC w es
    cases v with
    | agg _ => exact ⟨Nat.le_refl _, fun h => h⟩
    | tuple _ => exact ⟨Nat.le_refl _, fun h => h⟩
    | _ =>
      unfold Sem.runT
      split
      · rename_i hv
        split
        · exact ⟨Nat.le_refl _, fun h => h⟩
        · have hsz : ∀ u, (w.setCell a u).heap.size = w.heap.size := fun u => by unfold World.setCell; simp
          exact ⟨Nat.le_trans (Nat.le_of_eq (hsz _).symm) (ih hC _ _).1, fun h => (ih hC _ _).2 (by rw [hsz]; exact push h (cell_in hv))⟩
      · split
        · rename_i w1 l hh
          obtain ⟨hsz, hl⟩ := farStore_low hh
          obtain ⟨h1, h2⟩ := ih hC w1 (es ++ l.toArray.map (⟨.cell ·, true, m == .atomic⟩))
          exact ⟨Nat.le_trans (Nat.le_of_eq hsz.symm) h1, fun h => h2 (by rw [hsz]; exact app h hl)⟩
        · exact ⟨Nat.le_refl _, fun h => h⟩
  | new o k ih =>
    intro hC w es
    have hsz : ({ w with heap := w.heap.push o } : World).heap.size = w.heap.size + 1 := by simp
    obtain ⟨h1, h2⟩ := ih w.heap.size (hC.2 _) { w with heap := w.heap.push o } es
    exact ⟨by have := h1; rw [hsz] at this; exact Nat.le_of_succ_le this, fun h => h2 fun e he => MemAct.low_mono (by rw [hsz]; omega) (h e he)⟩
  | shape r k ih => exact fun hC w es => ih _ (hC _) w es
  | freeze a n k ih =>
    intro hC w es
    have hsz : (w.freeze a n).heap.size = w.heap.size := by unfold World.freeze; split <;> simp
    obtain ⟨h1, h2⟩ := ih hC (w.freeze a n) es
    exact ⟨Nat.le_trans (Nat.le_of_eq hsz.symm) h1, fun h => h2 (by rw [hsz]; exact h)⟩
  | frozen a k ih => exact fun hC w es => ih _ (hC _) w es
  | getObj r k ih =>
    intro hC w es
    unfold Sem.runT
    split
    · exact ⟨Nat.le_refl _, fun h => h⟩
    · rename_i o ho
      have hin : r < w.heap.size := (Array.getElem?_eq_some_iff.1 ho).1
      exact ⟨(ih _ (hC.1 _) w _).1, fun h => (ih _ (hC.1 _) w _).2 (push h (objL r _ _ _ hin))⟩
    · exact ⟨Nat.le_refl _, fun h => h⟩
  | setObj r o k ih => exact fun hC => hC.elim
  | choose q k ih =>
    intro hC w es
    unfold Sem.runT
    split
    · exact ih _ (hC _) w es
    · exact ih _ (hC _) { w with drawn := w.drawn + 1 } es
  | sys c k ih => exact fun hC => hC.elim
  | program k ih => exact fun hC w es => ih P hC w es
  | mark m k ih =>
    intro hC w es
    obtain ⟨h1, h2⟩ := ih hC.2 w (es.push ⟨.mark m, false, true⟩)
    exact ⟨h1, fun h => h2 (push h (by rw [hC.1]; trivial))⟩
/-- what a stretch lists, as the walk beside leavers asks it -/
theorem runT_evL {α : Type} (P : Program) (s : Sem α) (hC : Calm P s) (w : World) (fn : FuncId) : ∀ e ∈ seen P fn (s.runT P w #[]).2, EvL (fun _ => False) (worldOf (s.runT P w #[]).1).heap.size e := by
  intro e he
  have h1 := runT_calm P s hC w #[] (by simp) e (mem_seen he)
  have h2 := (runT_low P s hC w #[]).2 (by simp) e (mem_seen he)
  refine ⟨fun _ _ h => h.elim, fun h => ?_, fun h => ?_, h2⟩
  · cases h1.1 _ h
  · cases h1.1 _ h
end Go.Proofs.Ytchfnbcpjiiphab
