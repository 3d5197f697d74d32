/-
  The contracts of a stack's two methods, for a stack of numbers and for a stack of nodes.
-/
import Derived.Test.YtakpbnkncjddeaaZC
namespace Go.Proofs.Ytakpbnkncjddeaa
open Go.RowKit

theorem Try.infoPtr : (Try.prog.info? 48).map (fun i => (i.zero, i.size, i.bytes)) = some (some (.pointer none), 1, 8) := by kernel_rfl

/-- a stack at the block O: its row holds these values -/
structure StkAt (w : World) (B O : Nat) (t : TypeId) (v : Value) (xs : List Value) : Prop where
  cell : w.cell? ⟨O, 0, none⟩ = some v
  froz : w.frozen? ⟨O, 0, none⟩ = false
  lt : O < w.heap.size
  ge : B ≤ O
  own : w.ownsRow B t 1 v xs.length xs
  ne : v.ownBlock ≠ some O
/-- what a push or a pop leaves alone -/
structure Left_ (w w' : World) (B O : Nat) (v v' : Value) : Prop where
  row : v'.ownBlock = v.ownBlock ∨ ∃ g, v'.ownBlock = some g ∧ w.heap.size ≤ g
  below : Below B w w'
  block : ∀ b, b < w.heap.size → b ≠ O → v.ownBlock ≠ some b → w'.heap[b]? = w.heap[b]?
theorem StkAt.below {w w' : World} {B O : Nat} {t : TypeId} {v : Value} {xs : List Value} (h : StkAt w B O t v xs) (hb : ∀ b, b < w.heap.size → w'.heap[b]? = w.heap[b]?) (hs : w.heap.size ≤ w'.heap.size) : StkAt w' B O t v xs := by
  refine ⟨(World.cell?_of_block (w := w) (hb O h.lt)).trans h.cell, (World.frozen?_of_block (w := w) (hb O h.lt)).trans h.froz, by have := h.lt; omega, h.ge, own_of_blocks h.own fun g hg => hb g (h.own.lt g hg).2, h.ne⟩
/-- what changes in other blocks leaves a stack alone -/
theorem StkAt.kept {w w' : World} {B O : Nat} {t : TypeId} {v : Value} {xs : List Value} (h : StkAt w B O t v xs) (h1 : w'.heap[O]? = w.heap[O]?) (h2 : ∀ g, v.ownBlock = some g → w'.heap[g]? = w.heap[g]?) (hs : w.heap.size ≤ w'.heap.size) : StkAt w' B O t v xs :=
  ⟨(World.cell?_of_block (w := w) h1).trans h.cell, (World.frozen?_of_block (w := w) h1).trans h.froz, by have := h.lt; omega, h.ge, own_of_blocks h.own h2, h.ne⟩
theorem own_shape {w : World} {B n : Nat} {t : TypeId} {v : Value} {xs : List Value} (h : w.ownsRow B t 1 v n xs) : ∃ a cap, v = .slice a n cap ∧ n ≤ cap ∧ (n = 0 ∨ ∃ g, a = some ⟨g, 0, none⟩) := by
  rcases h.2 with ⟨rfl, h0⟩ | ⟨g, cap, cur, rfl, h1, h2, h3, h4, _⟩
  · exact ⟨none, 0, by rw [h0], by omega, .inl h0⟩
  · exact ⟨some ⟨g, 0, none⟩, cap, rfl, h3, .inr ⟨g, rfl⟩⟩
theorem own_drop {w : World} {B n g cap : Nat} {t : TypeId} {xs : List Value} (h : w.ownsRow B t 1 (.slice (some ⟨g, 0, none⟩) (n + 1) cap) (n + 1) xs) (hl : xs.length = n + 1) : w.ownsRow B t 1 (.slice (some ⟨g, 0, none⟩) n cap) n xs.dropLast := by
  have h1 : Own w B w.heap.size t (.slice (some ⟨g, 0, none⟩) (n + 1) cap) xs := ⟨by rw [hl]; exact h, fun q hq => (h.lt q hq).2⟩
  have h2 := (h1.pop hl).1
  rw [List.length_dropLast, hl] at h2
  exact h2
theorem one_ptr (a : Option Addr) : ∀ u ∈ [Value.pointer a], u.oneCell' = true := by intro u hu; simp at hu; subst hu; rfl

set_option maxHeartbeats 1600000 in
theorem pushP_any (O : Nat) (v : Value) (xs : List Value) (x : Option Addr) (w : World) {B : Nat} (hS : Hid (StkAt w B O 48 v xs)) (hl : xs.length ≤ 64) :
    Calls Try.prog 73 #[.pointer (some ⟨O, 0, none⟩), .pointer x] w fun e w' => e = .returned (.tuple #[]) ∧ ∃ g cap, StkAt w' B O 48 (.slice (some ⟨g, 0, none⟩) (xs.length + 1) cap) (xs ++ [.pointer x]) ∧ Left_ w w' B O v (.slice (some ⟨g, 0, none⟩) (xs.length + 1) cap) := by
  obtain ⟨i0, hi, hz0, hz1, hz2⟩ := info_parts Try.infoPtr
  obtain ⟨n, hn⟩ : ∃ n, n = xs.length := ⟨_, rfl⟩
  rw [← hn] at hl ⊢
  have HN := Lib.hid hn
  have hc := hS.out.cell
  have hf := hS.out.froz
  have hO := hS.out.lt
  have hB := hS.out.ge
  have hown := hS.out.own
  rw [← hn] at hown
  have HO := Lib.hid hown
  have HNE := Lib.hid hS.out.ne
  obtain ⟨a, cap, rfl, _, _⟩ := own_shape hown
  have y1 : n + 1 ≤ maxLen := by unfold maxLen; omega
  have y2 : (n + 1) * 8 ≤ 140737488355328 := by omega
  have y3 : B ≤ (w.alloc (.cells #[.pointer x] 48)).heap.size := by simp; omega
  have Y4 := Lib.hid (show (w.alloc (.cells #[.pointer x] 48)).heap.size = w.heap.size + 1 by simp)
  clear hn hown
  go_enter Try.func73, Try.ntmps73
  go_wp2_with (at_builtin; refine wpList_append_lies _ rfl (.tmp 8) (.tmp 10) 73 rfl B 48 i0 (.pointer none) 1 8 Try.underlying73 hi hz0 hz1 hz2 rfl (by decide) _ n xs rfl (HO.out.alloc _) ⟨w.heap.size, 0, none⟩ 1 1 [.pointer x] rfl rfl (cell_one_new _ _ _) (one_ptr _) (by decide) y1 y2 y3 (w.heap.size + 1) Y4.out ?_)
  intro g c w1 hv1 hg1 hw1 hlt1
  have hne1 : g ≠ O := by
    rcases hw1 with e | e
    · intro h; subst h; exact HNE.out e
    · omega
  have hO1 : w1.heap[O]? = w.heap[O]? := by
    rw [hg1.block O (by simp; omega) (fun h => HNE.out h.symm), Below.heap_alloc _ _ _ hO]
  have hc1 : w1.cell? ⟨O, 0, none⟩ = some (.slice a n cap) := (World.cell?_of_block (w := w) hO1).trans hc
  have hf1 : w1.frozen? ⟨O, 0, none⟩ = false := (World.frozen?_of_block (w := w) hO1).trans hf
  have hs1 : w.heap.size ≤ w1.heap.size := by have := hg1.size; simp at this; omega
  have H1 := Lib.hid hv1
  have G1 := Lib.hid hg1
  have W1 := Lib.hid hw1
  have HO1 := Lib.hid hO1
  clear hv1 hg1 hw1 hc hf hO1
  go_wp2
  go_end0
  refine ⟨rfl, g, c, ⟨World.cell?_setCell_same _ _ _ hc1, by simpa using hf1, by simp; omega, hB, ?_, by simpa [Value.ownBlock] using hne1⟩, ⟨?_, ?_, ?_⟩⟩
  · rw [List.length_append, ← HN.out]
    exact own_of_blocks H1.out fun q hq => Below.heap_setCell _ _ _ _ (by simp only [Value.ownBlock, Option.some.injEq] at hq; show q ≠ O; omega)
  · rcases W1.out with e | e
    · left; rw [e]; rfl
    · right; exact ⟨g, rfl, by omega⟩
  · exact (((Below.refl B w).alloc (by omega) _).grown G1.out (by simp; omega) (fun k hk => (HO.out.lt k hk.symm.symm).1)).setCell (p := ⟨O, 0, none⟩) hB _
  · intro b hb hbO hbv
    rw [Below.heap_setCell _ _ _ _ (by exact hbO), G1.out.block b (by simp; omega) (fun h => hbv h.symm), Below.heap_alloc _ _ _ hb]

set_option maxHeartbeats 1600000 in
theorem popP_any (O : Nat) (v : Value) (xs : List Value) (x : Option Addr) (w : World) {B n : Nat} (hS : Hid (StkAt w B O 48 v xs)) (hn : Hid (xs.length = n + 1)) (hl : n ≤ 64) (hx : Hid (xs[n]? = some (.pointer x))) :
    Calls Try.prog 74 #[.pointer (some ⟨O, 0, none⟩)] w fun e w' => e = .returned (.tuple #[.pointer x, .bool true]) ∧ ∃ g cap, v = .slice (some ⟨g, 0, none⟩) (n + 1) cap ∧ StkAt w' B O 48 (.slice (some ⟨g, 0, none⟩) n cap) xs.dropLast ∧ Left_ w w' B O v (.slice (some ⟨g, 0, none⟩) n cap) := by
  have hc := hS.out.cell
  have hf := hS.out.froz
  have hO := hS.out.lt
  have hB := hS.out.ge
  have hown := hS.out.own
  rw [hn.out] at hown
  have HO := Lib.hid hown
  have HNE := Lib.hid hS.out.ne
  obtain ⟨a, cap, rfl, hcap, h0⟩ := own_shape hown
  obtain ⟨g, rfl⟩ : ∃ g, a = some ⟨g, 0, none⟩ := by
    rcases h0 with h0 | h0
    · omega
    · exact h0
  have hcell := hown.cellAt n (by omega)
  rw [hx.out] at hcell
  have e1 : ((n + 1 : Nat) : Int) - 1 = (n : Int) := by omega
  have e2 : n < n + 1 := by omega
  have hmax : cap ≤ maxLen := by
    rcases hown.2 with ⟨h, _⟩ | ⟨g', cap', cur, hv, _, _, _, h4, _⟩
    · cases h
    · simp only [Value.slice.injEq] at hv; omega
  clear hown h0
  go_enter Try.func74, Try.ntmps74
  go_wp2
  go_ret2
  have hne1 : g ≠ O := by
    intro h; subst h; exact HNE.out rfl
  refine ⟨rfl, g, cap, rfl, ⟨World.cell?_setCell_same _ _ _ hc, by simpa using hf, by simpa using hO, hB, ?_, by simpa [Value.ownBlock] using hne1⟩, ⟨.inl rfl, ?_, ?_⟩⟩
  · have hd := own_drop HO.out hn.out
    have el : xs.dropLast.length = n := by rw [List.length_dropLast, hn.out]; rfl
    rw [el]
    exact own_of_blocks hd fun q hq => Below.heap_setCell _ _ _ _ (by simp only [Value.ownBlock, Option.some.injEq] at hq; show q ≠ O; omega)
  · exact (Below.refl B w).setCell (p := ⟨O, 0, none⟩) hB _
  · intro b hb hbO hbv
    exact Below.heap_setCell _ _ _ _ hbO

theorem popNoneP_any (O : Nat) (v : Value) (w : World) {B : Nat} (hS : Hid (StkAt w B O 48 v [])) :
    Calls Try.prog 74 #[.pointer (some ⟨O, 0, none⟩)] w fun e w' => e = .returned (.tuple #[.pointer none, .bool false]) ∧ w' = w := by
  have hc := hS.out.cell
  have hown := hS.out.own
  obtain ⟨a, cap, rfl, hcap, h0⟩ := own_shape hown
  simp only [List.length_nil] at hc
  clear hown h0 hcap hS
  go_enter Try.func74, Try.ntmps74
  go_wp2
  go_ret2
  exact ⟨rfl, rfl⟩
end Go.Proofs.Ytakpbnkncjddeaa
