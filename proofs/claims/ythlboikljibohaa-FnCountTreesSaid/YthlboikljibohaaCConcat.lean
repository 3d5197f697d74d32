/-
  The library's slices.Concat of two rows of numbers: a row of the call's own with the numbers of both.
-/
import Derived.Test.YthlboikljibohaaShelfG
import Derived.Test.YthlboikljibohaaCDepths
import Derived.Test.YthlboikljibohaaCAppRd
import Derived.Deep.AppendLies
import Derived.Laws.OwnMore
namespace Go.Proofs.Ythlboikljibohaa
open Go.RowKit

/-- what the library's Grow of no slice gives -/
theorem grow_p (n : Nat) (w : World) (hn : n ≤ 1000) :
    Calls Try.prog 89 #[.slice none 0 0, .int .i64 (n : Int)] w fun e w' => ∃ v, e = .returned v ∧ w'.ownsRow w.heap.size 3 1 v 0 [] ∧ Below w.heap.size w w' := by
  obtain ⟨i0, hi, hz0, hz1, hz2⟩ := info_parts Try.infoIntR
  rcases Nat.eq_zero_or_pos n with h0 | h0
  · subst h0
    refine (Any8.slices_Grow_room Try.growI none 0 0 0 w (Nat.le_refl _) (by omega) (by omega) (Nat.le_refl _)).mono ?_
    rintro e w' ⟨rfl, rfl⟩
    exact ⟨_, rfl, ⟨rfl, .inl ⟨rfl, rfl⟩⟩, Below.refl _ _⟩
  · refine (Any8.slices_Grow_grow Try.growI i0 (.int .i64 0) hi hz0 (by rw [hz1]; omega) none 0 0 n [] w (Nat.le_refl _) (by omega) (by rw [hz2]; omega) (by omega) (by simp) (fun _ => rfl) (fun a h => by cases h)).mono ?_
    rintro e w' ⟨rfl, rfl⟩
    have hge := grownCap_ge w (0 + n) 0 3
    have hle : grownCap w (0 + n) 0 3 ≤ maxLen := grownCap_le_maxLen w (0 + n) 0 3 (by unfold maxLen; omega)
    refine ⟨_, rfl, ⟨rfl, .inr ⟨w.heap.size, _, _, rfl, Nat.le_refl _, heap_alloc_new w.drew _, Nat.zero_le _, hle, ?_, rfl⟩⟩, (Below.drew (Below.refl _ w)).alloc (Nat.le_refl _) _⟩
    have hz : ∀ k, (Builtin.zeroCells (Value.int .i64 0).cells k).size = k := fun k => by simp [Builtin.zeroCells, Value.cells]
    simp only [Array.size_append, hz, List.size_toArray, List.length_nil]
    show 0 + (0 + n - 0) + (grownCap w (0 + n) 0 3 - (0 + n)) = grownCap w (0 + n) 0 3 * 1
    omega
set_option maxHeartbeats 3200000 in
theorem concat_p (A B : List Int) (gS c1 c2 cS : Nat) (a1 a2 : Option Addr) (w : World) {H : Nat} (h1 : w.cell? ⟨gS, 0, none⟩ = some (.slice a1 A.length c1)) (h2 : w.cell? ⟨gS, 1, none⟩ = some (.slice a2 B.length c2)) (hA : Hid (RdI w H a1 A)) (hB : Hid (RdI w H a2 B)) (hH : H ≤ w.heap.size) (hAl : A.length ≤ 100) (hBl : B.length ≤ 100) :
    Calls Try.prog 67 #[.slice (some ⟨gS, 0, none⟩) 2 cS] w fun e w' => ∃ (av : Option Addr) (nv cv : Nat), e = .returned (.slice av nv cv) ∧ Own w' w.heap.size w'.heap.size 3 (.slice av nv cv) (iv (A ++ B)) ∧ Below w.heap.size w w' := by
  obtain ⟨l1, hl1⟩ : ∃ l1, l1 = A.length := ⟨_, rfl⟩
  obtain ⟨l2, hl2⟩ : ∃ l2, l2 = B.length := ⟨_, rfl⟩
  rw [← hl1] at h1 hAl
  rw [← hl2] at h2 hBl
  have HL1 := Lib.hid hl1
  have HL2 := Lib.hid hl2
  have CG : Hid (∀ W : World, Calls Try.prog 89 #[.slice none 0 0, .int .i64 ((l1 : Int) + (l2 : Int))] W fun e w' => ∃ v, e = .returned v ∧ w'.ownsRow W.heap.size 3 1 v 0 [] ∧ Below W.heap.size W w') := fun W => by
    have := grow_p (l1 + l2) W (by omega)
    rwa [Int.natCast_add] at this
  have hgS : gS < w.heap.size := World.block_lt_of_cell? w _ h1
  have n1 : ¬ ((l1 : Int) < 0) := by omega
  have n2 : ¬ ((l1 : Int) + (l2 : Int) < 0) := by omega
  have e1 : IntKind.i64.wrap (l1 : Int) = (l1 : Int) := by rw [IntKind.wrap_i64]; omega
  have e2 : IntKind.i64.wrap ((l1 : Int) + (l2 : Int)) = (l1 : Int) + (l2 : Int) := by rw [IntKind.wrap_i64]; omega
  clear hl1 hl2
  go_enter Try.func67, Try.ntmps67
  go_wp2
  refine wp_loop_rounds 3 ?_
  iterate 3
    rw [rounds_succ]
    go_wp2_with fail
  refine (CG.out w).mono ?_
  rintro e w1 ⟨v, rfl, hO, hb⟩
  have HO := Lib.hid hO
  have HB1 := Lib.hid hb
  have k1 := (hb.cell (p := ⟨gS, 0, none⟩) hgS).trans h1
  have k2 := (hb.cell (p := ⟨gS, 1, none⟩) hgS).trans h2
  have RA := Lib.hid (hA.out.below (hb.mono hH))
  clear hO hb h1 h2 CG
  go_wp2_with fail
  refine wp_loop_rounds 3 ?_
  rw [rounds_succ]
  go_wp2_with (at_builtin; refine wpList_append_rd rfl (.tmp 31) (.tmp 32) rfl w.heap.size v 0 [] rfl HO.out a1 l1 c1 rfl HL1.out.symm RA.out (by omega) (by omega) HB1.out.size ?_)
  intro v2 w2 hO2 hg2
  have hb2 : Below w.heap.size w w2 := HB1.out.grown hg2 HB1.out.size (fun q hq => (HO.out.lt q hq).1)
  have HO2 : Hid (w2.ownsRow w.heap.size 3 1 v2 l1 (iv A)) := by
    first | exact hO2 | (rw [List.nil_append, Nat.zero_add] at hO2; exact hO2)
  have HB2 := Lib.hid hb2
  have k3 := (hb2.cell (p := ⟨gS, 0, none⟩) hgS).trans (((HB1.out.cell (p := ⟨gS, 0, none⟩) hgS).symm).trans k1)
  have k4 := (hb2.cell (p := ⟨gS, 1, none⟩) hgS).trans (((HB1.out.cell (p := ⟨gS, 1, none⟩) hgS).symm).trans k2)
  have RB := Lib.hid (hB.out.below (hb2.mono hH))
  clear hO2 hg2 hb2 k1 k2 RA HO
  go_wp2_with fail
  rw [rounds_succ]
  go_wp2_with (at_builtin; refine wpList_append_rd rfl (.tmp 31) (.tmp 32) rfl w.heap.size v2 l1 (iv A) rfl HO2.out a2 l2 c2 rfl HL2.out.symm RB.out (by omega) (by omega) HB2.out.size ?_)
  intro v3 w3 hO3 hg3
  have HB3 : Hid (Below w.heap.size w w3) := HB2.out.grown hg3 HB2.out.size (fun q hq => (HO2.out.lt q hq).1)
  have HO3 : Hid (w3.ownsRow w.heap.size 3 1 v3 (A ++ B).length (iv (A ++ B))) := by
    rw [← iv_app] at hO3
    show World.ownsRow _ _ _ _ _ _ _
    rw [List.length_append, ← HL1.out, ← HL2.out]
    exact hO3
  clear hO3 hg3 k3 k4 RB HO2 HB1 HB2
  have O3 : Own w3 w.heap.size w3.heap.size 3 v3 (iv (A ++ B)) := Own.of_own (by rw [iv_length]; exact HO3.out)
  obtain ⟨av, cv, ev, _⟩ := O3.slice
  obtain ⟨nv, hnv⟩ : ∃ nv, nv = (iv (A ++ B)).length := ⟨_, rfl⟩
  rw [← hnv] at ev
  subst ev
  have O3 := Lib.hid O3
  clear hnv
  go_wp2_with fail
  rw [rounds_succ]
  go_wp2
  go_ret
  exact ⟨_, _, _, rfl, O3.out, HB3.out⟩
end Go.Proofs.Ythlboikljibohaa
