/-
  The contract of the model's function that spoils rows at times.
-/
import Derived.Test.YtpphilladlladaaCWat
import Derived.Test.YtpphilladlladaaCFam
namespace Go.Proofs.Ytpphilladlladaa
open Go.RowKit

theorem rd_ne {w : World} {B B1 H R n c p : Nat} {a : Option Addr} {t : TypeId} {v : Value} {xs : List Value} (hO : Own w B1 H t v xs) (h : Rd w B R a n c p) (ht : t ≠ 66) : v.ownBlock ≠ some R := by
  rcases hO.1.2 with ⟨h0, _⟩ | ⟨g, cap, cur, e, _, hb, _⟩
  · subst h0; simp [Value.ownBlock]
  · subst e
    intro e
    simp only [Value.ownBlock, Option.some.injEq] at e
    subst e
    have := h.blk
    rw [hb] at this
    simp only [Option.some.injEq, Obj.cells.injEq] at this
    exact ht this.2.1
theorem Grid.only {w w' : World} {B B1 H R n c p : Nat} {a : Option Addr} {v : Value} {RV : List Value} {rows : List (List Int)} (hG : Grid w B1 H v RV rows) (h : Rd w B R a n c p) (ho : Only R w w') : Grid w' B1 H v RV rows :=
  ⟨hG.1.only ho (rd_ne hG.1 h (by decide)), hG.2.1, fun i u r h1 h2 => (hG.2.2 i u r h1 h2).only ho (rd_ne (hG.2.2 i u r h1 h2) h (by decide))⟩
/-- one row is put in the place of another one -/
theorem Grid.put {w : World} {B H g c0 k : Nat} {u : Value} {r : List Int} {RV : List Value} {rows : List (List Int)} (hG : Grid w B H (.slice (some ⟨g, 0, none⟩) rows.length c0) RV rows) (hk : k < rows.length) (hu : Own w B H 3 u (iv r)) :
    Grid (w.setCell ⟨g, k, none⟩ u) B H (.slice (some ⟨g, 0, none⟩) rows.length c0) (RV.set k u) (rows.set k r) := by
  have lu := hG.2.1
  have ho1 := hG.1.1
  rw [lu] at ho1
  have st := ho1.stored k u
  have far : ∀ {v : Value} {xs : List Value}, Own w B H 3 v xs → Own (w.setCell ⟨g, k, none⟩ u) B H 3 v xs := fun {v xs} h => by
    have hne := h.ne hG.1 (by decide)
    exact ⟨own_of_blocks h.1 (fun q hq => Below.heap_setCell _ _ _ _ (fun e => by
      rcases hne with h0 | h0
      · rw [h0] at hq; cases hq
      · apply h0; rw [hq, e]; rfl)), h.2⟩
  refine ⟨⟨by rw [List.length_set, lu]; exact st.1, hG.1.2⟩, by rw [List.length_set, List.length_set]; exact lu, fun i v x h1 h2 => ?_⟩
  by_cases e : i = k
  · subst e
    rw [List.getElem?_set_self (by omega)] at h1 h2
    cases h1; cases h2
    exact far hu
  · rw [List.getElem?_set_ne (by omega)] at h1 h2
    exact far (hG.2.2 i v x h1 h2)

/-- some rows of two numbers -/
def RowsDrawn (B : Nat) (w : World) (e : Ending) (w' : World) : Prop :=
  ∃ (rows : List (List Int)) (g c0 : Nat) (RV : List Value), e = .returned (.slice (some ⟨g, 0, none⟩) rows.length c0) ∧ Grid w' B w'.heap.size (.slice (some ⟨g, 0, none⟩) rows.length c0) RV rows ∧ rows.length ≤ 9 ∧ (∀ r ∈ rows, r.length = 2) ∧ Below B w w'

set_option maxHeartbeats 1600000 in
theorem badRows_any (rows : List (List Int)) (hl : rows.length ≤ 9) (hr2 : ∀ r ∈ rows, r.length = 2) (g c0 : Nat) (RV : List Value) (B R : Nat) (a : Option Addr) (n c p : Nat) (w : World) (h : Hid (Rd w B R a n c p)) (hp : p ≤ 4000)
    (hG : Hid (Grid w B w.heap.size (.slice (some ⟨g, 0, none⟩) rows.length c0) RV rows)) :
    Calls Try.prog 42 #[.pointer (some ⟨R, 0, none⟩), .slice (some ⟨g, 0, none⟩) rows.length c0] w (RowsDrawn B w) := by
  have H2 := Lib.hid hr2
  clear hr2
  have hlow := h.out.low
  by_cases h0 : rows.length = 0
  · obtain rfl : rows = [] := List.eq_nil_of_length_eq_zero h0
    clear h0
    go_enter Try.func42, Try.ntmps42
    go_wp2
    go_ret
    exact ⟨[], g, c0, RV, rfl, hG.out, hl, H2.out, Below.refl _ _⟩
  · have q0 : (0 : Int) < (rows.length : Int) := by omega
    have d0 : decide ((0 : Int) < (rows.length : Int)) = true := decide_eq_true q0
    go_enter Try.func42, Try.ntmps42
    go_wp2_with (go_at_call 56; refine (pick_any B R a n c p _ _ h.out (by omega) (by omega) (by omega)).mono ?_; rintro e w1 ⟨x, rfl, hx1, _, r1, o1⟩; have G1 := Lib.hid (hG.out.only h.out o1); have R1 := Lib.hid r1; have B1 := Lib.hid (o1.below hlow); have Z1 := Lib.hid o1.size; clear hx1 r1 o1)
    any_goals (go_ret; exact ⟨rows, g, c0, RV, rfl, G1.out.more (by rw [Z1.out]; exact Nat.le_refl _), hl, H2.out, B1.out⟩)
    · refine (pick_any B R a n c (p + 1) _ _ R1.out (by omega) (by omega) (by omega)).mono ?_
      rintro e w2 ⟨k, rfl, hk, _, r2, o2⟩
      have hk2 : k < rows.length := by have := hk (by omega); omega
      have G2 := Lib.hid (G1.out.only R1.out o2)
      have R2 := Lib.hid r2
      have B2 := Lib.hid (B1.out.trans (o2.below hlow))
      have Z2 : w2.heap.size = w.heap.size := by rw [o2.size, Z1.out]
      have HZ2 := Lib.hid Z2
      have hlt := r2.lt
      have HLT := Lib.hid hlt
      clear hk r2 o2 G1 R1 B1 Z1 Z2 hlt
      have b1 : (k : Int) < (rows.length : Int) := by omega
      have l1 := lit_own2 w2 #[.int .i64 (-1), .int .i64 0, .int .i64 ((k : Int) + 1), .int .i64 9] 3 (by show (4 : Nat) ≤ maxLen; unfold maxLen; omega)
      have a1 : Below w2.heap.size w2 (w2.alloc (.cells #[.int .i64 (-1), .int .i64 0, .int .i64 ((k : Int) + 1), .int .i64 9] 3)) := (Below.refl _ _).alloc (Nat.le_refl _) _
      have R3 := Lib.hid (R2.out.below a1 HLT.out)
      have G3 := Lib.hid (G2.out.below (a1.mono (by rw [HZ2.out]; exact Nat.le_refl _)))
      have B3 := Lib.hid (B2.out.trans (a1.mono (by have := HLT.out; omega)))
      have L1 : Hid (Own (w2.alloc (.cells #[.int .i64 (-1), .int .i64 0, .int .i64 ((k : Int) + 1), .int .i64 9] 3)) w2.heap.size (w2.heap.size + 1) 3 (.slice (some ⟨w2.heap.size, 0, none⟩) 4 4) (iv [-1, 0, (k : Int) + 1, 9])) := l1
      have NE := Lib.hid (rd_ne l1 R3.out (by decide))
      have OA := Lib.hid (one_any [-1, 0, (k : Int) + 1, 9] _ B R a n c (p + 1 + 1) _ R3 (by omega) L1 NE.out (by show 0 < 4; omega) (by show 4 ≤ 1000; omega))
      have SZ := Lib.hid (World.size_alloc w2 (.cells #[.int .i64 (-1), .int .i64 0, .int .i64 ((k : Int) + 1), .int .i64 9] 3))
      clear l1 a1
      go_wp2_with fail
      refine OA.out.mono ?_
      rintro e w4 ⟨y1, _, rfl, r4, o4⟩
      have G4 := Lib.hid (G3.out.only R3.out o4)
      have R4 := Lib.hid r4
      have B4 := Lib.hid (B3.out.trans (o4.below hlow))
      have Z4 : Hid (w4.heap.size = w.heap.size + 1) := by show w4.heap.size = w.heap.size + 1; rw [o4.size, SZ.out, HZ2.out]
      have HLT4 := Lib.hid r4.lt
      clear r4 o4 OA NE L1 SZ R3 G3 B3
      have l2 := lit_own2 w4 #[.int .i64 (-1), .int .i64 ((k : Int) + 2), .int .i64 ((k : Int) + 1)] 3 (by show (3 : Nat) ≤ maxLen; unfold maxLen; omega)
      have a2 : Below w4.heap.size w4 (w4.alloc (.cells #[.int .i64 (-1), .int .i64 ((k : Int) + 2), .int .i64 ((k : Int) + 1)] 3)) := (Below.refl _ _).alloc (Nat.le_refl _) _
      have R5 := Lib.hid (R4.out.below a2 HLT4.out)
      have G5 := Lib.hid (G4.out.below (a2.mono (by rw [Z4.out]; omega)))
      have B5 := Lib.hid (B4.out.trans (a2.mono (by have := HLT4.out; omega)))
      have L2 : Hid (Own (w4.alloc (.cells #[.int .i64 (-1), .int .i64 ((k : Int) + 2), .int .i64 ((k : Int) + 1)] 3)) w4.heap.size (w4.heap.size + 1) 3 (.slice (some ⟨w4.heap.size, 0, none⟩) 3 3) (iv [-1, (k : Int) + 2, (k : Int) + 1])) := l2
      have NE := Lib.hid (rd_ne l2 R5.out (by decide))
      have OA := Lib.hid (one_any [-1, (k : Int) + 2, (k : Int) + 1] _ B R a n c (p + 1 + 1 + 1) _ R5 (by omega) L2 NE.out (by show 0 < 3; omega) (by show 3 ≤ 1000; omega))
      have SZ := Lib.hid (World.size_alloc w4 (.cells #[.int .i64 (-1), .int .i64 ((k : Int) + 2), .int .i64 ((k : Int) + 1)] 3))
      clear l2 a2
      go_wp2_with fail
      refine OA.out.mono ?_
      rintro e w6 ⟨y2, _, rfl, r6, o6⟩
      have G6 := Lib.hid (G5.out.only R5.out o6)
      have B6 := Lib.hid (B5.out.trans (o6.below hlow))
      have Z6 : Hid (w6.heap.size = w.heap.size + 2) := by show w6.heap.size = w.heap.size + 2; rw [o6.size, SZ.out, Z4.out]
      have HB := Lib.hid (show B ≤ w.heap.size by have := h.out.lt; omega)
      clear r6 o6 OA NE L2 SZ R5 G5 B5
      have l3 := lit_own2 w6 #[.int .i64 y1, .int .i64 y2] 3 (by show (2 : Nat) ≤ maxLen; unfold maxLen; omega)
      have L3 : Hid (Own (w6.alloc (.cells #[.int .i64 y1, .int .i64 y2] 3)) w6.heap.size (w6.heap.size + 1) 3 (.slice (some ⟨w6.heap.size, 0, none⟩) 2 2) (iv [y1, y2])) := l3
      have a3 : Below w6.heap.size w6 (w6.alloc (.cells #[.int .i64 y1, .int .i64 y2] 3)) := (Below.refl _ _).alloc (Nat.le_refl _) _
      have G7 := Lib.hid ((G6.out.below (a3.mono (by rw [Z6.out]; omega))).more (show w.heap.size ≤ w6.heap.size + 1 by rw [Z6.out]; omega))
      have B7 := Lib.hid (B6.out.trans (a3.mono (by rw [Z6.out]; have := HB.out; omega)))
      have GP := Lib.hid (G7.out.put hk2 (own_lo L3.out (by rw [Z6.out]; have := HB.out; omega)))
      have lu := G7.out.2.1
      obtain ⟨g1, e1, hg1, _, c1, f1⟩ := G7.out.1.at_ k (by rw [lu]; exact hk2)
      cases e1
      obtain ⟨v7, hv7, o7⟩ := G7.out.2.at_ k hk2
      obtain ⟨a7, c7, rfl, _⟩ := o7.slice
      rw [hv7] at c1
      clear l3 a3 lu hv7 o7
      go_wp2
      go_ret
      refine ⟨rows.set k [y1, y2], g, c0, _, by rw [List.length_set]; rfl, by rw [List.length_set]; exact GP.out.more (by simp [World.setCell]), by rw [List.length_set]; exact hl, fun r hr => ?_, B7.out.setCell (by exact hg1) _⟩
      rcases List.mem_or_eq_of_mem_set hr with hr | rfl
      · exact H2.out r hr
      · rfl
end Go.Proofs.Ytpphilladlladaa
