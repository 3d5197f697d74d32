/-
  The parts of the program's TreeOf: the edge of two nodes, edges as rows.
-/
import Derived.Test.YthlboikljibohaaZCP
import Derived.Test.YthlboikljibohaaCGridA
namespace Go.Proofs.Ythlboikljibohaa
open Go.RowKit

set_option maxHeartbeats 400000 in
theorem edgeOf_p (a b : Nat) (w : World) (hab : a ≠ b) :
    Calls Try.prog 60 #[.int .i64 (a : Int), .int .i64 (b : Int)] w fun e w' => e = .returned (.agg #[.int .i64 ((norm (a, b)).1 : Int), .int .i64 ((norm (a, b)).2 : Int)]) ∧ Below w.heap.size w w' := by
  rcases Nat.lt_or_ge a b with h | h
  · have hn : norm (a, b) = (a, b) := by unfold norm; simp only [Prod.mk.injEq]; omega
    rw [hn]
    have d1 : (a : Int) < (b : Int) := by omega
    clear hn hab h
    go_enter Try.func60, Try.ntmps60
    go_wp2
    refine bodyPost_ret (results_cell_row rfl _ _ w.heap.size _ _ _ _ rfl (heap_alloc_new w _) Try.underlying79 rfl (by kernel_rfl)) rfl ?_
    exact ⟨by first | rfl | rw [Int.min_eq_left (by omega), Int.max_eq_right (by omega)], (Below.refl _ _).alloc (Nat.le_refl _) _⟩
  · have hn : norm (a, b) = (b, a) := by unfold norm; simp only [Prod.mk.injEq]; omega
    rw [hn]
    have d1 : (b : Int) < (a : Int) := by omega
    clear hn hab h
    go_enter Try.func60, Try.ntmps60
    go_wp2
    refine bodyPost_ret (results_cell_row rfl _ _ w.heap.size _ _ _ _ rfl (heap_alloc_new w _) Try.underlying79 rfl (by kernel_rfl)) rfl ?_
    exact ⟨by first | rfl | rw [Int.min_eq_right (by omega), Int.max_eq_left (by omega)], (Below.refl _ _).alloc (Nat.le_refl _) _⟩

theorem rowsE_take (E : Edges) (k : Nat) (h : k < E.length) : rowsE (E.take (k + 1)) = rowsE (E.take k) ++ [[(E[k].1 : Int), (E[k].2 : Int)]] := by
  rw [List.take_succ_eq_append_getElem h, rowsE_append]; rfl
set_option maxHeartbeats 1600000 in
set_option maxRecDepth 100000 in
theorem rowsOf_p (E : Edges) (v : Value) (w : World) {B0 H0 : Nat} (hE : Hid (ERow w B0 H0 v E)) (hH : H0 ≤ w.heap.size) (hel : E.length ≤ 64) :
    Calls Try.prog 63 #[v] w fun e w' => ∃ u RV, e = .returned u ∧ GridA w' w.heap.size u RV (rowsE E) ∧ Below w.heap.size w w' := by
  obtain ⟨i0, hi0, hz0, hz1, hz2⟩ := info_parts Try.infoRowR
  obtain ⟨ao, cap, rfl, _, hcap, _, _⟩ := hE.out.slice
  obtain ⟨G, hG⟩ : ∃ G, G = w.heap.size := ⟨_, rfl⟩
  have HE : Hid (∀ W, Below G w W → ERow W B0 H0 (.slice ao E.length cap) E) := fun W hW => hE.out.below (hW.mono (by rw [hG]; exact hH))
  have G0 : Hid (GridA w G (.slice none 0 0) [] (rowsE (E.take 0))) := GridA.nil w G
  rw [← hG]
  clear hE
  go_enter Try.func63, Try.ntmps63
  go_wp2
  have HG := Lib.hid hG
  clear hG
  go_loopw [3, 8] (fun u i wr => ∃ (k : Nat) (RV : List Value), k ≤ E.length ∧ i = .int .i64 (k : Int) ∧ Hid (GridA wr G u RV (rowsE (E.take k))) ∧ Hid (Below G w wr)) (fun _ i _ => E.length - (intOf i).toNat)
  case atStart => exact ⟨0, [], Nat.zero_le _, rfl, G0, Below.refl _ _⟩
  case round =>
    clear G0
    obtain ⟨k, RV, hk, rfl, HU, HB⟩ := hrel
    have hGr : Hid (G ≤ wr.heap.size) := by have := HB.out.size; rw [HG.out]; exact this
    have hlen : (rowsE (E.take k)).length = k := by rw [rowsE_length, List.length_take]; omega
    obtain ⟨au, cu, rfl, hOW⟩ := HU.out.shape
    rw [hlen] at hOW HU ⊢
    by_cases hlt : k < E.length
    · have b1 : (k : Int) < (E.length : Int) := by omega
      obtain ⟨g, c', e1, _, _, hg, c1, c2⟩ := (HE.out _ HB.out).at_ k hlt
      simp only [Value.slice.injEq] at e1
      obtain ⟨rfl, _, rfl⟩ := e1
      have RT := Lib.hid (rowsE_take E k hlt)
      obtain ⟨y, hy⟩ : ∃ y, y = E[k] := ⟨_, rfl⟩
      rw [← hy] at c1 c2 RT
      have hb2 : Below wr.heap.size wr (wr.alloc (.cells #[.int .i64 (y.1 : Int), .int .i64 (y.2 : Int)] 79)) := (Below.refl _ _).alloc (Nat.le_refl _) _
      have U2 : Hid (GridA (wr.alloc (.cells #[.int .i64 (y.1 : Int), .int .i64 (y.2 : Int)] 79)) G (.slice au k cu) RV (rowsE (E.take k))) := HU.out.below hb2
      have B2 : Hid (Below G w (wr.alloc (.cells #[.int .i64 (y.1 : Int), .int .i64 (y.2 : Int)] 79))) := HB.out.trans (hb2.mono hGr.out)
      have OW2 : Hid ((wr.alloc (.cells #[.int .i64 (y.1 : Int), .int .i64 (y.2 : Int)] 79)).ownsRow G 34 1 (.slice au k cu) k RV) := hOW.alloc _
      clear hy hb2 HU HB hOW hg
      go_upto_region 5 with fail
      obtain ⟨W2, hW2⟩ : ∃ W2, W2 = wr.alloc (.cells #[.int .i64 (y.1 : Int), .int .i64 (y.2 : Int)] 79) := ⟨_, rfl⟩
      obtain ⟨GX, hGX⟩ : ∃ GX, GX = wr.heap.size := ⟨_, rfl⟩
      have a1 : W2.cell? ⟨GX, 0, none⟩ = some (.int .i64 (y.1 : Int)) := by rw [hW2, hGX]; simp
      have a2 : W2.cell? ⟨GX, 1, none⟩ = some (.int .i64 (y.2 : Int)) := by rw [hW2, hGX]; simp
      have hG2 : Hid (G ≤ W2.heap.size) := by have := hGr.out; show _ ≤ _; rw [hW2, World.size_alloc]; omega
      rw [← hW2] at U2 B2 OW2
      rw [← hW2, ← hGX]
      clear c1 c2 hW2 hGX hGr
      have z1 : k + 1 ≤ maxLen := by unfold maxLen; omega
      have z2 : (k + 1) * 24 ≤ 140737488355328 := by omega
      have Y3 := Lib.hid (show G ≤ ((W2.alloc (.cells #[.int .i64 (y.1 : Int), .int .i64 (y.2 : Int)] 3)).alloc (.cells #[.slice (some ⟨W2.heap.size, 0, none⟩) 2 2] 34)).heap.size by have := hG2.out; simp; omega)
      have OW3 := Lib.hid ((OW2.out.alloc (.cells #[.int .i64 (y.1 : Int), .int .i64 (y.2 : Int)] 3)).alloc (.cells #[.slice (some ⟨W2.heap.size, 0, none⟩) 2 2] 34))
      have CN := cell_one_new (W2.alloc (.cells #[.int .i64 (y.1 : Int), .int .i64 (y.2 : Int)] 3)) (.slice (some ⟨W2.heap.size, 0, none⟩) 2 2) 34
      rw [World.size_alloc] at CN
      have CN := Lib.hid CN
      go_wp2_with (at_builtin; refine wpList_append_lies _ rfl (.tmp 12) (.tmp 18) 26 rfl G 34 i0 (.slice none 0 0) 1 24 Try.underlying26 hi0 hz0 hz1 hz2 rfl (Nat.succ_pos 0) (.slice au k cu) k RV rfl OW3.out ⟨W2.heap.size + 1, 0, none⟩ 1 1 [.slice (some ⟨W2.heap.size, 0, none⟩) 2 2] rfl rfl CN.out (one_rowR _ _ _ _ rfl) (Nat.succ_pos 0) z1 z2 Y3.out _ rfl ?_)
      intro g7 c7 w7 hv7 hg7 _ _
      obtain ⟨G7, B7⟩ := U2.out.push (cs := #[.int .i64 (y.1 : Int), .int .i64 (y.2 : Int)]) (n := 2) (row := [(y.1 : Int), (y.2 : Int)]) hlen rfl rfl (by omega) hG2.out hv7 hg7
      rw [← RT.out] at G7
      have G7 := Lib.hid G7
      have B8 := Lib.hid (B2.out.trans B7)
      clear hv7 hg7 B7 U2 B2 OW2 OW3 CN Y3 RT hG2
      go_wp2
      go_roundw
      case rel => exact ⟨k + 1, _, by omega, by go_num, G7, B8⟩
      case measure => simp [intOf]; omega
    · obtain rfl : k = E.length := by omega
      rw [List.take_length] at HU
      go_wp2
      go_ret
      exact ⟨_, RV, rfl, HU.out, HB.out⟩
end Go.Proofs.Ythlboikljibohaa
