/-
  The program's SpanByRows, of any rows.
-/
import Derived.Test.YthlboikljibohaaCNodeP
import Derived.Test.YthlboikljibohaaCDetP
import Derived.Test.YthlboikljibohaaCWebS
import Derived.Test.YthlboikljibohaaZW
namespace Go.Proofs.Ythlboikljibohaa
open Go.RowKit

theorem gridM_mem {n m : Nat} {M : Nat → Nat → Int} {r : List Int} (h : r ∈ gridM n m M) : r.length = m ∧ ∃ i, i < n ∧ ∀ x ∈ r, ∃ j, j < m ∧ x = M i j := by
  obtain ⟨i, hi, rfl⟩ := List.mem_map.1 h
  refine ⟨by simp, i, List.mem_range.1 hi, fun x hx => ?_⟩
  obtain ⟨j, hj, rfl⟩ := List.mem_map.1 hx
  exact ⟨j, List.mem_range.1 hj, rfl⟩
/-- the determinant of all nodes' rows but the last one's counts the spans -/
theorem rows_spans {N : Nat} {E : Edges} (h1 : 1 ≤ N) (h5 : N ≤ 5) (hE : ∀ e ∈ E, e.1 < N ∧ e.2 < N) : detG opI (N - 1) (gridM (N - 1) (N - 1) (lapE N E)) = ((spansN N E).length : Int) := by
  have h := det_cut E.length N E (Nat.le_refl _) h1 h5 hE
  rw [cut_count _ N E (Nat.le_refl _) h1 hE] at h
  rw [← h, lap_mat]
  exact det_fuel opI (N - 1) N _ (by rw [gridM_length]; exact Nat.le_refl _) (by rw [gridM_length]; omega)
theorem rows_small {N : Nat} {E : Edges} (h5 : N ≤ 5) (h8 : E.length ≤ 8) (hE : ∀ e ∈ E, e.1 < N ∧ e.2 < N) : In8 (gridM (N - 1) (N - 1) (lapE N E)) := by
  intro r hr x hx
  obtain ⟨_, i, hi, h⟩ := gridM_mem hr
  obtain ⟨j, _, rfl⟩ := h x hx
  have := lap_small (j := j) E h5 hE (show i < N by omega) E.length (Nat.le_refl _)
  rw [List.take_length] at this
  omega
set_option maxHeartbeats 1600000 in
theorem spanByRows_r (n : Int) (rows : List (List Int)) (a : Option Addr) (cv : Nat) (w : World) {H0 : Nat} (hR : Hid (RdR w H0 a rows)) (hH : H0 ≤ w.heap.size) :
    Calls Try.prog 11 #[.int .i64 n, .slice a rows.length cv] w fun e w' => e = .returned (.int .i64 (spanC n rows)) ∧ Below w.heap.size w w' := by
  have C := Lib.hid (webEdges_p n rows a cv w hR hH)
  obtain ⟨m, hm⟩ : ∃ m, m = rows.length := ⟨_, rfl⟩
  cases ht : webB n rows with
  | false =>
    rw [spanC, if_neg (by rw [ht]; decide)]
    rw [ht] at C
    rw [← hm] at C ⊢
    clear hR hm ht
    go_enter Try.func11, Try.ntmps11
    go_wp2_with fail
    refine C.out.mono ?_
    rintro e w1 ⟨x, rfl, _, hb⟩
    have HB := Lib.hid hb
    clear hb C
    go_wp2
    go_ret
    exact ⟨rfl, HB.out⟩
  | true =>
    rw [spanC, if_pos ht]
    rw [ht] at C
    obtain ⟨N, rfl, h1, h5, hrw, hE, h8, hlr⟩ := web_rows ht
    rw [Int.toNat_natCast]
    have hwl : (webN rows).length ≤ 8 := by rw [webN_length]; omega
    have hwE : Hid (∀ e ∈ webN rows, e.1 < N ∧ e.2 < N) := norm_lt hE
    have HDT : detG opI (N - 1) (gridM (N - 1) (N - 1) (lapE N (webN rows))) = ((spansN N (edgesR rows)).length : Int) := by
      rw [rows_spans h1 h5 hwE.out]
      show ((spansN N ((edgesR rows).map norm)).length : Int) = _
      rw [spans_norm h1 hE]
    obtain ⟨z, hz⟩ : ∃ z : Int, z = ((spansN N (edgesR rows)).length : Int) := ⟨_, rfl⟩
    rw [← hz] at HDT ⊢
    have h8m := rows_small h5 hwl hwE.out
    have CN := Lib.hid (fun (x : Value) (W : World) (B H : Nat) (hx : ERow W B H x (webN rows)) (hH : H ≤ W.heap.size) => nodeRows_p N (webN rows) x W (Lib.hid hx) hH ⟨h1, h5⟩ hwE hwl)
    obtain ⟨L, hL⟩ : ∃ L, L = lapE N (webN rows) := ⟨_, rfl⟩
    simp only [← hL] at CN HDT h8m
    obtain ⟨K, rfl⟩ : ∃ K, N = K + 1 := ⟨N - 1, by omega⟩
    rw [Nat.add_sub_cancel] at HDT h8m
    have hlast := less_last (n := K + 1) (by omega) L
    rw [Nat.add_sub_cancel] at hlast
    have HH8 := Lib.hid h8m
    have HDTh := Lib.hid HDT
    have HLA := Lib.hid hlast
    have ewn : IntKind.i64.wrap (((K : Int) + 1) - 1) = (K : Int) := by rw [IntKind.wrap_i64]; omega
    have ewn2 : IntKind.i64.wrap (K : Int) = (K : Int) := by rw [IntKind.wrap_i64]; omega
    rw [← hm] at C ⊢
    clear hR hm ht hE hrw hlr h8 hwl hz hL HDT h8m hlast h1
    go_enter Try.func11, Try.ntmps11
    go_wp2_with fail
    refine C.out.mono ?_
    rintro e w1 ⟨x, rfl, hx, hb⟩
    have HB := Lib.hid hb
    have HX := Lib.hid (hx trivial)
    have CN1 := Lib.hid (CN.out x w1 _ _ HX.out (Nat.le_refl _))
    clear hb C hx CN
    go_wp2_with fail
    refine CN1.out.mono ?_
    rintro e w2 ⟨u, RV, rfl, hG, b2⟩
    have HB2 := Lib.hid (HB.out.trans (b2.mono HB.out.size))
    obtain ⟨au, cu, rfl, hO⟩ := hG.shape
    rw [gridM_length] at hO hG ⊢
    have hcu : K + 1 ≤ cu := by
      rcases hO.2 with ⟨h0, hh⟩ | ⟨g, cap, cur, h0, _, _, h3, _⟩
      · omega
      · cases h0; exact h3
    have hRd : RdR w2 w2.heap.size au ((gridM (K + 1) (K + 1) L).take K) := (RdR.of hG.grid).take
    have hTl : ((gridM (K + 1) (K + 1) L).take K).length = K := by rw [List.length_take, gridM_length]; omega
    have hTr : ∀ r ∈ (gridM (K + 1) (K + 1) L).take K, r.length = K + 1 := fun r hr => (gridM_mem (List.mem_of_mem_take hr)).1
    have CL := Lib.hid (fun cv' => less_p K (K + 1) ((gridM (K + 1) (K + 1) L).take K) au cv' w2 (Lib.hid hRd) (Nat.le_refl _) (by rw [hTl]; omega) (Lib.hid hTr) (by omega) (by omega))
    rw [hTl, HLA.out] at CL
    have CD : Hid (∀ (W : World) (u : Value) (RV : List Value) (B' : Nat), GridA W B' u RV (gridM K K L) → ∃ (av : Option Addr) (cv' : Nat), u = .slice av K cv' ∧ Calls Try.prog 36 #[.slice av K cv'] W fun e w' => e = .returned (.int .i64 z) ∧ Below W.heap.size W w') := fun W u RV B' hG => by
      obtain ⟨av, cv', rfl, hO⟩ := hG.shape
      rw [gridM_length] at hO hG ⊢
      have hcv' : K ≤ cv' := by
        rcases hO.2 with ⟨h0, hh⟩ | ⟨g, cap, cur, h0, _, _, h3, _⟩
        · omega
        · cases h0; exact h3
      have := det_p K (by omega) (gridM K K L) av cv' W W.heap.size (gridM_length _ _ _) (Lib.hid fun r hr => (gridM_mem hr).1) HH8 hcv' (Nat.le_refl _) (Lib.hid (RdR.of hG.grid))
      rw [HDTh.out] at this
      exact ⟨av, cv', rfl, this⟩
    have j1 : (K : Int) ≤ (cu : Int) := by omega
    have j2 : K ≤ cu := by omega
    have HHR : Hid (K + 1 ≤ 5) := h5
    clear b2 hG hO hRd hTl hTr CN1 HX HLA HH8 HDTh hcu h5
    go_wp2_with fail
    refine (CL.out _).mono ?_
    rintro e w3 ⟨u3, RV3, rfl, hG3, b3⟩
    have HB3 := Lib.hid (HB2.out.trans (b3.mono HB2.out.size))
    obtain ⟨av, cv', rfl, hC⟩ := CD.out w3 u3 RV3 _ hG3
    have HC := Lib.hid hC
    clear hG3 b3 hC CD CL HB2
    go_wp2_with fail
    refine HC.out.mono ?_
    rintro e w4 ⟨rfl, b4⟩
    have HB4 := Lib.hid (HB3.out.trans (b4.mono HB3.out.size))
    clear b4 HC
    go_wp2
    go_ret
    exact ⟨rfl, HB4.out⟩
/-- the program's count by a determinant, of any rows -/
theorem spanByRows_p (n : Int) (rows : List (List Int)) (v : Value) (RV : List Value) (w : World) (B0 H0 : Nat) (hG : Hid (Grid w B0 H0 v RV rows)) (hH : H0 ≤ w.heap.size) (_hrl : rows.length ≤ 1048576) (_hrs : ∀ r ∈ rows, r.length ≤ 1048576) (_hwf : (Lit.int .i64 n).wf = true) :
    Calls Try.prog 11 #[.int .i64 n, v] w fun e w' => e = .returned (.int .i64 (spanC n rows)) ∧ Below w.heap.size w w' := by
  obtain ⟨a, cv, rfl, hR⟩ := grid_rd hG.out
  exact spanByRows_r n rows a cv w (Lib.hid hR) hH
end Go.Proofs.Ythlboikljibohaa
