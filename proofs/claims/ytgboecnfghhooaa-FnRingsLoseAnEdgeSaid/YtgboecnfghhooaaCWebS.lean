/-
  The contracts of the model's functions ValidWeb, SpanByCuts and SpansOf, of any rows.
-/
import Derived.Test.YtgboecnfghhooaaCWeb
import Derived.Test.YtgboecnfghhooaaCCut
import Derived.Test.YtgboecnfghhooaaCSpans
import Derived.Test.YtgboecnfghhooaaCDepths
namespace Go.Proofs.Ytgboecnfghhooaa
open Go.RowKit

theorem web_rows {n : Int} {rows : List (List Int)} (h : webB n rows = true) : ∃ N : Nat, n = N ∧ 1 ≤ N ∧ N ≤ 5 ∧ rows = rowsE (edgesR rows) ∧ (∀ e ∈ edgesR rows, e.1 < N ∧ e.2 < N) ∧ (edgesR rows).length ≤ 8 ∧ (edgesR rows).length = rows.length := by
  obtain ⟨h1, h2, h3⟩ := webB_iff.1 h
  refine ⟨n.toNat, by omega, by omega, by omega, ?_, ?_, by simp [edgesR]; exact h3, by simp [edgesR]⟩
  · unfold rowsE edgesR
    rw [List.map_map]
    have : rows.map ((fun (e : Nat × Nat) => [(e.1 : Int), (e.2 : Int)]) ∘ fun r => ((r.getD 0 0).toNat, (r.getD 1 0).toNat)) = rows.map id := List.map_congr_left fun r hr => by
      obtain ⟨r1, r2, r3⟩ := h1 r hr
      match r, r1, r2, r3 with
      | [x, y], _, r2, r3 =>
        show [((x.toNat : Nat) : Int), ((y.toNat : Nat) : Int)] = [x, y]
        have e1 : ((x.toNat : Nat) : Int) = x := by have : 0 ≤ x := r2.1; omega
        have e2 : ((y.toNat : Nat) : Int) = y := by have : 0 ≤ y := r3.1; omega
        rw [e1, e2]
    rw [this, List.map_id]
  · intro e he
    obtain ⟨r, hr, rfl⟩ := List.mem_map.1 he
    obtain ⟨_, r2, r3⟩ := h1 r hr
    simp only
    omega
/-- how many spans there are; which they are -/
def spanC (n : Int) (rows : List (List Int)) : Int := if webB n rows = true then ((spansN n.toNat (edgesR rows)).length : Int) else -1
def spansL (n : Int) (rows : List (List Int)) : List Int := if webB n rows = true then (spansN n.toNat (edgesR rows)).map fun (k : Nat) => (k : Int) else []
theorem specValidWeb_any (n : Int) (rows : List (List Int)) (v : Value) (RV : List Value) (w : World) {B0 H0 : Nat} (hG : Hid (Grid w B0 H0 v RV rows)) (hrl : rows.length ≤ 1048576) :
    Calls Try.prog 18 #[.int .i64 n, v] w fun e w' => e = .returned (.bool (webB n rows)) ∧ w = w' := by
  have C := Lib.hid (validWeb_any n rows v RV w hG hrl)
  obtain ⟨av, cv, rfl, _, _, _, _⟩ := hG.out.1.slice
  clear hG
  go_enter Try.func18, Try.ntmps18
  go_wp2_with fail
  refine C.out.mono ?_
  rintro e w1 ⟨rfl, rfl⟩
  go_wp2
  go_ret
  exact ⟨rfl, rfl⟩
theorem specSpanByCuts_any (n : Int) (rows : List (List Int)) (v : Value) (RV : List Value) (w : World) {B0 H0 : Nat} (hG : Hid (Grid w B0 H0 v RV rows)) (hH : H0 ≤ w.heap.size) (hrl : rows.length ≤ 1048576) :
    Calls Try.prog 24 #[.int .i64 n, v] w fun e w' => e = .returned (.int .i64 (spanC n rows)) ∧ Below w.heap.size w w' := by
  have C := Lib.hid (validWeb_any n rows v RV w hG hrl)
  cases ht : webB n rows with
  | false =>
    rw [spanC, if_neg (by rw [ht]; decide)]
    rw [ht] at C
    obtain ⟨av, cv, rfl, _, _, _, _⟩ := hG.out.1.slice
    clear hG ht
    go_enter Try.func24, Try.ntmps24
    go_wp2_with fail
    refine C.out.mono ?_
    rintro e w1 ⟨rfl, rfl⟩
    go_wp2
    go_ret
    exact ⟨rfl, Below.refl _ _⟩
  | true =>
    rw [spanC, if_pos ht]
    rw [ht] at C
    obtain ⟨N, rfl, h1, h5, hr, hE, h8, hlr⟩ := web_rows ht
    rw [Int.toNat_natCast]
    obtain ⟨E, hE0⟩ : ∃ E, E = edgesR rows := ⟨_, rfl⟩
    rw [← hE0] at hr hE h8 hlr ⊢
    subst hr
    obtain ⟨av, cv, rfl, _, hcv, hcm, _⟩ := hG.out.1.slice
    have hgl : RV.length = E.length := by rw [hG.out.2.1, rowsE_length]
    rw [hgl] at hG hcv C ⊢
    have CD := Lib.hid (spanCut_any 8 N E av E.length cv H0 w rfl h8 (Nat.le_refl _) hcv hcm ⟨h1, h5⟩ (Lib.hid hE) hH (Lib.hid (RdE.of hG.out)))
    rw [cut_count 8 N E h8 h1 hE] at CD
    obtain ⟨m, hm⟩ : ∃ m, m = E.length := ⟨_, rfl⟩
    obtain ⟨z, hz⟩ : ∃ z, z = (spansN N E).length := ⟨_, rfl⟩
    rw [← hm] at C CD ⊢
    rw [← hz] at CD ⊢
    clear hG ht hE0 hE hgl hlr h8 hcv hm hz
    go_enter Try.func24, Try.ntmps24
    go_wp2_with fail
    refine C.out.mono ?_
    rintro e w1 ⟨rfl, rfl⟩
    go_wp2_with fail
    refine CD.out.mono ?_
    rintro e w2 ⟨rfl, hb⟩
    have HB := Lib.hid hb
    clear hb CD
    go_wp2
    go_ret
    exact ⟨rfl, HB.out⟩
theorem specSpansOf_any (n : Int) (rows : List (List Int)) (v : Value) (RV : List Value) (w : World) {B0 H0 : Nat} (hG : Hid (Grid w B0 H0 v RV rows)) (hH : H0 ≤ w.heap.size) (hrl : rows.length ≤ 1048576) :
    Calls Try.prog 28 #[.int .i64 n, v] w (IntsOut (spansL n rows) w) := by
  have C := Lib.hid (validWeb_any n rows v RV w hG hrl)
  cases ht : webB n rows with
  | false =>
    rw [spansL, if_neg (by rw [ht]; decide)]
    rw [ht] at C
    obtain ⟨av, cv, rfl, _, _, _, _⟩ := hG.out.1.slice
    clear hG ht
    go_enter Try.func28, Try.ntmps28
    go_wp2_with fail
    refine C.out.mono ?_
    rintro e w1 ⟨rfl, rfl⟩
    go_wp2
    go_ret
    exact nilOut _ _ (Below.refl _ _)
  | true =>
    rw [spansL, if_pos ht]
    rw [ht] at C
    obtain ⟨N, rfl, h1, h5, hr, hE, h8, hlr⟩ := web_rows ht
    rw [Int.toNat_natCast]
    obtain ⟨E, hE0⟩ : ∃ E, E = edgesR rows := ⟨_, rfl⟩
    rw [← hE0] at hr hE h8 hlr ⊢
    subst hr
    have CD := Lib.hid (spans_any N E v RV w hG hH (Lib.hid hE) ⟨h1, h5⟩ h8)
    obtain ⟨av, cv, rfl, _, hcv, hcm, _⟩ := hG.out.1.slice
    obtain ⟨m, hm⟩ : ∃ m, m = RV.length := ⟨_, rfl⟩
    rw [← hm] at C CD ⊢
    clear hG ht hE0 hE hlr h8 hcv hm
    go_enter Try.func28, Try.ntmps28
    go_wp2_with fail
    refine C.out.mono ?_
    rintro e w1 ⟨rfl, rfl⟩
    go_wp2_with fail
    refine CD.out.mono ?_
    rintro e w2 ⟨g, m2, c, rfl, hI⟩
    have HI := Lib.hid hI
    clear hI CD
    go_wp2
    go_ret
    refine ⟨_, rfl, ?_, HI.out.below⟩
    rw [← ints_iv2]
    refine Own.of_own ?_
    rw [ints_length, HI.out.len]
    exact HI.out.own
end Go.Proofs.Ytgboecnfghhooaa
