/-
  The contracts of the law's own helpers on lists of texts: two lists are the same; a list is marked; it still bears its marks.
-/
import Derived.Test.YtlnofjkdpoiabaaCTexts
import Derived.Deep.RegionWith
namespace Go.Proofs.Ytlnofjkdpoiabaa
open Go.RowKit

theorem sv_at (L : List (List UInt8)) (k : Nat) (h : k < L.length) : (sv L)[k]? = some (.string ⟨L[k].toArray⟩) := by simp [sv, h]

set_option maxHeartbeats 800000 in
theorem eqTexts_yes (L : List (List UInt8)) (u v : Value) (w : World) {B H B' H' : Nat} (hu : Hid (Own w B H 9 u (sv L))) (hv : Hid (Own w B' H' 9 v (sv L))) (hl : L.length ≤ 1048576) :
    Calls Try.prog 6 #[u, v] w fun e w' => e = .returned (.bool true) ∧ Same w w' := by
  obtain ⟨au, cu, rfl, _, hcu, _, _⟩ := hu.out.slice
  obtain ⟨av, cv, rfl, _, hcv, _, _⟩ := hv.out.slice
  rw [sv_length] at hu hv hcu hcv ⊢
  go_enter Try.func6, Try.ntmps6
  go_wp2
  go_loopw [5] (fun i wr => ∃ k : Nat, k ≤ L.length ∧ i = .int .i64 k ∧ Hid (Same w wr)) (fun i _ => L.length - (intOf i).toNat)
  case atStart => exact ⟨0, Nat.zero_le _, rfl, Same.refl w⟩
  case round =>
    obtain ⟨k, hk, rfl, HS⟩ := hrel
    by_cases hlt : k < L.length
    · obtain ⟨g1, rfl, _, _, h1, _⟩ := (hu.out.same HS.out.1).at_ k (by rw [sv_length]; exact hlt)
      obtain ⟨g2, rfl, _, _, h2, _⟩ := (hv.out.same HS.out.1).at_ k (by rw [sv_length]; exact hlt)
      rw [sv_at L k hlt] at h1 h2
      obtain ⟨x, hx⟩ : ∃ x, x = ByteArray.mk L[k].toArray := ⟨_, rfl⟩
      rw [← hx] at h1 h2
      have b1 : (k : Int) < (L.length : Int) := by omega
      clear hx
      go_wp2
      go_quiet (fail)
      go_wp2
      go_roundw
      case rel => exact ⟨k + 1, by omega, by go_num, HS.out.drewN _⟩
      case measure => simp [intOf]; omega
    · obtain rfl : k = L.length := by omega
      go_wp2
      go_ret
      exact ⟨rfl, HS.out⟩

def tm (n : Nat) : List Value := (List.range n).map fun (i : Nat) => .string (mtext (i + 1))
def tmix (xs : List Value) (j : Nat) : List Value := tm j ++ xs.drop j
theorem tm_length (n : Nat) : (tm n).length = n := by simp [tm]
theorem tm_at (n k : Nat) (h : k < n) : (tm n)[k]? = some (.string (mtext (k + 1))) := by simp [tm, h]
theorem tmix_zero (xs : List Value) : tmix xs 0 = xs := by simp [tmix, tm]
theorem tmix_length (xs : List Value) (j : Nat) (h : j ≤ xs.length) : (tmix xs j).length = xs.length := by simp [tmix, tm]; omega
theorem tmix_full (xs : List Value) : tmix xs xs.length = tm xs.length := by simp [tmix]
theorem tmix_set (xs : List Value) (j : Nat) (h : j < xs.length) : (tmix xs j).set j (.string (mtext (j + 1))) = tmix xs (j + 1) := by
  simp only [tmix]
  rw [List.set_append_right _ _ (by rw [tm_length]; exact Nat.le_refl _), tm_length, Nat.sub_self, List.drop_eq_getElem_cons h, List.set_cons_zero]
  simp [tm, List.range_succ]

set_option maxHeartbeats 1600000 in
theorem markTexts_any (xs : List Value) (u : Value) (w : World) {B H : Nat} (hu : Hid (Own w B H 9 u xs)) (hH : H ≤ w.heap.size) (hl : xs.length ≤ 10000) :
    Calls Try.prog 7 #[u, .int .i64 1] w fun e w' => e = .returned (.int .i64 ((xs.length : Int) + 1)) ∧ Own w' B H 9 u (tm xs.length) ∧ w.grownBy w' u.ownBlock := by
  obtain ⟨au, cu, rfl, hnone, hcu, hcm, hsome⟩ := hu.out.slice
  clear hsome hnone
  obtain ⟨n, hn⟩ : ∃ n, n = xs.length := ⟨_, rfl⟩
  rw [← hn] at hu hcu hl ⊢
  have HN := Lib.hid hn
  clear hn
  go_enter Try.func7, Try.ntmps7
  go_wp2
  go_loopw [1, 5] (fun m i wr => ∃ k : Nat, k ≤ n ∧ i = .int .i64 k ∧ m = .int .i64 ((k : Int) + 1) ∧ Hid (Own wr B H 9 (.slice au n cu) (tmix xs k) ∧ w.grownBy wr (Value.slice au n cu).ownBlock)) (fun _ i _ => n - (intOf i).toNat)
  case atStart => exact ⟨0, Nat.zero_le _, rfl, rfl, by rw [tmix_zero]; exact ⟨hu.out, ⟨rfl, rfl, rfl, Nat.le_refl _, fun _ _ _ => rfl⟩⟩⟩
  case round =>
    obtain ⟨k, hk, rfl, rfl, HS⟩ := hrel
    have hsw := HS.out.2.size
    by_cases hlt : k < n
    · have hml : (tmix xs k).length = n := by rw [tmix_length xs k (by rw [← HN.out]; exact hk), ← HN.out]
      obtain ⟨g1, rfl, hB, hgH, h1, f1⟩ := HS.out.1.at_ k (by rw [hml]; exact hlt)
      obtain ⟨d, hd⟩ : ∃ d, wr.cell? ⟨g1, k, none⟩ = some d := ⟨_, h1.trans (List.getElem?_eq_getElem (by rw [hml]; exact hlt))⟩
      have b1 : (k : Int) < (n : Int) := by omega
      have hm := markText_any (k + 1) (by omega) (by omega) wr
      rw [show ((k + 1 : Nat) : Int) = (k : Int) + 1 by omega] at hm
      have HM := Lib.hid hm
      have HML := Lib.hid hml
      clear h1 hm hml
      go_wp2_with fail
      refine HM.out.mono ?_
      rintro e w1 ⟨rfl, hb1⟩
      have c1 := (hb1.cell (p := ⟨g1, k, none⟩) (by show g1 < _; omega)).trans hd
      have c2 := (hb1.frozen (p := ⟨g1, k, none⟩) (by show g1 < _; omega)).trans f1
      have HS' : Hid (Own (w1.setCell ⟨g1, k, none⟩ (.string (mtext (k + 1)))) B H 9 (.slice (some ⟨g1, 0, none⟩) n cu) (tmix xs (k + 1)) ∧ w.grownBy (w1.setCell ⟨g1, k, none⟩ (.string (mtext (k + 1)))) (Value.slice (some ⟨g1, 0, none⟩) n cu).ownBlock) := by
        obtain ⟨ho, hg⟩ := HS.out
        have ho1 := (ho.below (hb1.mono (by omega))).1
        rw [HML.out] at ho1
        have st := ho1.stored k (.string (mtext (k + 1)))
        rw [tmix_set xs k (by rw [← HN.out]; exact hlt)] at st
        refine ⟨⟨by rw [tmix_length xs (k + 1) (by rw [← HN.out]; exact hlt), ← HN.out]; exact st.1, ho.2⟩, ⟨hb1.os.trans hg.os, hb1.tape.trans hg.tape, hb1.output.trans hg.output, by have := hg.size; have := hb1.size; simp; omega, fun q hq hne => ?_⟩⟩
        rw [Below.heap_setCell _ _ _ _ (fun e => hne (by simp [Value.ownBlock, e])), hb1.block q (by omega)]
        exact hg.block q hq hne
      clear HS hd f1 hb1
      go_wp2
      go_roundw
      case rel => exact ⟨k + 1, by omega, by go_num, by go_num, HS'⟩
      case measure => simp [intOf]; omega
    · obtain rfl : k = n := by omega
      go_wp2
      go_ret
      refine ⟨rfl, ?_, HS.out.2⟩
      have h := HS.out.1
      have e : tmix xs k = tm k := by rw [HN.out, tmix_full]
      rw [e] at h
      exact h

set_option maxHeartbeats 1600000 in
theorem heldTexts_any (n : Nat) (u : Value) (w : World) {B H : Nat} (hu : Hid (Own w B H 9 u (tm n))) (hH : H ≤ w.heap.size) (hl : n ≤ 10000) :
    Calls Try.prog 8 #[u, .int .i64 1] w fun e w' => e = .returned (.int .i64 ((n : Int) + 1)) ∧ Below w.heap.size w w' := by
  obtain ⟨au, cu, rfl, hnone, hcu, hcm, hsome⟩ := hu.out.slice
  rw [tm_length] at hu hcu hnone ⊢
  go_enter Try.func8, Try.ntmps8
  go_wp2
  clear hsome hnone
  go_loopw [1, 5] (fun m i wr => ∃ k : Nat, k ≤ n ∧ i = .int .i64 k ∧ m = .int .i64 ((k : Int) + 1) ∧ Below w.heap.size w wr) (fun _ i _ => n - (intOf i).toNat)
  case atStart => exact ⟨0, Nat.zero_le _, rfl, rfl, Below.refl _ _⟩
  case round =>
    obtain ⟨k, hk, rfl, rfl, hb⟩ := hrel
    have hsw := hb.size
    by_cases hlt : k < n
    · obtain ⟨g1, rfl, hB, hgH, h1, f1⟩ := (hu.out.below (hb.mono hH)).at_ k (by rw [tm_length]; exact hlt)
      rw [tm_at n k hlt] at h1
      have b1 : (k : Int) < (n : Int) := by omega
      have hm := fun w => markText_any (k + 1) (by omega) (by omega) w
      rw [show ((k + 1 : Nat) : Int) = (k : Int) + 1 by omega] at hm
      have HM := Lib.hid hm
      have hgw : g1 < wr.heap.size := by omega
      obtain ⟨x, hx⟩ : ∃ x, x = mtext (k + 1) := ⟨_, rfl⟩
      rw [← hx] at h1 HM
      clear hm hx f1
      go_wp2_with fail
      go_region_with (go_at_call 21; refine (HM.out _).mono ?_; rintro e w1 ⟨rfl, hb1⟩; have hc1 := (hb1.cell (p := ⟨g1, k, none⟩) (by first | exact hgw | (simp; exact hgw))).trans (by first | exact h1 | (simp; exact h1)))
      all_goals
        go_wp2
        go_roundw
        case rel => exact ⟨k + 1, by omega, by go_num, by go_num, by first | exact hb.trans (hb1.mono hsw) | exact hb.drew.trans (hb1.mono hsw) | exact (hb.trans (hb1.mono hsw)).drew | exact (hb.drew.trans (hb1.mono hsw)).drew⟩
        case measure => simp [intOf]; omega
    · obtain rfl : k = n := by omega
      go_wp2
      go_ret
      exact ⟨rfl, hb⟩
end Go.Proofs.Ytlnofjkdpoiabaa
