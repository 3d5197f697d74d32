/-
  The contracts of slices.Index and slices.Contains at rows of numbers of a call's own.
-/
import Derived.Test.YtchfnbcpjiiphaaCInts
namespace Go.Proofs.Ytchfnbcpjiiphaa
open Go.RowKit

/-- where x stands first in l, from place k on none before -/
def idxI (l : List Int) (x : Int) : Int := match l.findIdx? (· == x) with | some i => (i : Int) | none => -1
theorem idxI_at {l : List Int} {x : Int} {k : Nat} (hk : k < l.length) (hno : ∀ j, j < k → l[j]? ≠ some x) (h : l[k] = x) : idxI l x = (k : Int) := by
  unfold idxI
  have : l.findIdx? (· == x) = some k := by
    rw [List.findIdx?_eq_some_iff_getElem]
    refine ⟨hk, by simp [h], fun j hj => ?_⟩
    have := hno j hj
    rw [List.getElem?_eq_getElem (by omega)] at this
    simpa using this
  rw [this]
theorem idxI_no {l : List Int} {x : Int} (hno : ∀ j, j < l.length → l[j]? ≠ some x) : idxI l x = -1 := by
  unfold idxI
  have : l.findIdx? (· == x) = none := by
    rw [List.findIdx?_eq_none_iff]
    intro y hy
    obtain ⟨j, hj, rfl⟩ := List.mem_iff_getElem.1 hy
    have := hno j hj
    rw [List.getElem?_eq_getElem hj] at this
    simpa using this
  rw [this]
theorem idxI_contains (l : List Int) (x : Int) : decide (0 ≤ idxI l x) = l.contains x := by
  rw [Bool.eq_iff_iff, decide_eq_true_eq, List.contains_iff_mem]
  unfold idxI
  cases h : l.findIdx? (· == x) with
  | some i =>
    obtain ⟨hi, he, _⟩ := List.findIdx?_eq_some_iff_getElem.1 h
    exact ⟨fun _ => by have := List.getElem_mem hi; rw [show l[i] = x by simpa using he] at this; exact this, fun _ => by show (0 : Int) ≤ (i : Int); omega⟩
  | none =>
    refine ⟨fun h0 => by have h1 : (0 : Int) ≤ -1 := h0; omega, fun hm => ?_⟩
    have := (List.findIdx?_eq_none_iff.1 h) x hm
    simp at this
set_option maxHeartbeats 800000 in
theorem index_p (l : List Int) (x : Int) (v : Value) (w : World) {B H : Nat} (hv : Hid (Own w B H 3 v (iv l))) (hl : l.length ≤ 1048576) :
    Calls Try.prog 52 #[v, .int .i64 x] w fun e w' => e = .returned (.int .i64 (idxI l x)) ∧ w = w' := by
  obtain ⟨av, cv, rfl, _, hcv, _, _⟩ := hv.out.slice
  rw [iv_length] at hv hcv ⊢
  go_enter Try.func52, Try.ntmps52
  go_wp2
  go_loop [8] (fun i => ∃ k : Nat, k ≤ l.length ∧ i = .int .i64 k ∧ Hid (∀ j, j < k → l[j]? ≠ some x)) (fun i => l.length - (intOf i).toNat)
  case atStart => exact ⟨0, Nat.zero_le _, rfl, fun j hj => absurd hj (Nat.not_lt_zero _)⟩
  case round =>
    obtain ⟨k, hk, rfl, HU⟩ := hrel
    by_cases hlt : k < l.length
    · obtain ⟨g1, rfl, _, _, h1, _⟩ := hv.out.at_ k (by rw [iv_length]; exact hlt)
      rw [iv_at l k hlt] at h1
      have b1 : (k : Int) < (l.length : Int) := by omega
      have HAT := Lib.hid (fun h => idxI_at (x := x) hlt HU.out h)
      have HNO := Lib.hid (fun (h : l[k] ≠ x) (j : Nat) (hj : j < k + 1) => show l[j]? ≠ some x from by
        by_cases hjk : j = k
        · subst hjk; rw [List.getElem?_eq_getElem hlt]; simpa using h
        · exact HU.out j (by omega))
      obtain ⟨y, hy⟩ : ∃ y, y = l[k] := ⟨_, rfl⟩
      rw [← hy] at h1 HAT HNO
      clear hy
      by_cases hyx : x = y
      · have hn := Lib.hid (HAT.out hyx.symm)
        subst hyx
        clear HAT HNO
        go_wp2
        go_ret
        exact ⟨by rw [hn.out]; rfl, rfl⟩
      · have hn := Lib.hid (HNO.out fun h => hyx h.symm)
        clear HAT HNO
        go_wp2
        go_round
        case rel => exact ⟨k + 1, by omega, by go_num, hn⟩
        case measure => simp [intOf]; omega
    · obtain rfl : k = l.length := by omega
      have hn := Lib.hid (idxI_no HU.out)
      go_wp2
      go_ret
      exact ⟨by rw [hn.out]; rfl, rfl⟩
theorem contains_p (l : List Int) (x : Int) (v : Value) (w : World) {B H : Nat} (hv : Hid (Own w B H 3 v (iv l))) (hl : l.length ≤ 1048576) :
    Calls Try.prog 43 #[v, .int .i64 x] w fun e w' => e = .returned (.bool (l.contains x)) ∧ w = w' := by
  have C := Lib.hid (index_p l x v w hv hl)
  rw [← idxI_contains]
  generalize idxI l x = z at C ⊢
  go_enter Try.func43, Try.ntmps43
  go_wp2_with fail
  refine C.out.mono ?_
  rintro e w' ⟨rfl, rfl⟩
  go_wp2
  go_ret
  exact ⟨rfl, rfl⟩
end Go.Proofs.Ytchfnbcpjiiphaa
