/-
  The contracts of the law's own helpers on lists of numbers: two lists are the same; a list is marked; it still bears its marks.
-/
import Derived.Test.YtchfnbcpjiiphabZW
import Derived.Test.YtchfnbcpjiiphabProg
import Derived.WalkSpells
import Derived.WalkLawsBesides
import Derived.Lib.Hide
import Derived.BigQuiet
import Derived.Deep.QuietTactic
namespace Go.Proofs.Ytchfnbcpjiiphab
open Go.RowKit

set_option maxHeartbeats 800000 in
theorem eqInts_yes (l : List Int) (u v : Value) (w : World) {B H B' H' : Nat} (hu : Hid (Own w B H 3 u (iv l))) (hv : Hid (Own w B' H' 3 v (iv l))) (hl : l.length ≤ 1048576) :
    Calls Try.prog 11 #[u, v] w fun e w' => e = .returned (.bool true) ∧ Same w w' := by
  obtain ⟨au, cu, rfl, _, hcu, _, _⟩ := hu.out.slice
  obtain ⟨av, cv, rfl, _, hcv, _, _⟩ := hv.out.slice
  rw [iv_length] at hu hv hcu hcv ⊢
  go_enter Try.func11, Try.ntmps11
  go_wp2
  go_loopw [5] (fun i wr => ∃ k : Nat, k ≤ l.length ∧ i = .int .i64 k ∧ Hid (Same w wr)) (fun i _ => l.length - (intOf i).toNat)
  case atStart => exact ⟨0, Nat.zero_le _, rfl, Same.refl w⟩
  case round =>
    obtain ⟨k, hk, rfl, HS⟩ := hrel
    by_cases hlt : k < l.length
    · obtain ⟨g1, rfl, _, _, h1, _⟩ := (hu.out.same HS.out.1).at_ k (by rw [iv_length]; exact hlt)
      obtain ⟨g2, rfl, _, _, h2, _⟩ := (hv.out.same HS.out.1).at_ k (by rw [iv_length]; exact hlt)
      rw [iv_at l k hlt] at h1 h2
      obtain ⟨x, hx⟩ : ∃ x, x = l[k] := ⟨_, rfl⟩
      rw [← hx] at h1 h2
      have b1 : (k : Int) < (l.length : Int) := by omega
      clear hx
      go_wp2
      go_quiet (fail)
      go_wp2
      go_roundw
      case rel => exact ⟨k + 1, by omega, by go_num, HS.out.drewN _⟩
      case measure => simp [intOf]; omega
    · obtain rfl : k = l.length := by omega
      go_wp2
      go_ret
      exact ⟨rfl, HS.out⟩

/-- j marks set -/
def mk (l : List Int) (j : Nat) : List Int := (List.range j).map (fun (i : Nat) => (i : Int) + 1) ++ l.drop j
theorem mk_zero (l : List Int) : mk l 0 = l := by simp [mk]
theorem mk_length (l : List Int) (j : Nat) (h : j ≤ l.length) : (mk l j).length = l.length := by simp [mk]; omega
theorem mk_set (l : List Int) (j : Nat) (h : j < l.length) : (mk l j).set j ((j : Int) + 1) = mk l (j + 1) := by
  simp only [mk]
  rw [List.set_append_right _ _ (by simp), List.length_map, List.length_range, Nat.sub_self, List.drop_eq_getElem_cons h, List.set_cons_zero, List.range_succ, List.map_append, List.append_assoc]
  rfl
/-- n marks -/
def marks (n : Nat) : List Int := (List.range n).map fun (i : Nat) => (i : Int) + 1
theorem mk_full (l : List Int) : mk l l.length = marks l.length := by simp [mk, marks]
theorem marks_length (n : Nat) : (marks n).length = n := by simp [marks]
theorem marks_at (n k : Nat) (h : k < n) : (iv (marks n))[k]? = some (.int .i64 ((k : Int) + 1)) := by simp [iv, marks, h]

set_option maxHeartbeats 800000 in
theorem markInts_any (l : List Int) (u : Value) (w : World) {B H : Nat} (hu : Hid (Own w B H 3 u (iv l))) (hl : l.length ≤ 1048576) :
    Calls Try.prog 12 #[u, .int .i64 1] w fun e w' => e = .returned (.int .i64 ((l.length : Int) + 1)) ∧ Own w' B H 3 u (iv (marks l.length)) ∧ w.grownBy w' u.ownBlock ∧ w'.heap.size = w.heap.size := by
  obtain ⟨au, cu, rfl, hnone, hcu, hcm, hsome⟩ := hu.out.slice
  rw [iv_length] at hu hcu hnone ⊢
  go_enter Try.func12, Try.ntmps12
  go_wp2
  have Hsome := Lib.hid hsome
  have Hnone := Lib.hid hnone
  clear hsome hnone
  go_loopw [1, 5] (fun m i wr => ∃ k : Nat, k ≤ l.length ∧ i = .int .i64 k ∧ m = .int .i64 ((k : Int) + 1) ∧ Hid (Own wr B H 3 (.slice au l.length cu) (iv (mk l k)) ∧ w.grownBy wr (Value.slice au l.length cu).ownBlock ∧ wr.heap.size = w.heap.size)) (fun _ i _ => l.length - (intOf i).toNat)
  case atStart => exact ⟨0, Nat.zero_le _, rfl, rfl, by rw [mk_zero]; exact ⟨hu.out, ⟨rfl, rfl, rfl, Nat.le_refl _, fun _ _ _ => rfl⟩, rfl⟩⟩
  case round =>
    obtain ⟨k, hk, rfl, rfl, HS⟩ := hrel
    by_cases hlt : k < l.length
    · obtain ⟨g1, rfl, hB, _, h1, f1⟩ := HS.out.1.at_ k (by rw [iv_length, mk_length l k hk]; exact hlt)
      rw [iv_at (mk l k) k (by rw [mk_length l k hk]; exact hlt)] at h1
      have b1 : (k : Int) < (l.length : Int) := by omega
      have HS' : Hid (Own (wr.setCell ⟨g1, k, none⟩ (.int .i64 ((k : Int) + 1))) B H 3 (.slice (some ⟨g1, 0, none⟩) l.length cu) (iv (mk l (k + 1))) ∧ w.grownBy (wr.setCell ⟨g1, k, none⟩ (.int .i64 ((k : Int) + 1))) (Value.slice (some ⟨g1, 0, none⟩) l.length cu).ownBlock ∧ (wr.setCell ⟨g1, k, none⟩ (.int .i64 ((k : Int) + 1))).heap.size = w.heap.size) := by
        obtain ⟨ho, hg, hz⟩ := HS.out
        have hlen : (iv (mk l k)).length = l.length := by rw [iv_length, mk_length l k hk]
        have ho1 := ho.1
        rw [hlen] at ho1
        have st := ho1.stored k (.int .i64 ((k : Int) + 1))
        rw [iv_set, mk_set l k hlt] at st
        refine ⟨⟨by rw [iv_length, mk_length l (k + 1) hlt]; exact st.1, ho.2⟩, ⟨hg.os, hg.tape, hg.output, by have := hg.size; simpa using this, fun q hq hne => ?_⟩, by simpa using hz⟩
        rw [Below.heap_setCell _ _ _ _ (fun e => hne (by simp [Value.ownBlock, e]))]
        exact hg.block q hq hne
      clear HS
      go_wp2
      go_roundw
      case rel => exact ⟨k + 1, by omega, by go_num, by go_num, HS'⟩
      case measure => simp [intOf]; omega
    · obtain rfl : k = l.length := by omega
      go_wp2
      go_ret
      exact ⟨rfl, by rw [← mk_full]; exact HS.out.1, HS.out.2⟩

set_option maxHeartbeats 800000 in
theorem heldInts_any (n : Nat) (u : Value) (w : World) {B H : Nat} (hu : Hid (Own w B H 3 u (iv (marks n)))) (hl : n ≤ 1048576) :
    Calls Try.prog 13 #[u, .int .i64 1] w fun e w' => e = .returned (.int .i64 ((n : Int) + 1)) ∧ w = w' := by
  obtain ⟨au, cu, rfl, hnone, hcu, hcm, hsome⟩ := hu.out.slice
  rw [iv_length, marks_length] at hu hcu hnone ⊢
  go_enter Try.func13, Try.ntmps13
  go_wp2
  clear hsome hnone
  go_loop [1, 5] (fun m i => ∃ k : Nat, k ≤ n ∧ i = .int .i64 k ∧ m = .int .i64 ((k : Int) + 1)) (fun _ i => n - (intOf i).toNat)
  case atStart => exact ⟨0, Nat.zero_le _, rfl, rfl⟩
  case round =>
    obtain ⟨k, hk, rfl, rfl⟩ := hrel
    by_cases hlt : k < n
    · obtain ⟨g1, rfl, hB, _, h1, f1⟩ := hu.out.at_ k (by rw [iv_length, marks_length]; exact hlt)
      rw [marks_at n k hlt] at h1
      have b1 : (k : Int) < (n : Int) := by omega
      go_wp2
      go_round
      case rel => exact ⟨k + 1, by omega, by go_num, by go_num⟩
      case measure => simp [intOf]; omega
    · obtain rfl : k = n := by omega
      go_wp2
      go_ret
      exact ⟨rfl, rfl⟩
end Go.Proofs.Ytchfnbcpjiiphab
