/-
  The contracts of the law's own helpers on lists of numbers: two lists are the same; a list is marked; it still bears its marks.
-/
import Derived.Test.YthgiecpebmcooaaZW
import Derived.Test.YthgiecpebmcooaaProg
import Derived.WalkSpells
import Derived.WalkLawsBesides
import Derived.Lib.Hide
import Derived.BigQuiet
import Derived.Deep.QuietTactic
namespace Go.Proofs.Ythgiecpebmcooaa
open Go.RowKit

set_option maxHeartbeats 800000 in
theorem eqInts_yes (l : List Int) (u v : Value) (w : World) {B H B' H' : Nat} (hu : Hid (Own w B H 3 u (iv l))) (hv : Hid (Own w B' H' 3 v (iv l))) (hl : l.length ≤ 1048576) :
    Calls Try.prog 13 #[u, v] w fun e w' => e = .returned (.bool true) ∧ Same w w' := by
  obtain ⟨au, cu, rfl, _, hcu, _, _⟩ := hu.out.slice
  obtain ⟨av, cv, rfl, _, hcv, _, _⟩ := hv.out.slice
  rw [iv_length] at hu hv hcu hcv ⊢
  go_enter Try.func13, Try.ntmps13
  go_wp2
  go_loopw [5] (fun i wr => ∃ k : Nat, k ≤ l.length ∧ i = .int .i64 k ∧ Hid (Same w wr)) (fun i _ => l.length - (intOf i).toNat)
  case atStart => exact ⟨0, Nat.zero_le _, rfl, Same.refl w⟩
  case round =>
    obtain ⟨k, hk, rfl, HS⟩ := hrel
    by_cases hlt : k < l.length
    · obtain ⟨g1, rfl, _, _, h1, _⟩ := (hu.out.same HS.out.1).at_ k (by rw [iv_length]; exact hlt)
      obtain ⟨g2, rfl, _, _, h2, _⟩ := (hv.out.same HS.out.1).at_ k (by rw [iv_length]; exact hlt)
      rw [iv_at l k hlt] at h1 h2
      obtain ⟨x, hx⟩ : ∃ x, x = l[k] := ⟨_, rfl⟩
      rw [← hx] at h1 h2
      have b1 : (k : Int) < (l.length : Int) := by omega
      clear hx
      go_wp2
      go_quiet (fail)
      go_wp2
      go_roundw
      case rel => exact ⟨k + 1, by omega, by go_num, HS.out.drewN _⟩
      case measure => simp [intOf]; omega
    · obtain rfl : k = l.length := by omega
      go_wp2
      go_ret
      exact ⟨rfl, HS.out⟩

/-- j marks set -/
def mk (l : List Int) (j : Nat) : List Int := (List.range j).map (fun (i : Nat) => (i : Int) + 1) ++ l.drop j
theorem mk_zero (l : List Int) : mk l 0 = l := by simp [mk]
theorem mk_length (l : List Int) (j : Nat) (h : j ≤ l.length) : (mk l j).length = l.length := by simp [mk]; omega
theorem mk_set (l : List Int) (j : Nat) (h : j < l.length) : (mk l j).set j ((j : Int) + 1) = mk l (j + 1) := by
  simp only [mk]
  rw [List.set_append_right _ _ (by simp), List.length_map, List.length_range, Nat.sub_self, List.drop_eq_getElem_cons h, List.set_cons_zero, List.range_succ, List.map_append, List.append_assoc]
  rfl
/-- n marks -/
def marks (n : Nat) : List Int := (List.range n).map fun (i : Nat) => (i : Int) + 1
theorem mk_full (l : List Int) : mk l l.length = marks l.length := by simp [mk, marks]
theorem marks_length (n : Nat) : (marks n).length = n := by simp [marks]
theorem marks_at (n k : Nat) (h : k < n) : (iv (marks n))[k]? = some (.int .i64 ((k : Int) + 1)) := by simp [iv, marks, h]

end Go.Proofs.Ythgiecpebmcooaa
