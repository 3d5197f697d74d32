/-
  The contracts of the law's own helpers on lists of rows of numbers: two lists are the same; a list is marked; it still bears its marks.
-/
import Derived.Test.YtafdlilojlmchaaCInts
import Derived.Test.YtafdlilojlmchaaZW
namespace Go.Proofs.Ytafdlilojlmchaa
open Go.RowKit

theorem Same.trans {a b c : World} (h : Same a b) (k : Same b c) : Same a c := ⟨k.1.trans h.1, h.2.trans (k.below _)⟩

set_option maxHeartbeats 800000 in
theorem equalInts_drew (l : List Int) (u v : Value) (w : World) {B H B' H' : Nat} (hu : Hid (Own w B H 3 u (iv l))) (hv : Hid (Own w B' H' 3 v (iv l))) (hl : l.length ≤ 1048576) :
    Calls Try.prog 12 #[u, v] w fun e w' => e = .returned (.bool true) ∧ ∃ m, w' = w.drewN m := by
  obtain ⟨au, cu, rfl, _, hcu, _, _⟩ := hu.out.slice
  obtain ⟨av, cv, rfl, _, hcv, _, _⟩ := hv.out.slice
  rw [iv_length] at hu hv hcu hcv ⊢
  go_enter Try.func12, Try.ntmps12
  go_wp2
  go_loopw [5] (fun i wr => ∃ k q : Nat, k ≤ l.length ∧ i = .int .i64 k ∧ wr = w.drewN q) (fun i _ => l.length - (intOf i).toNat)
  case atStart => exact ⟨0, 0, Nat.zero_le _, rfl, rfl⟩
  case round =>
    obtain ⟨k, q, hk, rfl, rfl⟩ := hrel
    by_cases hlt : k < l.length
    · obtain ⟨g1, rfl, _, _, h1, _⟩ := hu.out.at_ k (by rw [iv_length]; exact hlt)
      obtain ⟨g2, rfl, _, _, h2, _⟩ := hv.out.at_ k (by rw [iv_length]; exact hlt)
      rw [iv_at l k hlt] at h1 h2
      obtain ⟨x, hx⟩ : ∃ x, x = l[k] := ⟨_, rfl⟩
      rw [← hx] at h1 h2
      have b1 : (k : Int) < (l.length : Int) := by omega
      clear hx
      go_wp2
      go_quiet (fail)
      go_wp2
      go_roundw
      case rel => exact ⟨k + 1, _, by omega, by go_num, rfl⟩
      case measure => simp [intOf]; omega
    · obtain rfl : k = l.length := by omega
      go_wp2
      go_ret
      exact ⟨rfl, q, rfl⟩

set_option maxHeartbeats 800000 in
theorem equalRows_yes (rows : List (List Int)) (u v : Value) (w : World) {B H B' H' : Nat} {RU RV : List Value} (hu : Hid (Grid w B H u RU rows)) (hv : Hid (Grid w B' H' v RV rows)) (hl : rows.length ≤ 1048576) (hr : ∀ r ∈ rows, r.length ≤ 1048576) :
    Calls Try.prog 16 #[u, v] w fun e w' => e = .returned (.bool true) ∧ Same w w' := by
  obtain ⟨au, cu, rfl, _, hcu, _, _⟩ := hu.out.1.slice
  obtain ⟨av, cv, rfl, _, hcv, _, _⟩ := hv.out.1.slice
  have lu := hu.out.2.1
  have lv := hv.out.2.1
  rw [lu] at hu hcu ⊢
  rw [lv] at hv hcv ⊢
  have LU := Lib.hid lu
  have LV := Lib.hid lv
  have HR := Lib.hid hr
  clear lu lv hr
  go_enter Try.func16, Try.ntmps16
  go_wp2
  go_loopw [5] (fun i wr => ∃ k : Nat, k ≤ rows.length ∧ i = .int .i64 k ∧ Hid (∃ q, wr = w.drewN q)) (fun i _ => rows.length - (intOf i).toNat)
  case atStart => exact ⟨0, Nat.zero_le _, rfl, 0, rfl⟩
  case round =>
    obtain ⟨k, hk, rfl, HS⟩ := hrel
    have hheap : wr.heap = w.heap := by obtain ⟨q, hq⟩ := HS.out; rw [hq]; rfl
    have HH := Lib.hid hheap
    clear hheap
    by_cases hlt : k < rows.length
    · obtain ⟨g1, rfl, _, _, h1, _⟩ := (hu.out.1.same HH.out).at_ k (by rw [LU.out]; exact hlt)
      obtain ⟨g2, rfl, _, _, h2, _⟩ := (hv.out.1.same HH.out).at_ k (by rw [LV.out]; exact hlt)
      obtain ⟨x, hx, ox⟩ := (hu.out.2.same HH.out).at_ k hlt
      obtain ⟨y, hy, oy⟩ := (hv.out.2.same HH.out).at_ k hlt
      rw [hx] at h1
      rw [hy] at h2
      have hrk := HR.out _ (List.getElem_mem hlt)
      have c1 : ∀ n, Calls Try.prog 12 #[x, y] (wr.drewN n) fun e w' => e = .returned (.bool true) ∧ ∃ m, w' = (wr.drewN n).drewN m := fun n =>
        equalInts_drew rows[k] _ _ _ (Lib.hid (ox.same (w' := wr.drewN n) rfl)) (Lib.hid (oy.same (w' := wr.drewN n) rfl)) hrk
      obtain ⟨ax, cx, rfl, _⟩ := ox.slice
      obtain ⟨ay, cy, rfl, _⟩ := oy.slice
      have C1 := Lib.hid c1
      have b1 : (k : Int) < (rows.length : Int) := by omega
      clear hx hy ox oy c1 hrk
      go_wp2
      go_quiet ((go_at_call 12; exact Calls.quiet_of (C1.out _)))
      go_wp2
      go_roundw
      case rel => exact ⟨k + 1, by omega, by go_num, by obtain ⟨q, hq⟩ := HS.out; exact ⟨q + nq, by rw [hq, World.drewN_drewN]⟩⟩
      case measure => simp [intOf]; omega
    · obtain rfl : k = rows.length := by omega
      go_wp2
      go_ret
      exact ⟨rfl, by obtain ⟨q, hq⟩ := HS.out; rw [hq]; exact (Same.refl w).drewN q⟩
end Go.Proofs.Ytafdlilojlmchaa
