/-
  The contracts of the program's ValidWishes, FewWish and CountPark, of rows in a call's own memory.
-/
import Derived.Test.YtchfnbcpjiiphabCInts
import Derived.Test.YtchfnbcpjiiphabZW
namespace Go.Proofs.Ytchfnbcpjiiphab
open Go.RowKit

set_option maxHeartbeats 800000 in
theorem validWishes_p (l : List Int) (v : Value) (w : World) {B H : Nat} (hv : Hid (Own w B H 3 v (iv l))) (hl : l.length ≤ 1048576) :
    Calls Try.prog 24 #[v] w fun e w' => e = .returned (.bool (wishB l)) ∧ w = w' := by
  obtain ⟨av, cv, rfl, _, hcv, _, _⟩ := hv.out.slice
  rw [iv_length] at hv hcv ⊢
  go_enter Try.func24, Try.ntmps24
  go_wp2
  go_loop [7] (fun i => ∃ k : Nat, k ≤ l.length ∧ i = .int .i64 k ∧ Hid (wishUp l k = true)) (fun i => l.length - (intOf i).toNat)
  case atStart => exact ⟨0, Nat.zero_le _, rfl, rfl⟩
  case round =>
    obtain ⟨k, hk, rfl, HU⟩ := hrel
    by_cases hlt : k < l.length
    · obtain ⟨g1, rfl, _, _, h1, _⟩ := hv.out.at_ k (by rw [iv_length]; exact hlt)
      rw [iv_at l k hlt] at h1
      have b1 : (k : Int) < (l.length : Int) := by omega
      have HAT := Lib.hid (wishUp_step hlt)
      have HNO := Lib.hid (fun h => wishB_no (l := l) hlt h)
      obtain ⟨y, hy⟩ : ∃ y, y = l[k] := ⟨_, rfl⟩
      rw [← hy] at h1 HAT HNO
      clear hy
      by_cases hy0 : y < 0
      · have hn := Lib.hid (HNO.out (decide_eq_false (by omega)))
        clear HAT HNO
        go_wp2
        go_ret
        exact ⟨by rw [hn.out]; rfl, rfl⟩
      · by_cases hyn : (l.length : Int) < y
        · have hn := Lib.hid (HNO.out (decide_eq_false (by omega)))
          clear HAT HNO
          go_wp2
          go_ret
          exact ⟨by rw [hn.out]; rfl, rfl⟩
        · have HU2 : Hid (wishUp l (k + 1) = true) := by show _ = _; rw [HAT.out, HU.out, Bool.true_and]; exact decide_eq_true ⟨by omega, by omega⟩
          clear HAT HNO
          go_wp2
          go_round
          case rel => exact ⟨k + 1, by omega, by go_num, HU2⟩
          case measure => simp [intOf]; omega
    · obtain rfl : k = l.length := by omega
      have hy := Lib.hid (wishB_full HU.out)
      have hd : decide (l.length ≤ 8) = decide ((l.length : Int) ≤ 8) := by rw [decide_eq_decide]; omega
      rw [hd] at hy
      go_wp2
      go_ret
      exact ⟨by rw [hy.out]; rfl, rfl⟩

end Go.Proofs.Ytchfnbcpjiiphab
