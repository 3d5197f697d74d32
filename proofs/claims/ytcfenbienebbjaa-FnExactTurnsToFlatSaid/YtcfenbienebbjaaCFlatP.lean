/-
  The contract of the program's function that answers how many turns lead to pairs beside each other.
-/
import Derived.Test.YtcfenbienebbjaaCTurnG
import Derived.Test.YtcfenbienebbjaaCDepths
import Derived.Test.YtcfenbienebbjaaZW
namespace Go.Proofs.Ytcfenbienebbjaa
open Go.RowKit

theorem deep_le (l : List Int) : deepL l ≤ l.length := List.countP_le_length
theorem Tw.dl_length : ∀ (t : Tw) (d : Nat), (t.dl d).length = t.size
  | .e, _ => rfl
  | .n a b, d => by
    simp only [Tw.dl, Tw.size, List.length_cons, List.length_append, dl_length a, dl_length b]
    omega
set_option maxHeartbeats 800000 in
theorem implToFlat_yes (s : ByteArray) (w : World) (hv : Hid (valid s.data.toList = true)) :
    Calls Try.prog 17 #[.string s] w fun e w' => e = .returned (.int .i64 (deepL (depthsL s.data.toList) : Nat)) ∧ Below w.heap.size w w' := by
  have h18 := valid_size hv.out
  have hsm : s.size ≤ maxLen := by unfold maxLen; omega
  have hDl : (depthsL s.data.toList).length ≤ 18 := by
    obtain ⟨t, ht, h9⟩ := valid_tree hv.out
    rw [ht, Tw.depths_dl, List.length_map, Tw.dl_length]
    omega
  obtain ⟨D, hD⟩ : ∃ D, D = depthsL s.data.toList := ⟨_, rfl⟩
  have HI := Lib.hid (fun w => implDepths_yes s w hv)
  rw [← hD] at HI hDl ⊢
  clear hD
  go_enter Try.func17, Try.ntmps17
  go_wp2_with (first
    | (go_at_call 21; refine (implValid_is true _ _ hsm hv).mono ?_; rintro e w1 ⟨rfl, hb1⟩)
    | (go_at_call 33; refine (HI.out _).mono ?_; rintro e w2 ⟨v, rfl, hd, hb2⟩; obtain ⟨av, cv, rfl, _, hcv, _, _⟩ := hd.slice; rw [iv_length] at hd hcv ⊢))
  have HD := Lib.hid hd
  have HB := Lib.hid (hb1.trans (hb2.mono hb1.size))
  clear hd hb1 hb2 HI hv
  go_loopw [3, 12] (fun n i wr => ∃ k q : Nat, k ≤ D.length ∧ q ≤ k ∧ n = .int .i64 q ∧ i = .int .i64 k ∧ Hid (deepL (D.take k) = q) ∧ wr = w2) (fun _ i _ => D.length - (intOf i).toNat)
  case atStart => exact ⟨0, 0, Nat.zero_le _, Nat.le_refl _, rfl, rfl, rfl, rfl⟩
  case round =>
    obtain ⟨k, q, hk, hq, rfl, rfl, HQ, rfl⟩ := hrel
    by_cases hlt : k < D.length
    · obtain ⟨g, rfl, _, _, hc, _⟩ := HD.out.at_ k (by rw [iv_length]; exact hlt)
      rw [iv_at D k hlt] at hc
      have b1 : (k : Int) < (D.length : Int) := by omega
      have ST := deep_step D k hlt
      rw [HQ.out] at ST
      obtain ⟨z, hz⟩ : ∃ z, z = D[k] := ⟨_, rfl⟩
      rw [← hz] at hc ST
      by_cases hp : 0 < z
      · rw [if_pos hp] at ST
        have ST := Lib.hid ST
        clear hz
        go_wp2
        go_roundw
        case rel => exact ⟨k + 1, q + 1, by omega, by omega, by go_num, by go_num, ST, by simp⟩
        case measure => simp [intOf]; omega
      · rw [if_neg hp] at ST
        have ST := Lib.hid ST
        have hp2 : z ≤ 0 := by omega
        clear hz hp
        go_wp2
        go_roundw
        case rel => exact ⟨k + 1, q, by omega, by omega, rfl, by go_num, ST, by simp⟩
        case measure => simp [intOf]; omega
    · obtain rfl : k = D.length := by omega
      have HQ2 : Hid (deepL D = q) := by have := HQ.out; rw [List.take_length] at this; exact this
      go_wp2
      go_ret
      exact ⟨by rw [HQ2.out]; rfl, HB.out⟩
theorem implToFlat_any (s : ByteArray) (w : World) (hs : s.size ≤ maxLen) :
    Calls Try.prog 17 #[.string s] w fun e w' => e = .returned (.int .i64 (flatTx s.data.toList)) ∧ Below w.heap.size w w' := by
  cases hv : valid s.data.toList with
  | false =>
    rw [flatTx, if_neg (by rw [hv]; decide)]
    go_enter Try.func17, Try.ntmps17
    go_wp2_with (go_at_call 21; refine (implValid_is false _ _ hs hv).mono ?_; rintro e w1 ⟨rfl, hb⟩)
    go_ret
    exact ⟨rfl, by assumption⟩
  | true =>
    obtain ⟨t, h, h9⟩ := valid_tree hv
    have e1 : flatTx s.data.toList = ((deepL (depthsL s.data.toList) : Nat) : Int) := by
      have := Tw.spine_le t
      rw [h, flatTx_in h9, deep_tree]; omega
    rw [e1]
    exact implToFlat_yes s w hv
end Go.Proofs.Ytcfenbienebbjaa
