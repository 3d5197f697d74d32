/-
  The contracts of the two functions that say how many words there are of so many pairs.
-/
import Derived.Test.YtgomhleaonajjaaCCount
import Derived.Test.YtgomhleaonajjaaCRange
namespace Go.Proofs.Ytgomhleaonajjaa
open Go.RowKit

set_option maxHeartbeats 1600000 in
theorem implCount_in (n : Nat) (hn : n ≤ 9) (w : World) :
    Calls Try.prog 5 #[.int .i64 n] w fun e w' => e = .returned (.int .i64 (cat n)) ∧ Below w.heap.size w w' := by
  obtain ⟨i0, hi, hz0, hz1, hz2⟩ := info_parts Try.infoInt
  have d1 : decide ((n : Int) < 0) = false := decide_eq_false (by omega)
  have d2 : (n : Int) ≤ 9 := by omega
  obtain ⟨G, hG⟩ : ∃ G, G = w.heap.size := ⟨_, rfl⟩
  go_enter Try.func5, Try.ntmps5
  go_wp2_with (at_make; refine wpList_make_full _ rfl _ _ 31 rfl w.heap.size 3 i0 (.int .i64 0) 1 Try.underlying31 hi hz0 hz1 _ _ _ _ (n + 1) rfl rfl (by omega) (by omega) ?b2 ?b3 (Nat.le_refl _) ?_)
  case b2 => rw [hz2]; omega
  case b3 => unfold maxLen; omega
  intro w1 hown hgrow
  have hb1 : Below w.heap.size w w1 := (Below.refl _ _).grown hgrow (Nat.le_refl _) (fun k hk => by cases hk)
  rw [show (madeCells #[Value.int .i64 0] (n + 1)).toList = List.replicate (n + 1) (Value.int .i64 0) from toList_madeCells_one _ _, ← hG] at hown
  have hc0 := (hown.cellAt 0 (by omega)).trans (show _ = some (Value.int .i64 0) by simp)
  have hf0 := hown.frozenAt 0
  have hp0 : 0 < n + 1 := by omega
  have hown1 := (hown.stored 0 (.int .i64 1)).1
  rw [arrV_start] at hown1
  have hb2 := hb1.setCell (p := ⟨G, 0, none⟩) (by show _ ≤ G; omega) (.int .i64 1)
  rw [← hG]
  have HG := Lib.hid hG
  clear hG hown hgrow hb1
  go_wp2
  have hGn : w.heap.size ≤ G := by have := HG.out; omega
  go_loopw [4] (fun i wr => ∃ p : Nat, 1 ≤ p ∧ p ≤ n + 1 ∧ i = .int .i64 p ∧ wr.ownsRow G 3 1 (.slice (some ⟨G, 0, none⟩) (n + 1) (n + 1)) (n + 1) (arrV n p 0) ∧ Below w.heap.size w wr) (fun i _ => n + 1 - (intOf i).toNat)
  case atStart => exact ⟨1, by omega, by omega, rfl, hown1, hb2⟩
  case round =>
    clear hown1 hb2 hc0 hf0 hp0
    obtain ⟨p, hp1, hpn, rfl, hown, hb⟩ := hrel
    by_cases hlt : p ≤ n
    · go_wp2
      obtain ⟨wo, rfl⟩ : ∃ wo : World, wo = wr := ⟨_, rfl⟩
      go_loopw [24] (fun i wi => ∃ j : Nat, j ≤ p ∧ i = .int .i64 j ∧ wi.ownsRow G 3 1 (.slice (some ⟨G, 0, none⟩) (n + 1) (n + 1)) (n + 1) (arrV n p j) ∧ Below w.heap.size w wi) (fun i _ => p - (intOf i).toNat)
      case atStart => exact ⟨0, Nat.zero_le _, rfl, hown, hb⟩
      case round =>
        clear hown hb
        obtain ⟨j, hj, rfl, hown, hb⟩ := hrel
        by_cases hjp : j < p
        · have h1 := (hown.cellAt j (by omega)).trans (arrV_lo n p j j (by omega) hjp)
          have h2 := (hown.cellAt (p - 1 - j) (by omega)).trans (arrV_lo n p j (p - 1 - j) (by omega) (by omega))
          have h3 := (hown.cellAt p (by omega)).trans (arrV_mid n p j (by omega))
          have f3 := hown.frozenAt p
          have hown2 := (hown.stored p (.int .i64 (ps p j + cat j * cat (p - 1 - j)))).1
          rw [arrV_set] at hown2
          have hb3 := hb.setCell (p := ⟨G, p, none⟩) hGn (.int .i64 (ps p j + cat j * cat (p - 1 - j)))
          have hpb := ps_bd p (by omega) j hj
          have hpr := prod_bd p (by omega) j hjp
          have hnx := ps_bd p (by omega) (j + 1) hjp
          have hps : ps p (j + 1) = ps p j + cat j * cat (p - 1 - j) := rfl
          rw [hps] at hnx
          obtain ⟨A, hA⟩ : ∃ A, A = cat j := ⟨_, rfl⟩
          obtain ⟨B, hB⟩ : ∃ B, B = cat (p - 1 - j) := ⟨_, rfl⟩
          obtain ⟨X, hX⟩ : ∃ X, X = ps p j := ⟨_, rfl⟩
          rw [← hA] at h1 hpr hnx hown2 hb3
          rw [← hB] at h2 hpr hnx hown2 hb3
          rw [← hX] at h3 hpb hnx hown2 hb3
          have w1 : IntKind.i64.wrap (A * B) = A * B := by rw [IntKind.wrap_i64]; omega
          have w2 : IntKind.i64.wrap (X + A * B) = X + A * B := by rw [IntKind.wrap_i64]; omega
          have e0 : ((p : Int) - 1 - (j : Int)).toNat = p - 1 - j := by omega
          have b1 : (0 : Int) ≤ (p : Int) - 1 - (j : Int) := by omega
          have b2 : (p : Int) - 1 - (j : Int) < (n : Int) + 1 := by omega
          have b3 : (j : Int) < (n : Int) + 1 := by omega
          have b4 : (p : Int) < (n : Int) + 1 := by omega
          have b5 : p - 1 - j < n + 1 := by omega
          have b6 : j < n + 1 := by omega
          have b7 : p < n + 1 := by omega
          clear hA hB hX hps hown hb
          go_wp2
          go_region
          all_goals
            go_wp2
            go_roundw
            case rel => exact ⟨j + 1, by omega, by go_num, hown2.drew, hb3.drew⟩
            case measure => simp [intOf]; omega
        · obtain rfl : j = p := by omega
          rw [arrV_next n j hp1 (by omega)] at hown
          go_wp2
          go_roundw
          case rel => exact ⟨j + 1, by omega, by omega, by go_num, hown, hb⟩
          case measure => simp [intOf]; omega
    · obtain rfl : p = n + 1 := by omega
      have h1 := (hown.cellAt n (by omega)).trans (arrV_lo n (n + 1) 0 n (by omega) (by omega))
      have b6 : n < n + 1 := by omega
      go_wp2
      go_ret
      exact ⟨rfl, hb⟩

theorem implCount_out (n : Int) (h : n < 0 ∨ 9 < n) (w : World) :
    Calls Try.prog 5 #[.int .i64 n] w fun e w' => e = .returned (.int .i64 (-1)) ∧ Below w.heap.size w w' := by
  by_cases h0 : n < 0
  · go_enter Try.func5, Try.ntmps5
    go_wp2
    go_ret
    exact ⟨rfl, Below.refl _ _⟩
  · have h1 : 9 < n := by omega
    have h2 : 0 ≤ n := by omega
    go_enter Try.func5, Try.ntmps5
    go_wp2
    go_ret
    exact ⟨rfl, Below.refl _ _⟩

theorem specCount_out (n : Int) (h : n < 0 ∨ 9 < n) (w : World) :
    Calls Try.prog 6 #[.int .i64 n] w fun e w' => e = .returned (.int .i64 (-1)) ∧ Below w.heap.size w w' := by
  have H := Lib.hid h
  clear h
  go_enter Try.func6, Try.ntmps6
  go_wp2_with (go_at_call 10; refine (inRange_no _ _ _ _ H.out).mono ?_; rintro e w' ⟨rfl, rfl⟩)
  go_ret
  exact ⟨rfl, Below.refl _ _⟩

theorem specCount_in (n : Nat) (hn : n ≤ 9) (w : World) :
    Calls Try.prog 6 #[.int .i64 n] w fun e w' => e = .returned (.int .i64 (cat n)) ∧ Below w.heap.size w w' := by
  go_enter Try.func6, Try.ntmps6
  go_wp2_with (first
    | (go_at_call 10; refine (inRange_yes _ _ _ _ (by omega) (by omega)).mono ?_; rintro e w' ⟨rfl, rfl⟩))
  refine (counts_any n hn w).mono ?_
  rintro e w1 ⟨v, rfl, hown, hb, _⟩
  rw [catV_length] at hown
  obtain ⟨g, cap, rfl, hg, hgl, hc, hcm⟩ := own_form hown (by omega)
  have hcell := (hown.cellAt n (by omega)).trans (catV_at (n + 1) n (by omega))
  have b1 : n < n + 1 := by omega
  go_wp2
  go_ret
  exact ⟨rfl, hb⟩

theorem implCount_any (n : Int) (w : World) :
    Calls Try.prog 5 #[.int .i64 n] w fun e w' => e = .returned (.int .i64 (catOut n)) ∧ Below w.heap.size w w' := by
  by_cases h : 0 ≤ n ∧ n ≤ 9
  · obtain ⟨k, rfl⟩ : ∃ k : Nat, n = k := ⟨n.toNat, by omega⟩
    rw [catOut_in k (by omega)]
    exact implCount_in k (by omega) w
  · rw [catOut_out n (by omega)]
    exact implCount_out n (by omega) w
theorem specCount_any (n : Int) (w : World) :
    Calls Try.prog 6 #[.int .i64 n] w fun e w' => e = .returned (.int .i64 (catOut n)) ∧ Below w.heap.size w w' := by
  by_cases h : 0 ≤ n ∧ n ≤ 9
  · obtain ⟨k, rfl⟩ : ∃ k : Nat, n = k := ⟨n.toNat, by omega⟩
    rw [catOut_in k (by omega)]
    exact specCount_in k (by omega) w
  · rw [catOut_out n (by omega)]
    exact specCount_out n (by omega) w
end Go.Proofs.Ytgomhleaonajjaa
