/-
  The walk of the law that to lie flat takes what is in others, given the contracts of the program's functions on turns.
-/
import Derived.Test.YtddhiokpdhahbaaCTurnG
import Derived.Test.YtddhiokpdhahbaaCDrawK
import Derived.Test.YtddhiokpdhahbaaZE
import Derived.Test.YtddhiokpdhahbaaCDepths
import Derived.Test.YtddhiokpdhahbaaZW
namespace Go.Proofs.Ytddhiokpdhahbaa
open Go.RowKit

theorem times_cons (s : List UInt8) : ∀ n, timesL s (n + 1) = s ++ timesL s n
  | 0 => by simp [timesL]
  | n + 1 => by
    have h := times_cons s n
    show timesL s (n + 1) ++ s = s ++ timesL s (n + 1)
    rw [h, List.append_assoc, ← h]
    show s ++ (timesL s n ++ s) = s ++ timesL s (n + 1)
    rfl
theorem flat_times : ∀ k, (Tw.flat k).lst = timesL [40, 41] k
  | 0 => rfl
  | k + 1 => by rw [times_cons, ← flat_times k]; rfl
/-- as many turns as it takes to lie flat -/
theorem btw_flat {t : Tw} (h : t.size ≤ 6) : btwOut t.lst (Tw.flat t.size).lst = ((t.size - t.spine : Nat) : Int) := by
  have hf := Tw.far_flat t
  have h1 := @Tw.spine_pos t
  rw [btw_in (Tw.flat_size _).symm h, dist_far hf (by omega)]
theorem btw_no {x y : Tw} (h : 6 < y.size) : btwOut x.lst y.lst = -1 := by
  rw [btwOut, if_neg (by rw [Tw.lst_length y]; omega)]

set_option maxHeartbeats 1600000 in
theorem toFlat_walk (HF : Hid (∀ (s : ByteArray) (w : World), s.size ≤ maxLen → Calls Try.prog 19 #[.string s] w fun e w' => e = .returned (.int .i64 (flatTx s.data.toList)) ∧ Below w.heap.size w w'))
    (HB : Hid (∀ (s t : ByteArray) (w : World), s.size ≤ maxLen → t.size ≤ maxLen → Calls Try.prog 17 #[.string s, .string t] w fun e w' => e = .returned (.int .i64 (btwOut s.data.toList t.data.toList)) ∧ Below w.heap.size w w'))
    (a : Option Addr) (len cap : Nat) (zs : List Int) (w : World) (hr0 : IsRow .u8 w a len cap zs) :
    Calls Try.prog 6 #[.slice a len cap] w fun e w' => e = .returned (.bool true) ∧ Below w.heap.size w w' := by
  have hr := Lib.hid hr0
  clear hr0
  by_cases hbig : (1048576 : Int) < (len : Int)
  · go_enter Try.func6, Try.ntmps6
    go_wp2
    go_ret
    exact ⟨rfl, Below.refl _ _⟩
  · go_enter Try.func6, Try.ntmps6
    go_wp2_with fail
    refine (drawTurnsToFlat a len cap zs w hr (by omega)).mono ?_
    rintro e w1 ⟨s, rfl, hs60, hb⟩
    have hsm : s.size ≤ maxLen := by unfold maxLen; omega
    have B1 := Lib.hid hb
    clear hb hr
    have c1 := fun w => HF.out s w hsm
    have c2 := fun w => specToFlat_any s w hsm
    cases hv : valid s.data.toList with
    | false =>
      have e1 : flatTx s.data.toList = -1 := by rw [flatTx, if_neg (by rw [hv]; decide)]
      rw [e1] at c1 c2
      have C1 := Lib.hid c1
      have C2 := Lib.hid c2
      clear c1 c2 e1 hv
      go_wp2_with fail
      refine (C1.out _).mono ?_
      rintro e w2 ⟨rfl, hb⟩
      have B2 := Lib.hid (B1.out.trans (hb.mono B1.out.size))
      clear hb
      go_wp2_with fail
      refine (C2.out _).mono ?_
      rintro e w3 ⟨rfl, rfl⟩
      go_wp2_with fail
      refine (C2.out _).mono ?_
      rintro e w4 ⟨rfl, rfl⟩
      go_wp2
      go_ret
      exact ⟨rfl, B2.out⟩
    | true =>
      obtain ⟨t, ht, h9⟩ := valid_tree hv
      have hle := Tw.spine_le t
      obtain ⟨D, hD⟩ : ∃ D, D = t.size - t.spine := ⟨_, rfl⟩
      have e1 : flatTx s.data.toList = (D : Int) := by rw [ht, flatTx_in h9]; omega
      rw [e1] at c1 c2
      obtain ⟨M, hM⟩ : ∃ M, M = t.size := ⟨_, rfl⟩
      have hl := Tw.lst_length t
      rw [← ht, size_list] at hl
      have hM9 : M ≤ 9 := by omega
      have q2 : (s.size : Int) / 2 = (M : Int) := by omega
      have q3 : Int.tdiv (s.size : Int) 2 = (M : Int) := by rw [Int.tdiv_eq_ediv_of_nonneg (by omega)]; omega
      have c3 := fun w => times_any ⟨#[40, 41]⟩ M (by omega) (by show 2 ≤ 100; omega) w
      have e3 : timesL (ByteArray.mk #[40, 41]).data.toList M = (Tw.flat t.size).lst := by rw [hM, flat_times]
      rw [e3] at c3
      obtain ⟨F, hF⟩ : ∃ F : ByteArray, F = ⟨(Tw.flat t.size).lst.toArray⟩ := ⟨_, rfl⟩
      have hFl : F.data.toList = (Tw.flat t.size).lst := by rw [hF]
      have hFs : F.size = 2 * M := by rw [← size_list, hFl, Tw.lst_length, Tw.flat_size, hM]
      rw [← hF] at c3
      have c4 := fun w => HB.out s F w hsm (by unfold maxLen; omega)
      rw [ht, hFl] at c4
      have c5 := fun w => implDepths_any s w hsm
      rw [depOut, if_pos hv] at c5
      have hdp : deepL (depthsL s.data.toList) = D := by rw [ht, deep_tree, hD]
      have hln : (depthsL s.data.toList).length ≤ 18 := by
        have := depOut_length s
        rwa [depOut, if_pos hv] at this
      obtain ⟨L, hL⟩ : ∃ L, L = depthsL s.data.toList := ⟨_, rfl⟩
      rw [← hL] at c5 hdp hln
      obtain ⟨N, hN, hn2⟩ : ∃ N : Int, btwOut t.lst (Tw.flat t.size).lst = N ∧ (N = -1 ∨ N = D) := by
        by_cases h6 : t.size ≤ 6
        · exact ⟨D, by rw [btw_flat h6, hD], .inr rfl⟩
        · exact ⟨-1, btw_no (by rw [Tw.flat_size]; omega), .inl rfl⟩
      rw [hN] at c4
      have C1 := Lib.hid c1
      have C2 := Lib.hid c2
      have C3 := Lib.hid c3
      have C4 := Lib.hid c4
      have C5 := Lib.hid c5
      have DP := Lib.hid hdp
      clear c1 c2 c3 c4 c5 e1 e3 hv ht h9 hle hD hM hl hF hFl hFs hL hN hdp
      go_wp2_with fail
      refine (C1.out _).mono ?_
      rintro e w2 ⟨rfl, hb⟩
      have B2 := Lib.hid (B1.out.trans (hb.mono B1.out.size))
      clear hb
      go_wp2_with fail
      refine (C2.out _).mono ?_
      rintro e w3 ⟨rfl, rfl⟩
      go_wp2_with fail
      refine (C3.out _).mono ?_
      rintro e w4 ⟨rfl, rfl⟩
      go_wp2_with fail
      refine (C4.out _).mono ?_
      rintro e w5 ⟨rfl, hb⟩
      have B5 := Lib.hid (B2.out.trans (hb.mono B2.out.size))
      clear hb
      go_wp2_with fail
      refine (C5.out _).mono ?_
      rintro e w6 ⟨v, rfl, ho, hb⟩
      have B6 := Lib.hid (B5.out.trans (hb.mono B5.out.size))
      obtain ⟨av, cv, rfl, _, _, _, _⟩ := ho.slice
      rw [iv_length] at ho ⊢
      have OW := Lib.hid ho
      clear ho hb C1 C2 C3 C4 C5
      go_wp2
      go_loopw [6, 8] (fun dp i wr => ∃ k m : Nat, k ≤ L.length ∧ m ≤ k ∧ dp = .int .i64 m ∧ i = .int .i64 k ∧ Hid (m = deepL (L.take k)) ∧ w6 = wr) (fun _ i _ => L.length - (intOf i).toNat)
      case atStart => exact ⟨0, 0, Nat.zero_le _, Nat.le_refl _, rfl, rfl, rfl, rfl⟩
      case round =>
        obtain ⟨k, m, hk, hm, rfl, rfl, MM, rfl⟩ := hrel
        by_cases hlt : k < L.length
        · obtain ⟨g1, rfl, _, _, h1, _⟩ := OW.out.at_ k (by rw [iv_length]; exact hlt)
          rw [iv_at L k hlt] at h1
          have b1 : (k : Int) < (L.length : Int) := by omega
          have ST := deep_step L k hlt
          obtain ⟨y, hy⟩ : ∃ y, y = L[k] := ⟨_, rfl⟩
          rw [← hy] at h1 ST
          rw [← MM.out] at ST
          clear hy
          by_cases hy0 : 0 < y
          · rw [if_pos hy0] at ST
            have ST := Lib.hid ST.symm
            go_wp2
            go_roundw
            case rel => exact ⟨k + 1, m + 1, by omega, by omega, by go_num, by go_num, ST, by simp⟩
            case measure => simp [intOf]; omega
          · rw [if_neg hy0] at ST
            have ST := Lib.hid ST.symm
            have hy1 : y ≤ 0 := by omega
            go_wp2
            go_roundw
            case rel => exact ⟨k + 1, m, by omega, by omega, rfl, by go_num, ST, by simp⟩
            case measure => simp [intOf]; omega
        · obtain rfl : k = L.length := by omega
          obtain rfl : m = D := by rw [MM.out, List.take_of_length_le (Nat.le_refl _)]; exact DP.out
          clear MM DP
          rcases hn2 with rfl | rfl
          · go_wp2
            go_ret
            exact ⟨rfl, B6.out⟩
          · have q9 : (0 : Int) ≤ (m : Int) := by omega
            go_wp2
            go_ret
            exact ⟨rfl, B6.out⟩
end Go.Proofs.Ytddhiokpdhahbaa
