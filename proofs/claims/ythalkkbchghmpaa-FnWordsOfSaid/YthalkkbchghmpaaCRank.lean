/-
  The contracts of the functions that say a word's rank.
-/
import Derived.Test.YthalkkbchghmpaaCEnds
import Derived.Test.YthalkkbchghmpaaCMirror
import Derived.Test.YthalkkbchghmpaaWRank
namespace Go.Proofs.Ythalkkbchghmpaa
open Go.RowKit

def rankOut (s : List UInt8) : Int := if valid s = true then (rankL s : Nat) else -1

theorem cmp40 {s : ByteArray} {k : Nat} (hk : k < s.size) : ((s[k].toNat : Int) == 40) = true → (s.data.toList[k]'hk).toNat = 40 := fun h => by have := eq_of_beq h; rw [get_list s k hk]; omega
theorem cmp40n {s : ByteArray} {k : Nat} (hk : k < s.size) : ((s[k].toNat : Int) == 40) = false → (s.data.toList[k]'hk).toNat ≠ 40 := fun h => by have := ne_of_beq_false h; rw [get_list s k hk]; omega

set_option maxHeartbeats 1600000 in
theorem specRank_in (s : ByteArray) (hv : valid s.data.toList = true) (w : World) :
    Calls Try.prog 46 #[.string s] w fun e w' => e = .returned (.int .i64 (rankL s.data.toList : Nat)) ∧ w = w' := by
  have h18 : s.size ≤ 18 := (valid_scan hv).2
  have h0 := Rk.start hv
  rw [size_list] at h0
  have H0 := Lib.hid h0
  have HV := Lib.hid hv
  obtain ⟨M, hM⟩ : ∃ M, M = s.size / 2 := ⟨_, rfl⟩
  have q2 : (s.size : Int) / 2 = (M : Int) := by omega
  have q3 : Int.tdiv (s.size : Int) 2 = (M : Int) := by rw [Int.tdiv_eq_ediv_of_nonneg (by omega)]; omega
  rw [← hM] at H0
  have HM := Lib.hid hM
  clear hM
  clear h0 hv
  go_enter Try.func46, Try.ntmps46
  go_wp2
  go_loop [3, 4, 5, 6] (fun a b c d => ∃ k r o l : Nat, k ≤ s.size ∧ a = .int .i64 r ∧ b = .int .i64 o ∧ c = .int .i64 l ∧ d = .int .i64 k ∧ Hid (Rk s.data.toList k r o l)) (fun _ _ _ d => s.size - (intOf d).toNat)
  case atStart => exact ⟨0, 0, 0, M, Nat.zero_le _, rfl, rfl, rfl, rfl, H0⟩
  case round =>
    obtain ⟨k, r, o, l, hk, rfl, rfl, rfl, rfl, H⟩ := hrel
    by_cases hlt : k < s.size
    · by_cases hc : ((s[k].toNat : Int) == 40) = true
      · obtain ⟨n1, n2, n3⟩ := H.out.opn HV.out hlt (cmp40 hlt hc)
        have N1 := Lib.hid n1
        have b1 : (k : Int) < (s.size : Int) := by omega
        clear n1
        go_wp2
        go_round
        case rel => exact ⟨k + 1, r, o + 1, l - 1, by omega, rfl, by go_num, by go_num, by go_num, N1⟩
        case measure => simp [intOf]; omega
      · have hc' : ((s[k].toNat : Int) == 40) = false := by simpa using hc
        obtain ⟨n1, n2, n3, n4, n5⟩ := H.out.cls HV.out hlt (cmp40n hlt hc')
        by_cases hl : 0 < l
        · rw [if_pos hl] at n1
          have y := ee_bd (l - 1) (by omega) (o + 1) (by omega)
          have i1 := fun w => specEnds_in _ (o + 1) (l - 1) ((o : Int) + 1) ((l : Int) - 1) w rfl (by omega) (by omega) (by omega)
          obtain ⟨X, hX⟩ : ∃ X, X = ee (l - 1) (o + 1) := ⟨_, rfl⟩
          rw [← hX] at n1 y i1
          have N1 := Lib.hid n1
          have I1 := Lib.hid i1
          have b1 : (k : Int) < (s.size : Int) := by omega
          have b2 : (0 : Int) < (l : Int) := by omega
          clear n1 i1 hX hc
          go_wp2_with fail
          refine (I1.out _).mono ?_
          rintro e w1 ⟨rfl, rfl⟩
          go_wp2
          go_round
          case rel => exact ⟨k + 1, r + X, o - 1, l, by omega, by go_num, by go_num, rfl, by go_num, N1⟩
          case measure => simp [intOf]; omega
        · obtain rfl : l = 0 := by omega
          rw [if_neg hl] at n1
          have N1 := Lib.hid n1
          have b1 : (k : Int) < (s.size : Int) := by omega
          clear n1 hc hl
          go_wp2
          go_round
          case rel => exact ⟨k + 1, r, o - 1, 0, by omega, rfl, by go_num, rfl, by go_num, N1⟩
          case measure => simp [intOf]; omega
    · have he := Lib.hid (H.out.stop (by rw [size_list]; omega))
      have b1 : (s.size : Int) ≤ (k : Int) := by omega
      go_wp2
      go_ret
      exact ⟨by rw [he.out]; rfl, rfl⟩

set_option maxHeartbeats 1600000 in
theorem implRank_in (s : ByteArray) (hv : valid s.data.toList = true) (w : World) :
    Calls Try.prog 17 #[.string s] w fun e w' => e = .returned (.int .i64 (rankL s.data.toList : Nat)) ∧ Below w.heap.size w w' := by
  have h18 : s.size ≤ 18 := (valid_scan hv).2
  have hmx : s.size ≤ maxLen := by unfold maxLen; omega
  have h0 := Rk.start hv
  rw [size_list] at h0
  have H0 := Lib.hid h0
  have HV := Lib.hid hv
  obtain ⟨M, hM⟩ : ∃ M, M = s.size / 2 := ⟨_, rfl⟩
  have q2 : (s.size : Int) / 2 = (M : Int) := by omega
  have q3 : Int.tdiv (s.size : Int) 2 = (M : Int) := by rw [Int.tdiv_eq_ediv_of_nonneg (by omega)]; omega
  rw [← hM] at H0
  have HM := Lib.hid hM
  clear hM
  have c0 := implValid_any s w hmx
  rw [hv] at c0
  have C0 := Lib.hid c0
  clear h0 hv c0 hmx
  go_enter Try.func17, Try.ntmps17
  go_wp2_with fail
  refine C0.out.mono ?_
  rintro e w1 ⟨rfl, hb1⟩
  have HB1 := Lib.hid hb1
  have hsz := hb1.size
  clear hb1
  go_wp2
  obtain ⟨I, hI⟩ : ∃ I, I = w1.heap.size := ⟨_, rfl⟩
  have hit0 : (w1.iter s 0).heap[I]? = some (.stringIter s 0) := by rw [hI]; exact World.iter_heap w1 s 0
  have hb0 : Below w.heap.size w (w1.iter s 0) := HB1.out.alloc hsz _
  rw [← hI]
  have hIw : w.heap.size ≤ I := by omega
  have HI0 := Lib.hid hit0
  have HB0 := Lib.hid hb0
  clear hI hit0 hb0
  go_loopw [3, 4, 5] (fun a b c wr => ∃ k r o l : Nat, k ≤ s.size ∧ Hid (wr.heap[I]? = some (.stringIter s k)) ∧ Hid (Below w.heap.size w wr) ∧ a = .int .i64 r ∧ b = .int .i64 o ∧ c = .int .i64 l ∧ Hid (Rk s.data.toList k r o l)) (fun _ _ _ wr => s.size - wr.iterPos I)
  case atStart => exact ⟨0, 0, 0, M, Nat.zero_le _, HI0, HB0, rfl, rfl, rfl, H0⟩
  case round =>
    clear HI0 HB0 H0
    obtain ⟨k, r, o, l, hk, HIt, HB, rfl, rfl, rfl, H⟩ := hrel
    have hpos := Lib.hid (iterPos_of HIt.out)
    by_cases hlt : k < s.size
    · have ha : s[k].toNat < 128 := H.out.high HV.out hlt
      have hnx := fun ty => Lib.run_next_ascii_at (P := Try.prog) wr I s k ty HIt.out hlt ha
      have hbn := Lib.below_iterAt HB.out (k := I) hIw s (k + 1)
      have hitn := Lib.iterAt_heap wr I s k (k + 1) HIt.out
      obtain ⟨W1, hW1⟩ : ∃ W1, W1 = wr.iterAt I s (k + 1) := ⟨_, rfl⟩
      rw [← hW1] at hnx hbn hitn
      have HBn := Lib.hid hbn
      have HIn := Lib.hid hitn
      have hsz1 := hbn.size
      have hIlt : I < W1.heap.size := (Array.getElem?_eq_some_iff.1 hitn).1
      clear hW1 HIt HB hbn hitn
      by_cases hc : ((s[k].toNat : Int) == 40) = true
      · obtain ⟨n1, n2, n3⟩ := H.out.opn HV.out hlt (cmp40 hlt hc)
        have N1 := Lib.hid n1
        clear n1
        go_wp2
        go_roundw
        case rel => exact ⟨k + 1, r, o + 1, l - 1, by omega, HIn, HBn, rfl, by go_num, by go_num, N1⟩
        case measure => rw [iterPos_of HIn.out, hpos.out]; omega
      · have hc' : ((s[k].toNat : Int) == 40) = false := by simpa using hc
        obtain ⟨n1, n2, n3, n4, n5⟩ := H.out.cls HV.out hlt (cmp40n hlt hc')
        by_cases hl : 0 < l
        · rw [if_pos hl] at n1
          have y := ee_bd (l - 1) (by omega) (o + 1) (by omega)
          have i1 : ∀ w, Calls Try.prog 21 #[.int .i64 ((o : Int) + 1), .int .i64 ((l : Int) - 1)] w fun e w' => e = .returned (.int .i64 (ee (l - 1) (o + 1) : Nat)) ∧ Below w.heap.size w w' := fun w => by
            have := implEnds_in (o + 1) (l - 1) (by omega) w
            rw [show ((o : Int) + 1) = ((o + 1 : Nat) : Int) by omega, show ((l : Int) - 1) = ((l - 1 : Nat) : Int) by omega]
            exact this
          obtain ⟨X, hX⟩ : ∃ X, X = ee (l - 1) (o + 1) := ⟨_, rfl⟩
          rw [← hX] at n1 y i1
          have N1 := Lib.hid n1
          have I1 := Lib.hid i1
          have b2 : (0 : Int) < (l : Int) := by omega
          clear n1 i1 hX hc
          go_wp2_with fail
          refine (I1.out _).mono ?_
          rintro e w2 ⟨rfl, hb2⟩
          have HI2 : Hid (w2.heap[I]? = some (.stringIter s (k + 1))) := (hb2.block I hIlt).trans HIn.out
          have HB2 := Lib.hid (HBn.out.trans (hb2.mono hsz1))
          clear hb2
          go_wp2
          go_roundw
          case rel => exact ⟨k + 1, r + X, o - 1, l, by omega, HI2, HB2, by go_num, by go_num, rfl, N1⟩
          case measure => rw [iterPos_of HI2.out, hpos.out]; omega
        · obtain rfl : l = 0 := by omega
          rw [if_neg hl] at n1
          have N1 := Lib.hid n1
          clear n1 hc hl
          go_wp2
          go_roundw
          case rel => exact ⟨k + 1, r, o - 1, 0, by omega, HIn, HBn, rfl, by go_num, rfl, N1⟩
          case measure => rw [iterPos_of HIn.out, hpos.out]; omega
    · obtain rfl : k = s.size := by omega
      have hnx := fun ty => Lib.run_next_end_at (P := Try.prog) wr I s s.size ty HIt.out hlt
      have he := Lib.hid (H.out.stop (by rw [size_list]))
      go_wp2
      go_ret
      exact ⟨by rw [he.out]; rfl, HB.out⟩

theorem implRank_any (s : ByteArray) (w : World) (hs : s.size ≤ maxLen) :
    Calls Try.prog 17 #[.string s] w fun e w' => e = .returned (.int .i64 (rankOut s.data.toList)) ∧ Below w.heap.size w w' := by
  cases hv : valid s.data.toList with
  | true => rw [rankOut, if_pos hv]; exact implRank_in s hv w
  | false =>
    rw [rankOut, if_neg (by rw [hv]; decide)]
    have c0 := implValid_any s w hs
    rw [hv] at c0
    have C0 := Lib.hid c0
    clear c0 hv
    go_enter Try.func17, Try.ntmps17
    go_wp2_with fail
    refine C0.out.mono ?_
    rintro e w1 ⟨rfl, hb1⟩
    go_wp2
    go_ret
    exact ⟨rfl, hb1⟩

theorem specRank_any (s : ByteArray) (w : World) (hs : s.size ≤ maxLen) :
    Calls Try.prog 24 #[.string s] w fun e w' => e = .returned (.int .i64 (rankOut s.data.toList)) ∧ w = w' := by
  have c0 := specValid_any s w hs
  cases hv : valid s.data.toList with
  | true =>
    rw [rankOut, if_pos hv]
    rw [hv] at c0
    have C0 := Lib.hid c0
    have C1 := Lib.hid (specRank_in s hv w)
    clear c0 hv
    go_enter Try.func24, Try.ntmps24
    go_wp2_with fail
    refine C0.out.mono ?_
    rintro e w1 ⟨rfl, rfl⟩
    go_wp2_with fail
    refine C1.out.mono ?_
    rintro e w1 ⟨rfl, rfl⟩
    go_wp2
    go_ret
    exact ⟨rfl, rfl⟩
  | false =>
    rw [rankOut, if_neg (by rw [hv]; decide)]
    rw [hv] at c0
    have C0 := Lib.hid c0
    clear c0 hv
    go_enter Try.func24, Try.ntmps24
    go_wp2_with fail
    refine C0.out.mono ?_
    rintro e w1 ⟨rfl, rfl⟩
    go_wp2
    go_ret
    exact ⟨rfl, rfl⟩
end Go.Proofs.Ythalkkbchghmpaa
