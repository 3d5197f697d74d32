/-
  The contract of the model's function that gives the word behind one.
-/
import Derived.Test.YthalkkbchghmpaaCNext
import Derived.Test.YthalkkbchghmpaaCMirrorB
namespace Go.Proofs.Ythalkkbchghmpaa
open Go.RowKit

theorem nx_cls {s : List UInt8} {i : Nat} (hi : i < s.length) (hc : s[i].toNat = 41) : nextAt s (i + 1) = nextAt s i := by
  rw [nextAt, List.getElem?_eq_getElem hi]
  cases scan (s.take i) with
  | none => rfl
  | some o => cases o with
    | zero => rfl
    | succ o => show (if Nat.beq s[i].toNat 41 = true then _ else _) = _; rw [if_pos (by rw [hc]; rfl)]
theorem nx_zero {s : List UInt8} {i : Nat} (hs : scan (s.take i) = some 0) : nextAt s (i + 1) = nextAt s i := by
  rw [nextAt, hs]
  cases s[i]? <;> rfl
theorem nx_opn {s : List UInt8} {i o : Nat} (hi : i < s.length) (hc : s[i].toNat = 40) (hs : scan (s.take i) = some (o + 1)) :
    nextAt s (i + 1) = some (s.take i ++ [41] ++ List.replicate ((s.length - i - 1 - o) / 2) 40 ++ List.replicate (o + (s.length - i - 1 - o) / 2) 41) := by
  rw [nextAt, List.getElem?_eq_getElem hi, hs]
  show (if Nat.beq s[i].toNat 41 = true then _ else _) = _
  rw [if_neg (by rw [hc]; decide)]
theorem pre_some {s : List UInt8} (hv : valid s = true) (k : Nat) (hk : k ≤ s.length) : ∃ o, scan (s.take k) = some o := by
  obtain ⟨r, o, l, h, _⟩ := rank_fold hv k hk
  exact ⟨o, h.2.1⟩
theorem pre_pos {s : ByteArray} (hv : valid s.data.toList = true) {k o : Nat} (hk : k < s.size) (h : scan (s.data.toList.take k) = some o) (hc : s[k].toNat = 41) : 0 < o := by
  obtain ⟨p, hp⟩ := pre_some hv (k + 1) (by rw [size_list]; omega)
  rw [scan_next hk h] at hp
  apply Classical.byContradiction
  intro e
  obtain rfl : o = 0 := by omega
  simp [vstep, hc] at hp

set_option maxHeartbeats 3200000 in
theorem specNext_in (s : ByteArray) (hv : valid s.data.toList = true) (w : World) :
    Calls Try.prog 30 #[.string s] w fun e w' => e = .returned (optV (nextAt s.data.toList s.size)) ∧ w = w' := by
  have h18 : s.size ≤ 18 := (valid_scan hv).2
  have hmx : s.size ≤ maxLen := by unfold maxLen; omega
  have c0 := specValid_any s w hmx
  rw [hv] at c0
  have C0 := Lib.hid c0
  have HV := Lib.hid hv
  clear c0 hv hmx
  go_enter Try.func30, Try.ntmps30
  go_wp2_with fail
  refine C0.out.mono ?_
  clear C0
  rintro e w1 ⟨rfl, rfl⟩
  go_wp2
  go_loop [4] (fun a => ∃ j : Nat, j ≤ s.size ∧ a = .int .i64 ((j : Int) - 1) ∧ Hid (nextAt s.data.toList j = nextAt s.data.toList s.size)) (fun a => (intOf a + 1).toNat)
  case atStart => exact ⟨s.size, Nat.le_refl _, rfl, rfl⟩
  case round =>
    obtain ⟨j, hj, rfl, H⟩ := hrel
    cases j with
    | zero =>
      go_wp2
      go_ret2
      exact ⟨by rw [← H.out]; rfl, rfl⟩
    | succ i =>
      have hlt : i < s.size := by omega
      have hlt' : i < s.data.toList.length := hlt
      rw [show ((i + 1 : Nat) : Int) - 1 = (i : Int) by omega]
      have b1 : (i : Int) < (s.size : Int) := by omega
      rcases valid_byte HV.out i hlt with hc | hc
      · have hcp : ((s[i].toNat : Int) == 41) = false := by rw [hc]; rfl
        have hcl : (s.data.toList[i]'hlt').toNat = 40 := by rw [get_list s i hlt]; exact hc
        have HC := Lib.hid hcl
        have HL' := Lib.hid hlt'
        clear hc hcl
        go_wp2
        go_loop [5, 6] (fun a b => ∃ k o : Nat, k ≤ i ∧ o ≤ k ∧ a = .int .i64 o ∧ b = .int .i64 k ∧ Hid (scan (s.data.toList.take k) = some o)) (fun _ b => i - (intOf b).toNat)
        case atStart => exact ⟨0, 0, Nat.zero_le _, Nat.le_refl _, rfl, rfl, rfl⟩
        case round =>
          obtain ⟨k, o, hk, hok, rfl, rfl, HS⟩ := hrel
          by_cases hki : k < i
          · have b2 : (k : Int) < (i : Int) := by omega
            have hks : k < s.size := by omega
            have b3 : (k : Int) < (s.size : Int) := by omega
            rcases valid_byte HV.out k hks with hd | hd
            · have hdp : ((s[k].toNat : Int) == 40) = true := by rw [hd]; rfl
              have N := Lib.hid (scan_opn hks HS.out hdp)
              clear hd
              go_wp2
              go_round
              case rel => exact ⟨k + 1, o + 1, by omega, by omega, by go_num, by go_num, N⟩
              case measure => simp [intOf] <;> omega
            · have hdp : ((s[k].toNat : Int) == 40) = false := by rw [hd]; rfl
              have hdq : ((s[k].toNat : Int) == 41) = true := by rw [hd]; rfl
              have ho := pre_pos HV.out hks HS.out hd
              have N := Lib.hid (scan_cls hks HS.out hdq ho)
              clear hd hdq
              go_wp2
              go_round
              case rel => exact ⟨k + 1, o - 1, by omega, by omega, by go_num, by go_num, N⟩
              case measure => simp [intOf] <;> omega
          · obtain rfl : k = i := by omega
            cases o with
            | zero =>
              have N : Hid (nextAt s.data.toList k = nextAt s.data.toList s.size) := (nx_zero HS.out).symm.trans H.out
              clear H HS HC
              go_wp2
              go_round
              case rel => exact ⟨k, by omega, by first | rfl | go_num, N⟩
              case measure => simp [intOf] <;> omega
            | succ p =>
              have hnx := (nx_opn HL'.out HC.out HS.out).symm.trans H.out
              have hrl := rest_low HV.out (scan_opn hlt HS.out (by have := HC.out; rw [get_list s k hlt] at this; rw [this]; rfl))
              rw [size_list] at hnx hrl
              obtain ⟨Q, hQ⟩ : ∃ Q, Q = (s.size - k - 1 - p) / 2 := ⟨_, rfl⟩
              rw [← hQ] at hnx
              have HNX := Lib.hid hnx
              have e1 : ((s.size : Int) - (k : Int) - 1 - (p : Int)) / 2 = (Q : Int) := by omega
              have e2 : Int.tdiv ((s.size : Int) - (k : Int) - 1 - (p : Int)) 2 = (Q : Int) := by rw [Int.tdiv_eq_ediv_of_nonneg (by omega)]; omega
              have hQ9 : Q ≤ 18 := by omega
              have hp1 : ((p + 1 : Nat) : Int) - 1 = (p : Int) := by omega
              have hp0 : (((p + 1 : Nat) : Int) == 0) = false := beq_false_of_ne (by omega)
              have z0 : (s.extract 0 k).size = k := by rw [ByteArray.size_extract]; omega
              have z1 : (s.extract 0 k).size + (ByteArray.mk #[41]).size ≤ 9223372036854775807 := by rw [show (ByteArray.mk #[41]).size = 1 from rfl]; omega
              have d0 : (s.extract 0 k ++ ByteArray.mk #[41]).data.toList = s.data.toList.take k ++ [41] := by rw [toList_append, extract_head]
              have d1 : (s.extract 0 k ++ ByteArray.mk #[41]).size = k + 1 := by rw [ByteArray.size_append, z0]; rfl
              have D0 := Lib.hid d0
              have D1 := Lib.hid d1
              have HQ := Lib.hid hQ
              have E1 := Lib.hid e1
              clear H HC hnx z0 d0 d1 hQ hrl
              go_wp2
              go_loop [7, 5, 8] (fun a b c => ∃ (q : Nat) (t : ByteArray), q ≤ Q ∧ a = .string t ∧ b = .int .i64 ((p : Int) + (q : Int)) ∧ c = .int .i64 ((Q : Int) - (q : Int)) ∧ Hid (t.size = k + 1 + q) ∧ Hid (t.data.toList = s.data.toList.take k ++ [41] ++ List.replicate q 40)) (fun _ _ c => (intOf c).toNat)
              case atStart => exact ⟨0, _, Nat.zero_le _, rfl, by go_num, by go_num, D1, by show _ = _; rw [D0.out]; simp⟩
              case round =>
                obtain ⟨q, t, hq, rfl, rfl, rfl, HT, HD⟩ := hrel
                by_cases hqQ : q < Q
                · have z2 : t.size + (ByteArray.mk #[40]).size ≤ 9223372036854775807 := by rw [show (ByteArray.mk #[40]).size = 1 from rfl, HT.out]; omega
                  have N1 : Hid ((t ++ ByteArray.mk #[40]).size = k + 1 + (q + 1)) := by show _ = _; rw [ByteArray.size_append, HT.out]; rfl
                  have N2 : Hid ((t ++ ByteArray.mk #[40]).data.toList = s.data.toList.take k ++ [41] ++ List.replicate (q + 1) 40) := by show _ = _; rw [toList_append, HD.out, List.replicate_succ', List.append_assoc]
                  have b3 : (0 : Int) < (Q : Int) - (q : Int) := by omega
                  clear HT HD
                  go_wp2
                  go_round
                  case rel => exact ⟨q + 1, _, by omega, rfl, by go_num, by go_num, N1, N2⟩
                  case measure => simp [intOf] <;> omega
                · obtain rfl : q = Q := by omega
                  have b3 : (q : Int) - (q : Int) ≤ 0 := by omega
                  clear E1 e1 e2
                  go_wp2
                  go_loop [7, 5] (fun a b => ∃ (x : Nat) (t : ByteArray), x ≤ p + q ∧ a = .string t ∧ b = .int .i64 ((p : Int) + (q : Int) - (x : Int)) ∧ Hid (t.size = k + 1 + q + x) ∧ Hid (t.data.toList = s.data.toList.take k ++ [41] ++ List.replicate q 40 ++ List.replicate x 41)) (fun _ b => (intOf b).toNat)
                  case atStart => exact ⟨0, t, Nat.zero_le _, rfl, by go_num, HT, by show _ = _; rw [HD.out]; simp⟩
                  case round =>
                    clear HT HD
                    obtain ⟨x, t, hx, rfl, rfl, HT, HD⟩ := hrel
                    by_cases hxp : x < p + q
                    · have z2 : t.size + (ByteArray.mk #[41]).size ≤ 9223372036854775807 := by rw [show (ByteArray.mk #[41]).size = 1 from rfl, HT.out]; omega
                      have N1 : Hid ((t ++ ByteArray.mk #[41]).size = k + 1 + q + (x + 1)) := by show _ = _; rw [ByteArray.size_append, HT.out]; rfl
                      have N2 : Hid ((t ++ ByteArray.mk #[41]).data.toList = s.data.toList.take k ++ [41] ++ List.replicate q 40 ++ List.replicate (x + 1) 41) := by show _ = _; rw [toList_append, HD.out, List.replicate_succ' (n := x), List.append_assoc]
                      have b4 : (0 : Int) < (p : Int) + (q : Int) - (x : Int) := by omega
                      clear HT HD
                      go_wp2
                      go_round
                      case rel => exact ⟨x + 1, _, by omega, rfl, by go_num, N1, N2⟩
                      case measure => simp [intOf] <;> omega
                    · obtain rfl : x = p + q := by omega
                      have b4 : (p : Int) + (q : Int) - ((p + q : Nat) : Int) ≤ 0 := by omega
                      have HE : Hid (t = ⟨(s.data.toList.take k ++ [41] ++ List.replicate q 40 ++ List.replicate (p + q) 41).toArray⟩) := bytes_ext (by rw [HD.out])
                      go_wp2
                      go_ret2
                      refine ⟨?_, rfl⟩
                      rw [← HNX.out]
                      show _ = Ending.returned (.tuple #[.string ⟨_⟩, .bool true])
                      rw [← HE.out]; rfl
      · have hcp : ((s[i].toNat : Int) == 41) = true := by rw [hc]; rfl
        have N : Hid (nextAt s.data.toList i = nextAt s.data.toList s.size) := (nx_cls hlt' (by rw [get_list s i hlt]; exact hc)).symm.trans H.out
        clear H hc
        go_wp2
        go_round
        case rel => exact ⟨i, by omega, by first | rfl | go_num, N⟩
        case measure => simp [intOf] <;> omega

theorem specNext_any (s : ByteArray) (w : World) (hs : s.size ≤ maxLen) :
    Calls Try.prog 30 #[.string s] w fun e w' => e = .returned (nextOut s.data.toList) ∧ w = w' := by
  cases hv : valid s.data.toList with
  | true => rw [nextOut, if_pos hv]; exact specNext_in s hv w
  | false =>
    rw [nextOut, if_neg (by rw [hv]; decide)]
    have c0 := specValid_any s w hs
    rw [hv] at c0
    have C0 := Lib.hid c0
    clear c0 hv
    go_enter Try.func30, Try.ntmps30
    go_wp2_with fail
    refine C0.out.mono ?_
    rintro e w1 ⟨rfl, rfl⟩
    go_wp2
    go_ret2
    exact ⟨rfl, rfl⟩
end Go.Proofs.Ythalkkbchghmpaa
