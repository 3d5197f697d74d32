/-
  The walk of the law that all rows have a word, with the program's HeapsOf as a premise.
-/
import Derived.Test.YtooplolalbcmjaaZS
import Derived.Test.YtooplolalbcmjaaWHeapW
import Derived.Test.YtooplolalbcmjaaCDrawH
import Derived.Test.YtooplolalbcmjaaZE
import Derived.Test.YtooplolalbcmjaaCWordsI
import Derived.Test.YtooplolalbcmjaaKFact
import Derived.Test.YtooplolalbcmjaaZW
namespace Go.Proofs.Ytooplolalbcmjaa
open Go.RowKit

set_option maxRecDepth 100000 in
set_option maxHeartbeats 1600000 in
theorem fnHeapsAreRows_law (PH : TextFn 29 (vN heapsO)) (a : Option Addr) (len cap : Nat) (zs : List Int) (w : World) (hr0 : IsRow .u8 w a len cap zs) :
    Calls Try.prog 10 #[.slice a len cap] w fun e w' => e = .returned (.bool true) ∧ Below w.heap.size w w' := by
  have hr := Lib.hid hr0
  clear hr0
  by_cases hbig : (1048576 : Int) < (len : Int)
  · go_enter Try.func10, Try.ntmps10
    go_wp2
    go_ret
    exact ⟨rfl, Below.refl _ _⟩
  · go_enter Try.func10, Try.ntmps10
    go_wp2_with fail
    refine (drawWordsOf a len cap zs w hr (by omega)).mono ?_
    rintro e w1 ⟨x, hx, rfl, hb⟩
    have B1 := Lib.hid hb
    clear hb hr
    have c1 := fun w => implWords_any x w
    have c2 := fun w => specWords_any x w
    have hlen := wordsOut_length x
    have hall : (wordsOut x).length = 0 ∨ (0 ≤ x ∧ x ≤ 6 ∧ sumK (heapJ (wordsOut x)) (wordsOut x).length = fct x.toNat) := by
      by_cases hv : 0 ≤ x ∧ x ≤ 6
      · have e : wordsOut x = wordsL (2 * x.toNat) [] 0 x.toNat := by rw [wordsOut, if_pos hv]
        rw [e]
        exact Or.inr ⟨hv.1, hv.2, heaps_all (by omega)⟩
      · exact Or.inl (by rw [wordsOut, if_neg hv]; rfl)
    have hup : ∀ k, k ≤ (wordsOut x).length → sumK (heapJ (wordsOut x)) k ≤ 40320 := by
      by_cases hv : 0 ≤ x ∧ x ≤ 6
      · have e : wordsOut x = wordsL (2 * x.toNat) [] 0 x.toNat := by rw [wordsOut, if_pos hv]
        rw [e]
        exact fun k hk => heaps_upto (by omega) hk
      · have e : wordsOut x = [] := by rw [wordsOut, if_neg hv]
        rw [e]
        intro k hk
        obtain rfl : k = 0 := Nat.le_zero.mp hk
        exact Nat.zero_le _
    have hfin : ∀ (j : Nat) (h : j < (wordsOut x).length), (wordsOut x)[j].length ≤ 12 ∧ heapsO (wordsOut x)[j] = ((heapJ (wordsOut x) j : Nat) : Int) := by
      by_cases hv : 0 ≤ x ∧ x ≤ 6
      · have e : wordsOut x = wordsL (2 * x.toNat) [] 0 x.toNat := by rw [wordsOut, if_pos hv]
        rw [e]
        intro j h
        obtain ⟨h1, h2⟩ := word_fine (by omega) h
        refine ⟨by omega, ?_⟩
        rw [heapsO, if_pos ⟨h1, by omega⟩, heapJ]
        simp [List.getD, h]
      · have e : wordsOut x = [] := by rw [wordsOut, if_neg hv]
        rw [e]
        exact fun j h => by cases h
    obtain ⟨L, hL⟩ : ∃ L, L = wordsOut x := ⟨_, rfl⟩
    simp only [← hL] at c1 c2 hlen hall hup hfin
    have c3 : ∀ (j : Nat) (h : j < L.length) w, Calls Try.prog 29 #[.string ⟨L[j].toArray⟩] w fun e w' => e = .returned (.int .i64 ((heapJ L j : Nat) : Int)) ∧ Below w.heap.size w w' := fun j h w => by
      have := PH ⟨L[j].toArray⟩ w (by show L[j].toArray.size ≤ maxLen; rw [List.size_toArray]; have := (hfin j h).1; unfold maxLen; omega)
      have e : vN heapsO (ByteArray.mk L[j].toArray).data.toList = .int .i64 ((heapJ L j : Nat) : Int) := by
        show Value.int .i64 (heapsO L[j]) = _
        rw [(hfin j h).2]
      rw [e] at this
      exact this
    have C1 := Lib.hid c1
    have C2 := Lib.hid c2
    have C3 := Lib.hid c3
    have HUP := Lib.hid hup
    have HALL := Lib.hid hall
    clear c1 c2 c3 hfin hL hall hup PH
    go_wp2_with fail
    refine (C1.out _).mono ?_
    rintro e w2 ⟨v2, rfl, o2, hb⟩
    have B2 := Lib.hid (B1.out.trans (hb.mono B1.out.size))
    clear hb
    have O2 := Lib.hid o2
    clear o2
    go_wp2_with fail
    refine (C2.out _).mono ?_
    rintro e w3 ⟨v3, rfl, o3, hb⟩
    have O23 := Lib.hid (O2.out.below hb)
    have O3 := Lib.hid o3
    have B3 := Lib.hid (B2.out.trans (hb.mono B2.out.size))
    clear hb
    clear o3
    go_wp2_with fail
    refine (equalTexts_yes L _ _ _ O23 O3 (by omega)).mono ?_
    rintro e w4 ⟨rfl, hs⟩
    have B4 := Lib.hid (B3.out.trans (hs.below w.heap.size))
    clear hs O2 O23 O3
    go_wp2_with fail
    refine (C1.out _).mono ?_
    rintro e w5 ⟨v5, rfl, o5, hb⟩
    have B5 := Lib.hid (B4.out.trans (hb.mono B4.out.size))
    clear hb
    obtain ⟨ao, c, rfl, _, hcl, _, _⟩ := o5.slice
    rw [sv_length] at o5 hcl ⊢
    have HO := Lib.hid o5
    have K0 : Hid (Below w5.heap.size w5 w5) := Below.refl _ _
    clear o5 C1 C2
    obtain ⟨n, hn⟩ : ∃ n, n = L.length := ⟨_, rfl⟩
    have HN := Lib.hid hn
    rw [← hn] at hlen hcl HALL ⊢
    clear hn
    by_cases h0 : n = 0
    · subst h0
      go_wp2
      go_ret
      exact ⟨rfl, B5.out⟩
    · have hx6 : 0 ≤ x ∧ x ≤ 6 ∧ sumK (heapJ L) n = fct x.toNat := by
        rcases HALL.out with h | h
        · exact absurd h h0
        · exact h
      obtain ⟨y, rfl⟩ : ∃ y : Nat, x = (y : Int) := ⟨x.toNat, by omega⟩
      rw [Int.toNat_natCast] at hx6
      have HSUM := Lib.hid hx6.2.2
      have CF := Lib.hid (fun w => factorial_any y w (by omega))
      have q0 : ((n : Int) == 0) = false := beq_false_of_ne (by omega)
      clear hx6 HALL hx
      go_wp2
      go_loopw [5, 6] (fun z y wr => ∃ j s : Nat, j ≤ n ∧ y = .int .i64 j ∧ z = .int .i64 s ∧ Hid (s = sumK (heapJ L) j) ∧ Hid (Below w5.heap.size w5 wr)) (fun _ y _ => n - (intOf y).toNat)
      case atStart => exact ⟨0, 0, Nat.zero_le _, rfl, rfl, rfl, K0⟩
      case round =>
        clear K0
        obtain ⟨j, s, hj, rfl, rfl, HS, K⟩ := hrel
        by_cases hjn : j < n
        · have hjL : j < L.length := by rw [← HN.out]; exact hjn
          obtain ⟨g1, hao, _, _, h1, _⟩ := (HO.out.below K.out).at_ j (by rw [sv_length]; exact hjL)
          cases hao
          rw [sv_at2 L j hjL] at h1
          have c5 := C3.out j hjL wr
          have hup := HUP.out (j + 1) hjL
          have HNX : Hid (sumK (heapJ L) (j + 1) = s + heapJ L j) := by show _ = _; rw [sumK, HS.out]
          rw [HNX.out] at hup
          obtain ⟨t, ht⟩ : ∃ t, t = ByteArray.mk L[j].toArray := ⟨_, rfl⟩
          obtain ⟨u, hu⟩ : ∃ u, u = heapJ L j := ⟨_, rfl⟩
          rw [← ht, ← hu] at c5
          rw [← ht] at h1
          rw [← hu] at hup HNX
          have q1 : (j : Int) < (n : Int) := by omega
          have ew : IntKind.i64.wrap ((s : Int) + (u : Int)) = ((s + u : Nat) : Int) := by rw [IntKind.wrap_i64]; omega
          have C5 := Lib.hid c5
          clear c5 ht hu hjL
          go_wp2_with fail
          refine C5.out.mono ?_
          rintro e w6 ⟨rfl, hb⟩
          have K6 := Lib.hid (K.out.trans (hb.mono K.out.size))
          clear hb C5 K h1
          go_wp2
          go_roundw
          case rel => exact ⟨j + 1, s + u, by omega, by go_num, by first | rfl | rw [ew], HNX.out.symm, K6⟩
          case measure => simp [intOf]; omega
        · obtain rfl : j = n := by omega
          have HF : Hid (s = fct y) := by show _ = _; rw [HS.out, HSUM.out]
          obtain ⟨F, hF⟩ : ∃ F, F = fct y := ⟨_, rfl⟩
          rw [← hF] at CF HF
          obtain rfl : s = F := HF.out
          have B6 := Lib.hid (B5.out.trans (K.out.mono B5.out.size))
          have q2 : ((s : Int) == (s : Int)) = true := beq_self_eq_true _
          clear K hF
          go_wp2_with fail
          refine (CF.out _).mono ?_
          rintro e w6 ⟨rfl, rfl⟩
          go_wp2
          go_ret
          exact ⟨rfl, B6.out⟩
end Go.Proofs.Ytooplolalbcmjaa
