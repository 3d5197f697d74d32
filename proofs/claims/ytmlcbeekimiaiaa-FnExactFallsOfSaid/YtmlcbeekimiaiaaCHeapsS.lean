/-
  The contracts of the model's choose, heaps and HeapsOf.
-/
import Derived.Test.YtmlcbeekimiaiaaZB
import Derived.Test.YtmlcbeekimiaiaaWHeapT
namespace Go.Proofs.Ytmlcbeekimiaiaa
open Go.RowKit

set_option maxRecDepth 100000 in
set_option maxHeartbeats 1600000 in
theorem choose_any (n k : Nat) (w : World) (hn : n ≤ 7) (hk : k ≤ n) :
    Calls Try.prog 46 #[.int .i64 (n : Int), .int .i64 (k : Int)] w fun e w' => e = .returned (.int .i64 ((chs n k : Nat) : Int)) ∧ w = w' := by
  have HB := Lib.hid (fun i hi => chs_bound n hn k hk i hi)
  have HC : Hid (chs n k = chsF n k k) := rfl
  obtain ⟨R, hR⟩ : ∃ R, R = chs n k := ⟨_, rfl⟩
  rw [← hR] at HC ⊢
  clear hR
  obtain ⟨D, hD⟩ : ∃ D, D = n - k := ⟨_, rfl⟩
  have HD := Lib.hid hD
  have e0 : IntKind.i64.wrap ((n : Int) - (k : Int)) = (D : Int) := by rw [IntKind.wrap_i64]; omega
  have b0 : ¬ (k : Int) < 0 := by omega
  have b1 : ¬ (n : Int) < (k : Int) := by omega
  have hD7 : D ≤ 7 := by omega
  clear hD
  go_enter Try.func46, Try.ntmps46
  go_wp2
  go_loop [5, 6] (fun out i => ∃ I p : Nat, 1 ≤ I ∧ I ≤ k + 1 ∧ i = .int .i64 I ∧ out = .int .i64 p ∧ Hid (p = chsF n k (I - 1))) (fun _ i => k + 1 - (intOf i).toNat)
  case atStart => exact ⟨1, 1, Nat.le_refl _, by omega, rfl, rfl, rfl⟩
  case round =>
    obtain ⟨I, p, hI1, hI, rfl, rfl, HP⟩ := hrel
    by_cases hlt : I ≤ k
    · have b2 : (I : Int) ≤ (k : Int) := by omega
      obtain ⟨J, hJ⟩ : ∃ J, I = J + 1 := ⟨I - 1, by omega⟩
      have hp : p ≤ 40 := by rw [HP.out]; exact HB.out _ (by omega)
      have HN : Hid (chsF n k (I + 1 - 1) = p * (D + I) / I) := by
        show _ = _
        rw [HP.out, HD.out, hJ]; rfl
      clear hJ
      obtain ⟨M, hM⟩ : ∃ M, M = D + I := ⟨_, rfl⟩
      have e1 : IntKind.i64.wrap ((D : Int) + (I : Int)) = (M : Int) := by rw [IntKind.wrap_i64]; omega
      have hM16 : M ≤ 16 := by omega
      rw [← hM] at HN
      clear hM
      obtain ⟨Q, hQ⟩ : ∃ Q, Q = p * M := ⟨_, rfl⟩
      have hQ2 : Q ≤ 40 * 16 := by rw [hQ]; exact Nat.mul_le_mul hp hM16
      have hQc : (p : Int) * (M : Int) = (Q : Int) := by rw [hQ]; push_cast; rfl
      have e2 : IntKind.i64.wrap ((p : Int) * (M : Int)) = (Q : Int) := by rw [hQc, IntKind.wrap_i64]; omega
      rw [← hQ] at HN
      clear hQ hQc
      obtain ⟨T, hT⟩ : ∃ T, T = Q / I := ⟨_, rfl⟩
      have hT2 : T ≤ 640 := by rw [hT]; exact Nat.le_trans (Nat.div_le_self _ _) hQ2
      have e3 : Int.tdiv (Q : Int) (I : Int) = (T : Int) := by rw [hT]; rfl
      have e4 : IntKind.i64.wrap (Int.tdiv (Q : Int) (I : Int)) = (T : Int) := by rw [e3, IntKind.wrap_i64]; omega
      rw [← hT] at HN
      clear hT hp hM16 hQ2 HP
      have b3 : (I : Int) ≠ 0 := by omega
      have b4 : ((I : Int) == 0) = false := beq_false_of_ne b3
      go_wp2
      go_round
      case rel => exact ⟨I + 1, T, by omega, by omega, by go_num, by first | rfl | rw [e4], HN.out.symm⟩
      case measure => simp [intOf]; omega
    · obtain rfl : I = k + 1 := by omega
      have b2 : ¬ ((k + 1 : Nat) : Int) ≤ (k : Int) := by omega
      have hy : Hid (p = R) := by show _ = _; rw [HP.out, HC.out, Nat.add_sub_cancel]
      go_wp2
      go_ret
      exact ⟨(by rw [hy.out]; rfl), rfl⟩

set_option maxRecDepth 100000 in
set_option maxHeartbeats 3200000 in
theorem heapsM_any : ∀ (t : Tw), t.size ≤ 8 → ∀ (s : ByteArray) (w : World), s.data.toList = t.lst →
    Calls Try.prog 28 #[.string s] w fun e w' => e = .returned (.int .i64 ((t.heaps : Nat) : Int)) ∧ ∃ q, w' = w.drewN q := by
  intro t
  induction t with
  | e =>
    intro _ s w hs
    obtain rfl : s = ⟨#[]⟩ := bytes_ext hs
    clear hs
    go_enter Try.func28, Try.ntmps28
    go_wp2
    go_ret
    exact ⟨rfl, 0, rfl⟩
  | n a b iha ihb =>
    intro h8 s w hs
    have hab : a.size + 1 + b.size ≤ 8 := h8
    have hsc : scan s.data.toList = some 0 := by rw [hs]; exact Tw.lst_scan _
    have hsz : s.size = 2 * (a.size + 1 + b.size) := by rw [← size_list, hs, Tw.lst_length]; rfl
    have hne : s.data.toList ≠ [] := by rw [hs]; exact Tw.lst_ne a b
    have hv := of_scan hsc (by rw [size_list]; omega)
    obtain ⟨k1, k2, k3, k4, k5, k6⟩ := parts_ok hsc hne
    rw [size_list] at k2 k6
    have cc := fun w => closing_any s hv (by omega) w
    obtain ⟨K, hK⟩ : ∃ K, K = cl 0 s.data.toList - 1 := ⟨_, rfl⟩
    rw [← hK] at cc
    have fL : fstL s.data.toList = a.lst := by rw [hs, Tw.fst_lst]
    have rL : rstL s.data.toList = b.lst := by rw [hs, Tw.rst_lst]
    have eL : (s.extract 1 K).data.toList = a.lst := by rw [← fL, extract_list, fstL]; congr 1; omega
    have eR : (s.extract (K + 1) s.size).data.toList = b.lst := by
      rw [← rL, extract_list, rstL, show K + 1 = cl 0 s.data.toList by omega, List.take_of_length_le (by simp)]
    have lL : K = 2 * a.size + 1 := by
      have := Tw.lst_length a
      rw [fL] at k5
      omega
    have I1 : Hid (∀ q, Calls Try.prog 28 #[.string (s.extract 1 K)] (w.drewN q) fun e w' => e = .returned (.int .i64 ((a.heaps : Nat) : Int)) ∧ ∃ m, w' = (w.drewN q).drewN m) := fun q => iha (by omega) _ _ eL
    have I2 : Hid (∀ q, Calls Try.prog 28 #[.string (s.extract (K + 1) s.size)] (w.drewN q) fun e w' => e = .returned (.int .i64 ((b.heaps : Nat) : Int)) ∧ ∃ m, w' = (w.drewN q).drewN m) := fun q => ihb (by omega) _ _ eR
    have I3 : Hid (∀ q, Calls Try.prog 46 #[.int .i64 ((a.size + b.size : Nat) : Int), .int .i64 ((a.size : Nat) : Int)] (w.drewN q) fun e w' => e = .returned (.int .i64 ((chs (a.size + b.size) a.size : Nat) : Int)) ∧ ∃ m, w' = (w.drewN q).drewN m) :=
      fun q => (choose_any (a.size + b.size) a.size (w.drewN q) (by omega) (by omega)).mono fun e w' h => ⟨h.1, 0, h.2.symm⟩
    have hle := Tw.heaps_le h8
    have h40 := fct_le8 _ h8
    have hpb := Tw.heaps_pos (t := b) (by omega)
    rw [Tw.heaps] at hle ⊢
    obtain ⟨A, hA⟩ : ∃ A, A = a.heaps := ⟨_, rfl⟩
    obtain ⟨B, hB⟩ : ∃ B, B = b.heaps := ⟨_, rfl⟩
    obtain ⟨C, hC⟩ : ∃ C, C = chs (a.size + b.size) a.size := ⟨_, rfl⟩
    rw [← hA] at I1 hle ⊢
    rw [← hB] at I2 hle hpb ⊢
    rw [← hC] at I3 hle ⊢
    have h1 : C * A ≤ 40320 := Nat.le_trans (Nat.le_mul_of_pos_right _ hpb) (Nat.le_trans hle h40)
    have h2 : C * A * B ≤ 40320 := Nat.le_trans hle h40
    obtain ⟨CA, hCA⟩ : ∃ CA, CA = C * A := ⟨_, rfl⟩
    rw [← hCA] at h1 h2 ⊢
    obtain ⟨CAB, hCAB⟩ : ∃ CAB, CAB = CA * B := ⟨_, rfl⟩
    rw [← hCAB] at h2 ⊢
    have c1 : (C : Int) * (A : Int) = (CA : Int) := by rw [hCA]; push_cast; rfl
    have c2 : (CA : Int) * (B : Int) = (CAB : Int) := by rw [hCAB]; push_cast; rfl
    have e1 : IntKind.i64.wrap ((C : Int) * (A : Int)) = (CA : Int) := by rw [c1, IntKind.wrap_i64]; omega
    have e2 : IntKind.i64.wrap ((CA : Int) * (B : Int)) = (CAB : Int) := by rw [c2, IntKind.wrap_i64]; omega
    obtain ⟨x, hx⟩ : ∃ x, x = a.size := ⟨_, rfl⟩
    obtain ⟨y, hy⟩ : ∃ y, y = a.size + b.size := ⟨_, rfl⟩
    rw [← hy] at I3
    rw [← hx] at I3
    have e3 : Int.tdiv ((K : Int) - 1) 2 = (x : Int) := by rw [Int.tdiv_eq_ediv_of_nonneg (by omega)]; omega
    have e4 : Int.tdiv (s.size : Int) 2 = (y : Int) + 1 := by rw [Int.tdiv_eq_ediv_of_nonneg (by omega)]; omega
    have e5 : IntKind.i64.wrap ((y : Int) + 1 - 1) = (y : Int) := by rw [IntKind.wrap_i64]; omega
    have C0 := Lib.hid cc
    have b1 : (1 : Int) ≤ (K : Int) := by omega
    have b2 : (K : Int) ≤ (s.size : Int) := by omega
    have b3 : (K : Int) + 1 ≤ (s.size : Int) := by omega
    have b4 : K + 1 ≤ s.size := by omega
    have b5 : s.size ≤ 16 := by omega
    have b6 : x ≤ 8 := by omega
    have b8 : K ≤ 16 := by omega
    have b9 : (0 : Int) ≤ (K : Int) + 1 := by omega
    have e6 : IntKind.i64.wrap ((K : Int) + 1) = (K : Int) + 1 := by rw [IntKind.wrap_i64]; omega
    have b7 : y ≤ 8 := by omega
    have q0 : s.toList.isEmpty = false := by rw [ByteArray.toList_eq]; simpa using hne
    clear cc hK iha ihb k1 k2 k3 k4 k5 k6 hv hne fL rL eL eR lL hsz hsc hs hle h40 hpb h1 hA hB hC hCA hCAB c1 c2 hx hy hab h8
    go_enter Try.func28, Try.ntmps28
    go_wp2_with fail
    refine (C0.out _).mono ?_
    rintro e0 w1 ⟨rfl, rfl⟩
    go_wp2_with fail
    go_quiet (first
      | (go_at_call 46; exact Calls.quiet_of (I3.out _))
      | (go_at_call_of 28 (s.extract 1 K); exact Calls.quiet_of (I1.out _))
      | (go_at_call_of 28 (s.size); exact Calls.quiet_of (I2.out _)))
    go_wp2
    go_ret
    exact ⟨rfl, nq, rfl⟩

/-- how many rows have a word, -1 where it is none -/
def heapsO (l : List UInt8) : Int := if valid l = true ∧ l.length ≤ 16 then ((Tw.heapsL 16 l : Nat) : Int) else -1
theorem heapsO_lst {t : Tw} (h : t.size ≤ 8) : heapsO t.lst = ((t.heaps : Nat) : Int) := by
  have hl := Tw.lst_length t
  rw [heapsO, if_pos ⟨of_scan (Tw.lst_scan t) (by omega), by omega⟩, Tw.heapsL_lst 16 t (by omega)]
theorem tree_of {l : List UInt8} (hv : valid l = true) (h : l.length ≤ 16) : ∃ t : Tw, t.lst = l ∧ t.size ≤ 8 := by
  obtain ⟨t, ht⟩ := Tw.of_word l.length l (Nat.le_refl _) (valid_scan hv).1
  refine ⟨t, ht, ?_⟩
  have := Tw.lst_length t
  rw [ht] at this
  omega
set_option maxHeartbeats 800000 in
theorem specHeapsOf_any (s : ByteArray) (w : World) (hs : s.size ≤ maxLen) :
    Calls Try.prog 15 #[.string s] w fun e w' => e = .returned (.int .i64 (heapsO s.data.toList)) ∧ ∃ q, w' = w.drewN q := by
  cases hv : valid s.data.toList with
  | false =>
    rw [heapsO, if_neg (fun h => by rw [hv] at h; exact absurd h.1 (by decide))]
    have HV := Lib.hid hv
    go_enter Try.func15, Try.ntmps15
    go_wp2_with (go_at_call 27; refine (specValid_is false _ _ hs HV).mono ?_; rintro e w1 ⟨rfl, rfl⟩)
    go_ret
    exact ⟨rfl, 0, rfl⟩
  | true =>
    have HV := Lib.hid hv
    have h18 := (valid_scan hv).2
    rw [size_list] at h18
    by_cases h16 : s.size ≤ 16
    · obtain ⟨t, ht, ht8⟩ := tree_of hv (by rw [size_list]; exact h16)
      have C := Lib.hid (fun w => heapsM_any t ht8 s w ht.symm)
      rw [← ht, heapsO_lst ht8]
      obtain ⟨R, hR⟩ : ∃ R, R = t.heaps := ⟨_, rfl⟩
      rw [← hR] at C ⊢
      have b1 : ¬ (16 : Int) < (s.size : Int) := by omega
      clear hv ht hR
      go_enter Try.func15, Try.ntmps15
      go_wp2_with (go_at_call 27; refine (specValid_is true _ _ hs HV).mono ?_; rintro e w1 ⟨rfl, rfl⟩)
      refine (C.out _).mono ?_
      rintro e w1 ⟨rfl, q, rfl⟩
      go_wp2
      go_ret
      exact ⟨rfl, q, rfl⟩
    · rw [heapsO, if_neg (fun h => h16 (by have := h.2; rw [size_list] at this; exact this))]
      have b1 : (16 : Int) < (s.size : Int) := by omega
      clear hv
      go_enter Try.func15, Try.ntmps15
      go_wp2_with (go_at_call 27; refine (specValid_is true _ _ hs HV).mono ?_; rintro e w1 ⟨rfl, rfl⟩)
      go_ret
      exact ⟨rfl, 0, rfl⟩
end Go.Proofs.Ytmlcbeekimiaiaa
