/-
  The contracts of the model's functions that count the words of so many pairs and so many leaves.
-/
import Derived.Test.YthalkkbchghmpaaCRange
import Derived.Test.YthalkkbchghmpaaCValid
import Derived.BigRegion
namespace Go.Proofs.Ythalkkbchghmpaa
open Go.RowKit

/-- how many words there are of n pairs and k leaves -/
def ev (n k : Nat) : Nat := ([[1], [0, 1], [0, 1, 1], [0, 1, 3, 1], [0, 1, 6, 6, 1], [0, 1, 10, 20, 10, 1], [0, 1, 15, 50, 50, 15, 1]].getD n []).getD k 0
def fst1 (i j : Nat) : Nat := if i = 0 then (if j = 1 then 1 else 0) else ev i j
def si (n k i : Nat) : Nat → Nat
  | 0 => 0
  | j + 1 => si n k i j + fst1 i j * ev (n - 1 - i) (k - j)
def so (n k : Nat) : Nat → Nat
  | 0 => 0
  | i + 1 => so n k i + si n k i (k + 1)
theorem so_full : ∀ n, n ≤ 6 → 0 < n → ∀ k, k ≤ 6 → so n k n = ev n k := by decide
theorem so_bd : ∀ n, n ≤ 6 → ∀ k, k ≤ 6 → ∀ i, i ≤ n → ∀ j, j ≤ k + 1 → so n k i + si n k i j ≤ 132 := by decide +kernel
theorem ev_bd : ∀ n, n ≤ 6 → ∀ k, k ≤ 6 → ev n k ≤ 132 := by decide
theorem ev_zero : ∀ k, k ≤ 6 → ev 0 k = if k = 0 then 1 else 0 := by decide

set_option maxHeartbeats 3200000 in
theorem specEven_in : ∀ (n : Nat), n ≤ 6 → ∀ (k : Nat), k ≤ 6 → ∀ (w : World),
    Calls Try.prog 55 #[.int .i64 n, .int .i64 k] w fun e w' => e = .returned (.int .i64 (ev n k : Nat)) ∧ w = w' := by
  intro n
  induction n using Nat.strongRecOn with
  | _ n ih =>
    intro hn k hk w
    by_cases h0 : n = 0
    · subst h0
      have hz := ev_zero k hk
      by_cases hk0 : k = 0
      · subst hk0
        clear ih hz
        go_enter Try.func55, Try.ntmps55
        go_wp2
        go_ret
        exact ⟨rfl, rfl⟩
      · rw [if_neg hk0] at hz
        have HZ := Lib.hid hz
        have q0 : ((k : Int) == 0) = false := beq_false_of_ne (by omega)
        clear ih hz
        go_enter Try.func55, Try.ntmps55
        go_wp2
        go_ret
        exact ⟨by rw [HZ.out]; rfl, rfl⟩
    · have q0 : ((n : Int) == 0) = false := beq_false_of_ne (by omega)
      have IH := Lib.hid ih
      clear ih
      go_enter Try.func55, Try.ntmps55
      go_wp2
      go_loop [5, 6] (fun a b => ∃ i : Nat, i ≤ n ∧ a = .int .i64 (so n k i : Nat) ∧ b = .int .i64 i) (fun _ b => n - (intOf b).toNat)
      case atStart => exact ⟨0, Nat.zero_le _, rfl, rfl⟩
      case round =>
        obtain ⟨i, hi, rfl, rfl⟩ := hrel
        by_cases hin : i < n
        · have b1 : (i : Int) < (n : Int) := by omega
          go_wp2
          go_loop [5, 7] (fun a b => ∃ (j : Nat) (X : Nat), j ≤ k + 1 ∧ X ≤ 132 ∧ a = .int .i64 (X : Nat) ∧ b = .int .i64 j ∧ Hid (X = so n k i + si n k i j)) (fun _ b => k + 1 - (intOf b).toNat)
          case atStart => exact ⟨0, so n k i, Nat.zero_le _, (by have := so_bd n hn k hk i hi 0 (Nat.zero_le _); simp [si] at this; omega), rfl, rfl, rfl⟩
          case round =>
            obtain ⟨j, X, hj, hX, rfl, rfl, HX⟩ := hrel
            by_cases hjk : j < k + 1
            · have b2 : (j : Int) ≤ (k : Int) := by omega
              have hnx := so_bd n hn k hk i hi (j + 1) (by omega)
              have hsi : si n k i (j + 1) = si n k i j + fst1 i j * ev (n - 1 - i) (k - j) := rfl
              rw [hsi] at hnx
              have i1 := fun w => IH.out i (by omega) (by omega) j (by omega) w
              have i2 : ∀ w, Calls Try.prog 55 #[.int .i64 ((n : Int) - 1 - (i : Int)), .int .i64 ((k : Int) - (j : Int))] w fun e w' => e = .returned (.int .i64 (ev (n - 1 - i) (k - j) : Nat)) ∧ w = w' := fun w => by
                have := IH.out (n - 1 - i) (by omega) (by omega) (k - j) (by omega) w
                rw [show ((n : Int) - 1 - (i : Int)) = ((n - 1 - i : Nat) : Int) by omega, show ((k : Int) - (j : Int)) = ((k - j : Nat) : Int) by omega]
                exact this
              have y1 := ev_bd i (by omega) j (by omega)
              have y2 := ev_bd (n - 1 - i) (by omega) (k - j) (by omega)
              have NX : Hid (∀ F : Nat, F = fst1 i j → X + F * ev (n - 1 - i) (k - j) = so n k i + si n k i (j + 1)) := fun F hF => by rw [hF, HX.out, hsi]; omega
              obtain ⟨A, hA⟩ : ∃ A, A = ev i j := ⟨_, rfl⟩
              obtain ⟨B, hB⟩ : ∃ B, B = ev (n - 1 - i) (k - j) := ⟨_, rfl⟩
              obtain ⟨F, hF⟩ : ∃ F, F = fst1 i j := ⟨_, rfl⟩
              rw [← hA] at i1 y1
              rw [← hB] at i2 y2 NX hnx
              rw [← hF] at hnx
              have hXF : X + F * B ≤ 132 := by have := HX.out; omega
              have N2 := Lib.hid (NX.out F hF)
              have I1 := Lib.hid i1
              have I2 := Lib.hid i2
              have HF := Lib.hid hF
              have HA := Lib.hid hA
              obtain ⟨P, hP⟩ : ∃ P, P = F * B := ⟨_, rfl⟩
              have HP := Lib.hid hP
              rw [← hP] at hXF N2
              clear hA hB hF hsi hnx i1 i2 NX HX hP
              have w1 : IntKind.i64.wrap ((F : Int) * (B : Int)) = (P : Int) := by
                have e : (F : Int) * (B : Int) = (P : Int) := by rw [HP.out]; exact (Int.natCast_mul F B).symm
                rw [e, IntKind.wrap_i64]; omega
              by_cases hi0 : i = 0
              · have q1 : ((i : Int) == 0) = true := by rw [hi0]; rfl
                by_cases hj1 : j = 1
                · have q2 : ((j : Int) == 1) = true := by rw [hj1]; rfl
                  obtain rfl : F = 1 := by rw [HF.out, fst1, if_pos hi0, if_pos hj1]
                  have hPB : P = B := by have := HP.out; omega
                  subst hPB
                  clear w1 hi0 hj1
                  go_wp2_with fail
                  refine (I1.out _).mono ?_
                  rintro e w2 ⟨rfl, rfl⟩
                  go_wp2_with fail
                  refine (I2.out _).mono ?_
                  rintro e w2 ⟨rfl, rfl⟩
                  go_wp2
                  go_round
                  case rel => exact ⟨j + 1, X + P, by omega, hXF, by go_num, by go_num, N2⟩
                  case measure => simp [intOf]; omega
                · have q2 : ((j : Int) == 1) = false := beq_false_of_ne (by omega)
                  obtain rfl : F = 0 := by rw [HF.out, fst1, if_pos hi0, if_neg hj1]
                  have hPB : P = 0 := by have := HP.out; omega
                  subst hPB
                  clear w1 hi0 hj1
                  go_wp2_with fail
                  refine (I1.out _).mono ?_
                  rintro e w2 ⟨rfl, rfl⟩
                  go_wp2_with fail
                  refine (I2.out _).mono ?_
                  rintro e w2 ⟨rfl, rfl⟩
                  go_wp2
                  go_round
                  case rel => exact ⟨j + 1, X + 0, by omega, hXF, by go_num, by go_num, N2⟩
                  case measure => simp [intOf]; omega
              · have q1 : ((i : Int) == 0) = false := beq_false_of_ne (by omega)
                obtain rfl : F = A := by rw [HF.out, fst1, if_neg hi0, HA.out]
                clear hi0
                go_wp2_with fail
                refine (I1.out _).mono ?_
                rintro e w2 ⟨rfl, rfl⟩
                go_wp2_with fail
                refine (I2.out _).mono ?_
                rintro e w2 ⟨rfl, rfl⟩
                go_wp2
                go_round
                case rel => exact ⟨j + 1, X + P, by omega, hXF, by go_num, by go_num, N2⟩
                case measure => simp [intOf]; omega
            · obtain rfl : j = k + 1 := by omega
              have b2 : (k : Int) < ((k + 1 : Nat) : Int) := by omega
              have N : Hid (X = so n k (i + 1)) := HX.out
              clear HX
              go_wp2
              go_round
              case rel => exact ⟨i + 1, by omega, by rw [← N.out], by go_num⟩
              case measure => simp [intOf]; omega
        · obtain rfl : i = n := by omega
          have N : Hid (so i k i = ev i k) := so_full i hn (by omega) k hk
          clear hin
          go_wp2
          go_ret
          exact ⟨by rw [← N.out]; rfl, rfl⟩

def evOut (n k : Int) : Int := if (0 ≤ n ∧ n ≤ 6) ∧ 0 ≤ k ∧ k ≤ 6 then (ev n.toNat k.toNat : Nat) else -1
theorem evOut_in (n k : Nat) (hn : n ≤ 6) (hk : k ≤ 6) : evOut n k = (ev n k : Nat) := by unfold evOut; rw [if_pos (by omega)]; simp

theorem specCountL_any (n k : Int) (w : World) :
    Calls Try.prog 33 #[.int .i64 n, .int .i64 k] w fun e w' => e = .returned (.int .i64 (evOut n k)) ∧ w = w' := by
  by_cases h : 0 ≤ n ∧ n ≤ 6
  · by_cases h2 : 0 ≤ k ∧ k ≤ 6
    · obtain ⟨a, rfl⟩ : ∃ a : Nat, n = a := ⟨n.toNat, by omega⟩
      obtain ⟨b, rfl⟩ : ∃ b : Nat, k = b := ⟨k.toNat, by omega⟩
      rw [evOut_in a b (by omega) (by omega)]
      have C := Lib.hid (fun w => specEven_in a (by omega) b (by omega) w)
      have H1 := Lib.hid h
      have H2 := Lib.hid h2
      clear h h2
      go_enter Try.func33, Try.ntmps33
      go_wp2_with fail
      refine (inRange_yes _ _ _ _ H1.out.1 H1.out.2).mono ?_
      rintro e w' ⟨rfl, rfl⟩
      go_wp2_with fail
      refine (inRange_yes _ _ _ _ H2.out.1 H2.out.2).mono ?_
      rintro e w' ⟨rfl, rfl⟩
      go_wp2_with fail
      refine (C.out _).mono ?_
      rintro e w' ⟨rfl, rfl⟩
      go_wp2
      go_ret
      exact ⟨rfl, rfl⟩
    · have e : evOut n k = -1 := by unfold evOut; rw [if_neg (fun h => h2 h.2)]
      rw [e]
      have H1 := Lib.hid h
      have H2 := Lib.hid (show k < 0 ∨ 6 < k by omega)
      clear h h2 e
      go_enter Try.func33, Try.ntmps33
      go_wp2_with fail
      refine (inRange_yes _ _ _ _ H1.out.1 H1.out.2).mono ?_
      rintro e w' ⟨rfl, rfl⟩
      go_wp2_with fail
      refine (inRange_no _ _ _ _ H2.out).mono ?_
      rintro e w' ⟨rfl, rfl⟩
      go_wp2
      go_ret
      exact ⟨rfl, rfl⟩
  · have e : evOut n k = -1 := by unfold evOut; rw [if_neg (fun h' => h h'.1)]
    rw [e]
    have H1 := Lib.hid (show n < 0 ∨ 6 < n by omega)
    clear h e
    go_enter Try.func33, Try.ntmps33
    go_wp2_with fail
    refine (inRange_no _ _ _ _ H1.out).mono ?_
    rintro e w' ⟨rfl, rfl⟩
    go_wp2
    go_ret
    exact ⟨rfl, rfl⟩
end Go.Proofs.Ythalkkbchghmpaa
