/-
  The contract of the laws' own test whether two lists are equal.
  The contracts of the laws' own helpers: two lists of texts are equal; a list of texts ascends; a text so many times.
-/
import Derived.Test.YtooplolalbcmjaaZW
import Derived.Test.YtooplolalbcmjaaProg
import Derived.WalkSpells
import Derived.WalkLawsBesides
import Derived.Lib.Hide
import Derived.BigQuiet
import Derived.Deep.QuietTactic
import Derived.Test.YtooplolalbcmjaaCWFrom
import Derived.Test.YtooplolalbcmjaaZGV
namespace Go.Proofs.Ytooplolalbcmjaa
open Go.RowKit

set_option maxHeartbeats 800000 in
theorem equalInts_yes (l : List Int) (u v : Value) (w : World) {B H B' H' : Nat} (hu : Hid (Own w B H 3 u (iv l))) (hv : Hid (Own w B' H' 3 v (iv l))) (hl : l.length ≤ 1048576) :
    Calls Try.prog 16 #[u, v] w fun e w' => e = .returned (.bool true) ∧ Same w w' := by
  obtain ⟨au, cu, rfl, _, hcu, _, _⟩ := hu.out.slice
  obtain ⟨av, cv, rfl, _, hcv, _, _⟩ := hv.out.slice
  rw [iv_length] at hu hv hcu hcv ⊢
  go_enter Try.func16, Try.ntmps16
  go_wp2
  go_loopw [5] (fun i wr => ∃ k : Nat, k ≤ l.length ∧ i = .int .i64 k ∧ Hid (Same w wr)) (fun i _ => l.length - (intOf i).toNat)
  case atStart => exact ⟨0, Nat.zero_le _, rfl, Same.refl w⟩
  case round =>
    obtain ⟨k, hk, rfl, HS⟩ := hrel
    by_cases hlt : k < l.length
    · obtain ⟨g1, rfl, _, _, h1, _⟩ := (hu.out.same HS.out.1).at_ k (by rw [iv_length]; exact hlt)
      obtain ⟨g2, rfl, _, _, h2, _⟩ := (hv.out.same HS.out.1).at_ k (by rw [iv_length]; exact hlt)
      rw [iv_at l k hlt] at h1 h2
      obtain ⟨x, hx⟩ : ∃ x, x = l[k] := ⟨_, rfl⟩
      rw [← hx] at h1 h2
      have b1 : (k : Int) < (l.length : Int) := by omega
      clear hx
      go_wp2
      go_quiet (fail)
      go_wp2
      go_roundw
      case rel => exact ⟨k + 1, by omega, by go_num, HS.out.drewN _⟩
      case measure => simp [intOf]; omega
    · obtain rfl : k = l.length := by omega
      go_wp2
      go_ret
      exact ⟨rfl, HS.out⟩

end Go.Proofs.Ytooplolalbcmjaa

namespace Go.Proofs.Ytooplolalbcmjaa
open Go.RowKit

theorem sv_at2 (L : List (List UInt8)) (k : Nat) (h : k < L.length) : (sv L)[k]? = some (.string ⟨L[k].toArray⟩) := by simp [sv, h]

set_option maxHeartbeats 800000 in
theorem equalTexts_yes (L : List (List UInt8)) (u v : Value) (w : World) {B H B' H' : Nat} (hu : Hid (Own w B H 9 u (sv L))) (hv : Hid (Own w B' H' 9 v (sv L))) (hl : L.length ≤ 1048576) :
    Calls Try.prog 43 #[u, v] w fun e w' => e = .returned (.bool true) ∧ Same w w' := by
  obtain ⟨au, cu, rfl, _, hcu, _, _⟩ := hu.out.slice
  obtain ⟨av, cv, rfl, _, hcv, _, _⟩ := hv.out.slice
  rw [sv_length] at hu hv hcu hcv ⊢
  go_enter Try.func43, Try.ntmps43
  go_wp2
  go_loopw [5] (fun i wr => ∃ k : Nat, k ≤ L.length ∧ i = .int .i64 k ∧ Hid (Same w wr)) (fun i _ => L.length - (intOf i).toNat)
  case atStart => exact ⟨0, Nat.zero_le _, rfl, Same.refl w⟩
  case round =>
    obtain ⟨k, hk, rfl, HS⟩ := hrel
    by_cases hlt : k < L.length
    · obtain ⟨g1, rfl, _, _, h1, _⟩ := (hu.out.same HS.out.1).at_ k (by rw [sv_length]; exact hlt)
      obtain ⟨g2, rfl, _, _, h2, _⟩ := (hv.out.same HS.out.1).at_ k (by rw [sv_length]; exact hlt)
      rw [sv_at2 L k hlt] at h1 h2
      obtain ⟨x, hx⟩ : ∃ x, x = ByteArray.mk L[k].toArray := ⟨_, rfl⟩
      rw [← hx] at h1 h2
      have b1 : (k : Int) < (L.length : Int) := by omega
      clear hx
      go_wp2
      go_quiet (fail)
      go_wp2
      go_roundw
      case rel => exact ⟨k + 1, by omega, by go_num, HS.out.drewN _⟩
      case measure => simp [intOf]; omega
    · obtain rfl : k = L.length := by omega
      go_wp2
      go_ret
      exact ⟨rfl, HS.out⟩

/-- is each text less than the one behind it? -/
def ascB : List (List UInt8) → Bool
  | x :: y :: r => lessL x y && ascB (y :: r)
  | _ => true
theorem ascB_at : ∀ (L : List (List UInt8)) (k : Nat) (h : k + 1 < L.length), ascB L = true → lessL L[k] L[k + 1] = true
  | x :: y :: r, 0, _, ha => by simp only [ascB, Bool.and_eq_true] at ha; exact ha.1
  | x :: y :: r, k + 1, h, ha => by
    simp only [ascB, Bool.and_eq_true] at ha
    exact ascB_at (y :: r) k (by simpa using h) ha.2
  | [_], k, h, _ => by simp at h
  | [], k, h, _ => by simp at h
theorem less_not : ∀ (x y : List UInt8), lessL x y = true → lessL y x = false ∧ eqL y x = false
  | x, [], h => by cases x <;> cases h
  | [], _ :: _, _ => ⟨rfl, rfl⟩
  | a :: x, b :: y, h => by
    simp only [lessL, Bool.or_eq_true, Bool.and_eq_true] at h
    rcases h with h | ⟨h1, h2⟩
    · have h' : a.toNat < b.toNat := by simpa using h
      have n1 : Nat.blt b.toNat a.toNat = false := by
        rw [Bool.eq_false_iff]; intro hh; have : b.toNat < a.toNat := by simpa using hh
        omega
      have n2 : Nat.beq b.toNat a.toNat = false := by
        rw [Bool.eq_false_iff]; intro hh; have : b.toNat = a.toNat := by simpa using hh
        omega
      simp [lessL, eqL, n1, n2]
    · have h' : a.toNat = b.toNat := by simpa using h1
      have ih := less_not x y h2
      have n1 : Nat.blt b.toNat a.toNat = false := by
        rw [Bool.eq_false_iff]; intro hh; have : b.toNat < a.toNat := by simpa using hh
        omega
      simp [lessL, eqL, n1, ih.1, ih.2]

/-- a text so many times -/
def timesL (s : List UInt8) : Nat → List UInt8
  | 0 => []
  | n + 1 => timesL s n ++ s
theorem timesL_length (s : List UInt8) (n : Nat) : (timesL s n).length = n * s.length := by
  induction n with
  | zero => simp [timesL]
  | succ n ih => rw [timesL, List.length_append, ih, Nat.succ_mul]

set_option maxHeartbeats 800000 in
theorem times_any (s : ByteArray) (n : Nat) (hn : n ≤ 100) (hs : s.size ≤ 100) (w : World) :
    Calls Try.prog 36 #[.string s, .int .i64 n] w fun e w' => e = .returned (.string ⟨(timesL s.data.toList n).toArray⟩) ∧ w = w' := by
  go_enter Try.func36, Try.ntmps36
  go_wp2
  go_loop [1, 5] (fun a b => ∃ (k : Nat) (t : ByteArray), k ≤ n ∧ a = .int .i64 ((n : Int) - (k : Int)) ∧ b = .string t ∧ t.size ≤ 100 * k ∧ Hid (t.data.toList = timesL s.data.toList k)) (fun a _ => (intOf a).toNat)
  case atStart => exact ⟨0, ⟨#[]⟩, Nat.zero_le _, by go_num, rfl, by simp [ByteArray.size], rfl⟩
  case round =>
    obtain ⟨k, t, hk, rfl, rfl, ht, HD⟩ := hrel
    by_cases hlt : k < n
    · have b1 : (0 : Int) < (n : Int) - (k : Int) := by omega
      have z1 : t.size + s.size ≤ 9223372036854775807 := by omega
      have N : Hid ((t ++ s).data.toList = timesL s.data.toList (k + 1)) := by show _ = _; rw [toList_append, HD.out]; rfl
      have hts : (t ++ s).size ≤ 100 * (k + 1) := by rw [ByteArray.size_append]; omega
      have HTS := Lib.hid hts
      clear HD hts
      go_wp2
      go_round
      case rel => exact ⟨k + 1, t ++ s, by omega, by go_num, rfl, HTS.out, N⟩
      case measure => simp [intOf]; omega
    · obtain rfl : k = n := by omega
      have HT : Hid (t = ⟨(timesL s.data.toList k).toArray⟩) := bytes_ext (by rw [HD.out])
      have b1 : (k : Int) - (k : Int) ≤ 0 := by omega
      clear HD hlt
      go_wp2
      go_ret
      exact ⟨by rw [← HT.out]; rfl, rfl⟩
end Go.Proofs.Ytooplolalbcmjaa
