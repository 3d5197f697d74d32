/-
  The contract of the laws' own test whether two lists are equal.
  The contracts of the laws' own helpers: two lists of texts are equal; a list of texts ascends; a text so many times.
  The contract of the laws' own helper: is a text in a list?
-/
import Derived.Test.YthlboikljibohaaGreatZW
import Derived.Test.YthlboikljibohaaGreatProg
import Derived.WalkSpells
import Derived.WalkLawsBesides
import Derived.Lib.Hide
import Derived.BigQuiet
import Derived.Deep.QuietTactic
import Derived.Test.YthlboikljibohaaGreatCWFrom
import Derived.Test.YthlboikljibohaaGreatZX
import Derived.Test.YthlboikljibohaaGreatZTS
namespace Go.Proofs.YthlboikljibohaaGreat
open Go.RowKit

end Go.Proofs.YthlboikljibohaaGreat

namespace Go.Proofs.YthlboikljibohaaGreat
open Go.RowKit

theorem sv_at2 (L : List (List UInt8)) (k : Nat) (h : k < L.length) : (sv L)[k]? = some (.string ⟨L[k].toArray⟩) := by simp [sv, h]

set_option maxHeartbeats 800000 in
theorem equalTexts_yes (L : List (List UInt8)) (u v : Value) (w : World) {B H B' H' : Nat} (hu : Hid (Own w B H 9 u (sv L))) (hv : Hid (Own w B' H' 9 v (sv L))) (hl : L.length ≤ 1048576) :
    Calls Tryz.prog 6 #[u, v] w fun e w' => e = .returned (.bool true) ∧ Same w w' := by
  obtain ⟨au, cu, rfl, _, hcu, _, _⟩ := hu.out.slice
  obtain ⟨av, cv, rfl, _, hcv, _, _⟩ := hv.out.slice
  rw [sv_length] at hu hv hcu hcv ⊢
  go_enter Tryz.func6, Tryz.ntmps6
  go_wp2
  go_loopw [5] (fun i wr => ∃ k : Nat, k ≤ L.length ∧ i = .int .i64 k ∧ Hid (Same w wr)) (fun i _ => L.length - (intOf i).toNat)
  case atStart => exact ⟨0, Nat.zero_le _, rfl, Same.refl w⟩
  case round =>
    obtain ⟨k, hk, rfl, HS⟩ := hrel
    by_cases hlt : k < L.length
    · obtain ⟨g1, rfl, _, _, h1, _⟩ := (hu.out.same HS.out.1).at_ k (by rw [sv_length]; exact hlt)
      obtain ⟨g2, rfl, _, _, h2, _⟩ := (hv.out.same HS.out.1).at_ k (by rw [sv_length]; exact hlt)
      rw [sv_at2 L k hlt] at h1 h2
      obtain ⟨x, hx⟩ : ∃ x, x = ByteArray.mk L[k].toArray := ⟨_, rfl⟩
      rw [← hx] at h1 h2
      have b1 : (k : Int) < (L.length : Int) := by omega
      clear hx
      go_wp2
      go_quiet (fail)
      go_wp2
      go_roundw
      case rel => exact ⟨k + 1, by omega, by go_num, HS.out.drewN _⟩
      case measure => simp [intOf]; omega
    · obtain rfl : k = L.length := by omega
      go_wp2
      go_ret
      exact ⟨rfl, HS.out⟩

/-- is each text less than the one behind it? -/
def ascB : List (List UInt8) → Bool
  | x :: y :: r => lessL x y && ascB (y :: r)
  | _ => true
theorem ascB_at : ∀ (L : List (List UInt8)) (k : Nat) (h : k + 1 < L.length), ascB L = true → lessL L[k] L[k + 1] = true
  | x :: y :: r, 0, _, ha => by simp only [ascB, Bool.and_eq_true] at ha; exact ha.1
  | x :: y :: r, k + 1, h, ha => by
    simp only [ascB, Bool.and_eq_true] at ha
    exact ascB_at (y :: r) k (by simpa using h) ha.2
  | [_], k, h, _ => by simp at h
  | [], k, h, _ => by simp at h
theorem less_not : ∀ (x y : List UInt8), lessL x y = true → lessL y x = false ∧ eqL y x = false
  | x, [], h => by cases x <;> cases h
  | [], _ :: _, _ => ⟨rfl, rfl⟩
  | a :: x, b :: y, h => by
    simp only [lessL, Bool.or_eq_true, Bool.and_eq_true] at h
    rcases h with h | ⟨h1, h2⟩
    · have h' : a.toNat < b.toNat := by simpa using h
      have n1 : Nat.blt b.toNat a.toNat = false := by
        rw [Bool.eq_false_iff]; intro hh; have : b.toNat < a.toNat := by simpa using hh
        omega
      have n2 : Nat.beq b.toNat a.toNat = false := by
        rw [Bool.eq_false_iff]; intro hh; have : b.toNat = a.toNat := by simpa using hh
        omega
      simp [lessL, eqL, n1, n2]
    · have h' : a.toNat = b.toNat := by simpa using h1
      have ih := less_not x y h2
      have n1 : Nat.blt b.toNat a.toNat = false := by
        rw [Bool.eq_false_iff]; intro hh; have : b.toNat < a.toNat := by simpa using hh
        omega
      simp [lessL, eqL, n1, ih.1, ih.2]

set_option maxHeartbeats 1600000 in
theorem ascend_yes (L : List (List UInt8)) (u : Value) (w : World) {B H : Nat} (hu : Hid (Own w B H 9 u (sv L))) (hl : L.length ≤ 1048576) (ha : ascB L = true) :
    Calls Tryz.prog 15 #[u] w fun e w' => e = .returned (.bool true) ∧ Same w w' := by
  obtain ⟨au, cu, rfl, _, hcu, _, _⟩ := hu.out.slice
  rw [sv_length] at hu hcu ⊢
  have HA := Lib.hid ha
  clear ha
  go_enter Tryz.func15, Tryz.ntmps15
  go_wp2
  go_loopw [3] (fun i wr => ∃ k : Nat, 1 ≤ k ∧ k ≤ L.length + 1 ∧ i = .int .i64 k ∧ Hid (Same w wr)) (fun i _ => L.length + 1 - (intOf i).toNat)
  case atStart => exact ⟨1, Nat.le_refl _, by omega, rfl, Same.refl w⟩
  case round =>
    obtain ⟨k, hk1, hk, rfl, HS⟩ := hrel
    by_cases hlt : k < L.length
    · obtain ⟨j, rfl⟩ : ∃ j, k = j + 1 := ⟨k - 1, by omega⟩
      have hj : j < L.length := by omega
      obtain ⟨g1, rfl, _, _, h1, _⟩ := (hu.out.same HS.out.1).at_ (j + 1) (by rw [sv_length]; exact hlt)
      obtain ⟨g2, he2, _, _, h2, _⟩ := (hu.out.same HS.out.1).at_ j (by rw [sv_length]; exact hj)
      cases he2
      rw [sv_at2 L (j + 1) hlt] at h1
      rw [sv_at2 L j hj] at h2
      obtain ⟨n1, n2⟩ := less_not _ _ (ascB_at L j hlt HA.out)
      obtain ⟨x, hx⟩ : ∃ x, x = ByteArray.mk L[j].toArray := ⟨_, rfl⟩
      obtain ⟨y, hy⟩ : ∃ y, y = ByteArray.mk (L[j + 1]'hlt).toArray := ⟨_, rfl⟩
      have m1 : Op.bytesLess y.toList x.toList = false := by rw [less_eq, ByteArray.toList_eq, ByteArray.toList_eq, hx, hy]; exact n1
      have m2 : (y.toList == x.toList) = false := by rw [eqL_eq, ByteArray.toList_eq, ByteArray.toList_eq, hx, hy]; exact n2
      rw [← hy] at h1
      rw [← hx] at h2
      have b1 : ((j + 1 : Nat) : Int) < (L.length : Int) := by omega
      have e0 : ((j + 1 : Nat) : Int) - 1 = (j : Int) := by omega
      have b2 : (j : Int) < (L.length : Int) := by omega
      clear hx hy n1 n2
      go_wp2
      go_quiet (fail)
      go_wp2
      go_roundw
      case rel => exact ⟨j + 1 + 1, by omega, by omega, by go_num, HS.out.drewN _⟩
      case measure => simp [intOf]; omega
    · have b1 : (L.length : Int) ≤ (k : Int) := by omega
      go_wp2
      go_ret
      exact ⟨rfl, HS.out⟩

/-- a text so many times -/
def timesL (s : List UInt8) : Nat → List UInt8
  | 0 => []
  | n + 1 => timesL s n ++ s
theorem timesL_length (s : List UInt8) (n : Nat) : (timesL s n).length = n * s.length := by
  induction n with
  | zero => simp [timesL]
  | succ n ih => rw [timesL, List.length_append, ih, Nat.succ_mul]

end Go.Proofs.YthlboikljibohaaGreat

namespace Go.Proofs.YthlboikljibohaaGreat
open Go.RowKit

set_option maxHeartbeats 800000 in
theorem inTexts_any (L : List (List UInt8)) (v : Value) (s : ByteArray) (w : World) {B H : Nat} (hv : Hid (Own w B H 9 v (sv L))) (hl : L.length ≤ 68719476736) :
    Calls Tryz.prog 12 #[v, .string s] w fun e w' => e = .returned (.bool (decide (s.data.toList ∈ L))) ∧ w' = w := by
  obtain ⟨av, cv, rfl, _, hcv, _, _⟩ := hv.out.slice
  rw [sv_length] at hv hcv ⊢
  go_enter Tryz.func12, Tryz.ntmps12
  go_wp2
  go_loopw [5] (fun i wr => ∃ k : Nat, k ≤ L.length ∧ i = .int .i64 k ∧ Hid (∀ (j : Nat) (hj : j < L.length), j < k → L[j] ≠ s.data.toList) ∧ wr = w) (fun i _ => L.length - (intOf i).toNat)
  case atStart => exact ⟨0, Nat.zero_le _, rfl, fun j hj h => by omega, rfl⟩
  case round =>
    obtain ⟨k, hk, rfl, HN, rfl⟩ := hrel
    by_cases hlt : k < L.length
    · obtain ⟨g, rfl, _, _, hc, _⟩ := hv.out.at_ k (by rw [sv_length]; exact hlt)
      rw [sv_get L k hlt] at hc
      have b1 : (k : Int) < (L.length : Int) := by omega
      obtain ⟨u, hu⟩ : ∃ u : ByteArray, u = ⟨L[k].toArray⟩ := ⟨_, rfl⟩
      rw [← hu] at hc
      by_cases he : u = s
      · have hy := Lib.hid (mem_yes (x := s.data.toList) hlt (by rw [← he, hu]))
        subst he
        clear hu
        go_wp2
        go_ret
        exact ⟨by rw [hy.out]; rfl, rfl⟩
      · have hls : L[k] ≠ s.data.toList := fun e => he (by rw [hu]; exact bytes_ext e)
        have hN2 : Hid (∀ (j : Nat) (hj : j < L.length), j < k + 1 → L[j] ≠ s.data.toList) := fun j hj h => by
          by_cases e : j = k
          · subst e; exact hls
          · exact HN.out j hj (by omega)
        have c1 : (u.toList == s.toList) = false := by
          rw [ByteArray.toList_eq, ByteArray.toList_eq]
          exact beq_eq_false_iff_ne.mpr (fun e => he (bytes_ext e))
        clear hu hls
        go_wp2
        go_roundw
        case rel => exact ⟨k + 1, by omega, by go_num, hN2, by simp⟩
        case measure => simp [intOf]; omega
    · have hy := Lib.hid (mem_not (x := s.data.toList) (fun j hj => HN.out j hj (by omega)))
      have b1 : (L.length : Int) ≤ (k : Int) := by omega
      go_wp2
      go_ret
      exact ⟨by rw [hy.out]; rfl, rfl⟩
end Go.Proofs.YthlboikljibohaaGreat
