/-
  The contract of the laws' own test whether two lists are equal.
  The contracts of the laws' own helpers: two lists of texts are equal; a list of texts ascends; a text so many times.
  The contract of the laws' own helper: is a text in a list?
  The laws' own test whether two lists of numbers are equal, of any two lists of the same length.
-/
import Derived.Test.YtddhiokpdhahbaaZW
import Derived.Test.YtddhiokpdhahbaaProg
import Derived.WalkSpells
import Derived.WalkLawsBesides
import Derived.Lib.Hide
import Derived.BigQuiet
import Derived.Deep.QuietTactic
import Derived.Test.YtddhiokpdhahbaaCWFrom
import Derived.Test.YtddhiokpdhahbaaCTurnS
namespace Go.Proofs.Ytddhiokpdhahbaa
open Go.RowKit

set_option maxHeartbeats 800000 in
theorem equalInts_yes (l : List Int) (u v : Value) (w : World) {B H B' H' : Nat} (hu : Hid (Own w B H 3 u (iv l))) (hv : Hid (Own w B' H' 3 v (iv l))) (hl : l.length ≤ 1048576) :
    Calls Try.prog 28 #[u, v] w fun e w' => e = .returned (.bool true) ∧ Same w w' := by
  obtain ⟨au, cu, rfl, _, hcu, _, _⟩ := hu.out.slice
  obtain ⟨av, cv, rfl, _, hcv, _, _⟩ := hv.out.slice
  rw [iv_length] at hu hv hcu hcv ⊢
  go_enter Try.func28, Try.ntmps28
  go_wp2
  go_loopw [5] (fun i wr => ∃ k : Nat, k ≤ l.length ∧ i = .int .i64 k ∧ Hid (Same w wr)) (fun i _ => l.length - (intOf i).toNat)
  case atStart => exact ⟨0, Nat.zero_le _, rfl, Same.refl w⟩
  case round =>
    obtain ⟨k, hk, rfl, HS⟩ := hrel
    by_cases hlt : k < l.length
    · obtain ⟨g1, rfl, _, _, h1, _⟩ := (hu.out.same HS.out.1).at_ k (by rw [iv_length]; exact hlt)
      obtain ⟨g2, rfl, _, _, h2, _⟩ := (hv.out.same HS.out.1).at_ k (by rw [iv_length]; exact hlt)
      rw [iv_at l k hlt] at h1 h2
      obtain ⟨x, hx⟩ : ∃ x, x = l[k] := ⟨_, rfl⟩
      rw [← hx] at h1 h2
      have b1 : (k : Int) < (l.length : Int) := by omega
      clear hx
      go_wp2
      go_quiet (fail)
      go_wp2
      go_roundw
      case rel => exact ⟨k + 1, by omega, by go_num, HS.out.drewN _⟩
      case measure => simp [intOf]; omega
    · obtain rfl : k = l.length := by omega
      go_wp2
      go_ret
      exact ⟨rfl, HS.out⟩

end Go.Proofs.Ytddhiokpdhahbaa

namespace Go.Proofs.Ytddhiokpdhahbaa
open Go.RowKit

theorem sv_at2 (L : List (List UInt8)) (k : Nat) (h : k < L.length) : (sv L)[k]? = some (.string ⟨L[k].toArray⟩) := by simp [sv, h]

set_option maxHeartbeats 800000 in
theorem equalTexts_yes (L : List (List UInt8)) (u v : Value) (w : World) {B H B' H' : Nat} (hu : Hid (Own w B H 9 u (sv L))) (hv : Hid (Own w B' H' 9 v (sv L))) (hl : L.length ≤ 1048576) :
    Calls Try.prog 11 #[u, v] w fun e w' => e = .returned (.bool true) ∧ Same w w' := by
  obtain ⟨au, cu, rfl, _, hcu, _, _⟩ := hu.out.slice
  obtain ⟨av, cv, rfl, _, hcv, _, _⟩ := hv.out.slice
  rw [sv_length] at hu hv hcu hcv ⊢
  go_enter Try.func11, Try.ntmps11
  go_wp2
  go_loopw [5] (fun i wr => ∃ k : Nat, k ≤ L.length ∧ i = .int .i64 k ∧ Hid (Same w wr)) (fun i _ => L.length - (intOf i).toNat)
  case atStart => exact ⟨0, Nat.zero_le _, rfl, Same.refl w⟩
  case round =>
    obtain ⟨k, hk, rfl, HS⟩ := hrel
    by_cases hlt : k < L.length
    · obtain ⟨g1, rfl, _, _, h1, _⟩ := (hu.out.same HS.out.1).at_ k (by rw [sv_length]; exact hlt)
      obtain ⟨g2, rfl, _, _, h2, _⟩ := (hv.out.same HS.out.1).at_ k (by rw [sv_length]; exact hlt)
      rw [sv_at2 L k hlt] at h1 h2
      obtain ⟨x, hx⟩ : ∃ x, x = ByteArray.mk L[k].toArray := ⟨_, rfl⟩
      rw [← hx] at h1 h2
      have b1 : (k : Int) < (L.length : Int) := by omega
      clear hx
      go_wp2
      go_quiet (fail)
      go_wp2
      go_roundw
      case rel => exact ⟨k + 1, by omega, by go_num, HS.out.drewN _⟩
      case measure => simp [intOf]; omega
    · obtain rfl : k = L.length := by omega
      go_wp2
      go_ret
      exact ⟨rfl, HS.out⟩

/-- is each text less than the one behind it? -/
def ascB : List (List UInt8) → Bool
  | x :: y :: r => lessL x y && ascB (y :: r)
  | _ => true
theorem ascB_at : ∀ (L : List (List UInt8)) (k : Nat) (h : k + 1 < L.length), ascB L = true → lessL L[k] L[k + 1] = true
  | x :: y :: r, 0, _, ha => by simp only [ascB, Bool.and_eq_true] at ha; exact ha.1
  | x :: y :: r, k + 1, h, ha => by
    simp only [ascB, Bool.and_eq_true] at ha
    exact ascB_at (y :: r) k (by simpa using h) ha.2
  | [_], k, h, _ => by simp at h
  | [], k, h, _ => by simp at h
theorem less_not : ∀ (x y : List UInt8), lessL x y = true → lessL y x = false ∧ eqL y x = false
  | x, [], h => by cases x <;> cases h
  | [], _ :: _, _ => ⟨rfl, rfl⟩
  | a :: x, b :: y, h => by
    simp only [lessL, Bool.or_eq_true, Bool.and_eq_true] at h
    rcases h with h | ⟨h1, h2⟩
    · have h' : a.toNat < b.toNat := by simpa using h
      have n1 : Nat.blt b.toNat a.toNat = false := by
        rw [Bool.eq_false_iff]; intro hh; have : b.toNat < a.toNat := by simpa using hh
        omega
      have n2 : Nat.beq b.toNat a.toNat = false := by
        rw [Bool.eq_false_iff]; intro hh; have : b.toNat = a.toNat := by simpa using hh
        omega
      simp [lessL, eqL, n1, n2]
    · have h' : a.toNat = b.toNat := by simpa using h1
      have ih := less_not x y h2
      have n1 : Nat.blt b.toNat a.toNat = false := by
        rw [Bool.eq_false_iff]; intro hh; have : b.toNat < a.toNat := by simpa using hh
        omega
      simp [lessL, eqL, n1, ih.1, ih.2]

set_option maxHeartbeats 1600000 in
theorem ascend_yes (L : List (List UInt8)) (u : Value) (w : World) {B H : Nat} (hu : Hid (Own w B H 9 u (sv L))) (hl : L.length ≤ 1048576) (ha : ascB L = true) :
    Calls Try.prog 15 #[u] w fun e w' => e = .returned (.bool true) ∧ Same w w' := by
  obtain ⟨au, cu, rfl, _, hcu, _, _⟩ := hu.out.slice
  rw [sv_length] at hu hcu ⊢
  have HA := Lib.hid ha
  clear ha
  go_enter Try.func15, Try.ntmps15
  go_wp2
  go_loopw [3] (fun i wr => ∃ k : Nat, 1 ≤ k ∧ k ≤ L.length + 1 ∧ i = .int .i64 k ∧ Hid (Same w wr)) (fun i _ => L.length + 1 - (intOf i).toNat)
  case atStart => exact ⟨1, Nat.le_refl _, by omega, rfl, Same.refl w⟩
  case round =>
    obtain ⟨k, hk1, hk, rfl, HS⟩ := hrel
    by_cases hlt : k < L.length
    · obtain ⟨j, rfl⟩ : ∃ j, k = j + 1 := ⟨k - 1, by omega⟩
      have hj : j < L.length := by omega
      obtain ⟨g1, rfl, _, _, h1, _⟩ := (hu.out.same HS.out.1).at_ (j + 1) (by rw [sv_length]; exact hlt)
      obtain ⟨g2, he2, _, _, h2, _⟩ := (hu.out.same HS.out.1).at_ j (by rw [sv_length]; exact hj)
      cases he2
      rw [sv_at2 L (j + 1) hlt] at h1
      rw [sv_at2 L j hj] at h2
      obtain ⟨n1, n2⟩ := less_not _ _ (ascB_at L j hlt HA.out)
      obtain ⟨x, hx⟩ : ∃ x, x = ByteArray.mk L[j].toArray := ⟨_, rfl⟩
      obtain ⟨y, hy⟩ : ∃ y, y = ByteArray.mk (L[j + 1]'hlt).toArray := ⟨_, rfl⟩
      have m1 : Op.bytesLess y.toList x.toList = false := by rw [less_eq, ByteArray.toList_eq, ByteArray.toList_eq, hx, hy]; exact n1
      have m2 : (y.toList == x.toList) = false := by rw [eqL_eq, ByteArray.toList_eq, ByteArray.toList_eq, hx, hy]; exact n2
      rw [← hy] at h1
      rw [← hx] at h2
      have b1 : ((j + 1 : Nat) : Int) < (L.length : Int) := by omega
      have e0 : ((j + 1 : Nat) : Int) - 1 = (j : Int) := by omega
      have b2 : (j : Int) < (L.length : Int) := by omega
      clear hx hy n1 n2
      go_wp2
      go_quiet (fail)
      go_wp2
      go_roundw
      case rel => exact ⟨j + 1 + 1, by omega, by omega, by go_num, HS.out.drewN _⟩
      case measure => simp [intOf]; omega
    · have b1 : (L.length : Int) ≤ (k : Int) := by omega
      go_wp2
      go_ret
      exact ⟨rfl, HS.out⟩

/-- a text so many times -/
def timesL (s : List UInt8) : Nat → List UInt8
  | 0 => []
  | n + 1 => timesL s n ++ s
theorem timesL_length (s : List UInt8) (n : Nat) : (timesL s n).length = n * s.length := by
  induction n with
  | zero => simp [timesL]
  | succ n ih => rw [timesL, List.length_append, ih, Nat.succ_mul]

set_option maxHeartbeats 800000 in
theorem times_any (s : ByteArray) (n : Nat) (hn : n ≤ 100) (hs : s.size ≤ 100) (w : World) :
    Calls Try.prog 25 #[.string s, .int .i64 n] w fun e w' => e = .returned (.string ⟨(timesL s.data.toList n).toArray⟩) ∧ w = w' := by
  go_enter Try.func25, Try.ntmps25
  go_wp2
  go_loop [1, 5] (fun a b => ∃ (k : Nat) (t : ByteArray), k ≤ n ∧ a = .int .i64 ((n : Int) - (k : Int)) ∧ b = .string t ∧ t.size ≤ 100 * k ∧ Hid (t.data.toList = timesL s.data.toList k)) (fun a _ => (intOf a).toNat)
  case atStart => exact ⟨0, ⟨#[]⟩, Nat.zero_le _, by go_num, rfl, by simp [ByteArray.size], rfl⟩
  case round =>
    obtain ⟨k, t, hk, rfl, rfl, ht, HD⟩ := hrel
    by_cases hlt : k < n
    · have b1 : (0 : Int) < (n : Int) - (k : Int) := by omega
      have z1 : t.size + s.size ≤ 9223372036854775807 := by omega
      have N : Hid ((t ++ s).data.toList = timesL s.data.toList (k + 1)) := by show _ = _; rw [toList_append, HD.out]; rfl
      have hts : (t ++ s).size ≤ 100 * (k + 1) := by rw [ByteArray.size_append]; omega
      have HTS := Lib.hid hts
      clear HD hts
      go_wp2
      go_round
      case rel => exact ⟨k + 1, t ++ s, by omega, by go_num, rfl, HTS.out, N⟩
      case measure => simp [intOf]; omega
    · obtain rfl : k = n := by omega
      have HT : Hid (t = ⟨(timesL s.data.toList k).toArray⟩) := bytes_ext (by rw [HD.out])
      have b1 : (k : Int) - (k : Int) ≤ 0 := by omega
      clear HD hlt
      go_wp2
      go_ret
      exact ⟨by rw [← HT.out]; rfl, rfl⟩
end Go.Proofs.Ytddhiokpdhahbaa

namespace Go.Proofs.Ytddhiokpdhahbaa
open Go.RowKit

set_option maxHeartbeats 800000 in
theorem inTexts_any (L : List (List UInt8)) (v : Value) (s : ByteArray) (w : World) {B H : Nat} (hv : Hid (Own w B H 9 v (sv L))) (hl : L.length ≤ 68719476736) :
    Calls Try.prog 14 #[v, .string s] w fun e w' => e = .returned (.bool (decide (s.data.toList ∈ L))) ∧ w' = w := by
  obtain ⟨av, cv, rfl, _, hcv, _, _⟩ := hv.out.slice
  rw [sv_length] at hv hcv ⊢
  go_enter Try.func14, Try.ntmps14
  go_wp2
  go_loopw [5] (fun i wr => ∃ k : Nat, k ≤ L.length ∧ i = .int .i64 k ∧ Hid (∀ (j : Nat) (hj : j < L.length), j < k → L[j] ≠ s.data.toList) ∧ wr = w) (fun i _ => L.length - (intOf i).toNat)
  case atStart => exact ⟨0, Nat.zero_le _, rfl, fun j hj h => by omega, rfl⟩
  case round =>
    obtain ⟨k, hk, rfl, HN, rfl⟩ := hrel
    by_cases hlt : k < L.length
    · obtain ⟨g, rfl, _, _, hc, _⟩ := hv.out.at_ k (by rw [sv_length]; exact hlt)
      rw [sv_get L k hlt] at hc
      have b1 : (k : Int) < (L.length : Int) := by omega
      obtain ⟨u, hu⟩ : ∃ u : ByteArray, u = ⟨L[k].toArray⟩ := ⟨_, rfl⟩
      rw [← hu] at hc
      by_cases he : u = s
      · have hy := Lib.hid (mem_yes (x := s.data.toList) hlt (by rw [← he, hu]))
        subst he
        clear hu
        go_wp2
        go_ret
        exact ⟨by rw [hy.out]; rfl, rfl⟩
      · have hls : L[k] ≠ s.data.toList := fun e => he (by rw [hu]; exact bytes_ext e)
        have hN2 : Hid (∀ (j : Nat) (hj : j < L.length), j < k + 1 → L[j] ≠ s.data.toList) := fun j hj h => by
          by_cases e : j = k
          · subst e; exact hls
          · exact HN.out j hj (by omega)
        have c1 : (u.toList == s.toList) = false := by
          rw [ByteArray.toList_eq, ByteArray.toList_eq]
          exact beq_eq_false_iff_ne.mpr (fun e => he (bytes_ext e))
        clear hu hls
        go_wp2
        go_roundw
        case rel => exact ⟨k + 1, by omega, by go_num, hN2, by simp⟩
        case measure => simp [intOf]; omega
    · have hy := Lib.hid (mem_not (x := s.data.toList) (fun j hj => HN.out j hj (by omega)))
      have b1 : (L.length : Int) ≤ (k : Int) := by omega
      go_wp2
      go_ret
      exact ⟨by rw [hy.out]; rfl, rfl⟩
end Go.Proofs.Ytddhiokpdhahbaa

namespace Go.Proofs.Ytddhiokpdhahbaa
open Go.RowKit

theorem lists_eq {A B : List Int} (hl : B.length = A.length) (h : ∀ (j : Nat) (h1 : j < A.length), A[j] = B[j]'(by omega)) : A = B :=
  List.ext_getElem hl.symm (fun j h1 _ => h j h1)
set_option maxHeartbeats 800000 in
theorem equalInts_dec (A D : List Int) (u v : Value) (w : World) {B H B' H' : Nat} (hu : Hid (Own w B H 3 u (iv A))) (hv : Hid (Own w B' H' 3 v (iv D))) (hl : A.length ≤ 1048576) (hd : D.length = A.length) :
    Calls Try.prog 28 #[u, v] w fun e w' => e = .returned (.bool (decide (A = D))) ∧ ∃ m, w' = w.drewN m := by
  obtain ⟨au, cu, rfl, _, hcu, _, _⟩ := hu.out.slice
  obtain ⟨av, cv, rfl, _, hcv, _, _⟩ := hv.out.slice
  rw [iv_length] at hu hcu ⊢
  rw [iv_length] at hv hcv ⊢
  rw [hd] at hv hcv ⊢
  have HD := Lib.hid hd
  clear hd
  go_enter Try.func28, Try.ntmps28
  go_wp2
  go_loopw [5] (fun i wr => ∃ k : Nat, k ≤ A.length ∧ i = .int .i64 k ∧ Hid (∀ (j : Nat) (hj : j < A.length), j < k → A[j] = D[j]'(by have := HD.out; omega)) ∧ Hid (∃ q, wr = w.drewN q)) (fun i _ => A.length - (intOf i).toNat)
  case atStart => exact ⟨0, Nat.zero_le _, rfl, fun j hj h => by omega, 0, rfl⟩
  case round =>
    obtain ⟨k, hk, rfl, HN, HS⟩ := hrel
    have hheap : wr.heap = w.heap := by obtain ⟨q, hq⟩ := HS.out; rw [hq]; rfl
    have HH := Lib.hid hheap
    clear hheap
    by_cases hlt : k < A.length
    · have hlt2 : k < D.length := by rw [HD.out]; exact hlt
      obtain ⟨g1, rfl, _, _, h1, _⟩ := (hu.out.same HH.out).at_ k (by rw [iv_length]; exact hlt)
      obtain ⟨g2, rfl, _, _, h2, _⟩ := (hv.out.same HH.out).at_ k (by rw [iv_length]; exact hlt2)
      rw [iv_at A k hlt] at h1
      rw [iv_at D k hlt2] at h2
      have b1 : (k : Int) < (A.length : Int) := by omega
      by_cases he : A[k] = D[k]
      · have HN2 : Hid (∀ (j : Nat) (hj : j < A.length), j < k + 1 → A[j] = D[j]'(by have := HD.out; omega)) := fun j hj h => by
          by_cases e : j = k
          · subst e; exact he
          · exact HN.out j hj (by omega)
        rw [← he] at h2
        obtain ⟨x, hx⟩ : ∃ x, x = A[k] := ⟨_, rfl⟩
        rw [← hx] at h1 h2
        clear hx he
        go_wp2
        go_quiet (fail)
        go_wp2
        go_roundw
        case rel => exact ⟨k + 1, by omega, by go_num, HN2, by obtain ⟨q, hq⟩ := HS.out; exact ⟨q + nq, by rw [hq, World.drewN_drewN]⟩⟩
        case measure => simp [intOf]; omega
      · have HY := Lib.hid (show decide (A = D) = false from decide_eq_false (fun e => he (by subst e; rfl)))
        obtain ⟨x, hx⟩ : ∃ x, x = A[k] := ⟨_, rfl⟩
        obtain ⟨y, hy⟩ : ∃ y, y = D[k] := ⟨_, rfl⟩
        rw [← hx] at h1 he
        rw [← hy] at h2 he
        have q1 : (x == y) = false := beq_false_of_ne he
        clear hx hy hlt2
        go_wp2
        go_quiet (fail)
        go_wp2
        go_ret
        rw [HY.out]
        exact ⟨rfl, by obtain ⟨q, hq⟩ := HS.out; exact ⟨q + nq, by rw [hq, World.drewN_drewN]⟩⟩
    · obtain rfl : k = A.length := by omega
      have HY := Lib.hid (show decide (A = D) = true from decide_eq_true (lists_eq HD.out (fun j hj => HN.out j hj hj)))
      go_wp2
      go_ret
      rw [HY.out]
      exact ⟨rfl, HS.out⟩
end Go.Proofs.Ytddhiokpdhahbaa
