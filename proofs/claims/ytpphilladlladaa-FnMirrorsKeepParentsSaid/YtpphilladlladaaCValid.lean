/-
  The contracts of the two functions that tell whether a text is a word.
-/
import Derived.Test.YtpphilladlladaaProg
import Derived.Test.YtpphilladlladaaWords
import Derived.WalkKit
import Derived.WalkSpells
import Derived.WalkLawsBesides
import Derived.Lib.Hide
import Derived.Lib.OthersKept
import Derived.BigQuiet
import Derived.Deep.QuietTactic
namespace Go.Proofs.Ytpphilladlladaa
open Go.RowKit

theorem ret_bool {a b : Bool} (h : a = b) : Ending.returned (.bool a) = .returned (.bool b) := by rw [h]
theorem ret_int {k : IntKind} {a b : Int} (h : a = b) : Ending.returned (.int k a) = .returned (.int k b) := by rw [h]

theorem size_list (s : ByteArray) : s.data.toList.length = s.size := rfl
theorem get_list (s : ByteArray) (k : Nat) (h : k < s.size) : s.data.toList[k]'h = s[k] := rfl

/-- one step of the scan, in the words of the walk -/
theorem scan_next {s : ByteArray} {k o : Nat} (hk : k < s.size) (h : scan (s.data.toList.take k) = some o) : scan (s.data.toList.take (k + 1)) = vstep (some o) s[k] := by
  have := scan_step s.data.toList k hk
  rw [this, h, get_list s k hk]
theorem scan_opn {s : ByteArray} {k o : Nat} (hk : k < s.size) (h : scan (s.data.toList.take k) = some o) (hc : ((s[k].toNat : Int) == 40) = true) : scan (s.data.toList.take (k + 1)) = some (o + 1) := by
  have hc := eq_of_beq hc
  rw [scan_next hk h]; simp only [vstep]; rw [if_pos (by omega)]
theorem scan_cls {s : ByteArray} {k o : Nat} (hk : k < s.size) (h : scan (s.data.toList.take k) = some o) (hc : ((s[k].toNat : Int) == 41) = true) (ho : 0 < o) : scan (s.data.toList.take (k + 1)) = some (o - 1) := by
  have hc := eq_of_beq hc
  rw [scan_next hk h]; simp only [vstep]; rw [if_neg (by omega), if_pos (by omega), if_neg (by omega)]
theorem not_valid {l : List UInt8} {k : Nat} (h : scan (l.take k) = none) : valid l = false := by
  simp [valid, scan_take_none l k h]
theorem bad_cls {s : ByteArray} {k o : Nat} (hk : k < s.size) (h : scan (s.data.toList.take k) = some o) (hc : ((s[k].toNat : Int) == 41) = true) (ho : o = 0) : valid s.data.toList = false := by
  have hc := eq_of_beq hc
  apply not_valid (k := k + 1)
  rw [scan_next hk h]; simp only [vstep]; rw [if_neg (by omega), if_pos (by omega), if_pos (by omega)]
theorem bad_other {s : ByteArray} {k o : Nat} (hk : k < s.size) (h : scan (s.data.toList.take k) = some o) (h1 : ((s[k].toNat : Int) == 40) = false) (h2 : ((s[k].toNat : Int) == 41) = false) : valid s.data.toList = false := by
  have h1 := ne_of_beq_false h1
  have h2 := ne_of_beq_false h2
  apply not_valid (k := k + 1)
  rw [scan_next hk h]; simp only [vstep]; rw [if_neg (by omega), if_neg (by omega)]
theorem valid_end {s : ByteArray} {k o : Nat} (hk : k = s.size) (h : scan (s.data.toList.take k) = some o) : valid s.data.toList = (decide (s.size ≤ 18) && decide (o = 0)) := by
  subst hk
  have e : s.data.toList.take s.size = s.data.toList := List.take_of_length_le (Nat.le_of_eq (size_list s))
  rw [e] at h
  by_cases h0 : o = 0 <;> simp [valid, h, h0]

set_option maxHeartbeats 400000 in
theorem specValid_any (s : ByteArray) (w : World) (hs : s.size ≤ maxLen) :
    Calls Try.prog 39 #[.string s] w fun e w' => e = .returned (.bool (valid s.data.toList)) ∧ w = w' := by
  unfold maxLen at hs
  go_enter Try.func39, Try.ntmps39
  go_wp2
  go_loop [3, 4] (fun n i => ∃ k o : Nat, k ≤ s.size ∧ o ≤ k ∧ i = .int .i64 k ∧ n = .int .i64 o ∧ Hid (scan (s.data.toList.take k) = some o)) (fun _ i => s.size - (intOf i).toNat)
  case atStart => exact ⟨0, 0, Nat.zero_le _, Nat.le_refl _, rfl, rfl, rfl⟩
  case round =>
    obtain ⟨k, o, hk, ho, rfl, rfl, H⟩ := hrel
    by_cases hlt : k < s.size
    · go_wp2
      all_goals first
        | (have h1 : ((s[k].toNat : Int) == 40) = true := by assumption
           go_round
           case rel => exact ⟨k + 1, o + 1, by omega, by omega, by go_num, by go_num, scan_opn hlt H.out h1⟩
           case measure => simp [intOf]; omega)
        | (have h2 : ((s[k].toNat : Int) == 41) = true := by assumption
           have h3 : (o : Int) - 1 < 0 := by assumption
           go_ret
           exact ⟨ret_bool (bad_cls hlt H.out h2 (by omega)).symm, rfl⟩)
        | (have h2 : ((s[k].toNat : Int) == 41) = true := by assumption
           have h3 : 0 ≤ (o : Int) - 1 := by assumption
           go_round
           case rel => exact ⟨k + 1, o - 1, by omega, by omega, by go_num, by go_num, scan_cls hlt H.out h2 (by omega)⟩
           case measure => simp [intOf]; omega)
        | (have h1 : ((s[k].toNat : Int) == 40) = false := by assumption
           have h2 : ((s[k].toNat : Int) == 41) = false := by assumption
           go_ret
           exact ⟨ret_bool (bad_other hlt H.out h1 h2).symm, rfl⟩)
    · have hv := Lib.hid (valid_end (show k = s.size by omega) H.out)
      go_wp2
      all_goals (go_ret; exact ⟨ret_bool (by rw [hv.out]; simp [*]; try omega), rfl⟩)

theorem bad_high {s : ByteArray} {k o : Nat} (hk : k < s.size) (h : scan (s.data.toList.take k) = some o) (h1 : 128 ≤ s[k].toNat) : valid s.data.toList = false := by
  apply not_valid (k := k + 1)
  rw [scan_next hk h]; simp only [vstep]; rw [if_neg (by omega), if_neg (by omega)]
theorem beq0 (o : Nat) : ((o : Int) == 0) = decide (o = 0) := by
  by_cases h : o = 0
  · subst h; rfl
  · rw [decide_eq_false h]; exact beq_false_of_ne (by omega)
theorem valid_len {l : List UInt8} (h : ¬ l.length ≤ 18) : valid l = false := by simp [valid, h]

set_option maxHeartbeats 400000 in
theorem implValid_any (s : ByteArray) (w : World) (hs : s.size ≤ maxLen) :
    Calls Try.prog 36 #[.string s] w fun e w' => e = .returned (.bool (valid s.data.toList)) ∧ Below w.heap.size w w' := by
  unfold maxLen at hs
  by_cases h18 : s.size ≤ 18
  · have hle : (s.size : Int) ≤ 18 := by omega
    go_enter Try.func36, Try.ntmps36
    go_wp2
    go_loopw [3] (fun n wr => ∃ k o : Nat, wr = w.iter s k ∧ k ≤ s.size ∧ o ≤ k ∧ n = .int .i64 o ∧ Hid (scan (s.data.toList.take k) = some o)) (fun _ wr => s.size - wr.iterPos w.heap.size)
    case atStart => exact ⟨0, 0, rfl, Nat.zero_le _, Nat.le_refl _, rfl, rfl⟩
    case round =>
      obtain ⟨k, o, rfl, hk, ho, rfl, H⟩ := hrel
      by_cases hlt : k < s.size
      · by_cases ha : s[k].toNat < 128
        · have hnx := fun ty => run_next_ascii (P := Try.prog) w s k ty hlt ha
          go_wp2
          all_goals first
            | (have h1 : ((s[k].toNat : Int) == 40) = true := by assumption
               go_roundw
               case rel => exact ⟨k + 1, o + 1, rfl, by omega, by omega, by go_num, scan_opn hlt H.out h1⟩
               case measure => simp; omega)
            | (have h2 : ((s[k].toNat : Int) == 41) = true := by assumption
               have h3 : (o : Int) - 1 < 0 := by assumption
               go_ret
               exact ⟨ret_bool (bad_cls hlt H.out h2 (by omega)).symm, (Below.refl _ _).alloc (Nat.le_refl _) _⟩)
            | (have h2 : ((s[k].toNat : Int) == 41) = true := by assumption
               have h3 : 0 ≤ (o : Int) - 1 := by assumption
               go_roundw
               case rel => exact ⟨k + 1, o - 1, rfl, by omega, by omega, by go_num, scan_cls hlt H.out h2 (by omega)⟩
               case measure => simp; omega)
            | (have h1 : ((s[k].toNat : Int) == 40) = false := by assumption
               have h2 : ((s[k].toNat : Int) == 41) = false := by assumption
               go_ret
               exact ⟨ret_bool (bad_other hlt H.out h1 h2).symm, (Below.refl _ _).alloc (Nat.le_refl _) _⟩)
        · obtain ⟨hr, hw1⟩ := decode_high s k hlt (by omega)
          have hnx := fun ty => run_next_any (P := Try.prog) w s k ty hlt
          have hb := Lib.hid (bad_high hlt H.out (by omega))
          go_wp2
          go_ret
          exact ⟨ret_bool hb.out.symm, (Below.refl _ _).alloc (Nat.le_refl _) _⟩
      · have hv := Lib.hid (valid_end (show k = s.size by omega) H.out)
        have hnx := fun ty => run_next_end (P := Try.prog) w s k ty hlt
        go_wp2
        go_ret
        exact ⟨ret_bool (by rw [hv.out, beq0]; simp [h18]), (Below.refl _ _).alloc (Nat.le_refl _) _⟩
  · have hle : (18 : Int) < (s.size : Int) := by omega
    have hv := Lib.hid (valid_len (l := s.data.toList) (by rw [size_list]; omega))
    go_enter Try.func36, Try.ntmps36
    go_wp2
    go_ret
    exact ⟨ret_bool hv.out.symm, Below.refl _ _⟩

end Go.Proofs.Ytpphilladlladaa
