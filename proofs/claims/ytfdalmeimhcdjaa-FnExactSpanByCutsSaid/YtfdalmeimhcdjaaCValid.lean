/-
  The contracts of the two functions that tell whether a text is a word.
-/
import Derived.Test.YtfdalmeimhcdjaaProg
import Derived.Test.YtfdalmeimhcdjaaWords
import Derived.WalkKit
import Derived.WalkSpells
import Derived.WalkLawsBesides
import Derived.Lib.Hide
import Derived.Lib.OthersKept
import Derived.BigQuiet
import Derived.Deep.QuietTactic
namespace Go.Proofs.Ytfdalmeimhcdjaa
open Go.RowKit

theorem ret_bool {a b : Bool} (h : a = b) : Ending.returned (.bool a) = .returned (.bool b) := by rw [h]
theorem ret_int {k : IntKind} {a b : Int} (h : a = b) : Ending.returned (.int k a) = .returned (.int k b) := by rw [h]

theorem size_list (s : ByteArray) : s.data.toList.length = s.size := rfl
theorem get_list (s : ByteArray) (k : Nat) (h : k < s.size) : s.data.toList[k]'h = s[k] := rfl

/-- one step of the scan, in the words of the walk -/
theorem scan_next {s : ByteArray} {k o : Nat} (hk : k < s.size) (h : scan (s.data.toList.take k) = some o) : scan (s.data.toList.take (k + 1)) = vstep (some o) s[k] := by
  have := scan_step s.data.toList k hk
  rw [this, h, get_list s k hk]
theorem scan_opn {s : ByteArray} {k o : Nat} (hk : k < s.size) (h : scan (s.data.toList.take k) = some o) (hc : ((s[k].toNat : Int) == 40) = true) : scan (s.data.toList.take (k + 1)) = some (o + 1) := by
  have hc := eq_of_beq hc
  rw [scan_next hk h]; simp only [vstep]; rw [if_pos (by omega)]
theorem scan_cls {s : ByteArray} {k o : Nat} (hk : k < s.size) (h : scan (s.data.toList.take k) = some o) (hc : ((s[k].toNat : Int) == 41) = true) (ho : 0 < o) : scan (s.data.toList.take (k + 1)) = some (o - 1) := by
  have hc := eq_of_beq hc
  rw [scan_next hk h]; simp only [vstep]; rw [if_neg (by omega), if_pos (by omega), if_neg (by omega)]
theorem not_valid {l : List UInt8} {k : Nat} (h : scan (l.take k) = none) : valid l = false := by
  simp [valid, scan_take_none l k h]
theorem bad_cls {s : ByteArray} {k o : Nat} (hk : k < s.size) (h : scan (s.data.toList.take k) = some o) (hc : ((s[k].toNat : Int) == 41) = true) (ho : o = 0) : valid s.data.toList = false := by
  have hc := eq_of_beq hc
  apply not_valid (k := k + 1)
  rw [scan_next hk h]; simp only [vstep]; rw [if_neg (by omega), if_pos (by omega), if_pos (by omega)]
theorem bad_other {s : ByteArray} {k o : Nat} (hk : k < s.size) (h : scan (s.data.toList.take k) = some o) (h1 : ((s[k].toNat : Int) == 40) = false) (h2 : ((s[k].toNat : Int) == 41) = false) : valid s.data.toList = false := by
  have h1 := ne_of_beq_false h1
  have h2 := ne_of_beq_false h2
  apply not_valid (k := k + 1)
  rw [scan_next hk h]; simp only [vstep]; rw [if_neg (by omega), if_neg (by omega)]
theorem valid_end {s : ByteArray} {k o : Nat} (hk : k = s.size) (h : scan (s.data.toList.take k) = some o) : valid s.data.toList = (decide (s.size ≤ 18) && decide (o = 0)) := by
  subst hk
  have e : s.data.toList.take s.size = s.data.toList := List.take_of_length_le (Nat.le_of_eq (size_list s))
  rw [e] at h
  by_cases h0 : o = 0 <;> simp [valid, h, h0]

theorem bad_high {s : ByteArray} {k o : Nat} (hk : k < s.size) (h : scan (s.data.toList.take k) = some o) (h1 : 128 ≤ s[k].toNat) : valid s.data.toList = false := by
  apply not_valid (k := k + 1)
  rw [scan_next hk h]; simp only [vstep]; rw [if_neg (by omega), if_neg (by omega)]
theorem beq0 (o : Nat) : ((o : Int) == 0) = decide (o = 0) := by
  by_cases h : o = 0
  · subst h; rfl
  · rw [decide_eq_false h]; exact beq_false_of_ne (by omega)
theorem valid_len {l : List UInt8} (h : ¬ l.length ≤ 18) : valid l = false := by simp [valid, h]

end Go.Proofs.Ytfdalmeimhcdjaa
