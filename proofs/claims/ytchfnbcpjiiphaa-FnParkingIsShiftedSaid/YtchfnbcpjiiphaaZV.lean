/-
  The contracts of the two functions that tell whether a text is a word.
  The contracts of the functions that read a word from its end.
  The contract of the function that tells whether a number lies in a range.
-/
import Derived.Test.YtchfnbcpjiiphaaProg
import Derived.Test.YtchfnbcpjiiphaaWords
import Derived.WalkKit
import Derived.WalkSpells
import Derived.WalkLawsBesides
import Derived.Lib.Hide
import Derived.Lib.OthersKept
import Derived.BigQuiet
import Derived.Deep.QuietTactic
namespace Go.Proofs.Ytchfnbcpjiiphaa
open Go.RowKit

theorem ret_bool {a b : Bool} (h : a = b) : Ending.returned (.bool a) = .returned (.bool b) := by rw [h]
theorem ret_int {k : IntKind} {a b : Int} (h : a = b) : Ending.returned (.int k a) = .returned (.int k b) := by rw [h]

theorem size_list (s : ByteArray) : s.data.toList.length = s.size := rfl
theorem get_list (s : ByteArray) (k : Nat) (h : k < s.size) : s.data.toList[k]'h = s[k] := rfl

/-- one step of the scan, in the words of the walk -/
theorem scan_next {s : ByteArray} {k o : Nat} (hk : k < s.size) (h : scan (s.data.toList.take k) = some o) : scan (s.data.toList.take (k + 1)) = vstep (some o) s[k] := by
  have := scan_step s.data.toList k hk
  rw [this, h, get_list s k hk]
theorem scan_opn {s : ByteArray} {k o : Nat} (hk : k < s.size) (h : scan (s.data.toList.take k) = some o) (hc : ((s[k].toNat : Int) == 40) = true) : scan (s.data.toList.take (k + 1)) = some (o + 1) := by
  have hc := eq_of_beq hc
  rw [scan_next hk h]; simp only [vstep]; rw [if_pos (by omega)]
theorem scan_cls {s : ByteArray} {k o : Nat} (hk : k < s.size) (h : scan (s.data.toList.take k) = some o) (hc : ((s[k].toNat : Int) == 41) = true) (ho : 0 < o) : scan (s.data.toList.take (k + 1)) = some (o - 1) := by
  have hc := eq_of_beq hc
  rw [scan_next hk h]; simp only [vstep]; rw [if_neg (by omega), if_pos (by omega), if_neg (by omega)]
theorem not_valid {l : List UInt8} {k : Nat} (h : scan (l.take k) = none) : valid l = false := by
  simp [valid, scan_take_none l k h]
theorem bad_cls {s : ByteArray} {k o : Nat} (hk : k < s.size) (h : scan (s.data.toList.take k) = some o) (hc : ((s[k].toNat : Int) == 41) = true) (ho : o = 0) : valid s.data.toList = false := by
  have hc := eq_of_beq hc
  apply not_valid (k := k + 1)
  rw [scan_next hk h]; simp only [vstep]; rw [if_neg (by omega), if_pos (by omega), if_pos (by omega)]
theorem bad_other {s : ByteArray} {k o : Nat} (hk : k < s.size) (h : scan (s.data.toList.take k) = some o) (h1 : ((s[k].toNat : Int) == 40) = false) (h2 : ((s[k].toNat : Int) == 41) = false) : valid s.data.toList = false := by
  have h1 := ne_of_beq_false h1
  have h2 := ne_of_beq_false h2
  apply not_valid (k := k + 1)
  rw [scan_next hk h]; simp only [vstep]; rw [if_neg (by omega), if_neg (by omega)]
theorem valid_end {s : ByteArray} {k o : Nat} (hk : k = s.size) (h : scan (s.data.toList.take k) = some o) : valid s.data.toList = (decide (s.size ≤ 18) && decide (o = 0)) := by
  subst hk
  have e : s.data.toList.take s.size = s.data.toList := List.take_of_length_le (Nat.le_of_eq (size_list s))
  rw [e] at h
  by_cases h0 : o = 0 <;> simp [valid, h, h0]

theorem bad_high {s : ByteArray} {k o : Nat} (hk : k < s.size) (h : scan (s.data.toList.take k) = some o) (h1 : 128 ≤ s[k].toNat) : valid s.data.toList = false := by
  apply not_valid (k := k + 1)
  rw [scan_next hk h]; simp only [vstep]; rw [if_neg (by omega), if_neg (by omega)]
theorem beq0 (o : Nat) : ((o : Int) == 0) = decide (o = 0) := by
  by_cases h : o = 0
  · subst h; rfl
  · rw [decide_eq_false h]; exact beq_false_of_ne (by omega)
theorem valid_len {l : List UInt8} (h : ¬ l.length ≤ 18) : valid l = false := by simp [valid, h]

end Go.Proofs.Ytchfnbcpjiiphaa

namespace Go.Proofs.Ytchfnbcpjiiphaa
open Go.RowKit

theorem mirrorL_cons (c : UInt8) (l : List UInt8) : mirrorL (c :: l) = mirrorL l ++ [flip c] := by simp [mirrorL]
theorem mirrorL_length (l : List UInt8) : (mirrorL l).length = l.length := by simp [mirrorL]
theorem drop_at (s : ByteArray) (j : Nat) (h : j < s.size) : s.data.toList.drop j = s[j] :: s.data.toList.drop (j + 1) := by
  rw [← get_list s j h]; exact List.drop_eq_getElem_cons (by rw [size_list]; exact h)
theorem toList_append (a b : ByteArray) : (a ++ b).data.toList = a.data.toList ++ b.data.toList := by simp [ByteArray.data_append]
theorem bytes_ext {a b : ByteArray} (h : a.data.toList = b.data.toList) : a = b := by
  cases a; cases b; simp at h; subst h; rfl
theorem ret_string {a b : ByteArray} (h : a.data.toList = b.data.toList) : Ending.returned (.string a) = .returned (.string b) := by rw [bytes_ext h]

theorem mirror_step {s t : ByteArray} {m : Nat} (hm : 0 < m) (hk : m - 1 < s.size) (ht : t.data.toList = mirrorL (s.data.toList.drop m)) (u : ByteArray) (hu : u.data.toList = [flip s[m - 1]]) :
    (t ++ u).data.toList = mirrorL (s.data.toList.drop (m - 1)) := by
  rw [toList_append, ht, hu, drop_at s (m - 1) hk, mirrorL_cons, show m - 1 + 1 = m by omega]
theorem flip_opn {c : UInt8} (h : ((c.toNat : Int) == 40) = true) : (ByteArray.mk #[41]).data.toList = [flip c] := by
  have h := eq_of_beq h
  show [41] = _
  rw [flip, if_pos (by omega)]
theorem flip_other {c : UInt8} (h : ((c.toNat : Int) == 40) = false) : (ByteArray.mk #[40]).data.toList = [flip c] := by
  have h := ne_of_beq_false h
  show [40] = _
  rw [flip, if_neg (by omega)]

theorem valid_size {s : ByteArray} (h : valid s.data.toList = true) : s.size ≤ 18 := by
  simp only [valid, Bool.and_eq_true, decide_eq_true_eq, size_list] at h; exact h.1
theorem valid_byte {s : ByteArray} (h : valid s.data.toList = true) (k : Nat) (hk : k < s.size) : s[k].toNat = 40 ∨ s[k].toNat = 41 := by
  rcases Nat.decEq s[k].toNat 40 with h1 | h1
  · rcases Nat.decEq s[k].toNat 41 with h2 | h2
    · exfalso
      have h3 : scan (s.data.toList.take (k + 1)) = none := by
        have h4 := scan_step s.data.toList k hk
        rw [h4, get_list s k hk]
        cases scan (s.data.toList.take k) with
        | none => rfl
        | some o => simp only [vstep]; rw [if_neg h1, if_neg h2]
      rw [not_valid h3] at h
      cases h
    · exact .inr h2
  · exact .inl h1

theorem Try.infoByte : (Try.prog.info? 5).map (fun i => (i.zero, i.size, i.bytes)) = some (some (.int .u8 0), 1, 1) := by kernel_rfl

/-- the cells of the row behind k letters -/
def mcells (s : ByteArray) (k : Nat) : List Value := List.replicate (s.size - k) (.int .u8 0) ++ (mirrorL (s.data.toList.take k)).map fun c => .int .u8 (c.toNat : Int)
theorem mcells_zero (s : ByteArray) : mcells s 0 = List.replicate s.size (.int .u8 0) := by simp [mcells, mirrorL]
theorem mcells_length (s : ByteArray) (k : Nat) (hk : k ≤ s.size) : (mcells s k).length = s.size := by
  simp only [mcells, List.length_append, List.length_replicate, List.length_map, mirrorL_length, List.length_take, size_list]; omega
theorem mirrorL_snoc (l : List UInt8) (c : UInt8) : mirrorL (l ++ [c]) = flip c :: mirrorL l := by simp [mirrorL]
theorem mcells_step (s : ByteArray) (k : Nat) (hk : k < s.size) : (mcells s k).set (s.size - 1 - k) (.int .u8 ((flip s[k]).toNat : Int)) = mcells s (k + 1) := by
  have e : s.data.toList.take (k + 1) = s.data.toList.take k ++ [s[k]] := take_snoc s.data.toList k hk
  rw [mcells, mcells, e, mirrorL_snoc, List.map_cons, show s.size - k = (s.size - 1 - k) + 1 by omega, show s.size - (k + 1) = s.size - 1 - k by omega, List.replicate_succ', List.append_assoc]
  rw [List.set_append_right _ _ (by simp)]
  simp
end Go.Proofs.Ytchfnbcpjiiphaa

namespace Go.Proofs.Ytchfnbcpjiiphaa
open Go.RowKit

theorem inRange_yes (x lo hi : Int) (w : World) (h1 : lo ≤ x) (h2 : x ≤ hi) :
    Calls Try.prog 47 #[.int .i64 x, .int .i64 lo, .int .i64 hi] w fun e w' => e = .returned (.bool true) ∧ w = w' := by
  have d1 : decide (lo ≤ x) = true := decide_eq_true h1
  have d2 : decide (x ≤ hi) = true := decide_eq_true h2
  go_enter Try.func47, Try.ntmps47
  go_wp2
  go_ret
  exact ⟨rfl, rfl⟩
theorem inRange_no (x lo hi : Int) (w : World) (h : x < lo ∨ hi < x) :
    Calls Try.prog 47 #[.int .i64 x, .int .i64 lo, .int .i64 hi] w fun e w' => e = .returned (.bool false) ∧ w = w' := by
  by_cases h1 : lo ≤ x
  · have h2 : ¬ x ≤ hi := by omega
    have d1 : decide (lo ≤ x) = true := decide_eq_true h1
    have d2 : decide (x ≤ hi) = false := decide_eq_false h2
    clear h
    go_enter Try.func47, Try.ntmps47
    go_wp2
    go_ret
    exact ⟨rfl, rfl⟩
  · have d1 : decide (lo ≤ x) = false := decide_eq_false h1
    clear h
    go_enter Try.func47, Try.ntmps47
    go_wp2
    go_ret
    exact ⟨rfl, rfl⟩
end Go.Proofs.Ytchfnbcpjiiphaa
