/-
  The contract of the function that tells whether a number lies in a range.
  The contracts of the two functions that tell whether a text is a word.
  The contracts of the functions that read a word from its end.
  The contract of the program's function that reads a word from its end.
-/
import Derived.Test.YtakpbnkncjddeaaProg
import Derived.WalkKit
import Derived.WalkSpells
import Derived.WalkLawsBesides
import Derived.Lib.Hide
import Derived.BigQuiet
import Derived.Deep.QuietTactic
import Derived.Test.YtakpbnkncjddeaaWords
import Derived.Lib.OthersKept
namespace Go.Proofs.Ytakpbnkncjddeaa
open Go.RowKit

theorem inRange_yes (x lo hi : Int) (w : World) (h1 : lo ≤ x) (h2 : x ≤ hi) :
    Calls Try.prog 62 #[.int .i64 x, .int .i64 lo, .int .i64 hi] w fun e w' => e = .returned (.bool true) ∧ w = w' := by
  have d1 : decide (lo ≤ x) = true := decide_eq_true h1
  have d2 : decide (x ≤ hi) = true := decide_eq_true h2
  go_enter Try.func62, Try.ntmps62
  go_wp2
  go_ret
  exact ⟨rfl, rfl⟩
theorem inRange_no (x lo hi : Int) (w : World) (h : x < lo ∨ hi < x) :
    Calls Try.prog 62 #[.int .i64 x, .int .i64 lo, .int .i64 hi] w fun e w' => e = .returned (.bool false) ∧ w = w' := by
  by_cases h1 : lo ≤ x
  · have h2 : ¬ x ≤ hi := by omega
    have d1 : decide (lo ≤ x) = true := decide_eq_true h1
    have d2 : decide (x ≤ hi) = false := decide_eq_false h2
    clear h
    go_enter Try.func62, Try.ntmps62
    go_wp2
    go_ret
    exact ⟨rfl, rfl⟩
  · have d1 : decide (lo ≤ x) = false := decide_eq_false h1
    clear h
    go_enter Try.func62, Try.ntmps62
    go_wp2
    go_ret
    exact ⟨rfl, rfl⟩
end Go.Proofs.Ytakpbnkncjddeaa

namespace Go.Proofs.Ytakpbnkncjddeaa
open Go.RowKit

theorem ret_bool {a b : Bool} (h : a = b) : Ending.returned (.bool a) = .returned (.bool b) := by rw [h]
theorem ret_int {k : IntKind} {a b : Int} (h : a = b) : Ending.returned (.int k a) = .returned (.int k b) := by rw [h]

theorem size_list (s : ByteArray) : s.data.toList.length = s.size := rfl
theorem get_list (s : ByteArray) (k : Nat) (h : k < s.size) : s.data.toList[k]'h = s[k] := rfl

/-- one step of the scan, in the words of the walk -/
theorem scan_next {s : ByteArray} {k o : Nat} (hk : k < s.size) (h : scan (s.data.toList.take k) = some o) : scan (s.data.toList.take (k + 1)) = vstep (some o) s[k] := by
  have := scan_step s.data.toList k hk
  rw [this, h, get_list s k hk]
theorem scan_opn {s : ByteArray} {k o : Nat} (hk : k < s.size) (h : scan (s.data.toList.take k) = some o) (hc : ((s[k].toNat : Int) == 40) = true) : scan (s.data.toList.take (k + 1)) = some (o + 1) := by
  have hc := eq_of_beq hc
  rw [scan_next hk h]; simp only [vstep]; rw [if_pos (by omega)]
theorem scan_cls {s : ByteArray} {k o : Nat} (hk : k < s.size) (h : scan (s.data.toList.take k) = some o) (hc : ((s[k].toNat : Int) == 41) = true) (ho : 0 < o) : scan (s.data.toList.take (k + 1)) = some (o - 1) := by
  have hc := eq_of_beq hc
  rw [scan_next hk h]; simp only [vstep]; rw [if_neg (by omega), if_pos (by omega), if_neg (by omega)]
theorem not_valid {l : List UInt8} {k : Nat} (h : scan (l.take k) = none) : valid l = false := by
  simp [valid, scan_take_none l k h]
theorem bad_cls {s : ByteArray} {k o : Nat} (hk : k < s.size) (h : scan (s.data.toList.take k) = some o) (hc : ((s[k].toNat : Int) == 41) = true) (ho : o = 0) : valid s.data.toList = false := by
  have hc := eq_of_beq hc
  apply not_valid (k := k + 1)
  rw [scan_next hk h]; simp only [vstep]; rw [if_neg (by omega), if_pos (by omega), if_pos (by omega)]
theorem bad_other {s : ByteArray} {k o : Nat} (hk : k < s.size) (h : scan (s.data.toList.take k) = some o) (h1 : ((s[k].toNat : Int) == 40) = false) (h2 : ((s[k].toNat : Int) == 41) = false) : valid s.data.toList = false := by
  have h1 := ne_of_beq_false h1
  have h2 := ne_of_beq_false h2
  apply not_valid (k := k + 1)
  rw [scan_next hk h]; simp only [vstep]; rw [if_neg (by omega), if_neg (by omega)]
theorem valid_end {s : ByteArray} {k o : Nat} (hk : k = s.size) (h : scan (s.data.toList.take k) = some o) : valid s.data.toList = (decide (s.size ≤ 18) && decide (o = 0)) := by
  subst hk
  have e : s.data.toList.take s.size = s.data.toList := List.take_of_length_le (Nat.le_of_eq (size_list s))
  rw [e] at h
  by_cases h0 : o = 0 <;> simp [valid, h, h0]

set_option maxHeartbeats 400000 in
theorem specValid_any (s : ByteArray) (w : World) (hs : s.size ≤ maxLen) :
    Calls Try.prog 57 #[.string s] w fun e w' => e = .returned (.bool (valid s.data.toList)) ∧ w = w' := by
  unfold maxLen at hs
  go_enter Try.func57, Try.ntmps57
  go_wp2
  go_loop [3, 4] (fun n i => ∃ k o : Nat, k ≤ s.size ∧ o ≤ k ∧ i = .int .i64 k ∧ n = .int .i64 o ∧ Hid (scan (s.data.toList.take k) = some o)) (fun _ i => s.size - (intOf i).toNat)
  case atStart => exact ⟨0, 0, Nat.zero_le _, Nat.le_refl _, rfl, rfl, rfl⟩
  case round =>
    obtain ⟨k, o, hk, ho, rfl, rfl, H⟩ := hrel
    by_cases hlt : k < s.size
    · go_wp2
      all_goals first
        | (have h1 : ((s[k].toNat : Int) == 40) = true := by assumption
           go_round
           case rel => exact ⟨k + 1, o + 1, by omega, by omega, by go_num, by go_num, scan_opn hlt H.out h1⟩
           case measure => simp [intOf]; omega)
        | (have h2 : ((s[k].toNat : Int) == 41) = true := by assumption
           have h3 : (o : Int) - 1 < 0 := by assumption
           go_ret
           exact ⟨ret_bool (bad_cls hlt H.out h2 (by omega)).symm, rfl⟩)
        | (have h2 : ((s[k].toNat : Int) == 41) = true := by assumption
           have h3 : 0 ≤ (o : Int) - 1 := by assumption
           go_round
           case rel => exact ⟨k + 1, o - 1, by omega, by omega, by go_num, by go_num, scan_cls hlt H.out h2 (by omega)⟩
           case measure => simp [intOf]; omega)
        | (have h1 : ((s[k].toNat : Int) == 40) = false := by assumption
           have h2 : ((s[k].toNat : Int) == 41) = false := by assumption
           go_ret
           exact ⟨ret_bool (bad_other hlt H.out h1 h2).symm, rfl⟩)
    · have hv := Lib.hid (valid_end (show k = s.size by omega) H.out)
      go_wp2
      all_goals (go_ret; exact ⟨ret_bool (by rw [hv.out]; simp [*]; try omega), rfl⟩)

theorem bad_high {s : ByteArray} {k o : Nat} (hk : k < s.size) (h : scan (s.data.toList.take k) = some o) (h1 : 128 ≤ s[k].toNat) : valid s.data.toList = false := by
  apply not_valid (k := k + 1)
  rw [scan_next hk h]; simp only [vstep]; rw [if_neg (by omega), if_neg (by omega)]
theorem beq0 (o : Nat) : ((o : Int) == 0) = decide (o = 0) := by
  by_cases h : o = 0
  · subst h; rfl
  · rw [decide_eq_false h]; exact beq_false_of_ne (by omega)
theorem valid_len {l : List UInt8} (h : ¬ l.length ≤ 18) : valid l = false := by simp [valid, h]

set_option maxHeartbeats 400000 in
theorem implValid_any (s : ByteArray) (w : World) (hs : s.size ≤ maxLen) :
    Calls Try.prog 54 #[.string s] w fun e w' => e = .returned (.bool (valid s.data.toList)) ∧ Below w.heap.size w w' := by
  unfold maxLen at hs
  by_cases h18 : s.size ≤ 18
  · have hle : (s.size : Int) ≤ 18 := by omega
    go_enter Try.func54, Try.ntmps54
    go_wp2
    go_loopw [3] (fun n wr => ∃ k o : Nat, wr = w.iter s k ∧ k ≤ s.size ∧ o ≤ k ∧ n = .int .i64 o ∧ Hid (scan (s.data.toList.take k) = some o)) (fun _ wr => s.size - wr.iterPos w.heap.size)
    case atStart => exact ⟨0, 0, rfl, Nat.zero_le _, Nat.le_refl _, rfl, rfl⟩
    case round =>
      obtain ⟨k, o, rfl, hk, ho, rfl, H⟩ := hrel
      by_cases hlt : k < s.size
      · by_cases ha : s[k].toNat < 128
        · have hnx := fun ty => run_next_ascii (P := Try.prog) w s k ty hlt ha
          go_wp2
          all_goals first
            | (have h1 : ((s[k].toNat : Int) == 40) = true := by assumption
               go_roundw
               case rel => exact ⟨k + 1, o + 1, rfl, by omega, by omega, by go_num, scan_opn hlt H.out h1⟩
               case measure => simp; omega)
            | (have h2 : ((s[k].toNat : Int) == 41) = true := by assumption
               have h3 : (o : Int) - 1 < 0 := by assumption
               go_ret
               exact ⟨ret_bool (bad_cls hlt H.out h2 (by omega)).symm, (Below.refl _ _).alloc (Nat.le_refl _) _⟩)
            | (have h2 : ((s[k].toNat : Int) == 41) = true := by assumption
               have h3 : 0 ≤ (o : Int) - 1 := by assumption
               go_roundw
               case rel => exact ⟨k + 1, o - 1, rfl, by omega, by omega, by go_num, scan_cls hlt H.out h2 (by omega)⟩
               case measure => simp; omega)
            | (have h1 : ((s[k].toNat : Int) == 40) = false := by assumption
               have h2 : ((s[k].toNat : Int) == 41) = false := by assumption
               go_ret
               exact ⟨ret_bool (bad_other hlt H.out h1 h2).symm, (Below.refl _ _).alloc (Nat.le_refl _) _⟩)
        · obtain ⟨hr, hw1⟩ := decode_high s k hlt (by omega)
          have hnx := fun ty => run_next_any (P := Try.prog) w s k ty hlt
          have hb := Lib.hid (bad_high hlt H.out (by omega))
          go_wp2
          go_ret
          exact ⟨ret_bool hb.out.symm, (Below.refl _ _).alloc (Nat.le_refl _) _⟩
      · have hv := Lib.hid (valid_end (show k = s.size by omega) H.out)
        have hnx := fun ty => run_next_end (P := Try.prog) w s k ty hlt
        go_wp2
        go_ret
        exact ⟨ret_bool (by rw [hv.out, beq0]; simp [h18]), (Below.refl _ _).alloc (Nat.le_refl _) _⟩
  · have hle : (18 : Int) < (s.size : Int) := by omega
    have hv := Lib.hid (valid_len (l := s.data.toList) (by rw [size_list]; omega))
    go_enter Try.func54, Try.ntmps54
    go_wp2
    go_ret
    exact ⟨ret_bool hv.out.symm, Below.refl _ _⟩

end Go.Proofs.Ytakpbnkncjddeaa

namespace Go.Proofs.Ytakpbnkncjddeaa
open Go.RowKit

theorem mirrorL_cons (c : UInt8) (l : List UInt8) : mirrorL (c :: l) = mirrorL l ++ [flip c] := by simp [mirrorL]
theorem mirrorL_length (l : List UInt8) : (mirrorL l).length = l.length := by simp [mirrorL]
theorem drop_at (s : ByteArray) (j : Nat) (h : j < s.size) : s.data.toList.drop j = s[j] :: s.data.toList.drop (j + 1) := by
  rw [← get_list s j h]; exact List.drop_eq_getElem_cons (by rw [size_list]; exact h)
theorem toList_append (a b : ByteArray) : (a ++ b).data.toList = a.data.toList ++ b.data.toList := by simp [ByteArray.data_append]
theorem bytes_ext {a b : ByteArray} (h : a.data.toList = b.data.toList) : a = b := by
  cases a; cases b; simp at h; subst h; rfl
theorem ret_string {a b : ByteArray} (h : a.data.toList = b.data.toList) : Ending.returned (.string a) = .returned (.string b) := by rw [bytes_ext h]

theorem mirror_step {s t : ByteArray} {m : Nat} (hm : 0 < m) (hk : m - 1 < s.size) (ht : t.data.toList = mirrorL (s.data.toList.drop m)) (u : ByteArray) (hu : u.data.toList = [flip s[m - 1]]) :
    (t ++ u).data.toList = mirrorL (s.data.toList.drop (m - 1)) := by
  rw [toList_append, ht, hu, drop_at s (m - 1) hk, mirrorL_cons, show m - 1 + 1 = m by omega]
theorem flip_opn {c : UInt8} (h : ((c.toNat : Int) == 40) = true) : (ByteArray.mk #[41]).data.toList = [flip c] := by
  have h := eq_of_beq h
  show [41] = _
  rw [flip, if_pos (by omega)]
theorem flip_other {c : UInt8} (h : ((c.toNat : Int) == 40) = false) : (ByteArray.mk #[40]).data.toList = [flip c] := by
  have h := ne_of_beq_false h
  show [40] = _
  rw [flip, if_neg (by omega)]

theorem implValid_is (b : Bool) (s : ByteArray) (w : World) (hs : s.size ≤ maxLen) (hv : Hid (valid s.data.toList = b)) :
    Calls Try.prog 54 #[.string s] w fun e w' => e = .returned (.bool b) ∧ Below w.heap.size w w' :=
  (implValid_any s w hs).mono fun _ _ ⟨he, hb⟩ => ⟨by rw [he, hv.out], hb⟩
theorem specValid_is (b : Bool) (s : ByteArray) (w : World) (hs : s.size ≤ maxLen) (hv : Hid (valid s.data.toList = b)) :
    Calls Try.prog 57 #[.string s] w fun e w' => e = .returned (.bool b) ∧ w = w' :=
  (specValid_any s w hs).mono fun _ _ ⟨he, hb⟩ => ⟨by rw [he, hv.out], hb⟩

theorem valid_size {s : ByteArray} (h : valid s.data.toList = true) : s.size ≤ 18 := by
  simp only [valid, Bool.and_eq_true, decide_eq_true_eq, size_list] at h; exact h.1
theorem valid_byte {s : ByteArray} (h : valid s.data.toList = true) (k : Nat) (hk : k < s.size) : s[k].toNat = 40 ∨ s[k].toNat = 41 := by
  rcases Nat.decEq s[k].toNat 40 with h1 | h1
  · rcases Nat.decEq s[k].toNat 41 with h2 | h2
    · exfalso
      have h3 : scan (s.data.toList.take (k + 1)) = none := by
        have h4 := scan_step s.data.toList k hk
        rw [h4, get_list s k hk]
        cases scan (s.data.toList.take k) with
        | none => rfl
        | some o => simp only [vstep]; rw [if_neg h1, if_neg h2]
      rw [not_valid h3] at h
      cases h
    · exact .inr h2
  · exact .inl h1

theorem Try.infoByte : (Try.prog.info? 5).map (fun i => (i.zero, i.size, i.bytes)) = some (some (.int .u8 0), 1, 1) := by kernel_rfl

/-- the cells of the row behind k letters -/
def mcells (s : ByteArray) (k : Nat) : List Value := List.replicate (s.size - k) (.int .u8 0) ++ (mirrorL (s.data.toList.take k)).map fun c => .int .u8 (c.toNat : Int)
theorem mcells_zero (s : ByteArray) : mcells s 0 = List.replicate s.size (.int .u8 0) := by simp [mcells, mirrorL]
theorem mcells_length (s : ByteArray) (k : Nat) (hk : k ≤ s.size) : (mcells s k).length = s.size := by
  simp only [mcells, List.length_append, List.length_replicate, List.length_map, mirrorL_length, List.length_take, size_list]; omega
theorem mirrorL_snoc (l : List UInt8) (c : UInt8) : mirrorL (l ++ [c]) = flip c :: mirrorL l := by simp [mirrorL]
theorem mcells_step (s : ByteArray) (k : Nat) (hk : k < s.size) : (mcells s k).set (s.size - 1 - k) (.int .u8 ((flip s[k]).toNat : Int)) = mcells s (k + 1) := by
  have e : s.data.toList.take (k + 1) = s.data.toList.take k ++ [s[k]] := take_snoc s.data.toList k hk
  rw [mcells, mcells, e, mirrorL_snoc, List.map_cons, show s.size - k = (s.size - 1 - k) + 1 by omega, show s.size - (k + 1) = s.size - 1 - k by omega, List.replicate_succ', List.append_assoc]
  rw [List.set_append_right _ _ (by simp)]
  simp
end Go.Proofs.Ytakpbnkncjddeaa

namespace Go.Proofs.Ytakpbnkncjddeaa
open Go.RowKit

theorem own_iterAt {w : World} {base : Nat} {e : TypeId} {size : Nat} {v : Value} {n : Nat} {xs : List Value} (h : w.ownsRow base e size v n xs) {k : Nat} (hk : v.ownBlock ≠ some k) (s : ByteArray) (p : Nat) : (w.iterAt k s p).ownsRow base e size v n xs := by
  obtain ⟨h1, h2⟩ := h
  refine ⟨h1, ?_⟩
  rcases h2 with h2 | ⟨g, cap, cur, a, b, c, d⟩
  · exact .inl h2
  · subst a
    exact .inr ⟨g, cap, cur, rfl, b, by rw [Lib.iterAt_other _ _ _ _ _ (fun e => hk (by simp [Value.ownBlock, e]))]; exact c, d⟩
theorem iterPos_of {w : World} {k : Nat} {s : ByteArray} {p : Nat} (h : w.heap[k]? = some (.stringIter s p)) : w.iterPos k = p := by simp [World.iterPos, h]

/-- one letter set: the row, the iterator, what lay before -/
theorem mirror_round {s : ByteArray} {w wr : World} {G I k : Nat} (hG : w.heap.size ≤ G) (hne : G ≠ I) (hI : w.heap.size ≤ I) (hk : k < s.size)
    (hit : wr.heap[I]? = some (.stringIter s k)) (hown : wr.ownsRow w.heap.size 5 1 (.slice (some ⟨G, 0, none⟩) s.size s.size) s.size (mcells s k)) (hb : Below w.heap.size w wr) (u : Value) (hu : u = .int .u8 ((flip s[k]).toNat : Int)) :
    ((wr.iterAt I s (k + 1)).setCell ⟨G, s.size - 1 - k, none⟩ u).heap[I]? = some (.stringIter s (k + 1)) ∧
    ((wr.iterAt I s (k + 1)).setCell ⟨G, s.size - 1 - k, none⟩ u).ownsRow w.heap.size 5 1 (.slice (some ⟨G, 0, none⟩) s.size s.size) s.size (mcells s (k + 1)) ∧
    Below w.heap.size w ((wr.iterAt I s (k + 1)).setCell ⟨G, s.size - 1 - k, none⟩ u) := by
  have h1 := own_iterAt hown (k := I) (by simp [Value.ownBlock, hne]) s (k + 1)
  have h2 := (h1.stored (s.size - 1 - k) u).1
  subst hu
  rw [mcells_step s k hk] at h2
  refine ⟨?_, h2, (Lib.below_iterAt hb hI s (k + 1)).setCell hG _⟩
  rw [Below.heap_setCell _ _ _ _ (fun e => hne e.symm)]
  exact Lib.iterAt_heap wr I s k (k + 1) hit

theorem flip_val {c : UInt8} (h : c.toNat = 40 ∨ c.toNat = 41) : (((c.toNat : Int) == 40) = true ∧ Value.int .u8 41 = .int .u8 ((flip c).toNat : Int)) ∨ (((c.toNat : Int) == 40) = false ∧ Value.int .u8 40 = .int .u8 ((flip c).toNat : Int)) := by
  rcases h with h | h
  · left; rw [h]; refine ⟨rfl, ?_⟩; rw [flip, if_pos h]; rfl
  · right; rw [h]; refine ⟨rfl, ?_⟩; rw [flip, if_neg (by omega)]; rfl

/-- what both answer -/
def mirOut (l : List UInt8) : ByteArray := if valid l then ⟨(mirrorL l).toArray⟩ else ⟨#[]⟩
end Go.Proofs.Ytakpbnkncjddeaa
