/-
  The contracts of the two functions that give the word of a list of depths.
-/
import Derived.Test.YtlcjajkobhljcaaWInts
import Derived.Test.YtlcjajkobhljcaaCMirror
import Derived.Test.YtlcjajkobhljcaaCRange
import Derived.Test.YtlcjajkobhljcaaWWod
import Derived.Test.YtlcjajkobhljcaaShelf
namespace Go.Proofs.Ytlcjajkobhljcaa
open Go.RowKit

theorem repeatCls (n : Int) (h0 : 0 ≤ n) (h1 : n ≤ 1000) (w : World) :
    Calls Try.prog 45 #[.string ⟨#[41]⟩, .int .i64 n] w fun e w' => e = .returned (.string ⟨(List.replicate n.toNat 41).toArray⟩) ∧ Below w.heap.size w w' := by
  obtain ⟨c, rfl⟩ : ∃ c : Nat, n = c := ⟨n.toNat, by omega⟩
  have e0 : Lib.repeatL [41] c = List.replicate c 41 := by
    have := Lib.repeatL_replicate 41 1 c
    rw [Nat.mul_one] at this
    exact this
  have hsz : (ByteArray.mk #[41]).size = 1 := rfl
  by_cases h2 : 2 ≤ c
  · refine (Try.strings_Repeat_main ⟨#[41]⟩ c w h2 (by omega) (by rw [hsz]; omega) (by rw [hsz]; omega)).mono fun e w' ⟨he, hw⟩ => ⟨?_, hw⟩
    rw [he]
    refine ret_string ?_
    rw [Int.toNat_natCast]
    exact e0
  · by_cases h1 : c = 1
    · subst h1
      exact (Try.strings_Repeat_one ⟨#[41]⟩ w).mono fun _ _ ⟨he, hw⟩ => ⟨he, by rw [hw]; exact Below.refl _ _⟩
    · obtain rfl : c = 0 := by omega
      exact (Try.strings_Repeat_zero ⟨#[41]⟩ w).mono fun _ _ ⟨he, hw⟩ => ⟨he, by rw [hw]; exact Below.refl _ _⟩

theorem word_data (b : ByteArray) (n : Nat) : (b ++ (ByteArray.mk (Array.replicate n 41) ++ ByteArray.mk #[40])).data.toList = b.data.toList ++ List.replicate n 41 ++ [40] := by
  rw [toList_append, toList_append]; simp
theorem word_data' (b : ByteArray) (n : Nat) : (b ++ ByteArray.mk (Array.replicate n 41)).data.toList = b.data.toList ++ List.replicate n 41 := by
  rw [toList_append]; simp
theorem word_size (b : ByteArray) (n : Nat) : (b ++ (ByteArray.mk (Array.replicate n 41) ++ ByteArray.mk #[40])).size = b.size + n + 1 := by
  rw [← size_list, word_data]; simp only [List.length_append, List.length_replicate, List.length_cons, List.length_nil, size_list]

theorem ret_two {a c : ByteArray} {x : Bool} (h : a.data.toList = c.data.toList) : Ending.returned (.tuple #[.string a, .bool x]) = .returned (.tuple #[.string c, .bool x]) := by rw [bytes_ext h]

set_option maxHeartbeats 1600000 in
theorem implWod_any (l : List Int) (v : Value) (w : World) {B H : Nat} (hv : Hid (Own w B H 3 v (iv l))) (hH : H ≤ w.heap.size) (hl : l.length ≤ 1048576) :
    Calls Try.prog 23 #[v] w fun e w' => e = .returned (.tuple #[.string (wodT l), .bool (wodB l)]) ∧ Below w.heap.size w w' := by
  obtain ⟨av, cv, rfl, _, hcv, _, _⟩ := hv.out.slice
  rw [iv_length] at hv hcv ⊢
  by_cases h9 : l.length ≤ 9
  · have hle : (l.length : Int) ≤ 9 := by omega
    go_enter Try.func23, Try.ntmps23
    go_wp2
    go_loopw [4, 5, 13] (fun t o i wr => ∃ (k n : Nat) (b : ByteArray), k ≤ l.length ∧ i = .int .i64 k ∧ o = .int .i64 n ∧ t = .string b ∧ n ≤ k ∧ b.size + n = 2 * k ∧ Hid (wodF (l.take k) = some (b.data.toList, n)) ∧ Below w.heap.size w wr) (fun _ _ i _ => l.length - (intOf i).toNat)
    case atStart => exact ⟨0, 0, ⟨#[]⟩, Nat.zero_le _, rfl, rfl, rfl, Nat.le_refl _, rfl, rfl, Below.refl _ _⟩
    case round =>
      obtain ⟨k, n, b, hk, rfl, rfl, rfl, hn, hbn, HW, hb⟩ := hrel
      by_cases hlt : k < l.length
      · obtain ⟨g1, rfl, hB, hgH, h1, f1⟩ := (hv.out.below (w' := wr) (hb.mono hH)).at_ k (by rw [iv_length]; exact hlt)
        rw [iv_at l k hlt] at h1
        have b1 : (k : Int) < (l.length : Int) := by omega
        obtain ⟨x, hx⟩ : ∃ x, x = l[k] := ⟨_, rfl⟩
        rw [← hx] at h1
        have HX := Lib.hid hx
        clear hx
        by_cases hg : 0 ≤ x ∧ x ≤ n
        · obtain ⟨y, rfl⟩ : ∃ y : Nat, x = y := ⟨x.toNat, by omega⟩
          have d1 : decide ((y : Int) < 0) = false := decide_eq_false (by omega)
          have d2 : (y : Int) ≤ (n : Int) := by omega
          have HW' := Lib.hid (wodF_good hlt HW.out HX.out.symm (by omega))
          clear hg
          go_wp2_with (go_at_call 45; refine (repeatCls _ (by omega) (by omega) _).mono ?_; rintro e w1 ⟨rfl, hb1⟩)
          go_roundw
          case rel => exact ⟨k + 1, y + 1, _, by omega, by go_num, by go_num, rfl, by omega, by rw [word_size]; omega, by show _ = _; rw [word_data]; exact HW'.out, hb.trans (hb1.mono hb.size)⟩
          case measure => simp [intOf]; omega
        · have HB := Lib.hid (wod_bad (wodF_bad hlt HW.out (by rw [← HX.out]; omega)))
          clear HW
          by_cases hx0 : x < 0
          · have d1 : decide (x < 0) = true := decide_eq_true hx0
            clear hg
            go_wp2
            go_ret2
            exact ⟨by rw [wodT_none HB.out, wodB_none HB.out]; rfl, hb⟩
          · have d1 : decide (x < 0) = false := decide_eq_false hx0
            have d2 : (n : Int) < x := by omega
            clear hg hx0
            go_wp2
            go_ret2
            exact ⟨by rw [wodT_none HB.out, wodB_none HB.out]; rfl, hb⟩
      · obtain rfl : k = l.length := by omega
        go_wp2_with (go_at_call 45; refine (repeatCls _ (by omega) (by omega) _).mono ?_; rintro e w1 ⟨rfl, hb1⟩)
        have hgood := wod_good h9 (by have := HW.out; rw [List.take_of_length_le (Nat.le_refl _)] at this; exact this)
        go_ret2
        refine ⟨?_, hb.trans (hb1.mono hb.size)⟩
        rw [wodT_some hgood, wodB_some hgood]
        exact ret_two (by rw [word_data'])
  · have hle : (9 : Int) < (l.length : Int) := by omega
    have hw := wod_long (l := l) (by omega)
    rw [wodT_none hw, wodB_none hw]
    clear hw
    go_enter Try.func23, Try.ntmps23
    go_wp2
    go_ret2
    exact ⟨rfl, Below.refl _ _⟩

set_option maxHeartbeats 1600000 in
theorem specWod_any (l : List Int) (v : Value) (w : World) {B H : Nat} (hv : Hid (Own w B H 3 v (iv l))) (hl : l.length ≤ 1048576) :
    Calls Try.prog 25 #[v] w fun e w' => e = .returned (.tuple #[.string (wodT l), .bool (wodB l)]) ∧ w = w' := by
  obtain ⟨av, cv, rfl, _, hcv, _, _⟩ := hv.out.slice
  rw [iv_length] at hv hcv ⊢
  go_enter Try.func25, Try.ntmps25
  go_wp2
  go_loop [4, 5, 6] (fun t o i => ∃ (k n : Nat) (b : ByteArray), k ≤ l.length ∧ k ≤ 9 ∧ i = .int .i64 k ∧ o = .int .i64 n ∧ t = .string b ∧ n ≤ k ∧ b.size + n = 2 * k ∧ Hid (wodF (l.take k) = some (b.data.toList, n))) (fun _ _ i => l.length - (intOf i).toNat)
  case atStart => exact ⟨0, 0, ⟨#[]⟩, Nat.zero_le _, by omega, rfl, rfl, rfl, Nat.le_refl _, rfl, rfl⟩
  case round =>
    obtain ⟨k, n, b, hk, hk9, rfl, rfl, rfl, hn, hbn, HW⟩ := hrel
    by_cases hlt : k < l.length
    · obtain ⟨g1, rfl, hB, hgH, h1, f1⟩ := hv.out.at_ k (by rw [iv_length]; exact hlt)
      rw [iv_at l k hlt] at h1
      have b1 : (k : Int) < (l.length : Int) := by omega
      obtain ⟨x, hx⟩ : ∃ x, x = l[k] := ⟨_, rfl⟩
      rw [← hx] at h1
      have HX := Lib.hid hx
      clear hx
      by_cases hg : 0 ≤ x ∧ x ≤ n
      · by_cases hk8 : k < 9
        · obtain ⟨y, rfl⟩ : ∃ y : Nat, x = y := ⟨x.toNat, by omega⟩
          have d2 : (y : Int) ≤ (n : Int) := by omega
          have d0 : (0 : Int) ≤ (y : Int) := by omega
          have d9 : ((k : Int) == 9) = false := beq_false_of_ne (by omega)
          have HW' := Lib.hid (wodF_good hlt HW.out HX.out.symm (by omega))
          clear hg
          go_wp2_with (go_at_call 40; refine (inRange_yes _ _ _ _ d0 d2).mono ?_; rintro e w1 ⟨rfl, rfl⟩)
          obtain ⟨wo, rfl⟩ : ∃ wo : World, wo = w := ⟨_, rfl⟩
          have nd := HW.out
          go_loop [4, 5] (fun t o => ∃ (j : Nat) (c : ByteArray), j + y ≤ n ∧ o = .int .i64 (n - j) ∧ t = .string c ∧ c.size = b.size + j ∧ Hid (c.data.toList = b.data.toList ++ List.replicate j 41)) (fun _ o => (intOf o).toNat)
          case atStart => exact ⟨0, b, by omega, by go_num, rfl, by omega, by show _ = _; simp⟩
          case round =>
            obtain ⟨j, c, hj, rfl, rfl, hc, HC⟩ := hrel
            by_cases hjy : j + y < n
            · have q1 : (y : Int) < (n : Int) - (j : Int) := by omega
              have e1 : c.size + (ByteArray.mk #[41]).size ≤ 9223372036854775807 := by rw [show (ByteArray.mk #[41]).size = 1 from rfl]; omega
              clear nd
              go_wp2
              go_round
              case rel => exact ⟨j + 1, _, by omega, by go_num, rfl, by rw [ByteArray.size_append, hc]; rfl, by show _ = _; rw [toList_append, HC.out, List.replicate_succ', List.append_assoc]⟩
              case measure => simp [intOf]; omega
            · obtain rfl : j = n - y := by omega
              have e2 : (n : Int) - ((n - y : Nat) : Int) = (y : Int) := by omega
              rw [e2]
              have q1 : ¬ (y : Int) < (y : Int) := by omega
              have e1 : c.size + (ByteArray.mk #[40]).size ≤ 9223372036854775807 := by rw [show (ByteArray.mk #[40]).size = 1 from rfl]; omega
              clear nd e2
              go_wp2
              go_round
              case rel => exact ⟨k + 1, y + 1, _, by omega, by omega, by go_num, by go_num, rfl, by omega, by rw [ByteArray.size_append, hc, show (ByteArray.mk #[40]).size = 1 from rfl]; omega, by show _ = _; rw [HW'.out, toList_append, HC.out]⟩
              case measure => simp [intOf]; omega
        · have d2 : x ≤ (n : Int) := hg.2
          have d0 : (0 : Int) ≤ x := hg.1
          have HB := Lib.hid (wod_long (l := l) (by omega))
          obtain rfl : k = 9 := by omega
          clear hg
          go_wp2_with (go_at_call 40; refine (inRange_yes _ _ _ _ d0 d2).mono ?_; rintro e w1 ⟨rfl, rfl⟩)
          go_ret2
          exact ⟨by rw [wodT_none HB.out, wodB_none HB.out]; rfl, rfl⟩
      · have HB := Lib.hid (wod_bad (wodF_bad hlt HW.out (by rw [← HX.out]; omega)))
        have hno := Lib.hid (show x < 0 ∨ (n : Int) < x by omega)
        clear HW hg
        go_wp2_with (go_at_call 40; refine (inRange_no _ _ _ _ hno.out).mono ?_; rintro e w1 ⟨rfl, rfl⟩)
        go_ret2
        exact ⟨by rw [wodT_none HB.out, wodB_none HB.out]; rfl, rfl⟩
    · obtain rfl : k = l.length := by omega
      have HG := Lib.hid (wod_good hk9 (by have := HW.out; rw [List.take_of_length_le (Nat.le_refl _)] at this; exact this))
      go_wp2
      go_loop [4, 5] (fun t o => ∃ (j : Nat) (c : ByteArray), j ≤ n ∧ o = .int .i64 (n - j) ∧ t = .string c ∧ c.size = b.size + j ∧ Hid (c.data.toList = b.data.toList ++ List.replicate j 41)) (fun _ o => (intOf o).toNat)
      case atStart => exact ⟨0, b, by omega, by go_num, rfl, by omega, by show _ = _; simp⟩
      case round =>
        obtain ⟨j, c, hj, rfl, rfl, hc, HC⟩ := hrel
        by_cases hjn : j < n
        · have q1 : (0 : Int) < (n : Int) - (j : Int) := by omega
          have e1 : c.size + (ByteArray.mk #[41]).size ≤ 9223372036854775807 := by rw [show (ByteArray.mk #[41]).size = 1 from rfl]; omega
          go_wp2
          go_round
          case rel => exact ⟨j + 1, _, by omega, by go_num, rfl, by rw [ByteArray.size_append, hc]; rfl, by show _ = _; rw [toList_append, HC.out, List.replicate_succ', List.append_assoc]⟩
          case measure => simp [intOf]; omega
        · obtain rfl : j = n := by omega
          have q1 : ¬ (0 : Int) < (j : Int) - (j : Int) := by omega
          go_wp2
          go_ret2
          refine ⟨?_, rfl⟩
          rw [wodT_some HG.out, wodB_some HG.out]
          exact ret_two HC.out
end Go.Proofs.Ytlcjajkobhljcaa
