/-
  The contracts of the model's functions TurnsOf, TurnsToFlat and of the one that counts the nodes in others.
-/
import Derived.Test.YtcfenbienebbjaaCSortS
import Derived.Test.YtcfenbienebbjaaZV
import Derived.Test.YtcfenbienebbjaaCWFrom
namespace Go.Proofs.Ytcfenbienebbjaa
open Go.RowKit

/-- how many pairs are open, and how many have begun while none was -/
def bstep (p : Nat × Nat) (c : UInt8) : Nat × Nat := if c.toNat = 40 then (p.1 + 1, if p.1 = 0 then p.2 + 1 else p.2) else (p.1 - 1, p.2)
def bsd (l : List UInt8) : Nat × Nat := l.foldl bstep (0, 0)
theorem bsd_step (l : List UInt8) (k : Nat) (h : k < l.length) : bsd (l.take (k + 1)) = bstep (bsd (l.take k)) l[k] := by
  rw [take_snoc l k h, bsd, List.foldl_append]; rfl
theorem bsd_tree : ∀ (t : Tw) (o b : Nat), t.lst.foldl bstep (o, b) = (o, if o = 0 then b + t.spine else b)
  | .e, o, b => by simp [Tw.lst, Tw.spine]
  | .n x y, o, b => by
    rw [Tw.lst, List.foldl_cons, List.foldl_append, List.foldl_cons]
    have e1 : bstep (o, b) 40 = (o + 1, if o = 0 then b + 1 else b) := by simp [bstep]
    rw [e1, bsd_tree x, if_neg (by omega)]
    have e2 : ∀ q, bstep (o + 1, q) 41 = (o, q) := by intro q; simp [bstep]
    rw [e2, bsd_tree y]
    by_cases h : o = 0
    · simp only [h, if_true, Tw.spine]
      rw [show b + 1 + y.spine = b + (y.spine + 1) by omega]
    · simp only [h, if_false]
def cntO (l : List UInt8) : Nat := l.countP fun c => c.toNat == 40
theorem cnt_step (l : List UInt8) (k : Nat) (h : k < l.length) : cntO (l.take (k + 1)) = cntO (l.take k) + if l[k].toNat = 40 then 1 else 0 := by
  rw [take_snoc l k h, cntO, List.countP_append, ← cntO]
  simp [List.countP_cons]
theorem cnt_tree : ∀ t : Tw, cntO t.lst = t.size
  | .e => rfl
  | .n a b => by
    rw [Tw.lst, cntO, List.countP_cons, List.countP_append, List.countP_cons, ← cntO, ← cntO, cnt_tree a, cnt_tree b]
    simp [Tw.size]; omega

set_option maxHeartbeats 800000 in
theorem toFlat_any (t : Tw) (s : ByteArray) (w : World) (hs : s.data.toList = t.lst) (hz : t.size ≤ 9) :
    Calls Try.prog 32 #[.string s] w fun e w' => e = .returned (.int .i64 ((t.size : Int) - t.spine)) ∧ w = w' := by
  have hl := Tw.lst_length t
  rw [← hs, size_list] at hl
  have h18 : s.size ≤ 18 := by omega
  have hsc := Tw.lst_scan t
  rw [← hs] at hsc
  have hv : valid s.data.toList = true := of_scan hsc h18
  have hle := Tw.spine_le t
  have FIN1 : Hid (cntO s.data.toList = t.size) := by show _ = _; rw [hs, cnt_tree]
  have FIN2 : Hid (bsd s.data.toList = (0, t.spine)) := by show _ = _; rw [hs, bsd, bsd_tree]; simp
  have HV := Lib.hid hv
  clear hsc hs hv hl
  go_enter Try.func32, Try.ntmps32
  go_wp2
  go_loopw [3, 4] (fun n i wr => ∃ (k m : Nat), k ≤ s.size ∧ m ≤ k ∧ n = .int .i64 m ∧ i = .int .i64 k ∧ Hid (m = cntO (s.data.toList.take k)) ∧ w = wr) (fun _ i _ => s.size - (intOf i).toNat)
  case atStart => exact ⟨0, 0, Nat.zero_le _, Nat.le_refl _, rfl, rfl, rfl, rfl⟩
  case round =>
    obtain ⟨k, m, hk, hm, rfl, rfl, M, rfl⟩ := hrel
    by_cases hlt : k < s.size
    · have ST := cnt_step s.data.toList k hlt
      rcases valid_byte HV.out k hlt with hc | hc
      · have hcp : ((s[k].toNat : Int) == 40) = true := by rw [hc]; rfl
        rw [if_pos (by exact hc), ← M.out] at ST
        have ST := Lib.hid ST.symm
        clear hc
        go_wp2
        go_roundw
        case rel => exact ⟨k + 1, m + 1, by omega, by omega, by go_num, by go_num, ST, by simp⟩
        case measure => simp [intOf]; omega
      · have hcp : ((s[k].toNat : Int) == 40) = false := by rw [hc]; rfl
        rw [if_neg (by show ¬ s[k].toNat = 40; omega), ← M.out] at ST
        have ST := Lib.hid ST.symm
        clear hc
        go_wp2
        go_roundw
        case rel => exact ⟨k + 1, m, by omega, by omega, rfl, by go_num, ST, by simp⟩
        case measure => simp [intOf]; omega
    · obtain rfl : k = s.size := by omega
      obtain rfl : m = t.size := by rw [M.out, List.take_of_length_le (Nat.le_of_eq (size_list s))]; exact FIN1.out
      clear M
      go_wp2
      go_loopw [5, 6, 7] (fun o n i wr => ∃ (k q b : Nat), k ≤ s.size ∧ q ≤ k ∧ b ≤ k ∧ o = .int .i64 q ∧ n = .int .i64 b ∧ i = .int .i64 k ∧ Hid (scan (s.data.toList.take k) = some q) ∧ Hid (bsd (s.data.toList.take k) = (q, b)) ∧ w = wr) (fun _ _ i _ => s.size - (intOf i).toNat)
      case atStart => exact ⟨0, 0, 0, Nat.zero_le _, Nat.le_refl _, Nat.le_refl _, rfl, rfl, rfl, rfl, rfl, rfl⟩
      case round =>
        obtain ⟨k, q, b, hk, hq, hb, rfl, rfl, rfl, Q, M, rfl⟩ := hrel
        by_cases hlt : k < s.size
        · have ST := bsd_step s.data.toList k hlt
          rw [M.out, bstep] at ST
          rcases valid_byte HV.out k hlt with hc | hc
          · have hcp : ((s[k].toNat : Int) == 40) = true := by rw [hc]; rfl
            have SC := Lib.hid (scan_opn hlt Q.out hcp)
            rw [if_pos (by exact hc)] at ST
            clear hc
            by_cases h0 : q = 0
            · subst h0
              rw [if_pos rfl] at ST
              have ST := Lib.hid ST
              go_wp2
              go_roundw
              case rel => exact ⟨k + 1, 1, b + 1, by omega, by omega, by omega, by go_num, by go_num, by go_num, SC, ST, by simp⟩
              case measure => simp [intOf]; omega
            · have hq0 : ((q : Int) == 0) = false := by rw [beq0]; exact decide_eq_false h0
              rw [if_neg h0] at ST
              have ST := Lib.hid ST
              go_wp2
              go_roundw
              case rel => exact ⟨k + 1, q + 1, b, by omega, by omega, by omega, by go_num, rfl, by go_num, SC, ST, by simp⟩
              case measure => simp [intOf]; omega
          · have hcp : ((s[k].toNat : Int) == 40) = false := by rw [hc]; rfl
            have hcq : ((s[k].toNat : Int) == 41) = true := by rw [hc]; rfl
            have hpos : 0 < q := by
              rcases Nat.eq_zero_or_pos q with h0 | h0
              · have := bad_cls hlt Q.out hcq h0
                rw [HV.out] at this
                cases this
              · exact h0
            have SC := Lib.hid (scan_cls hlt Q.out hcq hpos)
            rw [if_neg (by show ¬ s[k].toNat = 40; omega)] at ST
            have ST := Lib.hid ST
            clear hc hcq
            go_wp2
            go_roundw
            case rel => exact ⟨k + 1, q - 1, b, by omega, by omega, by omega, by go_num, rfl, by go_num, SC, ST, by simp⟩
            case measure => simp [intOf]; omega
        · obtain rfl : k = s.size := by omega
          have hbt : b = t.spine := by
            have := M.out
            rw [List.take_of_length_le (Nat.le_of_eq (size_list s)), FIN2.out] at this
            exact (Prod.mk.inj this).2.symm
          subst hbt
          clear M Q
          go_wp2
          go_ret
          exact ⟨ret_int (by go_num), rfl⟩

theorem tree_valid {t : Tw} (h : t.size ≤ 9) : valid t.lst = true := of_scan t.lst_scan (by rw [Tw.lst_length]; omega)
theorem valid_tree {s : List UInt8} (h : valid s = true) : ∃ t : Tw, s = t.lst ∧ t.size ≤ 9 := by
  obtain ⟨h1, h2⟩ := valid_scan h
  obtain ⟨t, ht⟩ := Tw.of_word s.length s (Nat.le_refl _) h1
  refine ⟨t, ht.symm, ?_⟩
  have := Tw.lst_length t
  rw [ht] at this
  omega
theorem specToFlat_yes (t : Tw) (s : ByteArray) (w : World) (hs : s.data.toList = t.lst) (hz : t.size ≤ 9) :
    Calls Try.prog 16 #[.string s] w fun e w' => e = .returned (.int .i64 ((t.size : Int) - t.spine)) ∧ w = w' := by
  have hv : Hid (valid s.data.toList = true) := by show _ = _; rw [hs]; exact tree_valid hz
  have h18 := valid_size hv.out
  have hsm : s.size ≤ maxLen := by unfold maxLen; omega
  go_enter Try.func16, Try.ntmps16
  go_wp2_with (go_at_call 18; refine (specValid_is true _ _ hsm hv).mono ?_; rintro e w1 ⟨rfl, rfl⟩)
  refine (toFlat_any t s _ hs hz).mono ?_
  rintro e w1 ⟨rfl, rfl⟩
  go_wp2
  go_ret
  exact ⟨rfl, rfl⟩
theorem specToFlat_no (s : ByteArray) (w : World) (hs : s.size ≤ maxLen) (hv : Hid (valid s.data.toList = false)) :
    Calls Try.prog 16 #[.string s] w fun e w' => e = .returned (.int .i64 (-1)) ∧ w = w' := by
  go_enter Try.func16, Try.ntmps16
  go_wp2_with (go_at_call 18; refine (specValid_is false _ _ hs hv).mono ?_; rintro e w1 ⟨rfl, rfl⟩)
  go_ret
  exact ⟨rfl, rfl⟩
theorem specTurnsOf_yes (t : Tw) (s : ByteArray) (w : World) (hs : s.data.toList = t.lst) (hz : t.size ≤ 9) :
    Calls Try.prog 7 #[.string s] w (TextsOut (turnsOut t) w) := by
  have hv : Hid (valid s.data.toList = true) := by show _ = _; rw [hs]; exact tree_valid hz
  have h18 := valid_size hv.out
  have hsm : s.size ≤ maxLen := by unfold maxLen; omega
  have hl : (t.turns.map Tw.lst).length ≤ 1048576 := by rw [List.length_map, Tw.turns_length]; omega
  go_enter Try.func7, Try.ntmps7
  go_wp2_with (go_at_call 18; refine (specValid_is true _ _ hsm hv).mono ?_; rintro e w1 ⟨rfl, rfl⟩)
  refine (turns_any t s _ hs hz).mono ?_
  rintro e w1 ⟨v, rfl, ho, hb⟩
  go_wp2_with fail
  refine (sorted_any (t.turns.map Tw.lst) v w1 (Own.of_own (by rw [sv_length]; exact ho)) (Nat.le_refl _) hl).mono ?_
  rintro e w2 ⟨v2, rfl, ho2, hb2⟩
  go_wp2
  go_ret
  have hb3 := hb.trans (hb2.mono hb.size)
  exact ⟨v2, rfl, Own.of_own (by rw [sv_length]; exact ⟨ho2.1, ho2.2.imp id (fun ⟨z1, z2, z3, y1, y2, y3⟩ => ⟨z1, z2, z3, y1, Nat.le_trans hb.size y2, y3⟩)⟩), hb3⟩
theorem specTurnsOf_no (s : ByteArray) (w : World) (hs : s.size ≤ maxLen) (hv : Hid (valid s.data.toList = false)) :
    Calls Try.prog 7 #[.string s] w (TextsOut [] w) := by
  go_enter Try.func7, Try.ntmps7
  go_wp2_with (go_at_call 18; refine (specValid_is false _ _ hs hv).mono ?_; rintro e w1 ⟨rfl, rfl⟩)
  go_ret
  exact noTexts _ _ (Below.refl _ _)
end Go.Proofs.Ytcfenbienebbjaa
