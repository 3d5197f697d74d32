/-
  The contracts of the model's functions TurnsBetween and MostTurns.
-/
import Derived.Test.YtcfenbienebbjaaCApart
import Derived.Test.YtcfenbienebbjaaZW
import Derived.Deep.RegionHeld3
namespace Go.Proofs.Ytcfenbienebbjaa
open Go.RowKit

theorem specBetween_yes (x y : Tw) (a b : ByteArray) (w : World) (ha : a.data.toList = x.lst) (hb : b.data.toList = y.lst) (hs : x.size = y.size) (h6 : x.size ≤ 6) :
    Calls Try.prog 12 #[.string a, .string b] w fun e w' => e = .returned (.int .i64 (dist x y)) ∧ Below w.heap.size w w' := by
  obtain ⟨h1, h2⟩ := far_dist hs h6
  have hva : Hid (valid a.data.toList = true) := by show _ = _; rw [ha]; exact tree_valid (by omega)
  have hvb : Hid (valid b.data.toList = true) := by show _ = _; rw [hb]; exact tree_valid (by omega)
  have hla := Tw.lst_length x
  have hlb := Tw.lst_length y
  rw [← ha, size_list] at hla
  rw [← hb, size_list] at hlb
  have hsa : a.size ≤ maxLen := by unfold maxLen; omega
  have hsb : b.size ≤ maxLen := by unfold maxLen; omega
  have e1 : a.size = b.size := by omega
  have q1 : ((a.size : Int) == (b.size : Int)) = true := by rw [e1]; simp
  have q2 : (b.size : Int) ≤ 12 := by omega
  have CA := Lib.hid (fun w => apart_any x y a b (dist x y) w ha hb h6 h1 h2)
  clear h1 h2 hla hlb ha hb hs h6
  go_enter Try.func12, Try.ntmps12
  go_wp2_with fail
  refine (specValid_is true _ _ hsa hva).mono ?_
  rintro e w1 ⟨rfl, rfl⟩
  go_wp2_with fail
  refine (specValid_is true _ _ hsb hvb).mono ?_
  rintro e w1 ⟨rfl, rfl⟩
  go_wp2_with fail
  refine (CA.out _).mono ?_
  rintro e w1 ⟨rfl, hbl⟩
  go_wp2
  go_ret
  exact ⟨rfl, hbl⟩
theorem specBetween_nv1 (a b : ByteArray) (w : World) (hsa : a.size ≤ maxLen) (hva : Hid (valid a.data.toList = false)) :
    Calls Try.prog 12 #[.string a, .string b] w fun e w' => e = .returned (.int .i64 (-1)) ∧ Below w.heap.size w w' := by
  go_enter Try.func12, Try.ntmps12
  go_wp2_with fail
  refine (specValid_is false _ _ hsa hva).mono ?_
  rintro e w1 ⟨rfl, rfl⟩
  go_wp2_with fail
  go_ret
  exact ⟨rfl, Below.refl _ _⟩
theorem specBetween_nv2 (a b : ByteArray) (w : World) (hsa : a.size ≤ maxLen) (hsb : b.size ≤ maxLen) (hva : Hid (valid a.data.toList = true)) (hvb : Hid (valid b.data.toList = false)) :
    Calls Try.prog 12 #[.string a, .string b] w fun e w' => e = .returned (.int .i64 (-1)) ∧ Below w.heap.size w w' := by
  go_enter Try.func12, Try.ntmps12
  go_wp2_with fail
  refine (specValid_is true _ _ hsa hva).mono ?_
  rintro e w1 ⟨rfl, rfl⟩
  go_wp2_with fail
  refine (specValid_is false _ _ hsb hvb).mono ?_
  rintro e w1 ⟨rfl, rfl⟩
  go_wp2_with fail
  go_ret
  exact ⟨rfl, Below.refl _ _⟩
theorem specBetween_ne (a b : ByteArray) (w : World) (hne : a.size ≠ b.size) (hva : Hid (valid a.data.toList = true)) (hvb : Hid (valid b.data.toList = true)) :
    Calls Try.prog 12 #[.string a, .string b] w fun e w' => e = .returned (.int .i64 (-1)) ∧ Below w.heap.size w w' := by
  have h1 := valid_size hva.out
  have h2 := valid_size hvb.out
  have hsa : a.size ≤ maxLen := by unfold maxLen; omega
  have hsb : b.size ≤ maxLen := by unfold maxLen; omega
  have q1 : ((a.size : Int) == (b.size : Int)) = false := by rw [beq_eq_false_iff_ne]; omega
  go_enter Try.func12, Try.ntmps12
  go_wp2_with fail
  refine (specValid_is true _ _ hsa hva).mono ?_
  rintro e w1 ⟨rfl, rfl⟩
  go_wp2_with fail
  refine (specValid_is true _ _ hsb hvb).mono ?_
  rintro e w1 ⟨rfl, rfl⟩
  go_wp2_with fail
  all_goals first
    | (exfalso; omega)
    | (go_ret; exact ⟨rfl, Below.refl _ _⟩)
theorem specBetween_long (a b : ByteArray) (w : World) (he : a.size = b.size) (hl : 12 < b.size) (hva : Hid (valid a.data.toList = true)) (hvb : Hid (valid b.data.toList = true)) :
    Calls Try.prog 12 #[.string a, .string b] w fun e w' => e = .returned (.int .i64 (-1)) ∧ Below w.heap.size w w' := by
  have h1 := valid_size hva.out
  have h2 := valid_size hvb.out
  have hsa : a.size ≤ maxLen := by unfold maxLen; omega
  have hsb : b.size ≤ maxLen := by unfold maxLen; omega
  have q1 : ((a.size : Int) == (b.size : Int)) = true := by rw [he]; simp
  have q2 : (12 : Int) < (b.size : Int) := by omega
  go_enter Try.func12, Try.ntmps12
  go_wp2_with fail
  refine (specValid_is true _ _ hsa hva).mono ?_
  rintro e w1 ⟨rfl, rfl⟩
  go_wp2_with fail
  refine (specValid_is true _ _ hsb hvb).mono ?_
  rintro e w1 ⟨rfl, rfl⟩
  go_wp2_with fail
  go_ret
  exact ⟨rfl, Below.refl _ _⟩
/-- what both answer -/
def btwOut (a b : List UInt8) : Int := if valid a = true ∧ valid b = true ∧ a.length = b.length ∧ b.length ≤ 12 then (dist (parse 9 a) (parse 9 b) : Nat) else -1
theorem btw_in {x y : Tw} (hs : x.size = y.size) (h6 : x.size ≤ 6) : btwOut x.lst y.lst = (dist x y : Nat) := by
  rw [btwOut, if_pos ⟨tree_valid (by omega), tree_valid (by omega), by rw [Tw.lst_length, Tw.lst_length, hs], by rw [Tw.lst_length]; omega⟩, parse_lst _ _ (by omega), parse_lst _ _ (by omega)]
theorem specBetween_any (a b : ByteArray) (w : World) (hsa : a.size ≤ maxLen) (hsb : b.size ≤ maxLen) :
    Calls Try.prog 12 #[.string a, .string b] w fun e w' => e = .returned (.int .i64 (btwOut a.data.toList b.data.toList)) ∧ Below w.heap.size w w' := by
  cases hva : valid a.data.toList with
  | false =>
    rw [btwOut, if_neg (by rw [hva]; simp)]
    exact specBetween_nv1 a b w hsa hva
  | true =>
    cases hvb : valid b.data.toList with
    | false =>
      rw [btwOut, if_neg (by rw [hvb]; simp)]
      exact specBetween_nv2 a b w hsa hsb hva hvb
    | true =>
      by_cases he : a.size = b.size
      · by_cases hl : b.size ≤ 12
        · obtain ⟨x, hx, _⟩ := valid_tree hva
          obtain ⟨y, hy, _⟩ := valid_tree hvb
          have h1 := Tw.lst_length x
          have h2 := Tw.lst_length y
          rw [← hx, size_list] at h1
          rw [← hy, size_list] at h2
          rw [hx, hy, btw_in (by omega) (by omega)]
          exact specBetween_yes x y a b w hx hy (by omega) (by omega)
        · rw [btwOut, if_neg (by rw [size_list, size_list]; omega)]
          exact specBetween_long a b w he (by omega) hva hvb
      · rw [btwOut, if_neg (by rw [size_list, size_list]; omega)]
        exact specBetween_ne a b w he hva hvb

def mostOut (n : Int) : Int := if 0 ≤ n ∧ n ≤ 4 then (mostV n.toNat : Nat) else -1
set_option maxHeartbeats 800000 in
theorem specMost_yes (n : Nat) (w : World) (hn : n ≤ 4) :
    Calls Try.prog 14 #[.int .i64 n] w fun e w' => e = .returned (.int .i64 (mostV n : Nat)) ∧ Below w.heap.size w w' := by
  have hx := fun w => wordsFrom_any (2 * n) 0 n 0 n ⟨#[]⟩ w (by omega) rfl (by omega) (by omega) (by show 0 + _ ≤ _; omega)
  have e1 : wordsL (2 * n) (ByteArray.mk #[]).data.toList 0 n = (treesOf n).map Tw.lst := (trees_lst n hn).symm
  rw [e1] at hx
  have HX := Lib.hid hx
  have hsz := trees_size n hn
  have hall := most_all n hn
  have hlen : ((treesOf n).map Tw.lst).length ≤ 256 := by
    rw [← e1]
    exact Nat.le_trans (wordsL_le _ _ _ _) (Nat.le_trans (Nat.pow_le_pow_right (by decide) (show 2 * n ≤ 8 by omega)) (by decide))
  rw [List.length_map] at hlen
  obtain ⟨L, hL⟩ : ∃ L, L = treesOf n := ⟨_, rfl⟩
  rw [← hL] at HX hsz hall hlen
  have SZ := Lib.hid hsz
  have AL := Lib.hid hall
  have d0 : (0 : Int) ≤ (n : Int) := by omega
  have d2 : (n : Int) ≤ 4 := by omega
  clear hx e1 hsz hall hL
  go_enter Try.func14, Try.ntmps14
  go_wp2_with (go_at_call 29; refine (inRange_yes _ _ _ _ d0 d2).mono ?_; rintro e w1 ⟨rfl, rfl⟩)
  refine (HX.out _).mono ?_
  rintro e w1 ⟨g, c, rfl, ho, hb⟩
  rw [List.length_map] at ho ⊢
  have OW : Hid (Own w1 w.heap.size w1.heap.size 9 (.slice (some ⟨g, 0, none⟩) L.length c) (sv (L.map Tw.lst))) := Own.of_own (by rw [sv_length, List.length_map]; exact ho)
  have HB := Lib.hid hb
  clear ho hb HX
  go_wp2
  go_loopw [4, 5] (fun o i wr => ∃ k : Nat, k ≤ L.length ∧ o = .int .i64 (mostTo L k : Nat) ∧ i = .int .i64 k ∧ Hid (Own wr w.heap.size w1.heap.size 9 (.slice (some ⟨g, 0, none⟩) L.length c) (sv (L.map Tw.lst))) ∧ Hid (Below w.heap.size w wr) ∧ Hid (w1.heap.size ≤ wr.heap.size)) (fun _ i _ => L.length - (intOf i).toNat)
  case atStart => exact ⟨0, Nat.zero_le _, rfl, rfl, OW, HB, Nat.le_refl _⟩
  case round =>
    clear OW HB
    obtain ⟨k, hk, rfl, rfl, OW, HB, HS⟩ := hrel
    by_cases hlt : k < L.length
    · have b1 : (k : Int) < (L.length : Int) := by omega
      have ST := Lib.hid (most_step L k hlt)
      obtain ⟨x, hx⟩ : ∃ x, x = L[k] := ⟨_, rfl⟩
      have HXs := Lib.hid (show x.size = n by rw [hx]; exact SZ.out _ (List.getElem_mem hlt))
      have HC1 : Hid ((sv (L.map Tw.lst))[k]? = some (.string ⟨x.lst.toArray⟩)) := by
        show _ = _
        rw [sv_get _ k (by rw [List.length_map]; exact hlt), List.getElem_map, ← hx]
      rw [← hx] at ST
      obtain ⟨tx, htx⟩ : ∃ tx : ByteArray, tx = ⟨x.lst.toArray⟩ := ⟨_, rfl⟩
      have HTX := Lib.hid (show tx.data.toList = x.lst by rw [htx])
      rw [← htx] at HC1
      obtain ⟨o0, ho0⟩ : ∃ o0, o0 = mostTo L k := ⟨_, rfl⟩
      rw [← ho0] at ST ⊢
      clear hx htx ho0
      go_wp2
      go_loopw [4, 6] (fun o i wr => ∃ q : Nat, q ≤ k ∧ o = .int .i64 (rowM L x o0 q : Nat) ∧ i = .int .i64 q ∧ Hid (Own wr w.heap.size w1.heap.size 9 (.slice (some ⟨g, 0, none⟩) L.length c) (sv (L.map Tw.lst))) ∧ Hid (Below w.heap.size w wr) ∧ Hid (w1.heap.size ≤ wr.heap.size)) (fun _ i _ => k - (intOf i).toNat)
      case atStart => exact ⟨0, Nat.zero_le _, rfl, rfl, OW, HB, HS⟩
      case round =>
        clear OW HB HS
        obtain ⟨q, hq, rfl, rfl, OW, HB, HS⟩ := hrel
        by_cases hlq : q < k
        · have b2 : (q : Int) < (k : Int) := by omega
          have hql : q < L.length := by omega
          have b3 : (q : Int) < (L.length : Int) := by omega
          have hrow := OW.out.1
          rw [sv_length, List.length_map] at hrow
          have hc1 : wr.cell? ⟨g, k, none⟩ = some (.string tx) := (hrow.cellAt k (by omega)).trans HC1.out
          have hc2 := hrow.cellAt q (by omega)
          rw [sv_get _ q (by rw [List.length_map]; exact hql), List.getElem_map] at hc2
          obtain ⟨y, hy⟩ : ∃ y, y = L[q] := ⟨_, rfl⟩
          have hys : y.size = n := by rw [hy]; exact SZ.out _ (List.getElem_mem hql)
          have RS := Lib.hid (rowM_step L x o0 q hql)
          rw [← hy] at RS hc2
          obtain ⟨ty, hty⟩ : ∃ ty : ByteArray, ty = ⟨y.lst.toArray⟩ := ⟨_, rfl⟩
          have htyl : ty.data.toList = y.lst := by rw [hty]
          rw [← hty] at hc2
          obtain ⟨f1, f2⟩ := far_dist (a := x) (b := y) (by rw [HXs.out, hys]) (by rw [HXs.out]; omega)
          have CA := Lib.hid (fun W => apart_any x y tx ty (dist x y) W HTX.out htyl (by rw [HXs.out]; omega) f1 f2)
          have hg := (hrow.lt g rfl).2
          have KS : Hid (∀ W, Below wr.heap.size wr W → (Below wr.heap.size wr W ∧ W.cell? ⟨g, k, none⟩ = some (.string tx) ∧ W.cell? ⟨g, q, none⟩ = some (.string ty))) :=
            fun W h => ⟨h, (h.cell (p := ⟨g, k, none⟩) hg).trans hc1, (h.cell (p := ⟨g, q, none⟩) hg).trans hc2⟩
          have hB0 : Below wr.heap.size wr wr := Below.refl _ _
          have e9 : max ((rowM L x o0 q : Nat) : Int) ((dist x y : Nat) : Int) = ((rowM L x o0 (q + 1) : Nat) : Int) := by rw [RS.out]; omega
          clear hy hty htyl f1 f2 hys hrow hg
          go_wp2_with fail
          go_region_held3 (fun w' => Below wr.heap.size wr w' ∧ w'.cell? ⟨g, k, none⟩ = some (.string tx) ∧ w'.cell? ⟨g, q, none⟩ = some (.string ty))
            (first
              | exact KS.out _ (by assumption)
              | exact KS.out _ (Below.drew (by assumption)))
            (first
              | (go_at_call 27; go_split_ands; refine (CA.out _).mono ?_; rintro e w4 ⟨rfl, hb4⟩
                 have hB4 : Below wr.heap.size wr w4 := by
                   refine Below.trans (B := wr.heap.size) ?_ (hb4.mono (Below.size (B := wr.heap.size) ?_)) <;> assumption))
          all_goals
            have OW4 := Lib.hid (OW.out.below (hB4.mono HS.out))
            have HB4 := Lib.hid (HB.out.trans (hB4.mono HB.out.size))
            have HS4 := Lib.hid (Nat.le_trans HS.out hB4.size)
            clear OW HB HS CA hc1 hc2 hB4
            go_wp2
            go_roundw
            case rel => exact ⟨q + 1, by omega, by rw [← e9]; first | rfl | (simp; omega), by go_num, OW4, HB4, HS4⟩
            case measure => simp [intOf]; omega
        · obtain rfl : q = k := by omega
          rw [← ST.out]
          go_wp2
          go_roundw
          case rel => exact ⟨q + 1, by omega, rfl, by go_num, OW, HB, HS⟩
          case measure => simp [intOf]; omega
    · obtain rfl : k = L.length := by omega
      rw [AL.out]
      go_wp2
      go_ret
      exact ⟨rfl, HB.out⟩
theorem specMost_any (n : Int) (w : World) :
    Calls Try.prog 14 #[.int .i64 n] w fun e w' => e = .returned (.int .i64 (mostOut n)) ∧ Below w.heap.size w w' := by
  by_cases h : 0 ≤ n ∧ n ≤ 4
  · rw [mostOut, if_pos h]
    obtain ⟨k, rfl⟩ : ∃ k : Nat, n = k := ⟨n.toNat, by omega⟩
    exact specMost_yes k w (by omega)
  · rw [mostOut, if_neg h]
    have hno := Lib.hid (show n < 0 ∨ 4 < n by omega)
    clear h
    go_enter Try.func14, Try.ntmps14
    go_wp2_with (go_at_call 29; refine (inRange_no _ _ _ _ hno.out).mono ?_; rintro e w1 ⟨rfl, rfl⟩)
    go_ret
    exact ⟨rfl, Below.refl _ _⟩

/-! ### what both answer, of any text -/
def turnsTx (l : List UInt8) : List (List UInt8) := if valid l = true then turnsOut (parse 9 l) else []
def flatTx (l : List UInt8) : Int := if valid l = true then ((parse 9 l).size : Int) - (parse 9 l).spine else -1
theorem turnsTx_in {t : Tw} (h : t.size ≤ 9) : turnsTx t.lst = turnsOut t := by rw [turnsTx, if_pos (tree_valid h), parse_lst _ _ h]
theorem flatTx_in {t : Tw} (h : t.size ≤ 9) : flatTx t.lst = (t.size : Int) - t.spine := by rw [flatTx, if_pos (tree_valid h), parse_lst _ _ h]
theorem turnsTx_length (l : List UInt8) : (turnsTx l).length ≤ 8 := by
  cases hv : valid l with
  | false => rw [turnsTx, if_neg (by rw [hv]; decide)]; simp
  | true =>
    obtain ⟨t, rfl, h9⟩ := valid_tree hv
    rw [turnsTx_in h9, turnsOut_length]
    omega
theorem specTurnsOf_any (s : ByteArray) (w : World) (hs : s.size ≤ maxLen) :
    Calls Try.prog 7 #[.string s] w (TextsOut (turnsTx s.data.toList) w) := by
  cases hv : valid s.data.toList with
  | false => rw [turnsTx, if_neg (by rw [hv]; decide)]; exact specTurnsOf_no s w hs hv
  | true =>
    obtain ⟨t, h, h9⟩ := valid_tree hv
    rw [h, turnsTx_in h9]
    exact specTurnsOf_yes t s w h h9
theorem specToFlat_any (s : ByteArray) (w : World) (hs : s.size ≤ maxLen) :
    Calls Try.prog 16 #[.string s] w fun e w' => e = .returned (.int .i64 (flatTx s.data.toList)) ∧ w = w' := by
  cases hv : valid s.data.toList with
  | false => rw [flatTx, if_neg (by rw [hv]; decide)]; exact specToFlat_no s w hs hv
  | true =>
    obtain ⟨t, h, h9⟩ := valid_tree hv
    rw [h, flatTx_in h9]
    exact specToFlat_yes t s w h h9
end Go.Proofs.Ytcfenbienebbjaa
