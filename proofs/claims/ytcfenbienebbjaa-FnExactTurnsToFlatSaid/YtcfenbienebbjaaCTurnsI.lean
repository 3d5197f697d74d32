/-
  The contracts of the program's functions TurnsBetween and MostTurns; with those of TurnsOf and TurnsToFlat all that chapter 4 asks.
-/
import Derived.Test.YtcfenbienebbjaaCFrom
import Derived.Test.YtcfenbienebbjaaCFlatP
import Derived.Test.YtcfenbienebbjaaCWordsI
namespace Go.Proofs.Ytcfenbienebbjaa
open Go.RowKit

theorem zeroI (w : World) : (zeroValue 3).run Try.prog w = .ok (.int .i64 0) w := Try.zeroValue3 w
set_option maxHeartbeats 1600000 in
set_option maxRecDepth 100000 in
theorem implBetween_yes (x y : Tw) (a b : ByteArray) (w : World) (ha : a.data.toList = x.lst) (hb : b.data.toList = y.lst) (hs : x.size = y.size) (h6 : x.size ≤ 6) :
    Calls Try.prog 13 #[.string a, .string b] w fun e w' => e = .returned (.int .i64 (dist x y : Nat)) ∧ Below w.heap.size w w' := by
  have hva : Hid (valid a.data.toList = true) := by show _ = _; rw [ha]; exact tree_valid (by omega)
  have hvb : Hid (valid b.data.toList = true) := by show _ = _; rw [hb]; exact tree_valid (by omega)
  have hla := Tw.lst_length x
  have hlb := Tw.lst_length y
  rw [← ha, size_list] at hla
  rw [← hb, size_list] at hlb
  have hsa : a.size ≤ maxLen := by unfold maxLen; omega
  have hsb : b.size ≤ maxLen := by unfold maxLen; omega
  have e1 : a.size = b.size := by omega
  have q1 : ((a.size : Int) == (b.size : Int)) = true := by rw [e1]; simp
  have q2 : (a.size : Int) ≤ 12 := by omega
  have q3 : (b.size : Int) ≤ 12 := by omega
  have CA := Lib.hid (fun w => turnsFrom_any x a w ha h6)
  have hky := Go.WideMaps.keyOf_string_mk (P := Try.prog) Try.underlying9 hsb
  rw [hb] at hky
  have KEY := Lib.hid hky
  have HS := Lib.hid hs
  clear hla hlb ha hb hs h6 hky
  go_enter Try.func13, Try.ntmps13
  go_wp2_with fail
  refine (implValid_is true _ _ hsa hva).mono ?_
  rintro e w1 ⟨rfl, hb1⟩
  go_wp2_with fail
  refine (implValid_is true _ _ hsb hvb).mono ?_
  rintro e w2 ⟨rfl, hb2⟩
  have HB2 := Lib.hid (hb1.trans (hb2.mono hb1.size))
  clear hb1 hb2
  go_wp2_with fail
  refine (CA.out _).mono ?_
  rintro e w3 ⟨g, n, D, rfl, hge, hown, hD, hb3⟩
  have HB3 := Lib.hid (HB2.out.trans (hb3.mono HB2.out.size))
  have HD := Lib.hid hD
  clear hb3 hD HB2 hge CA
  go_wp2_with (first
    | (at_lookup; refine wpList_lookup_own_int _ rfl _ _ 42 rfl 9 3 .i64 lawS Try.underlying42 Try.underlying3 (zeroI _) g n D rfl hown _ _ rfl KEY.out ?_; intro c hat hwc)
    | go_in)
  have hc : c = ((dist x y : Nat) : Int) := by
    have := HD.out.2 y HS.out.symm (.lit (.int .i64 0))
    rw [hat] at this
    simpa using this
  subst hc
  clear hat hwc hown
  go_wp2
  go_ret
  exact ⟨rfl, HB3.out⟩
theorem implBetween_nv1 (a b : ByteArray) (w : World) (hsa : a.size ≤ maxLen) (hva : Hid (valid a.data.toList = false)) :
    Calls Try.prog 13 #[.string a, .string b] w fun e w' => e = .returned (.int .i64 (-1)) ∧ Below w.heap.size w w' := by
  go_enter Try.func13, Try.ntmps13
  go_wp2_with fail
  refine (implValid_is false _ _ hsa hva).mono ?_
  rintro e w1 ⟨rfl, hb1⟩
  have HB := Lib.hid hb1
  clear hb1
  go_wp2_with fail
  go_ret
  exact ⟨rfl, HB.out⟩
theorem implBetween_nv2 (a b : ByteArray) (w : World) (hsa : a.size ≤ maxLen) (hsb : b.size ≤ maxLen) (hva : Hid (valid a.data.toList = true)) (hvb : Hid (valid b.data.toList = false)) :
    Calls Try.prog 13 #[.string a, .string b] w fun e w' => e = .returned (.int .i64 (-1)) ∧ Below w.heap.size w w' := by
  go_enter Try.func13, Try.ntmps13
  go_wp2_with fail
  refine (implValid_is true _ _ hsa hva).mono ?_
  rintro e w1 ⟨rfl, hb1⟩
  go_wp2_with fail
  refine (implValid_is false _ _ hsb hvb).mono ?_
  rintro e w2 ⟨rfl, hb2⟩
  have HB := Lib.hid (hb1.trans (hb2.mono hb1.size))
  clear hb1 hb2
  go_wp2_with fail
  go_ret
  exact ⟨rfl, HB.out⟩
theorem implBetween_ne (a b : ByteArray) (w : World) (hne : a.size ≠ b.size) (hva : Hid (valid a.data.toList = true)) (hvb : Hid (valid b.data.toList = true)) :
    Calls Try.prog 13 #[.string a, .string b] w fun e w' => e = .returned (.int .i64 (-1)) ∧ Below w.heap.size w w' := by
  have h1 := valid_size hva.out
  have h2 := valid_size hvb.out
  have hsa : a.size ≤ maxLen := by unfold maxLen; omega
  have hsb : b.size ≤ maxLen := by unfold maxLen; omega
  have q1 : ((a.size : Int) == (b.size : Int)) = false := by rw [beq_eq_false_iff_ne]; omega
  go_enter Try.func13, Try.ntmps13
  go_wp2_with fail
  refine (implValid_is true _ _ hsa hva).mono ?_
  rintro e w1 ⟨rfl, hb1⟩
  go_wp2_with fail
  refine (implValid_is true _ _ hsb hvb).mono ?_
  rintro e w2 ⟨rfl, hb2⟩
  have HB := Lib.hid (hb1.trans (hb2.mono hb1.size))
  clear hb1 hb2
  go_wp2_with fail
  all_goals first
    | (exfalso; omega)
    | (go_ret; exact ⟨rfl, HB.out⟩)
theorem implBetween_long (a b : ByteArray) (w : World) (he : a.size = b.size) (hl : 12 < b.size) (hva : Hid (valid a.data.toList = true)) (hvb : Hid (valid b.data.toList = true)) :
    Calls Try.prog 13 #[.string a, .string b] w fun e w' => e = .returned (.int .i64 (-1)) ∧ Below w.heap.size w w' := by
  have h1 := valid_size hva.out
  have h2 := valid_size hvb.out
  have hsa : a.size ≤ maxLen := by unfold maxLen; omega
  have hsb : b.size ≤ maxLen := by unfold maxLen; omega
  have q1 : ((a.size : Int) == (b.size : Int)) = true := by rw [he]; simp
  have q2 : (12 : Int) < (b.size : Int) := by omega
  have q3 : (12 : Int) < (a.size : Int) := by omega
  go_enter Try.func13, Try.ntmps13
  go_wp2_with fail
  refine (implValid_is true _ _ hsa hva).mono ?_
  rintro e w1 ⟨rfl, hb1⟩
  go_wp2_with fail
  refine (implValid_is true _ _ hsb hvb).mono ?_
  rintro e w2 ⟨rfl, hb2⟩
  have HB := Lib.hid (hb1.trans (hb2.mono hb1.size))
  clear hb1 hb2
  go_wp2_with fail
  all_goals first
    | (exfalso; omega)
    | (go_ret; exact ⟨rfl, HB.out⟩)
theorem implBetween_any (a b : ByteArray) (w : World) (hsa : a.size ≤ maxLen) (hsb : b.size ≤ maxLen) :
    Calls Try.prog 13 #[.string a, .string b] w fun e w' => e = .returned (.int .i64 (btwOut a.data.toList b.data.toList)) ∧ Below w.heap.size w w' := by
  cases hva : valid a.data.toList with
  | false =>
    rw [btwOut, if_neg (by rw [hva]; simp)]
    exact implBetween_nv1 a b w hsa hva
  | true =>
    cases hvb : valid b.data.toList with
    | false =>
      rw [btwOut, if_neg (by rw [hvb]; simp)]
      exact implBetween_nv2 a b w hsa hsb hva hvb
    | true =>
      by_cases he : a.size = b.size
      · by_cases hl : b.size ≤ 12
        · obtain ⟨x, hx, _⟩ := valid_tree hva
          obtain ⟨y, hy, _⟩ := valid_tree hvb
          have h1 := Tw.lst_length x
          have h2 := Tw.lst_length y
          rw [← hx, size_list] at h1
          rw [← hy, size_list] at h2
          rw [hx, hy, btw_in (by omega) (by omega)]
          exact implBetween_yes x y a b w hx hy (by omega) (by omega)
        · rw [btwOut, if_neg (by rw [size_list, size_list]; omega)]
          exact implBetween_long a b w he (by omega) hva hvb
      · rw [btwOut, if_neg (by rw [size_list, size_list]; omega)]
        exact implBetween_ne a b w he hva hvb

theorem mostV_four (n : Nat) : mostV n ≤ 4 := by
  unfold mostV
  split <;> omega
theorem most_met : ∀ n, n ≤ 4 → ((treesOf n).any fun a => (treesOf n).any fun b => decide (mostV n ≤ dist a b)) = true
  | 0, _ => by decide +kernel
  | 1, _ => by decide +kernel
  | 2, _ => by decide +kernel
  | 3, _ => by decide +kernel
  | 4, _ => by decide +kernel
  | k + 5, h => absurd h (by omega)
/-- so far: the most is no more than there is, and no less than what was met -/
structure Mo (n : Nat) (L : List Tw) (k m : Nat) : Prop where
  le : m ≤ mostV n
  ge : ∀ (i : Nat) (hi : i < L.length), i < k → ∀ u : Tw, u.size = n → dist L[i] u ≤ m
/-- what stands in a round over one word's turns -/
structure Mr (w0 wi : World) (g r nn n : Nat) (D : DataW Unit) (x : Tw) (left : Lit → Bool) (cnt m0 m : Nat) : Prop where
  rg : wi.ranges Try.prog 9 (plainElem (H := Unit) Try.prog 3) g r nn D left cnt
  le : m0 ≤ m ∧ m ≤ mostV n
  ge : ∀ u : Tw, u.size = n → left (.string u.lst) = false → dist x u ≤ m
  below : Below w0.heap.size w0 wi
  far : w0.heap.size ≤ r
set_option maxHeartbeats 3200000 in
set_option maxRecDepth 100000 in
theorem implMost_yes (n : Nat) (w : World) (hn : n ≤ 4) :
    Calls Try.prog 15 #[.int .i64 n] w fun e w' => e = .returned (.int .i64 (mostV n : Nat)) ∧ Below w.heap.size w w' := by
  have hx := fun w => implWords_any n w
  have e1 : wordsOut (n : Int) = (treesOf n).map Tw.lst := by
    rw [wordsOut, if_pos (by omega), Int.toNat_natCast, trees_lst n hn]
  rw [e1] at hx
  have HX := Lib.hid hx
  have hlen : ((treesOf n).map Tw.lst).length ≤ 4096 := by rw [← e1]; exact wordsOut_length _
  rw [List.length_map] at hlen
  have hmet := most_met n hn
  have hsz := trees_size n hn
  obtain ⟨L, hL⟩ : ∃ L, L = treesOf n := ⟨_, rfl⟩
  rw [← hL] at HX hsz hmet hlen
  have SZ := Lib.hid hsz
  have MET := Lib.hid hmet
  have d0 : (0 : Int) ≤ (n : Int) := by omega
  have d2 : (n : Int) ≤ 4 := by omega
  have HM0 : Hid (mostV n ≤ 4) := by
    show _ ≤ _
    exact mostV_four n
  clear hx e1 hsz hmet hL
  go_enter Try.func15, Try.ntmps15
  go_wp2_with (go_at_call 31; refine (HX.out _).mono ?_; rintro e w1 ⟨v, rfl, ho, hb⟩; obtain ⟨av, cv, rfl, _, hcv, _, _⟩ := ho.slice; rw [sv_length, List.length_map] at ho hcv ⊢)
  have HO := Lib.hid ho
  have HB := Lib.hid hb
  clear ho hb HX
  go_loopw [3, 17] (fun o i wr => ∃ k m : Nat, k ≤ L.length ∧ m ≤ 4 ∧ o = .int .i64 m ∧ i = .int .i64 k ∧ Hid (Mo n L k m) ∧ Hid (Own wr w.heap.size w1.heap.size 9 (.slice av L.length cv) (sv (L.map Tw.lst))) ∧ Hid (Below w.heap.size w wr) ∧ Hid (w1.heap.size ≤ wr.heap.size)) (fun _ i _ => L.length - (intOf i).toNat)
  case atStart => exact ⟨0, 0, Nat.zero_le _, by omega, rfl, rfl, ⟨Nat.zero_le _, fun i _ h => absurd h (by omega)⟩, HO, HB, Nat.le_refl _⟩
  case round =>
    clear HO HB
    obtain ⟨k, m, hk, hm4, rfl, rfl, M, HO, HB, HS⟩ := hrel
    by_cases hlt : k < L.length
    · obtain ⟨gv, rfl, _, _, hc, _⟩ := HO.out.at_ k (by rw [sv_length, List.length_map]; exact hlt)
      rw [sv_get _ k (by rw [List.length_map]; exact hlt), List.getElem_map] at hc
      have b1 : (k : Int) < (L.length : Int) := by omega
      have HXs := Lib.hid (SZ.out _ (List.getElem_mem hlt))
      obtain ⟨x, hx⟩ : ∃ x, x = L[k] := ⟨_, rfl⟩
      have HXK := Lib.hid hx
      rw [← hx] at hc HXs
      obtain ⟨tx, htx⟩ : ∃ tx : ByteArray, tx = ⟨x.lst.toArray⟩ := ⟨_, rfl⟩
      rw [← htx] at hc
      have CA := Lib.hid (fun W => turnsFrom_any x tx W (by rw [htx]) (by rw [HXs.out]; omega))
      clear hx htx
      go_wp2_with (first
        | (go_at_call 28; refine (CA.out _).mono ?_; rintro e w3 ⟨g, nn, D, rfl, hge, hown, hD, hb3⟩)
        | (at_range; refine wpList_range_own _ rfl _ 42 rfl 9 3 lawS Try.underlying42 _ g nn _ rfl hown ?_; intro w4 hrg4 hg4 hs4)
        | go_in)
      go_frame
      obtain ⟨r, hr⟩ : ∃ r, r = w3.heap.size := ⟨_, rfl⟩
      rw [← hr] at hrg4 ⊢
      have hs3 := hb3.size
      have hb0 := HB.out.size
      have hO3 := HO.out.below (hb3.mono HS.out)
      have hg4' : Below w3.heap.size w3 w4 := ⟨hg4.os, hg4.tape, hg4.output, hg4.size, fun i hi => hg4.block i hi (by simp)⟩
      have hO4 := Lib.hid (hO3.below (hg4'.mono (Nat.le_trans HS.out hs3)))
      have hB4 := HB.out.trans ((hb3.mono hb0).trans (hg4'.mono (by omega)))
      have hS4 := Lib.hid (show w1.heap.size ≤ w4.heap.size by have := HS.out; omega)
      have HR := Lib.hid (show w1.heap.size ≤ r by have := HS.out; omega)
      have P0 : Hid (Mr w w4 g r nn n D x (Maps.has D) (Maps.size D) m m) := by
        refine ⟨hrg4, ⟨Nat.le_refl _, M.out.le⟩, fun u hu hl => ?_, hB4, by omega⟩
        rw [(hD.1 _).2 ⟨u, by rw [hu, HXs.out], rfl⟩] at hl
        cases hl
      have DA := Lib.hid hD
      clear hrg4 hg4 hs4 hs3 hb0 hO3 hg4' hB4 hb3 hge hown hD HO HB HS CA hc hr
      go_loopw [3] (fun o wi => ∃ (left : Lit → Bool) (cnt q : Nat), o = .int .i64 q ∧ q ≤ 4 ∧ Hid (Mr w wi g r nn n D x left cnt m q) ∧ Hid (Own wi w.heap.size w1.heap.size 9 (.slice (some ⟨gv, 0, none⟩) L.length cv) (sv (L.map Tw.lst))) ∧ Hid (w1.heap.size ≤ wi.heap.size))
        (fun _ wi => wi.rangeLeft g r)
      case atStart => exact ⟨_, _, m, rfl, hm4, P0, hO4, hS4⟩
      case round =>
        clear P0 hO4 hS4
        obtain ⟨left, cnt, q, rfl, hq4, P, HO, HS⟩ := hrel
        have hrg := P.out.rg
        go_wp2_with (first
          | (at_next; refine wpList_next_ranges _ rfl _ rfl 9 lawS (plainElem (H := Unit) Try.prog 3) Go.Proofs.encStr (Value.int .i64) (fun key kl hk => by obtain ⟨x, hx, _⟩ := Maps.keyOf_str Try.underlying9 hk; exact ⟨x, hx⟩) (fun v y hv => int_inv Try.underlying3 hv) g r nn _ _ _ rfl hrg ?_ ?_)
          | go_in)
        · -- all turns of the word are through
          intro hc2 hl2
          have M2 : Hid (Mo n L (k + 1) q) := by
            refine ⟨P.out.le.2, fun i hi hik u hu => ?_⟩
            by_cases e : i = k
            · subst e
              rw [← HXK.out]
              exact P.out.ge u hu (hl2 _)
            · exact Nat.le_trans (M.out.ge i hi (by omega) u hu) P.out.le.1
          have HB2 := Lib.hid P.out.below
          clear hc2 hl2 P hrg M
          go_wp2
          go_roundw
          case rel => exact ⟨k + 1, q, by omega, hq4, rfl, by go_num, M2, HO, HB2, HS⟩
          case measure => simp [intOf]; omega
        · -- one of them
          intro xk c kl yd yp w5 cnt1 hkey hlk hv hat hrg5 hlt5 hg5 hs5 hen
          obtain ⟨x', ex, rfl, hxl⟩ := Maps.keyOf_str Try.underlying9 hkey
          obtain rfl : xk = x' := by simpa [Go.Proofs.encStr] using ex
          obtain ⟨u, hu, hue⟩ := (DA.out.1 _).1 (Maps.has_true_of_atKey hat)
          have hue : xk = u.lst := Lit.string.inj hue
          have hc : c = ((dist x u : Nat) : Int) := by
            have h1 := DA.out.2 u hu .nil
            rw [← hue, hat] at h1
            obtain ⟨a, h2, h3, _⟩ := plainElem_int_inv Try.underlying3 hv
            cases h2
            have h4 : yd = .lit (.int .i64 c) := (Prod.mk.inj h3).1
            rw [h4] at h1
            simpa using h1
          subst hc
          have hdm : dist x u ≤ mostV n := by
            have := dist_few (a := x) (b := u) hu.symm (by rw [HXs.out]; exact hn)
            rw [HXs.out] at this
            exact this
          have hd4 : dist x u ≤ 4 := Nat.le_trans hdm (mostV_four n)
          have far4 := P.out.far
          have hlw := HS.out
          have P5 : Hid (Mr w w5 g r nn n D x (fun z => left z && !z.sameKey (.string xk)) cnt1 m (max q (dist x u))) := by
            refine ⟨hrg5, ⟨by have := P.out.le.1; omega, by have := P.out.le.2; omega⟩, fun v hv hl => ?_, P.out.below.grown hg5 P.out.below.size (fun j hj => by cases hj; exact far4), far4⟩
            simp only [same_str, Bool.and_eq_false_iff, Bool.not_eq_false', decide_eq_true_eq] at hl
            rcases hl with hl | hl
            · exact Nat.le_trans (P.out.ge v hv hl) (Nat.le_max_left _ _)
            · rw [hue] at hl
              cases Tw.lst_inj _ _ hl
              exact Nat.le_max_right _ _
          have HO5 := Lib.hid (HO.out.grown hg5 (.inr (by
            simp only [Value.ownBlock, ne_eq, Option.some.injEq]
            intro e
            have := HO.out.2 gv rfl
            have := HR.out
            omega)))
          have HS5 := Lib.hid (show w1.heap.size ≤ w5.heap.size by omega)
          have HLE := Lib.hid hrg.left_eq
          have e9 : max (q : Int) ((dist x u : Nat) : Int) = ((max q (dist x u) : Nat) : Int) := by omega
          have hq5 : max q (dist x u) ≤ 4 := by omega
          clear hs5 hrg5 hg5 hkey ex hlk hv hat P hrg far4 hlw HO HS hu hue hdm hd4 hxl
          obtain ⟨d, hd⟩ : ∃ d, d = dist x u := ⟨_, rfl⟩
          rw [← hd] at e9 hq5 P5 hen ⊢
          clear hd
          go_wp2
          go_roundw
          case rel => exact ⟨_, cnt1, max q d, by rw [← e9], hq5, P5, HO5, HS5⟩
          case measure => rw [P5.out.rg.left_eq, HLE.out]; exact hlt5
    · obtain rfl : k = L.length := by omega
      have hm : m = mostV n := by
        have h1 := M.out.le
        obtain ⟨a, ha, h2⟩ := List.any_eq_true.1 MET.out
        obtain ⟨b, hb, h3⟩ := List.any_eq_true.1 h2
        obtain ⟨i, hi, e⟩ := List.getElem_of_mem ha
        have h4 := M.out.ge i hi hi b (SZ.out b hb)
        rw [e] at h4
        have := of_decide_eq_true h3
        omega
      clear MET
      go_wp2
      go_ret
      exact ⟨by rw [← hm]; rfl, HB.out⟩
theorem implMost_any (n : Int) (w : World) :
    Calls Try.prog 15 #[.int .i64 n] w fun e w' => e = .returned (.int .i64 (mostOut n)) ∧ Below w.heap.size w w' := by
  by_cases h : 0 ≤ n ∧ n ≤ 4
  · rw [mostOut, if_pos h]
    obtain ⟨k, rfl⟩ : ∃ k : Nat, n = k := ⟨n.toNat, by omega⟩
    exact implMost_yes k w (by omega)
  · rw [mostOut, if_neg h]
    by_cases h0 : n < 0
    · have d1 : decide (n < 0) = true := decide_eq_true h0
      clear h
      go_enter Try.func15, Try.ntmps15
      go_wp2
      go_ret
      exact ⟨rfl, Below.refl _ _⟩
    · have d1 : decide (n < 0) = false := decide_eq_false h0
      have d2 : 4 < n := by omega
      clear h h0
      go_enter Try.func15, Try.ntmps15
      go_wp2
      go_ret
      exact ⟨rfl, Below.refl _ _⟩
end Go.Proofs.Ytcfenbienebbjaa
