/-
  The contracts of the functions that draw wishes of cars: some list of at most nine numbers.
-/
import Derived.Test.YtchfnbcpjiiphaaZD
namespace Go.Proofs.Ytchfnbcpjiiphaa
open Go.RowKit

theorem Try.infoIntP : (Try.prog.info? 3).map (fun i => (i.zero, i.size, i.bytes)) = some (some (.int .i64 0), 1, 8) := by kernel_rfl
/-- some list of at most nine numbers in memory from block B on -/
def WishDrawn (B : Nat) (w : World) (e : Ending) (w' : World) : Prop :=
  ∃ v l, e = .returned v ∧ Own w' B w'.heap.size 3 v (iv l) ∧ l.length ≤ 9 ∧ Below B w w'
theorem small_listP (l : List Int) (h : l.all (fun x => decide (0 ≤ x ∧ x ≤ 9)) = true) (x : Int) (hx : x ∈ l) : 0 ≤ x ∧ x ≤ 9 := of_decide_eq_true (List.all_eq_true.1 h x hx)
theorem own_downP {w : World} {B B' n : Nat} {t : TypeId} {v : Value} {xs : List Value} (h : w.ownsRow B' t 1 v n xs) (hB : B ≤ B') : w.ownsRow B t 1 v n xs := by
  refine ⟨h.1, ?_⟩
  rcases h.2 with h | ⟨g, cap, cur, a, b, c⟩
  · exact .inl h
  · exact .inr ⟨g, cap, cur, a, by omega, c⟩
theorem own_onlyP {w w' : World} {B n R : Nat} {t : TypeId} {v : Value} {xs : List Value} (h : w.ownsRow B t 1 v n xs) (ho : Only R w w') (hR : R < B) : w'.ownsRow B t 1 v n xs :=
  own_of_blocks h fun g hg => ho.block g (by have := (h.lt g hg).1; omega)
def lenOfP : Value → Nat | .slice _ n _ => n | _ => 0
theorem own_someP {w : World} {B n : Nat} {t : TypeId} {v : Value} {xs : List Value} (h : w.ownsRow B t 1 v n xs) (hv : v ≠ .slice none 0 0) : ∃ g cap, v = .slice (some ⟨g, 0, none⟩) n cap := by
  rcases h.2 with ⟨h0, _⟩ | ⟨g, cap, cur, h1, _⟩
  · exact absurd h0 hv
  · exact ⟨g, cap, h1⟩

set_option maxHeartbeats 3200000 in
set_option maxRecDepth 100000 in
theorem someWishes_any (B R : Nat) (a : Option Addr) (n c : Nat) (w : World) (h : Hid (Rd w B R a n c 0)) :
    Calls Try.prog 37 #[.pointer (some ⟨R, 0, none⟩)] w (WishDrawn B w) := by
  obtain ⟨i0, hi, hz0, hz1, hz2⟩ := info_parts Try.infoIntP
  have hlow := h.out.low
  have hRlt := h.out.lt
  have l9 := lit_own w #[.int .i64 4, .int .i64 5, .int .i64 3, .int .i64 6, .int .i64 8, .int .i64 2, .int .i64 1, .int .i64 0, .int .i64 9] 3 (by decide)
  have L9 : Hid (Own (w.alloc (.cells #[.int .i64 4, .int .i64 5, .int .i64 3, .int .i64 6, .int .i64 8, .int .i64 2, .int .i64 1, .int .i64 0, .int .i64 9] 3)) w.heap.size (w.heap.size + 1) 3 (.slice (some ⟨w.heap.size, 0, none⟩) 9 9) (iv [4, 5, 3, 6, 8, 2, 1, 0, 9])) := l9
  have hbW : Below w.heap.size w (w.alloc (.cells #[.int .i64 4, .int .i64 5, .int .i64 3, .int .i64 6, .int .i64 8, .int .i64 2, .int .i64 1, .int .i64 0, .int .i64 9] 3)) := (Below.refl _ _).alloc (Nat.le_refl _) _
  have R1 := Lib.hid (h.out.grow hbW)
  have B1 := Lib.hid (show Below B w (w.alloc (.cells #[.int .i64 4, .int .i64 5, .int .i64 3, .int .i64 6, .int .i64 8, .int .i64 2, .int .i64 1, .int .i64 0, .int .i64 9] 3)) from hbW.mono (by omega))
  have NE : Hid ((Value.slice (some ⟨w.heap.size, 0, none⟩) 9 9).ownBlock ≠ some R) := by show _ ≠ _; simp [Value.ownBlock]; omega
  have OA := Lib.hid (one_any [4, 5, 3, 6, 8, 2, 1, 0, 9] _ B R a n c 0 _ R1 (by omega) L9 NE.out (by decide) (by decide))
  have HsB := Lib.hid (show w.heap.size ≤ (w.alloc (.cells #[.int .i64 4, .int .i64 5, .int .i64 3, .int .i64 6, .int .i64 8, .int .i64 2, .int .i64 1, .int .i64 0, .int .i64 9] 3)).heap.size by simp)
  clear l9 hbW h
  go_enter Try.func37, Try.ntmps37
  go_wp2_with fail
  refine OA.out.mono ?_
  rintro e w2 ⟨x, hx, rfl, hrd, honly⟩
  obtain ⟨q, rfl, hq⟩ : ∃ q : Nat, x = q ∧ q ≤ 9 := by
    have h1 := small_listP [4, 5, 3, 6, 8, 2, 1, 0, 9] (by decide) x hx
    exact ⟨x.toNat, by omega, by omega⟩
  have B2 := B1.out.trans (honly.below hlow)
  have hR2 := hrd.lt
  have h2s : w.heap.size ≤ w2.heap.size := by rw [honly.size]; exact HsB.out
  have B3 := Lib.hid (B2.trans (((Below.refl w2.heap.size w2).alloc (Nat.le_refl _) (.cells #[] 3)).mono (by omega)))
  have R3 := Lib.hid (hrd.grow ((Below.refl w2.heap.size w2).alloc (Nat.le_refl _) (.cells #[] 3)))
  have hown2 : (w2.alloc (.cells #[] 3)).ownsRow w2.heap.size 3 1 (.slice (some ⟨w2.heap.size, 0, none⟩) 0 0) 0 (iv []) := World.ownsRow_lit (base := w2.heap.size) (e := 3) (size := 1) w2 #[] 0 (Nat.le_refl _) (by decide) rfl
  obtain ⟨H1, hH1⟩ : ∃ H1, H1 = w2.heap.size := ⟨_, rfl⟩
  rw [← hH1] at hown2 hR2 h2s
  have HR2 := Lib.hid (show B ≤ H1 by omega)
  have e1 : IntKind.i64.wrap ((q : Int) + 1) = (q : Int) + 1 := by rw [IntKind.wrap_i64]; omega
  clear hrd honly hx OA NE L9 R1 B1 B2 HsB h2s
  go_wp2_with fail
  rw [← hH1]
  clear hH1
  go_loopw [4] (fun v wr => ∃ (l : List Int) (k : Nat), v ≠ .slice none 0 0 ∧ k ≤ q ∧ Hid (k = l.length) ∧ wr.ownsRow H1 3 1 v k (iv l) ∧ Hid (Rd wr B R a n c (0 + 1 + 3 * k)) ∧ Below B w wr) (fun v _ => q - lenOfP v)
  case atStart => exact ⟨[], 0, by simp, Nat.zero_le _, rfl, hown2, R3.out, B3.out⟩
  case round =>
    clear hown2 R3 B3
    obtain ⟨l, k, hnil, hk, HK, hown, HR, hb⟩ := hrel
    obtain ⟨g, cp, rfl⟩ := own_someP hown hnil
    have hRw := HR.out.lt
    have hlt2 := (hown.lt g rfl).2
    have hlt1 := (hown.lt g rfl).1
    by_cases hlt : k < q
    · have i1 : (k : Int) < (q : Int) := by omega
      go_wp2_with fail
      refine (pick_any B R a n c (0 + 1 + 3 * k) _ _ HR.out (by omega) (by omega) (by omega)).mono ?_
      rintro e w3 ⟨y, rfl, hy, _, hrd, honly⟩
      have hown3 := own_onlyP hown honly hR2
      have R3 := Lib.hid hrd
      have hb3 := hb.trans (honly.below hlow)
      clear hy hrd honly hown hb HR
      go_wp2_with fail
      refine (pick_any B R a n c (0 + 1 + 3 * k + 1) _ _ R3.out (by omega) (by omega) (by omega)).mono ?_
      rintro e w4 ⟨y', rfl, hy', _, hrd, honly⟩
      have hown4 := own_onlyP hown3 honly hR2
      have hb4 := hb3.trans (honly.below hlow)
      have hs4 : H1 ≤ w4.heap.size := by have := (hown4.lt g rfl).1; have := (hown4.lt g rfl).2; omega
      clear hy' honly hown3 hb3 R3
      have l3 := lit_own w4 #[.int .i64 (y : Int), .int .i64 (y' : Int), .int .i64 0] 3 (by simp [maxLen])
      have L3 : Hid (Own (w4.alloc (.cells #[.int .i64 (y : Int), .int .i64 (y' : Int), .int .i64 0] 3)) w4.heap.size (w4.heap.size + 1) 3 (.slice (some ⟨w4.heap.size, 0, none⟩) 3 3) (iv [(y : Int), (y' : Int), 0])) := l3
      have hbW : Below w4.heap.size w4 (w4.alloc (.cells #[.int .i64 (y : Int), .int .i64 (y' : Int), .int .i64 0] 3)) := (Below.refl _ _).alloc (Nat.le_refl _) _
      have R4 := Lib.hid (hrd.grow hbW)
      have hb5 := hb4.trans (hbW.mono (by have := HR2.out; omega))
      have hown5 := hown4.alloc (.cells #[.int .i64 (y : Int), .int .i64 (y' : Int), .int .i64 0] 3)
      have NE : Hid ((Value.slice (some ⟨w4.heap.size, 0, none⟩) 3 3).ownBlock ≠ some R) := by show _ ≠ _; simp [Value.ownBlock]; omega
      have OB := Lib.hid (one_any [(y : Int), (y' : Int), 0] _ B R a n c (0 + 1 + 3 * k + 1 + 1) _ R4 (by omega) L3 NE.out (by simp) (by simp))
      have hs5 : H1 ≤ (w4.alloc (.cells #[.int .i64 (y : Int), .int .i64 (y' : Int), .int .i64 0] 3)).heap.size := by simp; omega
      have HS5 := Lib.hid hs5
      clear l3 hbW hrd hb4 hown4 R4 L3 NE hs5
      go_wp2_with fail
      refine OB.out.mono ?_
      rintro e w6 ⟨z, _, rfl, hrd, honly⟩
      have hown6 := own_onlyP hown5 honly hR2
      have R6 := Lib.hid hrd
      have hb6 := hb5.trans (honly.below hlow)
      have hs6 : H1 ≤ w6.heap.size := by rw [honly.size]; exact HS5.out
      clear hrd honly hown5 hb5 OB HS5
      go_wp2_with (at_builtin; refine wpList_append_own _ rfl _ _ 23 rfl H1 3 i0 (.int .i64 0) 1 8 Try.underlying23 hi hz0 hz1 hz2 rfl (by decide) _ _ _ rfl (hown6.alloc _) ⟨w6.heap.size, 0, none⟩ 1 1 [.int .i64 z] rfl rfl ?c1 ?c2 ?c3 ?c4 ?c5 ?_)
      case c1 => exact cell_one_new _ _ _
      case c2 => intro u hu; simp at hu; subst hu; rfl
      case c3 => unfold maxLen; omega
      case c4 => omega
      case c5 => simp; omega
      intro v' w7 hown7 hg7 hn7
      rw [iv_snoc] at hown7
      have hb67 : Below H1 w6 w7 := ((Below.refl _ _).alloc hs6 _).grown hg7 (by simp; omega) (fun r hr => (hown6.lt r hr).1)
      have HR7 := Lib.hid (R6.out.below hb67 hR2)
      have hb7 := hb6.trans (hb67.mono HR2.out)
      clear hown6 hg7 hb67 hb6 R6
      go_wp2
      go_roundw
      case rel => exact ⟨l ++ [z], k + 1, hn7, by omega, by show _ = _; rw [List.length_append, ← HK.out]; rfl, hown7, by rw [show 0 + 1 + 3 * (k + 1) = 0 + 1 + 3 * k + 1 + 1 + 1 by omega]; exact HR7, hb7⟩
      case measure =>
        obtain ⟨g', cp', rfl⟩ := own_someP hown7 hn7
        simp only [lenOfP]; omega
    · obtain rfl : k = q := by omega
      have HO := Lib.hid hown
      clear hown
      by_cases h0 : k = 0
      · have i0' : ¬ (0 : Int) < (k : Int) := by omega
        have H0 := Lib.hid h0
        clear h0 hq hk hlt
        go_wp2
        go_ret
        exact ⟨_, l, rfl, ⟨own_downP (by rw [iv_length, ← HK.out]; exact HO.out) HR2.out, fun g' hg' => (HO.out.lt g' hg').2⟩, by have := HK.out; have := H0.out; omega, hb⟩
      · have i1 : (0 : Int) < (k : Int) := by omega
        go_wp2_with fail
        refine (pick_any B R a n c (0 + 1 + 3 * k) _ _ HR.out (by omega) (by omega) (by omega)).mono ?_
        rintro e w3 ⟨y, rfl, hy, _, hrd, honly⟩
        have hown3 := Lib.hid (own_onlyP HO.out honly hR2)
        have HR3 := Lib.hid hrd
        have hb3 := hb.trans (honly.below hlow)
        have hs3 := Lib.hid (show H1 ≤ w3.heap.size by have := (hown3.out.lt g rfl).1; have := (hown3.out.lt g rfl).2; omega)
        clear hy hrd honly HO hb HR
        by_cases hy0 : y = 0
        · subst hy0
          have l3 := lit_own w3 #[.int .i64 (-1), .int .i64 ((k : Int) + 1)] 3 (by simp [maxLen])
          have L3 : Hid (Own (w3.alloc (.cells #[.int .i64 (-1), .int .i64 ((k : Int) + 1)] 3)) w3.heap.size (w3.heap.size + 1) 3 (.slice (some ⟨w3.heap.size, 0, none⟩) 2 2) (iv [-1, (k : Int) + 1])) := l3
          have hbW : Below w3.heap.size w3 (w3.alloc (.cells #[.int .i64 (-1), .int .i64 ((k : Int) + 1)] 3)) := (Below.refl _ _).alloc (Nat.le_refl _) _
          have R4 := Lib.hid (HR3.out.grow hbW)
          have hb5 := Lib.hid (hb3.trans (hbW.mono (by have := HR2.out; have := hs3.out; omega)))
          have hown5 := Lib.hid (hown3.out.alloc (.cells #[.int .i64 (-1), .int .i64 ((k : Int) + 1)] 3))
          have NE : Hid ((Value.slice (some ⟨w3.heap.size, 0, none⟩) 2 2).ownBlock ≠ some R) := by show _ ≠ _; have := hs3.out; simp [Value.ownBlock]; omega
          have OB := Lib.hid (one_any [-1, (k : Int) + 1] _ B R a n c (0 + 1 + 3 * k + 1) _ R4 (by omega) L3 NE.out (by simp) (by simp))
          clear l3 hbW hb3 HR3 hown3 L3 NE R4
          go_wp2_with fail
          refine OB.out.mono ?_
          rintro e w5 ⟨z, _, rfl, hrd, honly⟩
          have hown6 := own_onlyP hown5.out honly hR2
          have hb6 := hb5.out.trans (honly.below hlow)
          have hk0 : 0 < k := by omega
          obtain ⟨_, hge, _, _, hc, hf⟩ := Own.at_ (w := w5) (B := H1) (H := w5.heap.size) (t := 3) (ao := some ⟨g, 0, none⟩) (n := k) (c := cp) (xs := iv l) ⟨by rw [iv_length, ← HK.out]; exact hown6, fun g' hg' => (hown6.lt g' hg').2⟩ 0 (by rw [iv_length, ← HK.out]; exact hk0)
          cases hge
          rw [iv_at l 0 (by rw [← HK.out]; exact hk0)] at hc
          have hst := hown6.stored 0 (.int .i64 z)
          rw [iv_set] at hst
          have hg1 := (hown6.lt g rfl)
          have hb7 := Lib.hid (hb6.grown hst.2 (by have := hb6.size; have := HR2.out; omega) (fun r hr => by cases hr; have := HR2.out; omega))
          have hst1 := Lib.hid hst.1
          have Hsz := Lib.hid (show g < (w5.setCell ⟨g, 0, none⟩ (.int .i64 z)).heap.size by simpa using hg1.2)
          clear hst hown6 hb6 hb5 hown5 hrd honly hg1 OB
          go_wp2
          go_ret
          exact ⟨_, l.set 0 z, rfl, ⟨own_downP (by rw [iv_length, List.length_set, ← HK.out]; exact hst1.out) HR2.out, fun g' hg' => by cases hg'; exact Hsz.out⟩, by rw [List.length_set]; have := HK.out; omega, hb7.out⟩
        · have j0 : ((y : Int) == 0) = false := beq_false_of_ne (by omega)
          go_wp2
          go_ret
          exact ⟨_, l, rfl, ⟨own_downP (by rw [iv_length, ← HK.out]; exact hown3.out) HR2.out, fun g' hg' => (hown3.out.lt g' hg').2⟩, by have := HK.out; omega, hb3⟩

set_option maxHeartbeats 800000 in
theorem drawPlacesOf (a : Option Addr) (len cap : Nat) (zs : List Int) (w : World) (hr : Hid (IsRow .u8 w a len cap zs)) (hl : len ≤ 1048576) :
    Calls Try.prog 10 #[.slice a len cap] w (WishDrawn w.heap.size w) := by
  go_enter Try.func10, Try.ntmps10
  go_wp2_with fail
  refine (newReader_any a len cap zs w hr.out hl).mono ?_
  rintro e w1 ⟨n, R, rfl, h, hb⟩
  have H := Lib.hid h
  have HB := Lib.hid hb
  clear h hb hr
  go_wp2_with fail
  refine (someWishes_any w.heap.size R a n cap w1 H).mono ?_
  rintro e w2 ⟨v, l, rfl, o, hl9, hb⟩
  have HB2 := Lib.hid (HB.out.trans hb)
  have HO := Lib.hid o
  clear o hb
  go_wp2
  go_ret
  exact ⟨v, l, rfl, HO.out, hl9, HB2.out⟩

set_option maxHeartbeats 800000 in
theorem drawAllPark (a : Option Addr) (len cap : Nat) (zs : List Int) (w : World) (hr : Hid (IsRow .u8 w a len cap zs)) (hl : len ≤ 1048576) :
    Calls Try.prog 15 #[.slice a len cap] w (WishDrawn w.heap.size w) := by
  go_enter Try.func15, Try.ntmps15
  go_wp2_with fail
  refine (newReader_any a len cap zs w hr.out hl).mono ?_
  rintro e w1 ⟨n, R, rfl, h, hb⟩
  have H := Lib.hid h
  have HB := Lib.hid hb
  clear h hb hr
  go_wp2_with fail
  refine (someWishes_any w.heap.size R a n cap w1 H).mono ?_
  rintro e w2 ⟨v, l, rfl, o, hl9, hb⟩
  have HB2 := Lib.hid (HB.out.trans hb)
  have HO := Lib.hid o
  clear o hb
  go_wp2
  go_ret
  exact ⟨v, l, rfl, HO.out, hl9, HB2.out⟩

set_option maxHeartbeats 800000 in
theorem drawDriftOf (a : Option Addr) (len cap : Nat) (zs : List Int) (w : World) (hr : Hid (IsRow .u8 w a len cap zs)) (hl : len ≤ 1048576) :
    Calls Try.prog 29 #[.slice a len cap] w (WishDrawn w.heap.size w) := by
  go_enter Try.func29, Try.ntmps29
  go_wp2_with fail
  refine (newReader_any a len cap zs w hr.out hl).mono ?_
  rintro e w1 ⟨n, R, rfl, h, hb⟩
  have H := Lib.hid h
  have HB := Lib.hid hb
  clear h hb hr
  go_wp2_with fail
  refine (someWishes_any w.heap.size R a n cap w1 H).mono ?_
  rintro e w2 ⟨v, l, rfl, o, hl9, hb⟩
  have HB2 := Lib.hid (HB.out.trans hb)
  have HO := Lib.hid o
  clear o hb
  go_wp2
  go_ret
  exact ⟨v, l, rfl, HO.out, hl9, HB2.out⟩

set_option maxHeartbeats 800000 in
theorem drawShiftFor (a : Option Addr) (len cap : Nat) (zs : List Int) (w : World) (hr : Hid (IsRow .u8 w a len cap zs)) (hl : len ≤ 1048576) :
    Calls Try.prog 33 #[.slice a len cap] w (WishDrawn w.heap.size w) := by
  go_enter Try.func33, Try.ntmps33
  go_wp2_with fail
  refine (newReader_any a len cap zs w hr.out hl).mono ?_
  rintro e w1 ⟨n, R, rfl, h, hb⟩
  have H := Lib.hid h
  have HB := Lib.hid hb
  clear h hb hr
  go_wp2_with fail
  refine (someWishes_any w.heap.size R a n cap w1 H).mono ?_
  rintro e w2 ⟨v, l, rfl, o, hl9, hb⟩
  have HB2 := Lib.hid (HB.out.trans hb)
  have HO := Lib.hid o
  clear o hb
  go_wp2
  go_ret
  exact ⟨v, l, rfl, HO.out, hl9, HB2.out⟩
end Go.Proofs.Ytchfnbcpjiiphaa
