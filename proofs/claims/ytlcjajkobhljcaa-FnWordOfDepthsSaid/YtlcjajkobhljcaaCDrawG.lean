/-
  The contract of the function that draws a list of depths: it returns some list of at most ten numbers.
-/
import Derived.Test.YtlcjajkobhljcaaCDrawE
import Derived.Test.YtlcjajkobhljcaaWRow
namespace Go.Proofs.Ytlcjajkobhljcaa
open Go.RowKit

theorem Try.infoIntG : (Try.prog.info? 3).map (fun i => (i.zero, i.size, i.bytes)) = some (some (.int .i64 0), 1, 8) := by kernel_rfl
def DrawnL (w : World) (e : Ending) (w' : World) : Prop :=
  ∃ v l, e = .returned v ∧ Own w' w.heap.size w'.heap.size 3 v (iv l) ∧ l.length ≤ 10 ∧ Below w.heap.size w w'
theorem small_list2 (l : List Int) (h : l.all (fun x => decide (0 ≤ x ∧ x ≤ 10)) = true) (x : Int) (hx : x ∈ l) : 0 ≤ x ∧ x ≤ 10 := of_decide_eq_true (List.all_eq_true.1 h x hx)
theorem own_down {w : World} {B B' n : Nat} {t : TypeId} {v : Value} {xs : List Value} (h : w.ownsRow B' t 1 v n xs) (hB : B ≤ B') : w.ownsRow B t 1 v n xs := by
  refine ⟨h.1, ?_⟩
  rcases h.2 with h | ⟨g, cap, cur, a, b, c⟩
  · exact .inl h
  · exact .inr ⟨g, cap, cur, a, by omega, c⟩
theorem own_only {w w' : World} {B n R : Nat} {t : TypeId} {v : Value} {xs : List Value} (h : w.ownsRow B t 1 v n xs) (ho : Only R w w') (hR : R < B) : w'.ownsRow B t 1 v n xs :=
  own_of_blocks h fun g hg => ho.block g (by have := (h.lt g hg).1; omega)

/-- a slice's length, for a loop's measure -/
def lenOfV : Value → Nat | .slice _ n _ => n | _ => 0
theorem own_some2 {w : World} {B n : Nat} {t : TypeId} {v : Value} {xs : List Value} (h : w.ownsRow B t 1 v n xs) (hv : v ≠ .slice none 0 0) : ∃ g cap, v = .slice (some ⟨g, 0, none⟩) n cap := by
  rcases h.2 with ⟨h0, _⟩ | ⟨g, cap, cur, h1, _⟩
  · exact absurd h0 hv
  · exact ⟨g, cap, h1⟩

set_option maxHeartbeats 3200000 in
theorem drawDepths (a : Option Addr) (len cap : Nat) (zs : List Int) (w : World) (hr : Hid (IsRow .u8 w a len cap zs)) (hl : len ≤ 1048576) :
    Calls Try.prog 24 #[.slice a len cap] w (DrawnL w) := by
  obtain ⟨i0, hi, hz0, hz1, hz2⟩ := info_parts Try.infoIntG
  go_enter Try.func24, Try.ntmps24
  go_wp2_with fail
  refine (newReader_any a len cap zs w hr.out hl).mono ?_
  rintro e w1 ⟨n, R, rfl, hrd, hb⟩
  have hlow := hrd.low
  have hRlt := hrd.lt
  have RD := Lib.hid hrd
  have B1 := Lib.hid hb
  have hs1 := hb.size
  clear hrd hb hr
  have es : (w1.alloc (.cells #[] 3)).heap.size = w1.heap.size + 1 := by simp
  have l9 := lit_own (w1.alloc (.cells #[] 3)) #[.int .i64 4, .int .i64 5, .int .i64 6, .int .i64 3, .int .i64 2, .int .i64 1, .int .i64 0, .int .i64 9, .int .i64 10] 3 (by decide)
  rw [es] at l9
  have L9 := Lib.hid (show Own ((w1.alloc (.cells #[] 3)).alloc (.cells #[.int .i64 4, .int .i64 5, .int .i64 6, .int .i64 3, .int .i64 2, .int .i64 1, .int .i64 0, .int .i64 9, .int .i64 10] 3)) (w1.heap.size + 1) (w1.heap.size + 1 + 1) 3 (.slice (some ⟨w1.heap.size + 1, 0, none⟩) 9 9) (iv [4, 5, 6, 3, 2, 1, 0, 9, 10]) from l9)
  have hbW : Below w1.heap.size w1 ((w1.alloc (.cells #[] 3)).alloc (.cells #[.int .i64 4, .int .i64 5, .int .i64 6, .int .i64 3, .int .i64 2, .int .i64 1, .int .i64 0, .int .i64 9, .int .i64 10] 3)) := ((Below.refl _ _).alloc (Nat.le_refl _) _).alloc (by rw [es]; omega) _
  have ho : ((w1.alloc (.cells #[] 3)).alloc (.cells #[.int .i64 4, .int .i64 5, .int .i64 6, .int .i64 3, .int .i64 2, .int .i64 1, .int .i64 0, .int .i64 9, .int .i64 10] 3)).ownsRow w1.heap.size 3 1 (.slice (some ⟨w1.heap.size, 0, none⟩) 0 0) 0 (iv []) := (World.ownsRow_lit (base := w1.heap.size) (e := 3) (size := 1) w1 #[] 0 (Nat.le_refl _) (by decide) rfl).alloc _
  have R1 := Lib.hid (RD.out.grow hbW)
  have B2 := Lib.hid (B1.out.trans (hbW.mono hs1))
  have O1 := Lib.hid ho
  have N9 := Lib.hid (show (Value.slice (some ⟨w1.heap.size + 1, 0, none⟩) 9 9).ownBlock ≠ some R by simp [Value.ownBlock]; omega)
  clear l9 hbW ho es
  go_wp2_with fail
  refine (one_any _ _ w.heap.size R a n cap 0 _ R1 (by omega) L9 N9.out (by decide) (by decide)).mono ?_
  rintro e w2 ⟨x, hx, rfl, hrd, honly⟩
  obtain ⟨q, rfl, hq⟩ : ∃ q : Nat, x = q ∧ q ≤ 10 := by
    have h1 := small_list2 [4, 5, 6, 3, 2, 1, 0, 9, 10] (by decide) x hx
    exact ⟨x.toNat, by omega, by omega⟩
  have hown2 := own_only O1.out honly hRlt
  have B3 := Lib.hid (B2.out.trans (honly.below hlow))
  have R3 := Lib.hid hrd
  obtain ⟨H1, hH1⟩ : ∃ H1, H1 = w1.heap.size := ⟨_, rfl⟩
  rw [← hH1] at hown2 hRlt hs1
  clear hrd honly hx L9 O1 N9 R1 RD B1 B2
  go_wp2_with fail
  rw [← hH1]
  clear hH1
  go_loopw [4, 5] (fun v t wr => ∃ (l : List Int) (k : Nat) (x : Int), v ≠ .slice none 0 0 ∧ k ≤ q ∧ Hid (k = l.length) ∧ t = .int .i64 x ∧ -1 ≤ x ∧ x ≤ 100 + k ∧ wr.ownsRow H1 3 1 v k (iv l) ∧ Hid (Rd wr w.heap.size R a n cap (0 + 1 + k)) ∧ Below w.heap.size w wr) (fun v _ _ => q - lenOfV v)
  case atStart => exact ⟨[], 0, -1, by simp, Nat.zero_le _, rfl, rfl, by omega, by omega, hown2, R3.out, B3.out⟩
  case round =>
    clear hown2 R3 B3
    obtain ⟨l, k, x, hnil, hk, HK, rfl, hx1, hx2, hown, HR, hb⟩ := hrel
    obtain ⟨g, cp, rfl⟩ := own_some2 hown hnil
    have hszw := hb.size
    have hRw := HR.out.lt
    have hlt2 := (hown.lt g rfl).2
    have hlt1 := (hown.lt g rfl).1
    by_cases hlt : k < q
    · have i1 : (k : Int) < (q : Int) := by omega
      go_wp2_with fail
      refine (pick_any w.heap.size R a n cap (0 + 1 + k) _ _ HR.out (by omega) (by omega) (by omega)).mono ?_
      rintro e w3 ⟨y, rfl, hy, _, hrd, honly⟩
      have hy1 := hy (by omega)
      have hown3 := own_only hown honly hRlt
      have HR3 := Lib.hid hrd
      have hb3 := hb.trans (honly.below hlow)
      have hs3 : w3.heap.size = wr.heap.size := honly.size
      have hs3' : H1 ≤ w3.heap.size := by omega
      have HS3 := Lib.hid hs3
      clear hy hrd honly hown hb hs3 HR
      go_wp2_with (at_builtin; refine wpList_append_own _ rfl _ _ 31 rfl H1 3 i0 (.int .i64 0) 1 8 Try.underlying31 hi hz0 hz1 hz2 rfl (by decide) _ _ _ rfl (hown3.alloc _) ⟨w3.heap.size, 0, none⟩ 1 1 [.int .i64 y] rfl rfl ?c1 ?c2 ?c3 ?c4 ?c5 ?_)
      case c1 => exact cell_one_new _ _ _
      case c2 => intro u hu; simp at hu; subst hu; rfl
      case c3 => unfold maxLen; omega
      case c4 => omega
      case c5 => simp; omega
      intro v' w4 hown4 hg4 hn4
      rw [iv_snoc] at hown4
      have hb34 : Below H1 w3 w4 := ((Below.refl _ _).alloc hs3' _).grown hg4 (by simp; omega) (fun r hr => (hown3.lt r hr).1)
      have HR4 := Lib.hid (HR3.out.below hb34 hRlt)
      have hb4 := hb3.trans (hb34.mono hs1)
      clear hown3 hg4 hb34 hb3 HR3
      go_wp2
      go_roundw
      case rel => exact ⟨l ++ [(y : Int)], k + 1, y, hn4, by omega, by show _ = _; rw [List.length_append, ← HK.out]; rfl, rfl, by omega, by omega, hown4, HR4, hb4⟩
      case measure =>
        obtain ⟨g', cp', rfl⟩ := own_some2 hown4 hn4
        simp only [lenOfV]; omega
    · obtain rfl : k = q := by omega
      have HO := Lib.hid hown
      clear hown
      by_cases h0 : k = 0
      · have i0' : ¬ (0 : Int) < (k : Int) := by omega
        have H0 := Lib.hid h0
        clear h0 hq hk hlt
        go_wp2
        go_ret
        exact ⟨_, l, rfl, ⟨own_down (by rw [iv_length, ← HK.out]; exact HO.out) hs1, fun g' hg' => (HO.out.lt g' hg').2⟩, by have := HK.out; have := H0.out; omega, hb⟩
      · have i1 : (0 : Int) < (k : Int) := by omega
        go_wp2_with fail
        refine (pick_any w.heap.size R a n cap (0 + 1 + k) _ _ HR.out (by omega) (by omega) (by omega)).mono ?_
        rintro e w3 ⟨y, rfl, hy, _, hrd, honly⟩
        have hown3 := Lib.hid (own_only HO.out honly hRlt)
        have HR3 := Lib.hid hrd
        have hb3 := hb.trans (honly.below hlow)
        have hs3 := Lib.hid (show w.heap.size ≤ w3.heap.size ∧ R < w3.heap.size ∧ H1 ≤ w3.heap.size by have : w3.heap.size = wr.heap.size := honly.size; omega)
        clear hy hrd honly HO hb HR
        by_cases hy0 : y = 0
        · subst hy0
          go_wp2_with fail
          refine (pick_any w.heap.size R a n cap (0 + 1 + k + 1) _ _ HR3.out (by omega) (by omega) (by omega)).mono ?_
          rintro e w4 ⟨j, rfl, hj, _, hrd, honly⟩
          have hj1 := hj (by omega)
          have hown4 := Lib.hid (own_only hown3.out honly hRlt)
          have hb4 := Lib.hid (hb3.trans (honly.below hlow))
          have hs4 := Lib.hid (show w.heap.size ≤ w4.heap.size ∧ R < w4.heap.size ∧ H1 ≤ w4.heap.size by have : w4.heap.size = w3.heap.size := honly.size; have := hs3.out; omega)
          have es4 : (w4.alloc (.cells #[.int .i64 (-1), .int .i64 3, .int .i64 9] 3)).heap.size = w4.heap.size + 1 := by simp
          have L3 := Lib.hid (show Own (w4.alloc (.cells #[.int .i64 (-1), .int .i64 3, .int .i64 9] 3)) w4.heap.size (w4.heap.size + 1) 3 (.slice (some ⟨w4.heap.size, 0, none⟩) 3 3) (iv [-1, 3, 9]) from lit_own w4 #[.int .i64 (-1), .int .i64 3, .int .i64 9] 3 (by decide))
          have hbW : Below w4.heap.size w4 (w4.alloc (.cells #[.int .i64 (-1), .int .i64 3, .int .i64 9] 3)) := (Below.refl _ _).alloc (Nat.le_refl _) _
          have R4 := Lib.hid (hrd.grow hbW)
          have O4 := Lib.hid (hown4.out.alloc (.cells #[.int .i64 (-1), .int .i64 3, .int .i64 9] 3))
          have B4 := Lib.hid (hb4.out.trans (hbW.mono (by have := hs4.out; omega)))
          have N3 := Lib.hid (show (Value.slice (some ⟨w4.heap.size, 0, none⟩) 3 3).ownBlock ≠ some R by have := hs4.out; simp [Value.ownBlock]; omega)
          clear hj hrd honly hown4 hown3 hb3 HR3 hb4 hbW
          go_wp2_with fail
          refine (one_any _ _ w.heap.size R a n cap (0 + 1 + k + 1 + 1) _ R4 (by omega) L3 N3.out (by decide) (by decide)).mono ?_
          rintro e w5 ⟨z, hz, rfl, hrd, honly⟩
          have hown5 := own_only O4.out honly hRlt
          have hb5 := B4.out.trans (honly.below hlow)
          have hjk : j < k := by omega
          obtain ⟨_, hge, _, _, hc, hf⟩ := Own.at_ (w := w5) (B := H1) (H := w5.heap.size) (t := 3) (ao := some ⟨g, 0, none⟩) (n := k) (c := cp) (xs := iv l) ⟨by rw [iv_length, ← HK.out]; exact hown5, fun g' hg' => (hown5.lt g' hg').2⟩ j (by rw [iv_length, ← HK.out]; exact hjk)
          cases hge
          rw [iv_at l j (by rw [← HK.out]; exact hjk)] at hc
          have hst := hown5.stored j (.int .i64 z)
          rw [iv_set] at hst
          have hg1 := (hown5.lt g rfl)
          have hb6 := Lib.hid (hb5.grown hst.2 (by have := hb5.size; omega) (fun r hr => by cases hr; omega))
          have hst1 := Lib.hid hst.1
          have Hsz := Lib.hid (show g < (w5.setCell ⟨g, j, none⟩ (.int .i64 z)).heap.size by simpa using hg1.2)
          clear hst hown5 hb5 hrd honly hz hg1 R4 L3 N3 O4 B4 es4
          go_wp2
          go_ret
          exact ⟨_, l.set j z, rfl, ⟨own_down (by rw [iv_length, List.length_set, ← HK.out]; exact hst1.out) hs1, fun g' hg' => by cases hg'; exact Hsz.out⟩, by rw [List.length_set]; have := HK.out; omega, hb6.out⟩
        · have j0 : ((y : Int) == 0) = false := beq_false_of_ne (by omega)
          go_wp2
          go_ret
          exact ⟨_, l, rfl, ⟨own_down (by rw [iv_length, ← HK.out]; exact hown3.out) hs1, fun g' hg' => (hown3.out.lt g' hg').2⟩, by have := HK.out; omega, hb3⟩
end Go.Proofs.Ytlcjajkobhljcaa
