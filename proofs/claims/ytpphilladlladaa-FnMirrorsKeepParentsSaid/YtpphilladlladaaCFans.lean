/-
  The contracts of the model's functions on words as two-armed trees and as cut polygons, for whatever text.
-/
import Derived.Test.YtpphilladlladaaCFam
namespace Go.Proofs.Ytpphilladlladaa
open Go.RowKit

theorem rows_one {w : World} {B H : Nat} {RV : List Value} {rows : List (List Int)} (h : RowsI w B H RV rows) : ∀ u ∈ RV, u.oneCell' = true := by
  intro u hu
  obtain ⟨i, hi, rfl⟩ := List.getElem_of_mem hu
  obtain ⟨ao, cap, hv', _⟩ := (h.2 i _ _ (List.getElem?_eq_getElem hi) (List.getElem?_eq_getElem (by rw [← h.1]; exact hi))).slice
  rw [hv']; rfl

set_option maxHeartbeats 3200000 in
theorem fans_any : ∀ (f : Nat) (s : ByteArray) (lo hi : Nat) (w : World), s.size ≤ f → valid s.data.toList = true → lo ≤ 1000 → hi ≤ 1000 → lo + s.size ≤ 1000 →
    Calls Try.prog 53 #[.string s, .int .i64 lo, .int .i64 hi] w (GridOut w.heap.size (fansL f s.data.toList lo hi) w) := by
  obtain ⟨i0, hi0, hz0, hz1, hz2⟩ := info_parts Try.infoRowF
  intro f
  induction f with
  | zero =>
    intro s lo hi w hf hv _ _ _
    have hs0 : s = ⟨#[]⟩ := bytes_ext (by rw [List.eq_nil_of_length_eq_zero (show s.data.toList.length = 0 by rw [size_list]; omega)])
    subst hs0
    clear hv
    go_enter Try.func53, Try.ntmps53
    go_wp2
    go_ret
    have h1 := lit_own2 w #[] 29 (by decide)
    exact ⟨_, _, [], rfl, ⟨h1.more (by simp), RowsI.nil⟩, (Below.refl _ w).alloc (Nat.le_refl _) _⟩
  | succ f ih =>
    intro s lo hi w hf hv hlo hhi hls
    by_cases hs : s.size = 0
    · have hs0 : s = ⟨#[]⟩ := bytes_ext (by rw [List.eq_nil_of_length_eq_zero (show s.data.toList.length = 0 by rw [size_list]; omega)])
      subst hs0
      have e : fansL (f + 1) (ByteArray.mk #[]).data.toList lo hi = [] := fansL_nil _ _ _
      rw [e]
      clear hv e ih
      go_enter Try.func53, Try.ntmps53
      go_wp2
      go_ret
      have h1 := lit_own2 w #[] 29 (by decide)
      exact ⟨_, _, [], rfl, ⟨h1.more (by simp), RowsI.nil⟩, (Below.refl _ w).alloc (Nat.le_refl _) _⟩
    · have hne : s.data.toList ≠ [] := fun e => hs (by rw [← size_list, e]; rfl)
      have h18 : s.size ≤ 18 := (valid_scan hv).2
      obtain ⟨k1, k2, k3, k4, k5, k6⟩ := parts_ok (valid_scan hv).1 hne
      rw [size_list] at k2 k6
      have cc := fun w => closing_any s hv (by omega) w
      obtain ⟨K, hK⟩ : ∃ K, K = cl 0 s.data.toList - 1 := ⟨_, rfl⟩
      rw [← hK] at cc
      have eL : (s.extract 1 K).data.toList = fstL s.data.toList := by rw [extract_list, fstL]; congr 1; omega
      have eR : (s.extract (K + 1) s.size).data.toList = rstL s.data.toList := by
        rw [extract_list, rstL, show K + 1 = cl 0 s.data.toList by omega, List.take_of_length_le (by simp)]
      have lL : (fstL s.data.toList).length = K - 1 := by omega
      have sL : (s.extract 1 K).size = K - 1 := by rw [← size_list, eL, lL]
      have sR : (s.extract (K + 1) s.size).size + K + 1 = s.size := by rw [← size_list, eR]; omega
      obtain ⟨mid, hmid⟩ : ∃ mid, mid = lo + 1 + (K - 1) / 2 := ⟨_, rfl⟩
      have i1 : ∀ w, Calls Try.prog 53 #[.string (s.extract 1 K), .int .i64 lo, .int .i64 mid] w (GridOut w.heap.size (fansL f (fstL s.data.toList) lo mid) w) := fun w => by
        have := ih (s.extract 1 K) lo mid w (by omega) (by rw [eL]; exact of_scan k3 (by omega)) hlo (by omega) (by omega)
        rw [eL] at this
        exact this
      have i2 : ∀ w, Calls Try.prog 53 #[.string (s.extract (K + 1) s.size), .int .i64 mid, .int .i64 hi] w (GridOut w.heap.size (fansL f (rstL s.data.toList) mid hi) w) := fun w => by
        have := ih (s.extract (K + 1) s.size) mid hi w (by omega) (by rw [eR]; exact of_scan k4 (by omega)) (by omega) hhi (by omega)
        rw [eR] at this
        exact this
      have he : fansL (f + 1) s.data.toList lo hi = [(lo : Int), (mid : Int), (hi : Int)] :: (fansL f (fstL s.data.toList) lo mid ++ fansL f (rstL s.data.toList) mid hi) := by
        rw [fansL_cons _ _ _ _ hne, lL, ← hmid]
      have l1 : (fansL f (fstL s.data.toList) lo mid).length ≤ 9 := by rw [fansL_length f _ _ _ k3 (by omega)]; omega
      have l2 : (fansL f (rstL s.data.toList) mid hi).length ≤ 9 := by rw [fansL_length f _ _ _ k4 (by omega)]; omega
      rw [he]
      obtain ⟨A, hA⟩ : ∃ A, A = fansL f (fstL s.data.toList) lo mid := ⟨_, rfl⟩
      obtain ⟨D, hD⟩ : ∃ D, D = fansL f (rstL s.data.toList) mid hi := ⟨_, rfl⟩
      rw [← hA] at l1 ⊢
      rw [← hD] at l2 ⊢
      simp only [← hA] at i1
      simp only [← hD] at i2
      have C := Lib.hid cc
      have I1 := Lib.hid i1
      have I2 := Lib.hid i2
      have b1 : (1 : Int) ≤ (K : Int) := by omega
      have b2 : (K : Int) ≤ (s.size : Int) := by omega
      have b3 : (K : Int) + 1 ≤ (s.size : Int) := by omega
      have q0 : s.toList.isEmpty = false := by rw [ByteArray.toList_eq]; simpa using hne
      have em : (lo : Int) + 1 + ((K : Int) - 1) / 2 = (mid : Int) := by omega
      have em2 : (lo : Int) + 1 + Int.tdiv ((K : Int) - 1) 2 = (mid : Int) := by rw [Int.tdiv_eq_ediv_of_nonneg (by omega)]; exact em
      have hKs : K + 1 ≤ s.size := by omega
      have hmb : mid ≤ 2000 := by omega
      have hro : Own ((w.alloc (.cells #[.int .i64 lo, .int .i64 mid, .int .i64 hi] 3)).alloc (.cells #[.slice (some ⟨w.heap.size, 0, none⟩) 3 3] 29)) w.heap.size (w.heap.size + 2) 3 (.slice (some ⟨w.heap.size, 0, none⟩) 3 3) (iv [(lo : Int), (mid : Int), (hi : Int)]) :=
        ((lit_own2 w #[.int .i64 lo, .int .i64 mid, .int .i64 hi] 3 (by show (3 : Nat) ≤ maxLen; unfold maxLen; omega)).alloc _).more (by omega)
      have hl1 : Own ((w.alloc (.cells #[.int .i64 lo, .int .i64 mid, .int .i64 hi] 3)).alloc (.cells #[.slice (some ⟨w.heap.size, 0, none⟩) 3 3] 29)) w.heap.size (w.heap.size + 2) 29 (.slice (some ⟨w.heap.size + 1, 0, none⟩) 1 1) [.slice (some ⟨w.heap.size, 0, none⟩) 3 3] := by
        have := lit_own2 (w.alloc (.cells #[.int .i64 lo, .int .i64 mid, .int .i64 hi] 3)) #[.slice (some ⟨w.heap.size, 0, none⟩) 3 3] 29 (by show (1 : Nat) ≤ maxLen; unfold maxLen; omega)
        rw [World.size_alloc] at this
        exact own_lo this (by omega)
      have hb1 : Below w.heap.size w ((w.alloc (.cells #[.int .i64 lo, .int .i64 mid, .int .i64 hi] 3)).alloc (.cells #[.slice (some ⟨w.heap.size, 0, none⟩) 3 3] 29)) := ((Below.refl _ w).alloc (Nat.le_refl _) _).alloc (by simp) _
      have hz1' : w.heap.size + 2 = ((w.alloc (.cells #[.int .i64 lo, .int .i64 mid, .int .i64 hi] 3)).alloc (.cells #[.slice (some ⟨w.heap.size, 0, none⟩) 3 3] 29)).heap.size := by simp
      have HRO := Lib.hid hro
      have HL1 := Lib.hid hl1
      have HB1 := Lib.hid hb1
      have HZ1 := Lib.hid hz1'
      clear cc hK ih hs i1 i2 eL eR lL sL sR k1 k2 k3 k4 k5 k6 hv he hne hA hD hmid hro hl1 hb1 hz1'
      go_enter Try.func53, Try.ntmps53
      go_wp2_with fail
      refine (C.out _).mono ?_
      rintro e0 w1 ⟨rfl, rfl⟩
      go_wp2_with fail
      refine (I1.out _).mono ?_
      rintro e1 w2 ⟨g1, c1, RV1, rfl, hG1, hb2⟩
      rw [← HZ1.out] at hG1 hb2
      have hl2 := HL1.out.below hb2
      have hr2 := HRO.out.below hb2
      have hz2' := hb2.size
      rw [← HZ1.out] at hz2'
      have HB2 := Lib.hid (HB1.out.trans (hb2.mono (show w.heap.size ≤ w.heap.size + 2 by omega)))
      have x1 : RV1.length = A.length * 1 := by rw [hG1.2.1, Nat.mul_one]
      have hown := hG1.1.1
      rw [hG1.2.1] at hown
      have X1 := Lib.hid x1
      have X2 := Lib.hid (hown.cells (g := g1) rfl)
      have hone := rows_one hG1.2
      have x3 : 1 + A.length ≤ maxLen := by unfold maxLen; omega
      have x4 : (1 + A.length) * 24 ≤ 140737488355328 := by omega
      have HL2 := Lib.hid hl2
      have HR2 := Lib.hid hr2
      have HG1 := Lib.hid hG1
      have hs2 : w.heap.size ≤ w2.heap.size := by omega
      have HS2 := Lib.hid hs2
      clear x1 hown hl2 hr2 hG1 hb2 hs2 HRO HL1 HB1
      go_wp2_with (at_builtin; refine wpList_append_own _ rfl (.tmp 25) (.tmp 31) 24 rfl w.heap.size 29 i0 (.slice none 0 0) 1 24 Try.underlying24 hi0 hz0 hz1 hz2 rfl (by decide) _ 1 [.slice (some ⟨w.heap.size, 0, none⟩) 3 3] rfl HL2.out.1 ⟨g1, 0, none⟩ A.length c1 RV1 rfl X1.out X2.out hone x3 x4 HS2.out ?_)
      intro v3 w3 hv3 hg3 hn3
      obtain ⟨g3, c3, rfl⟩ := own_some3 hv3 hn3
      have hz3 := hg3.size
      have hr3 : RowsI w3 w.heap.size w3.heap.size ([.slice (some ⟨w.heap.size, 0, none⟩) 3 3] ++ RV1) ([[(lo : Int), (mid : Int), (hi : Int)]] ++ A) := by
        have r1 := (HG1.out.2.lo (show w.heap.size ≤ w.heap.size + 2 by omega)).grown HL2.out (by decide) hg3
        have r2 := HR2.out.grown hg3 (HR2.out.ne HL2.out (by decide))
        exact (RowsI.one (r2.more (by omega))).append (r1.more (by omega))
      have hb3 : Below w.heap.size w w3 := HB2.out.grown hg3 HS2.out (fun q hq => (HL2.out.1.lt q hq).1)
      have l3 : ([Value.slice (some ⟨w.heap.size, 0, none⟩) 3 3] ++ RV1).length = 1 + A.length := by rw [List.length_append, HG1.out.2.1]; rfl
      have ho3 : Own w3 w.heap.size w3.heap.size 29 (.slice (some ⟨g3, 0, none⟩) (1 + A.length) c3) ([.slice (some ⟨w.heap.size, 0, none⟩) 3 3] ++ RV1) := Own.of_own (by rw [l3]; exact hv3)
      obtain ⟨E, hE⟩ : ∃ E, E = [[(lo : Int), (mid : Int), (hi : Int)]] ++ A := ⟨_, rfl⟩
      obtain ⟨RV3, hRV3⟩ : ∃ RV3, RV3 = [Value.slice (some ⟨w.heap.size, 0, none⟩) 3 3] ++ RV1 := ⟨_, rfl⟩
      rw [← hE, ← hRV3] at hr3
      rw [← hRV3] at ho3 l3
      have lE : E.length = 1 + A.length := by rw [hE, List.length_append]; rfl
      obtain ⟨n3, hn3'⟩ : ∃ n3, n3 = 1 + A.length := ⟨_, rfl⟩
      rw [← hn3'] at ho3 l3 lE ⊢
      have hn10 : n3 ≤ 10 := by omega
      have HR3 := Lib.hid hr3
      have HO3 := Lib.hid ho3
      have HB3 := Lib.hid hb3
      have HE := Lib.hid hE
      have L3 := Lib.hid l3
      have LE := Lib.hid lE
      have hs3 : w.heap.size ≤ w3.heap.size := by omega
      have HS3 := Lib.hid hs3
      clear hg3 hv3 hn3 hr3 hb3 l3 ho3 hE hRV3 lE hn3' hz3 hz2' X1 X2 hone x3 x4 HL2 HR2 HG1 HB2 HS2 hs3
      go_wp2_with fail
      refine (I2.out _).mono ?_
      rintro e1 w4 ⟨g4, c4, RV4, rfl, hG4, hb4⟩
      have ho4 := HO3.out.below hb4
      have hr4 := HR3.out.below hb4
      have hz4 := hb4.size
      have HB4 := Lib.hid (HB3.out.trans (hb4.mono HS3.out))
      have hown := hG4.1.1
      rw [hG4.2.1] at hown
      have X1 := Lib.hid (show RV4.length = D.length * 1 by rw [hG4.2.1, Nat.mul_one])
      have X2 := Lib.hid (hown.cells (g := g4) rfl)
      have hone := rows_one hG4.2
      have x3 : n3 + D.length ≤ maxLen := by unfold maxLen; omega
      have x4 : (n3 + D.length) * 24 ≤ 140737488355328 := by omega
      have ho4' : w4.ownsRow w.heap.size 29 1 (.slice (some ⟨g3, 0, none⟩) n3 c3) n3 RV3 := by have := ho4.1; rw [L3.out] at this; exact this
      have HO4 := Lib.hid ho4
      have HO4' := Lib.hid ho4'
      have HR4 := Lib.hid hr4
      have HG4 := Lib.hid hG4
      have HS4 := Lib.hid (show w.heap.size ≤ w4.heap.size by have := HS3.out; omega)
      clear hown ho4 ho4' hr4 hG4 hb4 HO3 HR3 HB3
      go_wp2_with (at_builtin; refine wpList_append_own _ rfl (.tmp 33) (.tmp 40) 24 rfl w.heap.size 29 i0 (.slice none 0 0) 1 24 Try.underlying24 hi0 hz0 hz1 hz2 rfl (by decide) _ n3 RV3 rfl HO4'.out ⟨g4, 0, none⟩ D.length c4 RV4 rfl X1.out X2.out hone x3 x4 HS4.out ?_)
      intro v5 w5 hv5 hg5 hn5
      obtain ⟨g5, c5, rfl⟩ := own_some3 hv5 hn5
      have hz5 := hg5.size
      have hr5 : RowsI w5 w.heap.size w5.heap.size (RV3 ++ RV4) (E ++ D) := by
        have r1 := (HG4.out.2.lo HS3.out).grown HO4.out (by decide) hg5
        have r2 := HR4.out.grown HO4.out (by decide) hg5
        exact (r2.more (by omega)).append (r1.more (by omega))
      have hb5 : Below w.heap.size w w5 := HB4.out.grown hg5 HS4.out (fun q hq => (HO4'.out.lt q hq).1)
      have l5 : (RV3 ++ RV4).length = n3 + D.length := by rw [List.length_append, L3.out, HG4.out.2.1]
      have lED : (E ++ D).length = n3 + D.length := by rw [List.length_append, LE.out]
      have hfin : [(lo : Int), (mid : Int), (hi : Int)] :: (A ++ D) = E ++ D := by rw [HE.out]; rfl
      have R5 : Hid (Grid w5 w.heap.size w5.heap.size (.slice (some ⟨g5, 0, none⟩) (E ++ D).length c5) (RV3 ++ RV4) (E ++ D)) := ⟨Own.of_own (by rw [l5, lED]; exact hv5), hr5⟩
      have HB5 := Lib.hid hb5
      have HF := Lib.hid hfin
      have LED := Lib.hid lED
      clear hg5 hv5 hn5 hr5 hb5 l5 lED hfin hz5
      go_wp2
      go_ret
      rw [HF.out]
      exact ⟨g5, c5, _, by rw [LED.out]; rfl, R5.out, HB5.out⟩
end Go.Proofs.Ytpphilladlladaa
