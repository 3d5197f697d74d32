/-
  The contracts of the model's functions on words as two-armed trees.
-/
import Derived.Test.YtmlcbeekimiaiaaZV
import Derived.Test.YtmlcbeekimiaiaaWFam
import Derived.Test.YtmlcbeekimiaiaaWPairs
import Derived.Test.YtmlcbeekimiaiaaZW
namespace Go.Proofs.Ytmlcbeekimiaiaa
open Go.RowKit

theorem of_scan {l : List UInt8} (h : scan l = some 0) (h18 : l.length ≤ 18) : valid l = true := by simp [valid, h, h18]

set_option maxHeartbeats 800000 in
theorem closing_any (s : ByteArray) (hv : valid s.data.toList = true) (hne : 0 < s.size) (w : World) :
    Calls Try.prog 45 #[.string s] w fun e w' => e = .returned (.int .i64 (cl 0 s.data.toList - 1 : Nat)) ∧ w = w' := by
  have h18 : s.size ≤ 18 := (valid_scan hv).2
  have HV := Lib.hid hv
  clear hv
  go_enter Try.func45, Try.ntmps45
  go_wp2
  go_loop [3, 4] (fun a b => ∃ k o : Nat, k ≤ s.size ∧ o ≤ k ∧ (k = 0 ∨ 0 < o) ∧ a = .int .i64 o ∧ b = .int .i64 k ∧ Hid (scan (s.data.toList.take k) = some o) ∧ Hid (cl 0 s.data.toList = k + cl o (s.data.toList.drop k))) (fun _ b => s.size - (intOf b).toNat)
  case atStart => exact ⟨0, 0, Nat.zero_le _, Nat.le_refl _, .inl rfl, rfl, rfl, rfl, by show _ = _; simp⟩
  case round =>
    obtain ⟨k, o, hk, hok, hko, rfl, rfl, HS, HC⟩ := hrel
    by_cases hlt : k < s.size
    · have hd : s.data.toList.drop k = s[k] :: s.data.toList.drop (k + 1) := by
        rw [List.drop_eq_getElem_cons (by rw [size_list]; exact hlt), get_list s k hlt]
      have hc0 := HC.out
      rw [hd] at hc0
      have b1 : (k : Int) < (s.size : Int) := by omega
      rcases valid_byte HV.out k hlt with hc | hc
      · have hcp : ((s[k].toNat : Int) == 40) = true := by rw [hc]; rfl
        have N := Lib.hid (scan_opn hlt HS.out hcp)
        have q0 : ((o : Int) + 1 == 0) = false := beq_false_of_ne (by omega)
        rw [cl_opn o _ _ hc] at hc0
        have M : Hid (cl 0 s.data.toList = k + 1 + cl (o + 1) (s.data.toList.drop (k + 1))) := by show _ = _; omega
        clear hd hc0 HC HS hc
        go_wp2
        go_round
        case rel => exact ⟨k + 1, o + 1, by omega, by omega, .inr (by omega), by go_num, by go_num, N, M⟩
        case measure => simp [intOf]; omega
      · have hcp : ((s[k].toNat : Int) == 40) = false := by rw [hc]; rfl
        have hcq : ((s[k].toNat : Int) == 41) = true := by rw [hc]; rfl
        have ho : 0 < o := by
          obtain ⟨q, hq⟩ := valid_take HV.out (k + 1)
          rw [scan_next hlt HS.out] at hq
          apply Classical.byContradiction
          intro e
          obtain rfl : o = 0 := by omega
          simp [vstep, hc] at hq
        have N := Lib.hid (scan_cls hlt HS.out hcq ho)
        by_cases h1 : o = 1
        · subst h1
          rw [cl_last 1 _ _ (by omega) (by omega)] at hc0
          have M := Lib.hid hc0
          clear hd hc0 HC HS hc hcq
          go_wp2
          go_ret
          exact ⟨by rw [M.out]; rfl, rfl⟩
        · have q0 : ((o : Int) - 1 == 0) = false := beq_false_of_ne (by omega)
          rw [cl_cls o _ _ (by omega) (by omega)] at hc0
          have M : Hid (cl 0 s.data.toList = k + 1 + cl (o - 1) (s.data.toList.drop (k + 1))) := by show _ = _; omega
          clear hd hc0 HC HS hc hcq
          go_wp2
          go_round
          case rel => exact ⟨k + 1, o - 1, by omega, by omega, .inr (by omega), by go_num, by go_num, N, M⟩
          case measure => simp [intOf]; omega
    · exfalso
      have e := HS.out
      rw [List.take_of_length_le (by rw [size_list]; omega), (valid_scan HV.out).1] at e
      have : o = 0 := (Option.some.inj e).symm
      omega

theorem Try.infoRowF : (Try.prog.info? 22).map (fun i => (i.zero, i.size, i.bytes)) = some (some (.slice none 0 0), 1, 24) := by kernel_rfl
theorem extract_list (s : ByteArray) (a b : Nat) : (s.extract a b).data.toList = (s.data.toList.drop a).take (b - a) := by
  rw [ByteArray.data_extract]; simp [List.extract_eq_take_drop]
/-- a list of rows, new or handed on -/
def GridOut (B : Nat) (rows : List (List Int)) (w : World) (e : Ending) (w' : World) : Prop :=
  ∃ g c RV, e = .returned (.slice (some ⟨g, 0, none⟩) rows.length c) ∧ Grid w' B w'.heap.size (.slice (some ⟨g, 0, none⟩) rows.length c) RV rows ∧ Below w.heap.size w w'

theorem own_some3 {w : World} {B n : Nat} {t : TypeId} {v : Value} {xs : List Value} (h : w.ownsRow B t 1 v n xs) (hv : v ≠ .slice none 0 0) : ∃ g cap, v = .slice (some ⟨g, 0, none⟩) n cap := by
  rcases h.2 with ⟨h0, _⟩ | ⟨g, cap, cur, h1, _⟩
  · exact absurd h0 hv
  · exact ⟨g, cap, h1⟩
theorem lit_own2 (w : World) (cs : Array Value) (t : TypeId) (hm : cs.size ≤ maxLen) : Own (w.alloc (.cells cs t)) w.heap.size (w.heap.size + 1) t (.slice (some ⟨w.heap.size, 0, none⟩) cs.size cs.size) cs.toList := by
  have := World.ownsRow_lit (base := w.heap.size) (e := t) (size := 1) w cs cs.size (Nat.le_refl _) hm (by omega)
  exact ⟨by rw [Array.length_toList]; exact this, fun g hg => by simp [Value.ownBlock] at hg; omega⟩

set_option maxHeartbeats 3200000 in
theorem binFrom_any (B : Nat) : ∀ (f : Nat) (s : ByteArray) (at_ : Nat) (g c : Nat) (RV : List Value) (rows : List (List Int)) (w : World), s.size ≤ f → valid s.data.toList = true → rows.length + s.size ≤ 50 → at_ + s.size ≤ 50 → B ≤ w.heap.size →
    Hid (Grid w B w.heap.size (.slice (some ⟨g, 0, none⟩) rows.length c) RV rows) →
    Calls Try.prog 32 #[.string s, .slice (some ⟨g, 0, none⟩) rows.length c, .int .i64 at_] w (GridOut B (rows ++ binL f s.data.toList at_) w) := by
  obtain ⟨i0, hi, hz0, hz1, hz2⟩ := info_parts Try.infoRowF
  intro f
  induction f with
  | zero =>
    intro s at_ g c RV rows w hf hv hr ha hB HG
    have e : binL 0 s.data.toList at_ = [] := rfl
    rw [e, List.append_nil]
    have hs0 : s = ⟨#[]⟩ := bytes_ext (by rw [List.eq_nil_of_length_eq_zero (show s.data.toList.length = 0 by rw [size_list]; omega)])
    subst hs0
    clear hv e
    go_enter Try.func32, Try.ntmps32
    go_wp2
    go_ret
    exact ⟨g, c, RV, rfl, HG.out, Below.refl _ _⟩
  | succ f ih =>
    intro s at_ g c RV rows w hf hv hr ha hB HG
    by_cases hs : s.size = 0
    · have hs0 : s = ⟨#[]⟩ := bytes_ext (by rw [List.eq_nil_of_length_eq_zero (show s.data.toList.length = 0 by rw [size_list]; omega)])
      subst hs0
      have e : binL (f + 1) (ByteArray.mk #[]).data.toList at_ = [] := binL_nil _ _
      rw [e, List.append_nil]
      clear hv e ih
      go_enter Try.func32, Try.ntmps32
      go_wp2
      go_ret
      exact ⟨g, c, RV, rfl, HG.out, Below.refl _ _⟩
    · have hne : s.data.toList ≠ [] := fun e => hs (by rw [← size_list, e]; rfl)
      have h18 : s.size ≤ 18 := (valid_scan hv).2
      obtain ⟨k1, k2, k3, k4, k5, k6⟩ := parts_ok (valid_scan hv).1 hne
      rw [size_list] at k2 k6
      have cc := fun w => closing_any s hv (by omega) w
      obtain ⟨K, hK⟩ : ∃ K, K = cl 0 s.data.toList - 1 := ⟨_, rfl⟩
      rw [← hK] at cc
      have eL : (s.extract 1 K).data.toList = fstL s.data.toList := by rw [extract_list, fstL]; congr 1; omega
      have eR : (s.extract (K + 1) s.size).data.toList = rstL s.data.toList := by
        rw [extract_list, rstL, show K + 1 = cl 0 s.data.toList by omega, List.take_of_length_le (by simp)]
      have lL : (fstL s.data.toList).length = K - 1 := by omega
      have sL : (s.extract 1 K).size = K - 1 := by rw [← size_list, eL, lL]
      have sR : (s.extract (K + 1) s.size).size + K + 1 = s.size := by rw [← size_list, eR]; omega
      have i1 : ∀ g c RV (rows : List (List Int)) w, rows.length + (K - 1) ≤ 50 → B ≤ w.heap.size → Hid (Grid w B w.heap.size (.slice (some ⟨g, 0, none⟩) rows.length c) RV rows) →
          Calls Try.prog 32 #[.string (s.extract 1 K), .slice (some ⟨g, 0, none⟩) rows.length c, .int .i64 ((at_ : Int) + 1)] w (GridOut B (rows ++ binL f (fstL s.data.toList) (at_ + 1)) w) := fun g c RV rows w h1 h2 h3 => by
        have := ih (s.extract 1 K) (at_ + 1) g c RV rows w (by omega) (by rw [eL]; exact of_scan k3 (by omega)) (by omega) (by omega) h2 h3
        rw [eL] at this
        exact this
      have i2 : ∀ g c RV (rows : List (List Int)) w, rows.length + (s.size - K - 1) ≤ 50 → B ≤ w.heap.size → Hid (Grid w B w.heap.size (.slice (some ⟨g, 0, none⟩) rows.length c) RV rows) →
          Calls Try.prog 32 #[.string (s.extract (K + 1) s.size), .slice (some ⟨g, 0, none⟩) rows.length c, .int .i64 ((at_ : Int) + 1 + ((K - 1 : Nat) : Int) / 2)] w (GridOut B (rows ++ binL f (rstL s.data.toList) (at_ + 1 + (K - 1) / 2)) w) := fun g c RV rows w h1 h2 h3 => by
        have := ih (s.extract (K + 1) s.size) (at_ + 1 + (K - 1) / 2) g c RV rows w (by omega) (by rw [eR]; exact of_scan k4 (by omega)) (by omega) (by omega) h2 h3
        rw [eR] at this
        rw [show ((at_ : Int) + 1 + ((K - 1 : Nat) : Int) / 2) = ((at_ + 1 + (K - 1) / 2 : Nat) : Int) by omega]
        exact this
      have C := Lib.hid cc
      have I1 := Lib.hid i1
      have I2 := Lib.hid i2
      have b1 : (1 : Int) ≤ (K : Int) := by omega
      have b2 : (K : Int) ≤ (s.size : Int) := by omega
      have b3 : (K : Int) + 1 ≤ (s.size : Int) := by omega
      have hmin : min K s.size = K := by omega
      have q0 : s.toList.isEmpty = false := by rw [ByteArray.toList_eq]; simpa using hne
      have hLL : (fstL s.data.toList).length / 2 = (K - 1) / 2 := by rw [lL]
      have HLL := Lib.hid lL
      have HNE := Lib.hid hne
      have hKs : K + 1 ≤ s.size := by omega
      have hlb := binL_length f (fstL s.data.toList) (at_ + 1) k3 (by omega)
      have HLB := Lib.hid hlb
      have eLe : (s.extract 1 K).toList.isEmpty = (fstL s.data.toList).isEmpty := by rw [ByteArray.toList_eq, eL]
      have eRe : (s.extract (K + 1) s.size).toList.isEmpty = (rstL s.data.toList).isEmpty := by rw [ByteArray.toList_eq, eR]
      have HLE := Lib.hid eLe
      have HRE := Lib.hid eRe
      clear cc hK ih hs i1 i2 eL eR lL sL sR k1 k2 k3 k4 k5 k6 hv hLL hlb eLe eRe
      by_cases hf1 : fstL s.data.toList = []
      · have HLF := Lib.hid hf1
        have q1 : (s.extract 1 K).toList.isEmpty = true := by rw [HLE.out, hf1]; rfl
        by_cases hf2 : rstL s.data.toList = []
        · have HRF := Lib.hid hf2
          have q2 : (s.extract (K + 1) s.size).toList.isEmpty = true := by rw [HRE.out, hf2]; rfl
          clear hf1 hf2 HLE HRE hne
          have e := Lib.hid (show binL (f + 1) s.data.toList at_ = [(-1), (-1)] :: (binL f (fstL s.data.toList) (at_ + 1) ++ binL f (rstL s.data.toList) (at_ + 1 + (K - 1) / 2)) by
            rw [binL_cons _ _ _ HNE.out, HLL.out, if_pos HLF.out, if_pos HRF.out])
          have hG1 : Grid ((w.alloc (.cells #[.int .i64 (-1), .int .i64 (-1)] 3)).alloc (.cells #[] 22)) B w.heap.size (.slice (some ⟨g, 0, none⟩) rows.length c) RV rows := HG.out.below (((Below.refl _ w).alloc (Nat.le_refl _) _).alloc (by simp) _)
          have hl1 : (((w.alloc (.cells #[.int .i64 (-1), .int .i64 (-1)] 3)).alloc (.cells #[] 22))).ownsRow w.heap.size 22 1 (.slice (some ⟨w.heap.size + 1, 0, none⟩) 0 0) 0 [] := by
            have := World.ownsRow_lit (base := w.heap.size) (e := 22) (size := 1) (w.alloc (.cells #[.int .i64 (-1), .int .i64 (-1)] 3)) #[] 0 (by simp) (by decide) rfl
            simpa using this
          have hro : Own ((w.alloc (.cells #[.int .i64 (-1), .int .i64 (-1)] 3)).alloc (.cells #[] 22)) B (w.heap.size + 2) 3 (.slice (some ⟨w.heap.size, 0, none⟩) 2 2) (iv [(-1), (-1)]) :=
            ((own_lo (lit_own2 w #[.int .i64 (-1), .int .i64 (-1)] 3 (by show (2 : Nat) ≤ maxLen; unfold maxLen; omega)) hB).alloc _).more (by omega)
          have hb1 : Below w.heap.size w ((w.alloc (.cells #[.int .i64 (-1), .int .i64 (-1)] 3)).alloc (.cells #[] 22)) := ((Below.refl _ w).alloc (Nat.le_refl _) _).alloc (by simp) _
          have hs1 : w.heap.size ≤ (((w.alloc (.cells #[.int .i64 (-1), .int .i64 (-1)] 3)).alloc (.cells #[] 22))).heap.size := by simp; omega
          have hz1' : w.heap.size + 2 = (((w.alloc (.cells #[.int .i64 (-1), .int .i64 (-1)] 3)).alloc (.cells #[] 22))).heap.size := by simp
          have HS1 := Lib.hid hs1
          have HZ1 := Lib.hid hz1'
          have x1 : RV.length = rows.length * 1 := by rw [hG1.2.1, Nat.mul_one]
          have hown := hG1.1.1
          rw [hG1.2.1] at hown
          have x2 := hown.cells (g := g) rfl
          have hone : ∀ u ∈ RV, u.oneCell' = true := by
            intro u hu
            obtain ⟨i, hi, rfl⟩ := List.getElem_of_mem hu
            obtain ⟨ao, cap, hv', _⟩ := (hG1.2.2 i _ _ (List.getElem?_eq_getElem hi) (List.getElem?_eq_getElem (by rw [← hG1.2.1]; exact hi))).slice
            rw [hv']; rfl
          have x3 : 0 + rows.length ≤ maxLen := by unfold maxLen; omega
          have x4 : (0 + rows.length) * 24 ≤ 140737488355328 := by omega
          have X1 := Lib.hid x1
          have X2 := Lib.hid x2
          have HG1 := Lib.hid hG1
          have HL1 := Lib.hid hl1
          have HRO := Lib.hid hro
          have HB1 := Lib.hid hb1
          clear x1 x2 hown hG1 hro hb1 hl1 hs1 hz1'
          go_enter Try.func32, Try.ntmps32
          go_wp2_with fail
          refine (C.out _).mono ?_
          rintro e0 w1 ⟨rfl, rfl⟩
          go_wp2_with (at_builtin; refine wpList_append_own _ rfl (.tmp 41) (.tmp 42) 35 rfl w.heap.size 22 i0 (.slice none 0 0) 1 24 Try.underlying35 hi hz0 hz1 hz2 rfl (by decide) _ 0 [] rfl HL1.out ⟨g, 0, none⟩ rows.length c RV rfl X1.out X2.out hone x3 x4 HS1.out ?_)
          intro v2 w2 hv2 hg2 hn2
          obtain ⟨g2, c2, rfl⟩ := own_some3 hv2 hn2
          have b2 : Below w.heap.size ((w.alloc (.cells #[.int .i64 (-1), .int .i64 (-1)] 3)).alloc (.cells #[] 22)) w2 := (Below.refl _ _).grown hg2 (by rw [← HZ1.out]; omega) (fun q hq => by simp [Value.ownBlock] at hq; omega)
          have hr2 := HG1.out.2.below b2
          have ho2 := HRO.out.grown hg2 (.inr (by simp [Value.ownBlock]))
          have hz2' : w.heap.size + 2 ≤ w2.heap.size := by have := hg2.size; have := HZ1.out; omega
          have HB2 := Lib.hid (HB1.out.trans b2)
          have HR2 := Lib.hid hr2
          have HO2 := Lib.hid ho2
          have HV2 := Lib.hid hv2
          have y3 : rows.length + 1 ≤ maxLen := by unfold maxLen; omega
          have y4 : (rows.length + 1) * 24 ≤ 140737488355328 := by omega
          have y5 : w.heap.size ≤ (w2.alloc (.cells #[.slice (some ⟨w.heap.size, 0, none⟩) 2 2] 22)).heap.size := by simp; omega
          have Y5 := Lib.hid y5
          clear hg2 hn2 b2 hr2 ho2 hv2 y5 HG1 HL1 HRO HB1 X1 X2 HS1 HZ1 x3 x4
          go_wp2_with (at_builtin; refine wpList_append_own _ rfl (.tmp 43) (.tmp 45) 35 rfl w.heap.size 22 i0 (.slice none 0 0) 1 24 Try.underlying35 hi hz0 hz1 hz2 rfl (by decide) _ rows.length RV rfl (HV2.out.alloc _) ⟨w2.heap.size, 0, none⟩ 1 1 [.slice (some ⟨w.heap.size, 0, none⟩) 2 2] rfl rfl ?c1 ?c2 y3 y4 Y5.out ?_)
          case c1 => exact cell_one_new _ _ _
          case c2 => intro u hu; simp at hu; subst hu; rfl
          intro v3 w3 hv3 hg3 hn3
          obtain ⟨g3, c3, rfl⟩ := own_some3 hv3 hn3
          have hD : Own (w2.alloc (.cells #[.slice (some ⟨w.heap.size, 0, none⟩) 2 2] 22)) w.heap.size (w2.alloc (.cells #[.slice (some ⟨w.heap.size, 0, none⟩) 2 2] 22)).heap.size 22 (.slice (some ⟨g2, 0, none⟩) rows.length c2) RV := by
            have h1 := HV2.out.alloc (.cells #[.slice (some ⟨w.heap.size, 0, none⟩) 2 2] 22)
            have hl : RV.length = rows.length := HR2.out.1
            exact ⟨by rw [hl]; exact h1, fun q hq => (h1.lt q hq).2⟩
          have hz3 := hg3.size
          have hr3 : RowsI w3 B w3.heap.size (RV ++ [.slice (some ⟨w.heap.size, 0, none⟩) 2 2]) (rows ++ [[(-1), (-1)]]) := by
            have r1 := (HR2.out.below ((Below.refl w.heap.size w2).alloc (by omega) (.cells #[.slice (some ⟨w.heap.size, 0, none⟩) 2 2] 22))).grown hD (by decide) hg3
            have r2 := ((HO2.out.alloc (.cells #[.slice (some ⟨w.heap.size, 0, none⟩) 2 2] 22)).grown hg3 ((HO2.out.alloc _).ne hD (by decide)))
            simp only [World.size_alloc] at hz3
            exact (r1.more (by omega)).append (RowsI.one (r2.more (by omega)))
          have hl3 : (rows ++ [([(-1), (-1)] : List Int)]).length = rows.length + 1 := by simp
          have hl4 : (RV ++ [Value.slice (some ⟨w.heap.size, 0, none⟩) 2 2]).length = rows.length + 1 := by simp [HR2.out.1]
          have hG3 : Grid w3 B w3.heap.size (.slice (some ⟨g3, 0, none⟩) (rows ++ [[(-1), (-1)]]).length c3) (RV ++ [.slice (some ⟨w.heap.size, 0, none⟩) 2 2]) (rows ++ [[(-1), (-1)]]) :=
            ⟨own_lo (Own.of_own (B := w.heap.size) (by rw [hl3, hl4]; exact hv3)) hB, hr3⟩
          have hb3 : Below w.heap.size w w3 := (HB2.out.alloc (by omega) _).grown hg3 (by simp; omega) (fun q hq => (HV2.out.lt q hq).1)
          have hz3' : w.heap.size ≤ w3.heap.size := hb3.size
          have j1 := I1.out g3 c3 _ _ w3 (by simp; omega) (by omega) (Lib.hid hG3)
          rw [hl3] at j1
          have J1 := Lib.hid j1
          have HB3 := Lib.hid hb3
          clear hl3 hl4 hD hr3 hG3 hb3 hg3 hv3 hn3 j1 HB2 HR2 HO2 HV2 y3 y4 Y5 hz3 hz2'
          go_wp2_with fail
          refine J1.out.mono ?_
          rintro e1 w4 ⟨g4, c4, RV4, rfl, hG4, hb4⟩
          have hlen4 : (rows ++ [[(-1), (-1)]] ++ binL f (fstL s.data.toList) (at_ + 1)).length + (s.size - K - 1) ≤ 50 := by
            rw [List.length_append, List.length_append, HLB.out, HLL.out]; simp; omega
          obtain ⟨M, hM⟩ : ∃ M, M = rows ++ [[(-1), (-1)]] ++ binL f (fstL s.data.toList) (at_ + 1) := ⟨_, rfl⟩
          rw [← hM] at hG4 hlen4 ⊢
          have hb4' := HB3.out.trans (hb4.mono hz3')
          have J2 := Lib.hid (I2.out g4 c4 RV4 M w4 hlen4 (by have := hb4.size; omega) (Lib.hid hG4))
          have HB4 := Lib.hid hb4'
          have hz4 := hb4'.size
          have HM := Lib.hid hM
          clear hG4 hb4 hb4' hlen4 hM J1
          go_wp2_with fail
          refine J2.out.mono ?_
          rintro e2 w5 ⟨g5, c5, RV5, rfl, hG5, hb5⟩
          have hfin : rows ++ binL (f + 1) s.data.toList at_ = M ++ binL f (rstL s.data.toList) (at_ + 1 + (K - 1) / 2) := by
            rw [e.out, HM.out]; simp
          have HB5 := Lib.hid (HB4.out.trans (hb5.mono hz4))
          obtain ⟨M2, hM2⟩ : ∃ M2, M2 = M ++ binL f (rstL s.data.toList) (at_ + 1 + (K - 1) / 2) := ⟨_, rfl⟩
          rw [← hM2] at hG5 hfin ⊢
          have HG5 := Lib.hid hG5
          have HF := Lib.hid hfin
          clear hG5 hb5 hM2 hfin J2
          go_wp2
          go_ret
          rw [HF.out]
          exact ⟨g5, c5, RV5, rfl, HG5.out, HB5.out⟩
        · have HRF := Lib.hid hf2
          have q2 : (s.extract (K + 1) s.size).toList.isEmpty = false := by rw [HRE.out]; simpa using hf2
          clear hf1 hf2 HLE HRE hne
          have e := Lib.hid (show binL (f + 1) s.data.toList at_ = [(-1), ((at_ : Int) + 1 + ((K - 1 : Nat) : Int) / 2)] :: (binL f (fstL s.data.toList) (at_ + 1) ++ binL f (rstL s.data.toList) (at_ + 1 + (K - 1) / 2)) by
            rw [binL_cons _ _ _ HNE.out, HLL.out, if_pos HLF.out, if_neg HRF.out, show (((K - 1) / 2 : Nat) : Int) = ((K - 1 : Nat) : Int) / 2 by omega])
          have hG1 : Grid ((w.alloc (.cells #[.int .i64 (-1), .int .i64 ((at_ : Int) + 1 + ((K - 1 : Nat) : Int) / 2)] 3)).alloc (.cells #[] 22)) B w.heap.size (.slice (some ⟨g, 0, none⟩) rows.length c) RV rows := HG.out.below (((Below.refl _ w).alloc (Nat.le_refl _) _).alloc (by simp) _)
          have hl1 : (((w.alloc (.cells #[.int .i64 (-1), .int .i64 ((at_ : Int) + 1 + ((K - 1 : Nat) : Int) / 2)] 3)).alloc (.cells #[] 22))).ownsRow w.heap.size 22 1 (.slice (some ⟨w.heap.size + 1, 0, none⟩) 0 0) 0 [] := by
            have := World.ownsRow_lit (base := w.heap.size) (e := 22) (size := 1) (w.alloc (.cells #[.int .i64 (-1), .int .i64 ((at_ : Int) + 1 + ((K - 1 : Nat) : Int) / 2)] 3)) #[] 0 (by simp) (by decide) rfl
            simpa using this
          have hro : Own ((w.alloc (.cells #[.int .i64 (-1), .int .i64 ((at_ : Int) + 1 + ((K - 1 : Nat) : Int) / 2)] 3)).alloc (.cells #[] 22)) B (w.heap.size + 2) 3 (.slice (some ⟨w.heap.size, 0, none⟩) 2 2) (iv [(-1), ((at_ : Int) + 1 + ((K - 1 : Nat) : Int) / 2)]) :=
            ((own_lo (lit_own2 w #[.int .i64 (-1), .int .i64 ((at_ : Int) + 1 + ((K - 1 : Nat) : Int) / 2)] 3 (by show (2 : Nat) ≤ maxLen; unfold maxLen; omega)) hB).alloc _).more (by omega)
          have hb1 : Below w.heap.size w ((w.alloc (.cells #[.int .i64 (-1), .int .i64 ((at_ : Int) + 1 + ((K - 1 : Nat) : Int) / 2)] 3)).alloc (.cells #[] 22)) := ((Below.refl _ w).alloc (Nat.le_refl _) _).alloc (by simp) _
          have hs1 : w.heap.size ≤ (((w.alloc (.cells #[.int .i64 (-1), .int .i64 ((at_ : Int) + 1 + ((K - 1 : Nat) : Int) / 2)] 3)).alloc (.cells #[] 22))).heap.size := by simp; omega
          have hz1' : w.heap.size + 2 = (((w.alloc (.cells #[.int .i64 (-1), .int .i64 ((at_ : Int) + 1 + ((K - 1 : Nat) : Int) / 2)] 3)).alloc (.cells #[] 22))).heap.size := by simp
          have HS1 := Lib.hid hs1
          have HZ1 := Lib.hid hz1'
          have x1 : RV.length = rows.length * 1 := by rw [hG1.2.1, Nat.mul_one]
          have hown := hG1.1.1
          rw [hG1.2.1] at hown
          have x2 := hown.cells (g := g) rfl
          have hone : ∀ u ∈ RV, u.oneCell' = true := by
            intro u hu
            obtain ⟨i, hi, rfl⟩ := List.getElem_of_mem hu
            obtain ⟨ao, cap, hv', _⟩ := (hG1.2.2 i _ _ (List.getElem?_eq_getElem hi) (List.getElem?_eq_getElem (by rw [← hG1.2.1]; exact hi))).slice
            rw [hv']; rfl
          have x3 : 0 + rows.length ≤ maxLen := by unfold maxLen; omega
          have x4 : (0 + rows.length) * 24 ≤ 140737488355328 := by omega
          have X1 := Lib.hid x1
          have X2 := Lib.hid x2
          have HG1 := Lib.hid hG1
          have HL1 := Lib.hid hl1
          have HRO := Lib.hid hro
          have HB1 := Lib.hid hb1
          clear x1 x2 hown hG1 hro hb1 hl1 hs1 hz1'
          go_enter Try.func32, Try.ntmps32
          go_wp2_with fail
          refine (C.out _).mono ?_
          rintro e0 w1 ⟨rfl, rfl⟩
          go_wp2_with (at_builtin; refine wpList_append_own _ rfl (.tmp 41) (.tmp 42) 35 rfl w.heap.size 22 i0 (.slice none 0 0) 1 24 Try.underlying35 hi hz0 hz1 hz2 rfl (by decide) _ 0 [] rfl HL1.out ⟨g, 0, none⟩ rows.length c RV rfl X1.out X2.out hone x3 x4 HS1.out ?_)
          intro v2 w2 hv2 hg2 hn2
          obtain ⟨g2, c2, rfl⟩ := own_some3 hv2 hn2
          have b2 : Below w.heap.size ((w.alloc (.cells #[.int .i64 (-1), .int .i64 ((at_ : Int) + 1 + ((K - 1 : Nat) : Int) / 2)] 3)).alloc (.cells #[] 22)) w2 := (Below.refl _ _).grown hg2 (by rw [← HZ1.out]; omega) (fun q hq => by simp [Value.ownBlock] at hq; omega)
          have hr2 := HG1.out.2.below b2
          have ho2 := HRO.out.grown hg2 (.inr (by simp [Value.ownBlock]))
          have hz2' : w.heap.size + 2 ≤ w2.heap.size := by have := hg2.size; have := HZ1.out; omega
          have HB2 := Lib.hid (HB1.out.trans b2)
          have HR2 := Lib.hid hr2
          have HO2 := Lib.hid ho2
          have HV2 := Lib.hid hv2
          have y3 : rows.length + 1 ≤ maxLen := by unfold maxLen; omega
          have y4 : (rows.length + 1) * 24 ≤ 140737488355328 := by omega
          have y5 : w.heap.size ≤ (w2.alloc (.cells #[.slice (some ⟨w.heap.size, 0, none⟩) 2 2] 22)).heap.size := by simp; omega
          have Y5 := Lib.hid y5
          clear hg2 hn2 b2 hr2 ho2 hv2 y5 HG1 HL1 HRO HB1 X1 X2 HS1 HZ1 x3 x4
          go_wp2_with (at_builtin; refine wpList_append_own _ rfl (.tmp 43) (.tmp 45) 35 rfl w.heap.size 22 i0 (.slice none 0 0) 1 24 Try.underlying35 hi hz0 hz1 hz2 rfl (by decide) _ rows.length RV rfl (HV2.out.alloc _) ⟨w2.heap.size, 0, none⟩ 1 1 [.slice (some ⟨w.heap.size, 0, none⟩) 2 2] rfl rfl ?c1 ?c2 y3 y4 Y5.out ?_)
          case c1 => exact cell_one_new _ _ _
          case c2 => intro u hu; simp at hu; subst hu; rfl
          intro v3 w3 hv3 hg3 hn3
          obtain ⟨g3, c3, rfl⟩ := own_some3 hv3 hn3
          have hD : Own (w2.alloc (.cells #[.slice (some ⟨w.heap.size, 0, none⟩) 2 2] 22)) w.heap.size (w2.alloc (.cells #[.slice (some ⟨w.heap.size, 0, none⟩) 2 2] 22)).heap.size 22 (.slice (some ⟨g2, 0, none⟩) rows.length c2) RV := by
            have h1 := HV2.out.alloc (.cells #[.slice (some ⟨w.heap.size, 0, none⟩) 2 2] 22)
            have hl : RV.length = rows.length := HR2.out.1
            exact ⟨by rw [hl]; exact h1, fun q hq => (h1.lt q hq).2⟩
          have hz3 := hg3.size
          have hr3 : RowsI w3 B w3.heap.size (RV ++ [.slice (some ⟨w.heap.size, 0, none⟩) 2 2]) (rows ++ [[(-1), ((at_ : Int) + 1 + ((K - 1 : Nat) : Int) / 2)]]) := by
            have r1 := (HR2.out.below ((Below.refl w.heap.size w2).alloc (by omega) (.cells #[.slice (some ⟨w.heap.size, 0, none⟩) 2 2] 22))).grown hD (by decide) hg3
            have r2 := ((HO2.out.alloc (.cells #[.slice (some ⟨w.heap.size, 0, none⟩) 2 2] 22)).grown hg3 ((HO2.out.alloc _).ne hD (by decide)))
            simp only [World.size_alloc] at hz3
            exact (r1.more (by omega)).append (RowsI.one (r2.more (by omega)))
          have hl3 : (rows ++ [([(-1), ((at_ : Int) + 1 + ((K - 1 : Nat) : Int) / 2)] : List Int)]).length = rows.length + 1 := by simp
          have hl4 : (RV ++ [Value.slice (some ⟨w.heap.size, 0, none⟩) 2 2]).length = rows.length + 1 := by simp [HR2.out.1]
          have hG3 : Grid w3 B w3.heap.size (.slice (some ⟨g3, 0, none⟩) (rows ++ [[(-1), ((at_ : Int) + 1 + ((K - 1 : Nat) : Int) / 2)]]).length c3) (RV ++ [.slice (some ⟨w.heap.size, 0, none⟩) 2 2]) (rows ++ [[(-1), ((at_ : Int) + 1 + ((K - 1 : Nat) : Int) / 2)]]) :=
            ⟨own_lo (Own.of_own (B := w.heap.size) (by rw [hl3, hl4]; exact hv3)) hB, hr3⟩
          have hb3 : Below w.heap.size w w3 := (HB2.out.alloc (by omega) _).grown hg3 (by simp; omega) (fun q hq => (HV2.out.lt q hq).1)
          have hz3' : w.heap.size ≤ w3.heap.size := hb3.size
          have j1 := I1.out g3 c3 _ _ w3 (by simp; omega) (by omega) (Lib.hid hG3)
          rw [hl3] at j1
          have J1 := Lib.hid j1
          have HB3 := Lib.hid hb3
          clear hl3 hl4 hD hr3 hG3 hb3 hg3 hv3 hn3 j1 HB2 HR2 HO2 HV2 y3 y4 Y5 hz3 hz2'
          go_wp2_with fail
          refine J1.out.mono ?_
          rintro e1 w4 ⟨g4, c4, RV4, rfl, hG4, hb4⟩
          have hlen4 : (rows ++ [[(-1), ((at_ : Int) + 1 + ((K - 1 : Nat) : Int) / 2)]] ++ binL f (fstL s.data.toList) (at_ + 1)).length + (s.size - K - 1) ≤ 50 := by
            rw [List.length_append, List.length_append, HLB.out, HLL.out]; simp; omega
          obtain ⟨M, hM⟩ : ∃ M, M = rows ++ [[(-1), ((at_ : Int) + 1 + ((K - 1 : Nat) : Int) / 2)]] ++ binL f (fstL s.data.toList) (at_ + 1) := ⟨_, rfl⟩
          rw [← hM] at hG4 hlen4 ⊢
          have hb4' := HB3.out.trans (hb4.mono hz3')
          have J2 := Lib.hid (I2.out g4 c4 RV4 M w4 hlen4 (by have := hb4.size; omega) (Lib.hid hG4))
          have HB4 := Lib.hid hb4'
          have hz4 := hb4'.size
          have HM := Lib.hid hM
          clear hG4 hb4 hb4' hlen4 hM J1
          go_wp2_with fail
          refine J2.out.mono ?_
          rintro e2 w5 ⟨g5, c5, RV5, rfl, hG5, hb5⟩
          have hfin : rows ++ binL (f + 1) s.data.toList at_ = M ++ binL f (rstL s.data.toList) (at_ + 1 + (K - 1) / 2) := by
            rw [e.out, HM.out]; simp
          have HB5 := Lib.hid (HB4.out.trans (hb5.mono hz4))
          obtain ⟨M2, hM2⟩ : ∃ M2, M2 = M ++ binL f (rstL s.data.toList) (at_ + 1 + (K - 1) / 2) := ⟨_, rfl⟩
          rw [← hM2] at hG5 hfin ⊢
          have HG5 := Lib.hid hG5
          have HF := Lib.hid hfin
          clear hG5 hb5 hM2 hfin J2
          go_wp2
          go_ret
          rw [HF.out]
          exact ⟨g5, c5, RV5, rfl, HG5.out, HB5.out⟩
      · have HLF := Lib.hid hf1
        have q1 : (s.extract 1 K).toList.isEmpty = false := by rw [HLE.out]; simpa using hf1
        by_cases hf2 : rstL s.data.toList = []
        · have HRF := Lib.hid hf2
          have q2 : (s.extract (K + 1) s.size).toList.isEmpty = true := by rw [HRE.out, hf2]; rfl
          clear hf1 hf2 HLE HRE hne
          have e := Lib.hid (show binL (f + 1) s.data.toList at_ = [((at_ : Int) + 1), (-1)] :: (binL f (fstL s.data.toList) (at_ + 1) ++ binL f (rstL s.data.toList) (at_ + 1 + (K - 1) / 2)) by
            rw [binL_cons _ _ _ HNE.out, HLL.out, if_neg HLF.out, if_pos HRF.out])
          have hG1 : Grid ((w.alloc (.cells #[.int .i64 ((at_ : Int) + 1), .int .i64 (-1)] 3)).alloc (.cells #[] 22)) B w.heap.size (.slice (some ⟨g, 0, none⟩) rows.length c) RV rows := HG.out.below (((Below.refl _ w).alloc (Nat.le_refl _) _).alloc (by simp) _)
          have hl1 : (((w.alloc (.cells #[.int .i64 ((at_ : Int) + 1), .int .i64 (-1)] 3)).alloc (.cells #[] 22))).ownsRow w.heap.size 22 1 (.slice (some ⟨w.heap.size + 1, 0, none⟩) 0 0) 0 [] := by
            have := World.ownsRow_lit (base := w.heap.size) (e := 22) (size := 1) (w.alloc (.cells #[.int .i64 ((at_ : Int) + 1), .int .i64 (-1)] 3)) #[] 0 (by simp) (by decide) rfl
            simpa using this
          have hro : Own ((w.alloc (.cells #[.int .i64 ((at_ : Int) + 1), .int .i64 (-1)] 3)).alloc (.cells #[] 22)) B (w.heap.size + 2) 3 (.slice (some ⟨w.heap.size, 0, none⟩) 2 2) (iv [((at_ : Int) + 1), (-1)]) :=
            ((own_lo (lit_own2 w #[.int .i64 ((at_ : Int) + 1), .int .i64 (-1)] 3 (by show (2 : Nat) ≤ maxLen; unfold maxLen; omega)) hB).alloc _).more (by omega)
          have hb1 : Below w.heap.size w ((w.alloc (.cells #[.int .i64 ((at_ : Int) + 1), .int .i64 (-1)] 3)).alloc (.cells #[] 22)) := ((Below.refl _ w).alloc (Nat.le_refl _) _).alloc (by simp) _
          have hs1 : w.heap.size ≤ (((w.alloc (.cells #[.int .i64 ((at_ : Int) + 1), .int .i64 (-1)] 3)).alloc (.cells #[] 22))).heap.size := by simp; omega
          have hz1' : w.heap.size + 2 = (((w.alloc (.cells #[.int .i64 ((at_ : Int) + 1), .int .i64 (-1)] 3)).alloc (.cells #[] 22))).heap.size := by simp
          have HS1 := Lib.hid hs1
          have HZ1 := Lib.hid hz1'
          have x1 : RV.length = rows.length * 1 := by rw [hG1.2.1, Nat.mul_one]
          have hown := hG1.1.1
          rw [hG1.2.1] at hown
          have x2 := hown.cells (g := g) rfl
          have hone : ∀ u ∈ RV, u.oneCell' = true := by
            intro u hu
            obtain ⟨i, hi, rfl⟩ := List.getElem_of_mem hu
            obtain ⟨ao, cap, hv', _⟩ := (hG1.2.2 i _ _ (List.getElem?_eq_getElem hi) (List.getElem?_eq_getElem (by rw [← hG1.2.1]; exact hi))).slice
            rw [hv']; rfl
          have x3 : 0 + rows.length ≤ maxLen := by unfold maxLen; omega
          have x4 : (0 + rows.length) * 24 ≤ 140737488355328 := by omega
          have X1 := Lib.hid x1
          have X2 := Lib.hid x2
          have HG1 := Lib.hid hG1
          have HL1 := Lib.hid hl1
          have HRO := Lib.hid hro
          have HB1 := Lib.hid hb1
          clear x1 x2 hown hG1 hro hb1 hl1 hs1 hz1'
          go_enter Try.func32, Try.ntmps32
          go_wp2_with fail
          refine (C.out _).mono ?_
          rintro e0 w1 ⟨rfl, rfl⟩
          go_wp2_with (at_builtin; refine wpList_append_own _ rfl (.tmp 41) (.tmp 42) 35 rfl w.heap.size 22 i0 (.slice none 0 0) 1 24 Try.underlying35 hi hz0 hz1 hz2 rfl (by decide) _ 0 [] rfl HL1.out ⟨g, 0, none⟩ rows.length c RV rfl X1.out X2.out hone x3 x4 HS1.out ?_)
          intro v2 w2 hv2 hg2 hn2
          obtain ⟨g2, c2, rfl⟩ := own_some3 hv2 hn2
          have b2 : Below w.heap.size ((w.alloc (.cells #[.int .i64 ((at_ : Int) + 1), .int .i64 (-1)] 3)).alloc (.cells #[] 22)) w2 := (Below.refl _ _).grown hg2 (by rw [← HZ1.out]; omega) (fun q hq => by simp [Value.ownBlock] at hq; omega)
          have hr2 := HG1.out.2.below b2
          have ho2 := HRO.out.grown hg2 (.inr (by simp [Value.ownBlock]))
          have hz2' : w.heap.size + 2 ≤ w2.heap.size := by have := hg2.size; have := HZ1.out; omega
          have HB2 := Lib.hid (HB1.out.trans b2)
          have HR2 := Lib.hid hr2
          have HO2 := Lib.hid ho2
          have HV2 := Lib.hid hv2
          have y3 : rows.length + 1 ≤ maxLen := by unfold maxLen; omega
          have y4 : (rows.length + 1) * 24 ≤ 140737488355328 := by omega
          have y5 : w.heap.size ≤ (w2.alloc (.cells #[.slice (some ⟨w.heap.size, 0, none⟩) 2 2] 22)).heap.size := by simp; omega
          have Y5 := Lib.hid y5
          clear hg2 hn2 b2 hr2 ho2 hv2 y5 HG1 HL1 HRO HB1 X1 X2 HS1 HZ1 x3 x4
          go_wp2_with (at_builtin; refine wpList_append_own _ rfl (.tmp 43) (.tmp 45) 35 rfl w.heap.size 22 i0 (.slice none 0 0) 1 24 Try.underlying35 hi hz0 hz1 hz2 rfl (by decide) _ rows.length RV rfl (HV2.out.alloc _) ⟨w2.heap.size, 0, none⟩ 1 1 [.slice (some ⟨w.heap.size, 0, none⟩) 2 2] rfl rfl ?c1 ?c2 y3 y4 Y5.out ?_)
          case c1 => exact cell_one_new _ _ _
          case c2 => intro u hu; simp at hu; subst hu; rfl
          intro v3 w3 hv3 hg3 hn3
          obtain ⟨g3, c3, rfl⟩ := own_some3 hv3 hn3
          have hD : Own (w2.alloc (.cells #[.slice (some ⟨w.heap.size, 0, none⟩) 2 2] 22)) w.heap.size (w2.alloc (.cells #[.slice (some ⟨w.heap.size, 0, none⟩) 2 2] 22)).heap.size 22 (.slice (some ⟨g2, 0, none⟩) rows.length c2) RV := by
            have h1 := HV2.out.alloc (.cells #[.slice (some ⟨w.heap.size, 0, none⟩) 2 2] 22)
            have hl : RV.length = rows.length := HR2.out.1
            exact ⟨by rw [hl]; exact h1, fun q hq => (h1.lt q hq).2⟩
          have hz3 := hg3.size
          have hr3 : RowsI w3 B w3.heap.size (RV ++ [.slice (some ⟨w.heap.size, 0, none⟩) 2 2]) (rows ++ [[((at_ : Int) + 1), (-1)]]) := by
            have r1 := (HR2.out.below ((Below.refl w.heap.size w2).alloc (by omega) (.cells #[.slice (some ⟨w.heap.size, 0, none⟩) 2 2] 22))).grown hD (by decide) hg3
            have r2 := ((HO2.out.alloc (.cells #[.slice (some ⟨w.heap.size, 0, none⟩) 2 2] 22)).grown hg3 ((HO2.out.alloc _).ne hD (by decide)))
            simp only [World.size_alloc] at hz3
            exact (r1.more (by omega)).append (RowsI.one (r2.more (by omega)))
          have hl3 : (rows ++ [([((at_ : Int) + 1), (-1)] : List Int)]).length = rows.length + 1 := by simp
          have hl4 : (RV ++ [Value.slice (some ⟨w.heap.size, 0, none⟩) 2 2]).length = rows.length + 1 := by simp [HR2.out.1]
          have hG3 : Grid w3 B w3.heap.size (.slice (some ⟨g3, 0, none⟩) (rows ++ [[((at_ : Int) + 1), (-1)]]).length c3) (RV ++ [.slice (some ⟨w.heap.size, 0, none⟩) 2 2]) (rows ++ [[((at_ : Int) + 1), (-1)]]) :=
            ⟨own_lo (Own.of_own (B := w.heap.size) (by rw [hl3, hl4]; exact hv3)) hB, hr3⟩
          have hb3 : Below w.heap.size w w3 := (HB2.out.alloc (by omega) _).grown hg3 (by simp; omega) (fun q hq => (HV2.out.lt q hq).1)
          have hz3' : w.heap.size ≤ w3.heap.size := hb3.size
          have j1 := I1.out g3 c3 _ _ w3 (by simp; omega) (by omega) (Lib.hid hG3)
          rw [hl3] at j1
          have J1 := Lib.hid j1
          have HB3 := Lib.hid hb3
          clear hl3 hl4 hD hr3 hG3 hb3 hg3 hv3 hn3 j1 HB2 HR2 HO2 HV2 y3 y4 Y5 hz3 hz2'
          go_wp2_with fail
          refine J1.out.mono ?_
          rintro e1 w4 ⟨g4, c4, RV4, rfl, hG4, hb4⟩
          have hlen4 : (rows ++ [[((at_ : Int) + 1), (-1)]] ++ binL f (fstL s.data.toList) (at_ + 1)).length + (s.size - K - 1) ≤ 50 := by
            rw [List.length_append, List.length_append, HLB.out, HLL.out]; simp; omega
          obtain ⟨M, hM⟩ : ∃ M, M = rows ++ [[((at_ : Int) + 1), (-1)]] ++ binL f (fstL s.data.toList) (at_ + 1) := ⟨_, rfl⟩
          rw [← hM] at hG4 hlen4 ⊢
          have hb4' := HB3.out.trans (hb4.mono hz3')
          have J2 := Lib.hid (I2.out g4 c4 RV4 M w4 hlen4 (by have := hb4.size; omega) (Lib.hid hG4))
          have HB4 := Lib.hid hb4'
          have hz4 := hb4'.size
          have HM := Lib.hid hM
          clear hG4 hb4 hb4' hlen4 hM J1
          go_wp2_with fail
          refine J2.out.mono ?_
          rintro e2 w5 ⟨g5, c5, RV5, rfl, hG5, hb5⟩
          have hfin : rows ++ binL (f + 1) s.data.toList at_ = M ++ binL f (rstL s.data.toList) (at_ + 1 + (K - 1) / 2) := by
            rw [e.out, HM.out]; simp
          have HB5 := Lib.hid (HB4.out.trans (hb5.mono hz4))
          obtain ⟨M2, hM2⟩ : ∃ M2, M2 = M ++ binL f (rstL s.data.toList) (at_ + 1 + (K - 1) / 2) := ⟨_, rfl⟩
          rw [← hM2] at hG5 hfin ⊢
          have HG5 := Lib.hid hG5
          have HF := Lib.hid hfin
          clear hG5 hb5 hM2 hfin J2
          go_wp2
          go_ret
          rw [HF.out]
          exact ⟨g5, c5, RV5, rfl, HG5.out, HB5.out⟩
        · have HRF := Lib.hid hf2
          have q2 : (s.extract (K + 1) s.size).toList.isEmpty = false := by rw [HRE.out]; simpa using hf2
          clear hf1 hf2 HLE HRE hne
          have e := Lib.hid (show binL (f + 1) s.data.toList at_ = [((at_ : Int) + 1), ((at_ : Int) + 1 + ((K - 1 : Nat) : Int) / 2)] :: (binL f (fstL s.data.toList) (at_ + 1) ++ binL f (rstL s.data.toList) (at_ + 1 + (K - 1) / 2)) by
            rw [binL_cons _ _ _ HNE.out, HLL.out, if_neg HLF.out, if_neg HRF.out, show (((K - 1) / 2 : Nat) : Int) = ((K - 1 : Nat) : Int) / 2 by omega])
          have hG1 : Grid ((w.alloc (.cells #[.int .i64 ((at_ : Int) + 1), .int .i64 ((at_ : Int) + 1 + ((K - 1 : Nat) : Int) / 2)] 3)).alloc (.cells #[] 22)) B w.heap.size (.slice (some ⟨g, 0, none⟩) rows.length c) RV rows := HG.out.below (((Below.refl _ w).alloc (Nat.le_refl _) _).alloc (by simp) _)
          have hl1 : (((w.alloc (.cells #[.int .i64 ((at_ : Int) + 1), .int .i64 ((at_ : Int) + 1 + ((K - 1 : Nat) : Int) / 2)] 3)).alloc (.cells #[] 22))).ownsRow w.heap.size 22 1 (.slice (some ⟨w.heap.size + 1, 0, none⟩) 0 0) 0 [] := by
            have := World.ownsRow_lit (base := w.heap.size) (e := 22) (size := 1) (w.alloc (.cells #[.int .i64 ((at_ : Int) + 1), .int .i64 ((at_ : Int) + 1 + ((K - 1 : Nat) : Int) / 2)] 3)) #[] 0 (by simp) (by decide) rfl
            simpa using this
          have hro : Own ((w.alloc (.cells #[.int .i64 ((at_ : Int) + 1), .int .i64 ((at_ : Int) + 1 + ((K - 1 : Nat) : Int) / 2)] 3)).alloc (.cells #[] 22)) B (w.heap.size + 2) 3 (.slice (some ⟨w.heap.size, 0, none⟩) 2 2) (iv [((at_ : Int) + 1), ((at_ : Int) + 1 + ((K - 1 : Nat) : Int) / 2)]) :=
            ((own_lo (lit_own2 w #[.int .i64 ((at_ : Int) + 1), .int .i64 ((at_ : Int) + 1 + ((K - 1 : Nat) : Int) / 2)] 3 (by show (2 : Nat) ≤ maxLen; unfold maxLen; omega)) hB).alloc _).more (by omega)
          have hb1 : Below w.heap.size w ((w.alloc (.cells #[.int .i64 ((at_ : Int) + 1), .int .i64 ((at_ : Int) + 1 + ((K - 1 : Nat) : Int) / 2)] 3)).alloc (.cells #[] 22)) := ((Below.refl _ w).alloc (Nat.le_refl _) _).alloc (by simp) _
          have hs1 : w.heap.size ≤ (((w.alloc (.cells #[.int .i64 ((at_ : Int) + 1), .int .i64 ((at_ : Int) + 1 + ((K - 1 : Nat) : Int) / 2)] 3)).alloc (.cells #[] 22))).heap.size := by simp; omega
          have hz1' : w.heap.size + 2 = (((w.alloc (.cells #[.int .i64 ((at_ : Int) + 1), .int .i64 ((at_ : Int) + 1 + ((K - 1 : Nat) : Int) / 2)] 3)).alloc (.cells #[] 22))).heap.size := by simp
          have HS1 := Lib.hid hs1
          have HZ1 := Lib.hid hz1'
          have x1 : RV.length = rows.length * 1 := by rw [hG1.2.1, Nat.mul_one]
          have hown := hG1.1.1
          rw [hG1.2.1] at hown
          have x2 := hown.cells (g := g) rfl
          have hone : ∀ u ∈ RV, u.oneCell' = true := by
            intro u hu
            obtain ⟨i, hi, rfl⟩ := List.getElem_of_mem hu
            obtain ⟨ao, cap, hv', _⟩ := (hG1.2.2 i _ _ (List.getElem?_eq_getElem hi) (List.getElem?_eq_getElem (by rw [← hG1.2.1]; exact hi))).slice
            rw [hv']; rfl
          have x3 : 0 + rows.length ≤ maxLen := by unfold maxLen; omega
          have x4 : (0 + rows.length) * 24 ≤ 140737488355328 := by omega
          have X1 := Lib.hid x1
          have X2 := Lib.hid x2
          have HG1 := Lib.hid hG1
          have HL1 := Lib.hid hl1
          have HRO := Lib.hid hro
          have HB1 := Lib.hid hb1
          clear x1 x2 hown hG1 hro hb1 hl1 hs1 hz1'
          go_enter Try.func32, Try.ntmps32
          go_wp2_with fail
          refine (C.out _).mono ?_
          rintro e0 w1 ⟨rfl, rfl⟩
          go_wp2_with (at_builtin; refine wpList_append_own _ rfl (.tmp 41) (.tmp 42) 35 rfl w.heap.size 22 i0 (.slice none 0 0) 1 24 Try.underlying35 hi hz0 hz1 hz2 rfl (by decide) _ 0 [] rfl HL1.out ⟨g, 0, none⟩ rows.length c RV rfl X1.out X2.out hone x3 x4 HS1.out ?_)
          intro v2 w2 hv2 hg2 hn2
          obtain ⟨g2, c2, rfl⟩ := own_some3 hv2 hn2
          have b2 : Below w.heap.size ((w.alloc (.cells #[.int .i64 ((at_ : Int) + 1), .int .i64 ((at_ : Int) + 1 + ((K - 1 : Nat) : Int) / 2)] 3)).alloc (.cells #[] 22)) w2 := (Below.refl _ _).grown hg2 (by rw [← HZ1.out]; omega) (fun q hq => by simp [Value.ownBlock] at hq; omega)
          have hr2 := HG1.out.2.below b2
          have ho2 := HRO.out.grown hg2 (.inr (by simp [Value.ownBlock]))
          have hz2' : w.heap.size + 2 ≤ w2.heap.size := by have := hg2.size; have := HZ1.out; omega
          have HB2 := Lib.hid (HB1.out.trans b2)
          have HR2 := Lib.hid hr2
          have HO2 := Lib.hid ho2
          have HV2 := Lib.hid hv2
          have y3 : rows.length + 1 ≤ maxLen := by unfold maxLen; omega
          have y4 : (rows.length + 1) * 24 ≤ 140737488355328 := by omega
          have y5 : w.heap.size ≤ (w2.alloc (.cells #[.slice (some ⟨w.heap.size, 0, none⟩) 2 2] 22)).heap.size := by simp; omega
          have Y5 := Lib.hid y5
          clear hg2 hn2 b2 hr2 ho2 hv2 y5 HG1 HL1 HRO HB1 X1 X2 HS1 HZ1 x3 x4
          go_wp2_with (at_builtin; refine wpList_append_own _ rfl (.tmp 43) (.tmp 45) 35 rfl w.heap.size 22 i0 (.slice none 0 0) 1 24 Try.underlying35 hi hz0 hz1 hz2 rfl (by decide) _ rows.length RV rfl (HV2.out.alloc _) ⟨w2.heap.size, 0, none⟩ 1 1 [.slice (some ⟨w.heap.size, 0, none⟩) 2 2] rfl rfl ?c1 ?c2 y3 y4 Y5.out ?_)
          case c1 => exact cell_one_new _ _ _
          case c2 => intro u hu; simp at hu; subst hu; rfl
          intro v3 w3 hv3 hg3 hn3
          obtain ⟨g3, c3, rfl⟩ := own_some3 hv3 hn3
          have hD : Own (w2.alloc (.cells #[.slice (some ⟨w.heap.size, 0, none⟩) 2 2] 22)) w.heap.size (w2.alloc (.cells #[.slice (some ⟨w.heap.size, 0, none⟩) 2 2] 22)).heap.size 22 (.slice (some ⟨g2, 0, none⟩) rows.length c2) RV := by
            have h1 := HV2.out.alloc (.cells #[.slice (some ⟨w.heap.size, 0, none⟩) 2 2] 22)
            have hl : RV.length = rows.length := HR2.out.1
            exact ⟨by rw [hl]; exact h1, fun q hq => (h1.lt q hq).2⟩
          have hz3 := hg3.size
          have hr3 : RowsI w3 B w3.heap.size (RV ++ [.slice (some ⟨w.heap.size, 0, none⟩) 2 2]) (rows ++ [[((at_ : Int) + 1), ((at_ : Int) + 1 + ((K - 1 : Nat) : Int) / 2)]]) := by
            have r1 := (HR2.out.below ((Below.refl w.heap.size w2).alloc (by omega) (.cells #[.slice (some ⟨w.heap.size, 0, none⟩) 2 2] 22))).grown hD (by decide) hg3
            have r2 := ((HO2.out.alloc (.cells #[.slice (some ⟨w.heap.size, 0, none⟩) 2 2] 22)).grown hg3 ((HO2.out.alloc _).ne hD (by decide)))
            simp only [World.size_alloc] at hz3
            exact (r1.more (by omega)).append (RowsI.one (r2.more (by omega)))
          have hl3 : (rows ++ [([((at_ : Int) + 1), ((at_ : Int) + 1 + ((K - 1 : Nat) : Int) / 2)] : List Int)]).length = rows.length + 1 := by simp
          have hl4 : (RV ++ [Value.slice (some ⟨w.heap.size, 0, none⟩) 2 2]).length = rows.length + 1 := by simp [HR2.out.1]
          have hG3 : Grid w3 B w3.heap.size (.slice (some ⟨g3, 0, none⟩) (rows ++ [[((at_ : Int) + 1), ((at_ : Int) + 1 + ((K - 1 : Nat) : Int) / 2)]]).length c3) (RV ++ [.slice (some ⟨w.heap.size, 0, none⟩) 2 2]) (rows ++ [[((at_ : Int) + 1), ((at_ : Int) + 1 + ((K - 1 : Nat) : Int) / 2)]]) :=
            ⟨own_lo (Own.of_own (B := w.heap.size) (by rw [hl3, hl4]; exact hv3)) hB, hr3⟩
          have hb3 : Below w.heap.size w w3 := (HB2.out.alloc (by omega) _).grown hg3 (by simp; omega) (fun q hq => (HV2.out.lt q hq).1)
          have hz3' : w.heap.size ≤ w3.heap.size := hb3.size
          have j1 := I1.out g3 c3 _ _ w3 (by simp; omega) (by omega) (Lib.hid hG3)
          rw [hl3] at j1
          have J1 := Lib.hid j1
          have HB3 := Lib.hid hb3
          clear hl3 hl4 hD hr3 hG3 hb3 hg3 hv3 hn3 j1 HB2 HR2 HO2 HV2 y3 y4 Y5 hz3 hz2'
          go_wp2_with fail
          refine J1.out.mono ?_
          rintro e1 w4 ⟨g4, c4, RV4, rfl, hG4, hb4⟩
          have hlen4 : (rows ++ [[((at_ : Int) + 1), ((at_ : Int) + 1 + ((K - 1 : Nat) : Int) / 2)]] ++ binL f (fstL s.data.toList) (at_ + 1)).length + (s.size - K - 1) ≤ 50 := by
            rw [List.length_append, List.length_append, HLB.out, HLL.out]; simp; omega
          obtain ⟨M, hM⟩ : ∃ M, M = rows ++ [[((at_ : Int) + 1), ((at_ : Int) + 1 + ((K - 1 : Nat) : Int) / 2)]] ++ binL f (fstL s.data.toList) (at_ + 1) := ⟨_, rfl⟩
          rw [← hM] at hG4 hlen4 ⊢
          have hb4' := HB3.out.trans (hb4.mono hz3')
          have J2 := Lib.hid (I2.out g4 c4 RV4 M w4 hlen4 (by have := hb4.size; omega) (Lib.hid hG4))
          have HB4 := Lib.hid hb4'
          have hz4 := hb4'.size
          have HM := Lib.hid hM
          clear hG4 hb4 hb4' hlen4 hM J1
          go_wp2_with fail
          refine J2.out.mono ?_
          rintro e2 w5 ⟨g5, c5, RV5, rfl, hG5, hb5⟩
          have hfin : rows ++ binL (f + 1) s.data.toList at_ = M ++ binL f (rstL s.data.toList) (at_ + 1 + (K - 1) / 2) := by
            rw [e.out, HM.out]; simp
          have HB5 := Lib.hid (HB4.out.trans (hb5.mono hz4))
          obtain ⟨M2, hM2⟩ : ∃ M2, M2 = M ++ binL f (rstL s.data.toList) (at_ + 1 + (K - 1) / 2) := ⟨_, rfl⟩
          rw [← hM2] at hG5 hfin ⊢
          have HG5 := Lib.hid hG5
          have HF := Lib.hid hfin
          clear hG5 hb5 hM2 hfin J2
          go_wp2
          go_ret
          rw [HF.out]
          exact ⟨g5, c5, RV5, rfl, HG5.out, HB5.out⟩
end Go.Proofs.Ytmlcbeekimiaiaa
