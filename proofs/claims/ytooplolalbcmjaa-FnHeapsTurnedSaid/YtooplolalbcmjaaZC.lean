/-
  The contracts of the model's functions on words as two-armed trees.
  The contracts of the model's functions on words as two-armed trees and as cut polygons, for whatever text.
  The contract of the model's function that gives numbers behind a stack.
  The contracts of the model's functions that answer a word's arms, its triangles and its row behind a stack.
-/
import Derived.Test.YtooplolalbcmjaaZV
import Derived.Test.YtooplolalbcmjaaZFM
import Derived.Test.YtooplolalbcmjaaWPairs
import Derived.Test.YtooplolalbcmjaaZW
import Derived.Test.YtooplolalbcmjaaCDepths
namespace Go.Proofs.Ytooplolalbcmjaa
open Go.RowKit

theorem of_scan {l : List UInt8} (h : scan l = some 0) (h18 : l.length ≤ 18) : valid l = true := by simp [valid, h, h18]

set_option maxHeartbeats 800000 in
theorem closing_any (s : ByteArray) (hv : valid s.data.toList = true) (hne : 0 < s.size) (w : World) :
    Calls Try.prog 92 #[.string s] w fun e w' => e = .returned (.int .i64 (cl 0 s.data.toList - 1 : Nat)) ∧ w = w' := by
  have h18 : s.size ≤ 18 := (valid_scan hv).2
  have HV := Lib.hid hv
  clear hv
  go_enter Try.func92, Try.ntmps92
  go_wp2
  go_loop [3, 4] (fun a b => ∃ k o : Nat, k ≤ s.size ∧ o ≤ k ∧ (k = 0 ∨ 0 < o) ∧ a = .int .i64 o ∧ b = .int .i64 k ∧ Hid (scan (s.data.toList.take k) = some o) ∧ Hid (cl 0 s.data.toList = k + cl o (s.data.toList.drop k))) (fun _ b => s.size - (intOf b).toNat)
  case atStart => exact ⟨0, 0, Nat.zero_le _, Nat.le_refl _, .inl rfl, rfl, rfl, rfl, by show _ = _; simp⟩
  case round =>
    obtain ⟨k, o, hk, hok, hko, rfl, rfl, HS, HC⟩ := hrel
    by_cases hlt : k < s.size
    · have hd : s.data.toList.drop k = s[k] :: s.data.toList.drop (k + 1) := by
        rw [List.drop_eq_getElem_cons (by rw [size_list]; exact hlt), get_list s k hlt]
      have hc0 := HC.out
      rw [hd] at hc0
      have b1 : (k : Int) < (s.size : Int) := by omega
      rcases valid_byte HV.out k hlt with hc | hc
      · have hcp : ((s[k].toNat : Int) == 40) = true := by rw [hc]; rfl
        have N := Lib.hid (scan_opn hlt HS.out hcp)
        have q0 : ((o : Int) + 1 == 0) = false := beq_false_of_ne (by omega)
        rw [cl_opn o _ _ hc] at hc0
        have M : Hid (cl 0 s.data.toList = k + 1 + cl (o + 1) (s.data.toList.drop (k + 1))) := by show _ = _; omega
        clear hd hc0 HC HS hc
        go_wp2
        go_round
        case rel => exact ⟨k + 1, o + 1, by omega, by omega, .inr (by omega), by go_num, by go_num, N, M⟩
        case measure => simp [intOf]; omega
      · have hcp : ((s[k].toNat : Int) == 40) = false := by rw [hc]; rfl
        have hcq : ((s[k].toNat : Int) == 41) = true := by rw [hc]; rfl
        have ho : 0 < o := by
          obtain ⟨q, hq⟩ := valid_take HV.out (k + 1)
          rw [scan_next hlt HS.out] at hq
          apply Classical.byContradiction
          intro e
          obtain rfl : o = 0 := by omega
          simp [vstep, hc] at hq
        have N := Lib.hid (scan_cls hlt HS.out hcq ho)
        by_cases h1 : o = 1
        · subst h1
          rw [cl_last 1 _ _ (by omega) (by omega)] at hc0
          have M := Lib.hid hc0
          clear hd hc0 HC HS hc hcq
          go_wp2
          go_ret
          exact ⟨by rw [M.out]; rfl, rfl⟩
        · have q0 : ((o : Int) - 1 == 0) = false := beq_false_of_ne (by omega)
          rw [cl_cls o _ _ (by omega) (by omega)] at hc0
          have M : Hid (cl 0 s.data.toList = k + 1 + cl (o - 1) (s.data.toList.drop (k + 1))) := by show _ = _; omega
          clear hd hc0 HC HS hc hcq
          go_wp2
          go_round
          case rel => exact ⟨k + 1, o - 1, by omega, by omega, .inr (by omega), by go_num, by go_num, N, M⟩
          case measure => simp [intOf]; omega
    · exfalso
      have e := HS.out
      rw [List.take_of_length_le (by rw [size_list]; omega), (valid_scan HV.out).1] at e
      have : o = 0 := (Option.some.inj e).symm
      omega

theorem Try.infoRowF : (Try.prog.info? 23).map (fun i => (i.zero, i.size, i.bytes)) = some (some (.slice none 0 0), 1, 24) := by kernel_rfl
theorem extract_list (s : ByteArray) (a b : Nat) : (s.extract a b).data.toList = (s.data.toList.drop a).take (b - a) := by
  rw [ByteArray.data_extract]; simp [List.extract_eq_take_drop]
/-- a list of rows, new or handed on -/
def GridOut (B : Nat) (rows : List (List Int)) (w : World) (e : Ending) (w' : World) : Prop :=
  ∃ g c RV, e = .returned (.slice (some ⟨g, 0, none⟩) rows.length c) ∧ Grid w' B w'.heap.size (.slice (some ⟨g, 0, none⟩) rows.length c) RV rows ∧ Below w.heap.size w w'

theorem own_some3 {w : World} {B n : Nat} {t : TypeId} {v : Value} {xs : List Value} (h : w.ownsRow B t 1 v n xs) (hv : v ≠ .slice none 0 0) : ∃ g cap, v = .slice (some ⟨g, 0, none⟩) n cap := by
  rcases h.2 with ⟨h0, _⟩ | ⟨g, cap, cur, h1, _⟩
  · exact absurd h0 hv
  · exact ⟨g, cap, h1⟩
theorem lit_own2 (w : World) (cs : Array Value) (t : TypeId) (hm : cs.size ≤ maxLen) : Own (w.alloc (.cells cs t)) w.heap.size (w.heap.size + 1) t (.slice (some ⟨w.heap.size, 0, none⟩) cs.size cs.size) cs.toList := by
  have := World.ownsRow_lit (base := w.heap.size) (e := t) (size := 1) w cs cs.size (Nat.le_refl _) hm (by omega)
  exact ⟨by rw [Array.length_toList]; exact this, fun g hg => by simp [Value.ownBlock] at hg; omega⟩

set_option maxHeartbeats 3200000 in
theorem binFrom_any (B : Nat) : ∀ (f : Nat) (s : ByteArray) (at_ : Nat) (g c : Nat) (RV : List Value) (rows : List (List Int)) (w : World), s.size ≤ f → valid s.data.toList = true → rows.length + s.size ≤ 50 → at_ + s.size ≤ 50 → B ≤ w.heap.size →
    Hid (Grid w B w.heap.size (.slice (some ⟨g, 0, none⟩) rows.length c) RV rows) →
    Calls Try.prog 71 #[.string s, .slice (some ⟨g, 0, none⟩) rows.length c, .int .i64 at_] w (GridOut B (rows ++ binL f s.data.toList at_) w) := by
  obtain ⟨i0, hi, hz0, hz1, hz2⟩ := info_parts Try.infoRowF
  intro f
  induction f with
  | zero =>
    intro s at_ g c RV rows w hf hv hr ha hB HG
    have e : binL 0 s.data.toList at_ = [] := rfl
    rw [e, List.append_nil]
    have hs0 : s = ⟨#[]⟩ := bytes_ext (by rw [List.eq_nil_of_length_eq_zero (show s.data.toList.length = 0 by rw [size_list]; omega)])
    subst hs0
    clear hv e
    go_enter Try.func71, Try.ntmps71
    go_wp2
    go_ret
    exact ⟨g, c, RV, rfl, HG.out, Below.refl _ _⟩
  | succ f ih =>
    intro s at_ g c RV rows w hf hv hr ha hB HG
    by_cases hs : s.size = 0
    · have hs0 : s = ⟨#[]⟩ := bytes_ext (by rw [List.eq_nil_of_length_eq_zero (show s.data.toList.length = 0 by rw [size_list]; omega)])
      subst hs0
      have e : binL (f + 1) (ByteArray.mk #[]).data.toList at_ = [] := binL_nil _ _
      rw [e, List.append_nil]
      clear hv e ih
      go_enter Try.func71, Try.ntmps71
      go_wp2
      go_ret
      exact ⟨g, c, RV, rfl, HG.out, Below.refl _ _⟩
    · have hne : s.data.toList ≠ [] := fun e => hs (by rw [← size_list, e]; rfl)
      have h18 : s.size ≤ 18 := (valid_scan hv).2
      obtain ⟨k1, k2, k3, k4, k5, k6⟩ := parts_ok (valid_scan hv).1 hne
      rw [size_list] at k2 k6
      have cc := fun w => closing_any s hv (by omega) w
      obtain ⟨K, hK⟩ : ∃ K, K = cl 0 s.data.toList - 1 := ⟨_, rfl⟩
      rw [← hK] at cc
      have eL : (s.extract 1 K).data.toList = fstL s.data.toList := by rw [extract_list, fstL]; congr 1; omega
      have eR : (s.extract (K + 1) s.size).data.toList = rstL s.data.toList := by
        rw [extract_list, rstL, show K + 1 = cl 0 s.data.toList by omega, List.take_of_length_le (by simp)]
      have lL : (fstL s.data.toList).length = K - 1 := by omega
      have sL : (s.extract 1 K).size = K - 1 := by rw [← size_list, eL, lL]
      have sR : (s.extract (K + 1) s.size).size + K + 1 = s.size := by rw [← size_list, eR]; omega
      have i1 : ∀ g c RV (rows : List (List Int)) w, rows.length + (K - 1) ≤ 50 → B ≤ w.heap.size → Hid (Grid w B w.heap.size (.slice (some ⟨g, 0, none⟩) rows.length c) RV rows) →
          Calls Try.prog 71 #[.string (s.extract 1 K), .slice (some ⟨g, 0, none⟩) rows.length c, .int .i64 ((at_ : Int) + 1)] w (GridOut B (rows ++ binL f (fstL s.data.toList) (at_ + 1)) w) := fun g c RV rows w h1 h2 h3 => by
        have := ih (s.extract 1 K) (at_ + 1) g c RV rows w (by omega) (by rw [eL]; exact of_scan k3 (by omega)) (by omega) (by omega) h2 h3
        rw [eL] at this
        exact this
      have i2 : ∀ g c RV (rows : List (List Int)) w, rows.length + (s.size - K - 1) ≤ 50 → B ≤ w.heap.size → Hid (Grid w B w.heap.size (.slice (some ⟨g, 0, none⟩) rows.length c) RV rows) →
          Calls Try.prog 71 #[.string (s.extract (K + 1) s.size), .slice (some ⟨g, 0, none⟩) rows.length c, .int .i64 ((at_ : Int) + 1 + ((K - 1 : Nat) : Int) / 2)] w (GridOut B (rows ++ binL f (rstL s.data.toList) (at_ + 1 + (K - 1) / 2)) w) := fun g c RV rows w h1 h2 h3 => by
        have := ih (s.extract (K + 1) s.size) (at_ + 1 + (K - 1) / 2) g c RV rows w (by omega) (by rw [eR]; exact of_scan k4 (by omega)) (by omega) (by omega) h2 h3
        rw [eR] at this
        rw [show ((at_ : Int) + 1 + ((K - 1 : Nat) : Int) / 2) = ((at_ + 1 + (K - 1) / 2 : Nat) : Int) by omega]
        exact this
      have C := Lib.hid cc
      have I1 := Lib.hid i1
      have I2 := Lib.hid i2
      have b1 : (1 : Int) ≤ (K : Int) := by omega
      have b2 : (K : Int) ≤ (s.size : Int) := by omega
      have b3 : (K : Int) + 1 ≤ (s.size : Int) := by omega
      have hmin : min K s.size = K := by omega
      have q0 : s.toList.isEmpty = false := by rw [ByteArray.toList_eq]; simpa using hne
      have hLL : (fstL s.data.toList).length / 2 = (K - 1) / 2 := by rw [lL]
      have HLL := Lib.hid lL
      have HNE := Lib.hid hne
      have hKs : K + 1 ≤ s.size := by omega
      have hlb := binL_length f (fstL s.data.toList) (at_ + 1) k3 (by omega)
      have HLB := Lib.hid hlb
      have eLe : (s.extract 1 K).toList.isEmpty = (fstL s.data.toList).isEmpty := by rw [ByteArray.toList_eq, eL]
      have eRe : (s.extract (K + 1) s.size).toList.isEmpty = (rstL s.data.toList).isEmpty := by rw [ByteArray.toList_eq, eR]
      have HLE := Lib.hid eLe
      have HRE := Lib.hid eRe
      clear cc hK ih hs i1 i2 eL eR lL sL sR k1 k2 k3 k4 k5 k6 hv hLL hlb eLe eRe
      by_cases hf1 : fstL s.data.toList = []
      · have HLF := Lib.hid hf1
        have q1 : (s.extract 1 K).toList.isEmpty = true := by rw [HLE.out, hf1]; rfl
        by_cases hf2 : rstL s.data.toList = []
        · have HRF := Lib.hid hf2
          have q2 : (s.extract (K + 1) s.size).toList.isEmpty = true := by rw [HRE.out, hf2]; rfl
          clear hf1 hf2 HLE HRE hne
          have e := Lib.hid (show binL (f + 1) s.data.toList at_ = [(-1), (-1)] :: (binL f (fstL s.data.toList) (at_ + 1) ++ binL f (rstL s.data.toList) (at_ + 1 + (K - 1) / 2)) by
            rw [binL_cons _ _ _ HNE.out, HLL.out, if_pos HLF.out, if_pos HRF.out])
          have hG1 : Grid ((w.alloc (.cells #[.int .i64 (-1), .int .i64 (-1)] 3)).alloc (.cells #[] 23)) B w.heap.size (.slice (some ⟨g, 0, none⟩) rows.length c) RV rows := HG.out.below (((Below.refl _ w).alloc (Nat.le_refl _) _).alloc (by simp) _)
          have hl1 : (((w.alloc (.cells #[.int .i64 (-1), .int .i64 (-1)] 3)).alloc (.cells #[] 23))).ownsRow w.heap.size 23 1 (.slice (some ⟨w.heap.size + 1, 0, none⟩) 0 0) 0 [] := by
            have := World.ownsRow_lit (base := w.heap.size) (e := 23) (size := 1) (w.alloc (.cells #[.int .i64 (-1), .int .i64 (-1)] 3)) #[] 0 (by simp) (by decide) rfl
            simpa using this
          have hro : Own ((w.alloc (.cells #[.int .i64 (-1), .int .i64 (-1)] 3)).alloc (.cells #[] 23)) B (w.heap.size + 2) 3 (.slice (some ⟨w.heap.size, 0, none⟩) 2 2) (iv [(-1), (-1)]) :=
            ((own_lo (lit_own2 w #[.int .i64 (-1), .int .i64 (-1)] 3 (by show (2 : Nat) ≤ maxLen; unfold maxLen; omega)) hB).alloc _).more (by omega)
          have hb1 : Below w.heap.size w ((w.alloc (.cells #[.int .i64 (-1), .int .i64 (-1)] 3)).alloc (.cells #[] 23)) := ((Below.refl _ w).alloc (Nat.le_refl _) _).alloc (by simp) _
          have hs1 : w.heap.size ≤ (((w.alloc (.cells #[.int .i64 (-1), .int .i64 (-1)] 3)).alloc (.cells #[] 23))).heap.size := by simp; omega
          have hz1' : w.heap.size + 2 = (((w.alloc (.cells #[.int .i64 (-1), .int .i64 (-1)] 3)).alloc (.cells #[] 23))).heap.size := by simp
          have HS1 := Lib.hid hs1
          have HZ1 := Lib.hid hz1'
          have x1 : RV.length = rows.length * 1 := by rw [hG1.2.1, Nat.mul_one]
          have hown := hG1.1.1
          rw [hG1.2.1] at hown
          have x2 := hown.cells (g := g) rfl
          have hone : ∀ u ∈ RV, u.oneCell' = true := by
            intro u hu
            obtain ⟨i, hi, rfl⟩ := List.getElem_of_mem hu
            obtain ⟨ao, cap, hv', _⟩ := (hG1.2.2 i _ _ (List.getElem?_eq_getElem hi) (List.getElem?_eq_getElem (by rw [← hG1.2.1]; exact hi))).slice
            rw [hv']; rfl
          have x3 : 0 + rows.length ≤ maxLen := by unfold maxLen; omega
          have x4 : (0 + rows.length) * 24 ≤ 140737488355328 := by omega
          have X1 := Lib.hid x1
          have X2 := Lib.hid x2
          have HG1 := Lib.hid hG1
          have HL1 := Lib.hid hl1
          have HRO := Lib.hid hro
          have HB1 := Lib.hid hb1
          clear x1 x2 hown hG1 hro hb1 hl1 hs1 hz1'
          go_enter Try.func71, Try.ntmps71
          go_wp2_with fail
          refine (C.out _).mono ?_
          rintro e0 w1 ⟨rfl, rfl⟩
          go_wp2_with (at_builtin; refine wpList_append_own _ rfl (.tmp 41) (.tmp 42) 33 rfl w.heap.size 23 i0 (.slice none 0 0) 1 24 Try.underlying33 hi hz0 hz1 hz2 rfl (by decide) _ 0 [] rfl HL1.out ⟨g, 0, none⟩ rows.length c RV rfl X1.out X2.out hone x3 x4 HS1.out ?_)
          intro v2 w2 hv2 hg2 hn2
          obtain ⟨g2, c2, rfl⟩ := own_some3 hv2 hn2
          have b2 : Below w.heap.size ((w.alloc (.cells #[.int .i64 (-1), .int .i64 (-1)] 3)).alloc (.cells #[] 23)) w2 := (Below.refl _ _).grown hg2 (by rw [← HZ1.out]; omega) (fun q hq => by simp [Value.ownBlock] at hq; omega)
          have hr2 := HG1.out.2.below b2
          have ho2 := HRO.out.grown hg2 (.inr (by simp [Value.ownBlock]))
          have hz2' : w.heap.size + 2 ≤ w2.heap.size := by have := hg2.size; have := HZ1.out; omega
          have HB2 := Lib.hid (HB1.out.trans b2)
          have HR2 := Lib.hid hr2
          have HO2 := Lib.hid ho2
          have HV2 := Lib.hid hv2
          have y3 : rows.length + 1 ≤ maxLen := by unfold maxLen; omega
          have y4 : (rows.length + 1) * 24 ≤ 140737488355328 := by omega
          have y5 : w.heap.size ≤ (w2.alloc (.cells #[.slice (some ⟨w.heap.size, 0, none⟩) 2 2] 23)).heap.size := by simp; omega
          have Y5 := Lib.hid y5
          clear hg2 hn2 b2 hr2 ho2 hv2 y5 HG1 HL1 HRO HB1 X1 X2 HS1 HZ1 x3 x4
          go_wp2_with (at_builtin; refine wpList_append_own _ rfl (.tmp 43) (.tmp 45) 33 rfl w.heap.size 23 i0 (.slice none 0 0) 1 24 Try.underlying33 hi hz0 hz1 hz2 rfl (by decide) _ rows.length RV rfl (HV2.out.alloc _) ⟨w2.heap.size, 0, none⟩ 1 1 [.slice (some ⟨w.heap.size, 0, none⟩) 2 2] rfl rfl ?c1 ?c2 y3 y4 Y5.out ?_)
          case c1 => exact cell_one_new _ _ _
          case c2 => intro u hu; simp at hu; subst hu; rfl
          intro v3 w3 hv3 hg3 hn3
          obtain ⟨g3, c3, rfl⟩ := own_some3 hv3 hn3
          have hD : Own (w2.alloc (.cells #[.slice (some ⟨w.heap.size, 0, none⟩) 2 2] 23)) w.heap.size (w2.alloc (.cells #[.slice (some ⟨w.heap.size, 0, none⟩) 2 2] 23)).heap.size 23 (.slice (some ⟨g2, 0, none⟩) rows.length c2) RV := by
            have h1 := HV2.out.alloc (.cells #[.slice (some ⟨w.heap.size, 0, none⟩) 2 2] 23)
            have hl : RV.length = rows.length := HR2.out.1
            exact ⟨by rw [hl]; exact h1, fun q hq => (h1.lt q hq).2⟩
          have hz3 := hg3.size
          have hr3 : RowsI w3 B w3.heap.size (RV ++ [.slice (some ⟨w.heap.size, 0, none⟩) 2 2]) (rows ++ [[(-1), (-1)]]) := by
            have r1 := (HR2.out.below ((Below.refl w.heap.size w2).alloc (by omega) (.cells #[.slice (some ⟨w.heap.size, 0, none⟩) 2 2] 23))).grown hD (by decide) hg3
            have r2 := ((HO2.out.alloc (.cells #[.slice (some ⟨w.heap.size, 0, none⟩) 2 2] 23)).grown hg3 ((HO2.out.alloc _).ne hD (by decide)))
            simp only [World.size_alloc] at hz3
            exact (r1.more (by omega)).append (RowsI.one (r2.more (by omega)))
          have hl3 : (rows ++ [([(-1), (-1)] : List Int)]).length = rows.length + 1 := by simp
          have hl4 : (RV ++ [Value.slice (some ⟨w.heap.size, 0, none⟩) 2 2]).length = rows.length + 1 := by simp [HR2.out.1]
          have hG3 : Grid w3 B w3.heap.size (.slice (some ⟨g3, 0, none⟩) (rows ++ [[(-1), (-1)]]).length c3) (RV ++ [.slice (some ⟨w.heap.size, 0, none⟩) 2 2]) (rows ++ [[(-1), (-1)]]) :=
            ⟨own_lo (Own.of_own (B := w.heap.size) (by rw [hl3, hl4]; exact hv3)) hB, hr3⟩
          have hb3 : Below w.heap.size w w3 := (HB2.out.alloc (by omega) _).grown hg3 (by simp; omega) (fun q hq => (HV2.out.lt q hq).1)
          have hz3' : w.heap.size ≤ w3.heap.size := hb3.size
          have j1 := I1.out g3 c3 _ _ w3 (by simp; omega) (by omega) (Lib.hid hG3)
          rw [hl3] at j1
          have J1 := Lib.hid j1
          have HB3 := Lib.hid hb3
          clear hl3 hl4 hD hr3 hG3 hb3 hg3 hv3 hn3 j1 HB2 HR2 HO2 HV2 y3 y4 Y5 hz3 hz2'
          go_wp2_with fail
          refine J1.out.mono ?_
          rintro e1 w4 ⟨g4, c4, RV4, rfl, hG4, hb4⟩
          have hlen4 : (rows ++ [[(-1), (-1)]] ++ binL f (fstL s.data.toList) (at_ + 1)).length + (s.size - K - 1) ≤ 50 := by
            rw [List.length_append, List.length_append, HLB.out, HLL.out]; simp; omega
          obtain ⟨M, hM⟩ : ∃ M, M = rows ++ [[(-1), (-1)]] ++ binL f (fstL s.data.toList) (at_ + 1) := ⟨_, rfl⟩
          rw [← hM] at hG4 hlen4 ⊢
          have hb4' := HB3.out.trans (hb4.mono hz3')
          have J2 := Lib.hid (I2.out g4 c4 RV4 M w4 hlen4 (by have := hb4.size; omega) (Lib.hid hG4))
          have HB4 := Lib.hid hb4'
          have hz4 := hb4'.size
          have HM := Lib.hid hM
          clear hG4 hb4 hb4' hlen4 hM J1
          go_wp2_with fail
          refine J2.out.mono ?_
          rintro e2 w5 ⟨g5, c5, RV5, rfl, hG5, hb5⟩
          have hfin : rows ++ binL (f + 1) s.data.toList at_ = M ++ binL f (rstL s.data.toList) (at_ + 1 + (K - 1) / 2) := by
            rw [e.out, HM.out]; simp
          have HB5 := Lib.hid (HB4.out.trans (hb5.mono hz4))
          obtain ⟨M2, hM2⟩ : ∃ M2, M2 = M ++ binL f (rstL s.data.toList) (at_ + 1 + (K - 1) / 2) := ⟨_, rfl⟩
          rw [← hM2] at hG5 hfin ⊢
          have HG5 := Lib.hid hG5
          have HF := Lib.hid hfin
          clear hG5 hb5 hM2 hfin J2
          go_wp2
          go_ret
          rw [HF.out]
          exact ⟨g5, c5, RV5, rfl, HG5.out, HB5.out⟩
        · have HRF := Lib.hid hf2
          have q2 : (s.extract (K + 1) s.size).toList.isEmpty = false := by rw [HRE.out]; simpa using hf2
          clear hf1 hf2 HLE HRE hne
          have e := Lib.hid (show binL (f + 1) s.data.toList at_ = [(-1), ((at_ : Int) + 1 + ((K - 1 : Nat) : Int) / 2)] :: (binL f (fstL s.data.toList) (at_ + 1) ++ binL f (rstL s.data.toList) (at_ + 1 + (K - 1) / 2)) by
            rw [binL_cons _ _ _ HNE.out, HLL.out, if_pos HLF.out, if_neg HRF.out, show (((K - 1) / 2 : Nat) : Int) = ((K - 1 : Nat) : Int) / 2 by omega])
          have hG1 : Grid ((w.alloc (.cells #[.int .i64 (-1), .int .i64 ((at_ : Int) + 1 + ((K - 1 : Nat) : Int) / 2)] 3)).alloc (.cells #[] 23)) B w.heap.size (.slice (some ⟨g, 0, none⟩) rows.length c) RV rows := HG.out.below (((Below.refl _ w).alloc (Nat.le_refl _) _).alloc (by simp) _)
          have hl1 : (((w.alloc (.cells #[.int .i64 (-1), .int .i64 ((at_ : Int) + 1 + ((K - 1 : Nat) : Int) / 2)] 3)).alloc (.cells #[] 23))).ownsRow w.heap.size 23 1 (.slice (some ⟨w.heap.size + 1, 0, none⟩) 0 0) 0 [] := by
            have := World.ownsRow_lit (base := w.heap.size) (e := 23) (size := 1) (w.alloc (.cells #[.int .i64 (-1), .int .i64 ((at_ : Int) + 1 + ((K - 1 : Nat) : Int) / 2)] 3)) #[] 0 (by simp) (by decide) rfl
            simpa using this
          have hro : Own ((w.alloc (.cells #[.int .i64 (-1), .int .i64 ((at_ : Int) + 1 + ((K - 1 : Nat) : Int) / 2)] 3)).alloc (.cells #[] 23)) B (w.heap.size + 2) 3 (.slice (some ⟨w.heap.size, 0, none⟩) 2 2) (iv [(-1), ((at_ : Int) + 1 + ((K - 1 : Nat) : Int) / 2)]) :=
            ((own_lo (lit_own2 w #[.int .i64 (-1), .int .i64 ((at_ : Int) + 1 + ((K - 1 : Nat) : Int) / 2)] 3 (by show (2 : Nat) ≤ maxLen; unfold maxLen; omega)) hB).alloc _).more (by omega)
          have hb1 : Below w.heap.size w ((w.alloc (.cells #[.int .i64 (-1), .int .i64 ((at_ : Int) + 1 + ((K - 1 : Nat) : Int) / 2)] 3)).alloc (.cells #[] 23)) := ((Below.refl _ w).alloc (Nat.le_refl _) _).alloc (by simp) _
          have hs1 : w.heap.size ≤ (((w.alloc (.cells #[.int .i64 (-1), .int .i64 ((at_ : Int) + 1 + ((K - 1 : Nat) : Int) / 2)] 3)).alloc (.cells #[] 23))).heap.size := by simp; omega
          have hz1' : w.heap.size + 2 = (((w.alloc (.cells #[.int .i64 (-1), .int .i64 ((at_ : Int) + 1 + ((K - 1 : Nat) : Int) / 2)] 3)).alloc (.cells #[] 23))).heap.size := by simp
          have HS1 := Lib.hid hs1
          have HZ1 := Lib.hid hz1'
          have x1 : RV.length = rows.length * 1 := by rw [hG1.2.1, Nat.mul_one]
          have hown := hG1.1.1
          rw [hG1.2.1] at hown
          have x2 := hown.cells (g := g) rfl
          have hone : ∀ u ∈ RV, u.oneCell' = true := by
            intro u hu
            obtain ⟨i, hi, rfl⟩ := List.getElem_of_mem hu
            obtain ⟨ao, cap, hv', _⟩ := (hG1.2.2 i _ _ (List.getElem?_eq_getElem hi) (List.getElem?_eq_getElem (by rw [← hG1.2.1]; exact hi))).slice
            rw [hv']; rfl
          have x3 : 0 + rows.length ≤ maxLen := by unfold maxLen; omega
          have x4 : (0 + rows.length) * 24 ≤ 140737488355328 := by omega
          have X1 := Lib.hid x1
          have X2 := Lib.hid x2
          have HG1 := Lib.hid hG1
          have HL1 := Lib.hid hl1
          have HRO := Lib.hid hro
          have HB1 := Lib.hid hb1
          clear x1 x2 hown hG1 hro hb1 hl1 hs1 hz1'
          go_enter Try.func71, Try.ntmps71
          go_wp2_with fail
          refine (C.out _).mono ?_
          rintro e0 w1 ⟨rfl, rfl⟩
          go_wp2_with (at_builtin; refine wpList_append_own _ rfl (.tmp 41) (.tmp 42) 33 rfl w.heap.size 23 i0 (.slice none 0 0) 1 24 Try.underlying33 hi hz0 hz1 hz2 rfl (by decide) _ 0 [] rfl HL1.out ⟨g, 0, none⟩ rows.length c RV rfl X1.out X2.out hone x3 x4 HS1.out ?_)
          intro v2 w2 hv2 hg2 hn2
          obtain ⟨g2, c2, rfl⟩ := own_some3 hv2 hn2
          have b2 : Below w.heap.size ((w.alloc (.cells #[.int .i64 (-1), .int .i64 ((at_ : Int) + 1 + ((K - 1 : Nat) : Int) / 2)] 3)).alloc (.cells #[] 23)) w2 := (Below.refl _ _).grown hg2 (by rw [← HZ1.out]; omega) (fun q hq => by simp [Value.ownBlock] at hq; omega)
          have hr2 := HG1.out.2.below b2
          have ho2 := HRO.out.grown hg2 (.inr (by simp [Value.ownBlock]))
          have hz2' : w.heap.size + 2 ≤ w2.heap.size := by have := hg2.size; have := HZ1.out; omega
          have HB2 := Lib.hid (HB1.out.trans b2)
          have HR2 := Lib.hid hr2
          have HO2 := Lib.hid ho2
          have HV2 := Lib.hid hv2
          have y3 : rows.length + 1 ≤ maxLen := by unfold maxLen; omega
          have y4 : (rows.length + 1) * 24 ≤ 140737488355328 := by omega
          have y5 : w.heap.size ≤ (w2.alloc (.cells #[.slice (some ⟨w.heap.size, 0, none⟩) 2 2] 23)).heap.size := by simp; omega
          have Y5 := Lib.hid y5
          clear hg2 hn2 b2 hr2 ho2 hv2 y5 HG1 HL1 HRO HB1 X1 X2 HS1 HZ1 x3 x4
          go_wp2_with (at_builtin; refine wpList_append_own _ rfl (.tmp 43) (.tmp 45) 33 rfl w.heap.size 23 i0 (.slice none 0 0) 1 24 Try.underlying33 hi hz0 hz1 hz2 rfl (by decide) _ rows.length RV rfl (HV2.out.alloc _) ⟨w2.heap.size, 0, none⟩ 1 1 [.slice (some ⟨w.heap.size, 0, none⟩) 2 2] rfl rfl ?c1 ?c2 y3 y4 Y5.out ?_)
          case c1 => exact cell_one_new _ _ _
          case c2 => intro u hu; simp at hu; subst hu; rfl
          intro v3 w3 hv3 hg3 hn3
          obtain ⟨g3, c3, rfl⟩ := own_some3 hv3 hn3
          have hD : Own (w2.alloc (.cells #[.slice (some ⟨w.heap.size, 0, none⟩) 2 2] 23)) w.heap.size (w2.alloc (.cells #[.slice (some ⟨w.heap.size, 0, none⟩) 2 2] 23)).heap.size 23 (.slice (some ⟨g2, 0, none⟩) rows.length c2) RV := by
            have h1 := HV2.out.alloc (.cells #[.slice (some ⟨w.heap.size, 0, none⟩) 2 2] 23)
            have hl : RV.length = rows.length := HR2.out.1
            exact ⟨by rw [hl]; exact h1, fun q hq => (h1.lt q hq).2⟩
          have hz3 := hg3.size
          have hr3 : RowsI w3 B w3.heap.size (RV ++ [.slice (some ⟨w.heap.size, 0, none⟩) 2 2]) (rows ++ [[(-1), ((at_ : Int) + 1 + ((K - 1 : Nat) : Int) / 2)]]) := by
            have r1 := (HR2.out.below ((Below.refl w.heap.size w2).alloc (by omega) (.cells #[.slice (some ⟨w.heap.size, 0, none⟩) 2 2] 23))).grown hD (by decide) hg3
            have r2 := ((HO2.out.alloc (.cells #[.slice (some ⟨w.heap.size, 0, none⟩) 2 2] 23)).grown hg3 ((HO2.out.alloc _).ne hD (by decide)))
            simp only [World.size_alloc] at hz3
            exact (r1.more (by omega)).append (RowsI.one (r2.more (by omega)))
          have hl3 : (rows ++ [([(-1), ((at_ : Int) + 1 + ((K - 1 : Nat) : Int) / 2)] : List Int)]).length = rows.length + 1 := by simp
          have hl4 : (RV ++ [Value.slice (some ⟨w.heap.size, 0, none⟩) 2 2]).length = rows.length + 1 := by simp [HR2.out.1]
          have hG3 : Grid w3 B w3.heap.size (.slice (some ⟨g3, 0, none⟩) (rows ++ [[(-1), ((at_ : Int) + 1 + ((K - 1 : Nat) : Int) / 2)]]).length c3) (RV ++ [.slice (some ⟨w.heap.size, 0, none⟩) 2 2]) (rows ++ [[(-1), ((at_ : Int) + 1 + ((K - 1 : Nat) : Int) / 2)]]) :=
            ⟨own_lo (Own.of_own (B := w.heap.size) (by rw [hl3, hl4]; exact hv3)) hB, hr3⟩
          have hb3 : Below w.heap.size w w3 := (HB2.out.alloc (by omega) _).grown hg3 (by simp; omega) (fun q hq => (HV2.out.lt q hq).1)
          have hz3' : w.heap.size ≤ w3.heap.size := hb3.size
          have j1 := I1.out g3 c3 _ _ w3 (by simp; omega) (by omega) (Lib.hid hG3)
          rw [hl3] at j1
          have J1 := Lib.hid j1
          have HB3 := Lib.hid hb3
          clear hl3 hl4 hD hr3 hG3 hb3 hg3 hv3 hn3 j1 HB2 HR2 HO2 HV2 y3 y4 Y5 hz3 hz2'
          go_wp2_with fail
          refine J1.out.mono ?_
          rintro e1 w4 ⟨g4, c4, RV4, rfl, hG4, hb4⟩
          have hlen4 : (rows ++ [[(-1), ((at_ : Int) + 1 + ((K - 1 : Nat) : Int) / 2)]] ++ binL f (fstL s.data.toList) (at_ + 1)).length + (s.size - K - 1) ≤ 50 := by
            rw [List.length_append, List.length_append, HLB.out, HLL.out]; simp; omega
          obtain ⟨M, hM⟩ : ∃ M, M = rows ++ [[(-1), ((at_ : Int) + 1 + ((K - 1 : Nat) : Int) / 2)]] ++ binL f (fstL s.data.toList) (at_ + 1) := ⟨_, rfl⟩
          rw [← hM] at hG4 hlen4 ⊢
          have hb4' := HB3.out.trans (hb4.mono hz3')
          have J2 := Lib.hid (I2.out g4 c4 RV4 M w4 hlen4 (by have := hb4.size; omega) (Lib.hid hG4))
          have HB4 := Lib.hid hb4'
          have hz4 := hb4'.size
          have HM := Lib.hid hM
          clear hG4 hb4 hb4' hlen4 hM J1
          go_wp2_with fail
          refine J2.out.mono ?_
          rintro e2 w5 ⟨g5, c5, RV5, rfl, hG5, hb5⟩
          have hfin : rows ++ binL (f + 1) s.data.toList at_ = M ++ binL f (rstL s.data.toList) (at_ + 1 + (K - 1) / 2) := by
            rw [e.out, HM.out]; simp
          have HB5 := Lib.hid (HB4.out.trans (hb5.mono hz4))
          obtain ⟨M2, hM2⟩ : ∃ M2, M2 = M ++ binL f (rstL s.data.toList) (at_ + 1 + (K - 1) / 2) := ⟨_, rfl⟩
          rw [← hM2] at hG5 hfin ⊢
          have HG5 := Lib.hid hG5
          have HF := Lib.hid hfin
          clear hG5 hb5 hM2 hfin J2
          go_wp2
          go_ret
          rw [HF.out]
          exact ⟨g5, c5, RV5, rfl, HG5.out, HB5.out⟩
      · have HLF := Lib.hid hf1
        have q1 : (s.extract 1 K).toList.isEmpty = false := by rw [HLE.out]; simpa using hf1
        by_cases hf2 : rstL s.data.toList = []
        · have HRF := Lib.hid hf2
          have q2 : (s.extract (K + 1) s.size).toList.isEmpty = true := by rw [HRE.out, hf2]; rfl
          clear hf1 hf2 HLE HRE hne
          have e := Lib.hid (show binL (f + 1) s.data.toList at_ = [((at_ : Int) + 1), (-1)] :: (binL f (fstL s.data.toList) (at_ + 1) ++ binL f (rstL s.data.toList) (at_ + 1 + (K - 1) / 2)) by
            rw [binL_cons _ _ _ HNE.out, HLL.out, if_neg HLF.out, if_pos HRF.out])
          have hG1 : Grid ((w.alloc (.cells #[.int .i64 ((at_ : Int) + 1), .int .i64 (-1)] 3)).alloc (.cells #[] 23)) B w.heap.size (.slice (some ⟨g, 0, none⟩) rows.length c) RV rows := HG.out.below (((Below.refl _ w).alloc (Nat.le_refl _) _).alloc (by simp) _)
          have hl1 : (((w.alloc (.cells #[.int .i64 ((at_ : Int) + 1), .int .i64 (-1)] 3)).alloc (.cells #[] 23))).ownsRow w.heap.size 23 1 (.slice (some ⟨w.heap.size + 1, 0, none⟩) 0 0) 0 [] := by
            have := World.ownsRow_lit (base := w.heap.size) (e := 23) (size := 1) (w.alloc (.cells #[.int .i64 ((at_ : Int) + 1), .int .i64 (-1)] 3)) #[] 0 (by simp) (by decide) rfl
            simpa using this
          have hro : Own ((w.alloc (.cells #[.int .i64 ((at_ : Int) + 1), .int .i64 (-1)] 3)).alloc (.cells #[] 23)) B (w.heap.size + 2) 3 (.slice (some ⟨w.heap.size, 0, none⟩) 2 2) (iv [((at_ : Int) + 1), (-1)]) :=
            ((own_lo (lit_own2 w #[.int .i64 ((at_ : Int) + 1), .int .i64 (-1)] 3 (by show (2 : Nat) ≤ maxLen; unfold maxLen; omega)) hB).alloc _).more (by omega)
          have hb1 : Below w.heap.size w ((w.alloc (.cells #[.int .i64 ((at_ : Int) + 1), .int .i64 (-1)] 3)).alloc (.cells #[] 23)) := ((Below.refl _ w).alloc (Nat.le_refl _) _).alloc (by simp) _
          have hs1 : w.heap.size ≤ (((w.alloc (.cells #[.int .i64 ((at_ : Int) + 1), .int .i64 (-1)] 3)).alloc (.cells #[] 23))).heap.size := by simp; omega
          have hz1' : w.heap.size + 2 = (((w.alloc (.cells #[.int .i64 ((at_ : Int) + 1), .int .i64 (-1)] 3)).alloc (.cells #[] 23))).heap.size := by simp
          have HS1 := Lib.hid hs1
          have HZ1 := Lib.hid hz1'
          have x1 : RV.length = rows.length * 1 := by rw [hG1.2.1, Nat.mul_one]
          have hown := hG1.1.1
          rw [hG1.2.1] at hown
          have x2 := hown.cells (g := g) rfl
          have hone : ∀ u ∈ RV, u.oneCell' = true := by
            intro u hu
            obtain ⟨i, hi, rfl⟩ := List.getElem_of_mem hu
            obtain ⟨ao, cap, hv', _⟩ := (hG1.2.2 i _ _ (List.getElem?_eq_getElem hi) (List.getElem?_eq_getElem (by rw [← hG1.2.1]; exact hi))).slice
            rw [hv']; rfl
          have x3 : 0 + rows.length ≤ maxLen := by unfold maxLen; omega
          have x4 : (0 + rows.length) * 24 ≤ 140737488355328 := by omega
          have X1 := Lib.hid x1
          have X2 := Lib.hid x2
          have HG1 := Lib.hid hG1
          have HL1 := Lib.hid hl1
          have HRO := Lib.hid hro
          have HB1 := Lib.hid hb1
          clear x1 x2 hown hG1 hro hb1 hl1 hs1 hz1'
          go_enter Try.func71, Try.ntmps71
          go_wp2_with fail
          refine (C.out _).mono ?_
          rintro e0 w1 ⟨rfl, rfl⟩
          go_wp2_with (at_builtin; refine wpList_append_own _ rfl (.tmp 41) (.tmp 42) 33 rfl w.heap.size 23 i0 (.slice none 0 0) 1 24 Try.underlying33 hi hz0 hz1 hz2 rfl (by decide) _ 0 [] rfl HL1.out ⟨g, 0, none⟩ rows.length c RV rfl X1.out X2.out hone x3 x4 HS1.out ?_)
          intro v2 w2 hv2 hg2 hn2
          obtain ⟨g2, c2, rfl⟩ := own_some3 hv2 hn2
          have b2 : Below w.heap.size ((w.alloc (.cells #[.int .i64 ((at_ : Int) + 1), .int .i64 (-1)] 3)).alloc (.cells #[] 23)) w2 := (Below.refl _ _).grown hg2 (by rw [← HZ1.out]; omega) (fun q hq => by simp [Value.ownBlock] at hq; omega)
          have hr2 := HG1.out.2.below b2
          have ho2 := HRO.out.grown hg2 (.inr (by simp [Value.ownBlock]))
          have hz2' : w.heap.size + 2 ≤ w2.heap.size := by have := hg2.size; have := HZ1.out; omega
          have HB2 := Lib.hid (HB1.out.trans b2)
          have HR2 := Lib.hid hr2
          have HO2 := Lib.hid ho2
          have HV2 := Lib.hid hv2
          have y3 : rows.length + 1 ≤ maxLen := by unfold maxLen; omega
          have y4 : (rows.length + 1) * 24 ≤ 140737488355328 := by omega
          have y5 : w.heap.size ≤ (w2.alloc (.cells #[.slice (some ⟨w.heap.size, 0, none⟩) 2 2] 23)).heap.size := by simp; omega
          have Y5 := Lib.hid y5
          clear hg2 hn2 b2 hr2 ho2 hv2 y5 HG1 HL1 HRO HB1 X1 X2 HS1 HZ1 x3 x4
          go_wp2_with (at_builtin; refine wpList_append_own _ rfl (.tmp 43) (.tmp 45) 33 rfl w.heap.size 23 i0 (.slice none 0 0) 1 24 Try.underlying33 hi hz0 hz1 hz2 rfl (by decide) _ rows.length RV rfl (HV2.out.alloc _) ⟨w2.heap.size, 0, none⟩ 1 1 [.slice (some ⟨w.heap.size, 0, none⟩) 2 2] rfl rfl ?c1 ?c2 y3 y4 Y5.out ?_)
          case c1 => exact cell_one_new _ _ _
          case c2 => intro u hu; simp at hu; subst hu; rfl
          intro v3 w3 hv3 hg3 hn3
          obtain ⟨g3, c3, rfl⟩ := own_some3 hv3 hn3
          have hD : Own (w2.alloc (.cells #[.slice (some ⟨w.heap.size, 0, none⟩) 2 2] 23)) w.heap.size (w2.alloc (.cells #[.slice (some ⟨w.heap.size, 0, none⟩) 2 2] 23)).heap.size 23 (.slice (some ⟨g2, 0, none⟩) rows.length c2) RV := by
            have h1 := HV2.out.alloc (.cells #[.slice (some ⟨w.heap.size, 0, none⟩) 2 2] 23)
            have hl : RV.length = rows.length := HR2.out.1
            exact ⟨by rw [hl]; exact h1, fun q hq => (h1.lt q hq).2⟩
          have hz3 := hg3.size
          have hr3 : RowsI w3 B w3.heap.size (RV ++ [.slice (some ⟨w.heap.size, 0, none⟩) 2 2]) (rows ++ [[((at_ : Int) + 1), (-1)]]) := by
            have r1 := (HR2.out.below ((Below.refl w.heap.size w2).alloc (by omega) (.cells #[.slice (some ⟨w.heap.size, 0, none⟩) 2 2] 23))).grown hD (by decide) hg3
            have r2 := ((HO2.out.alloc (.cells #[.slice (some ⟨w.heap.size, 0, none⟩) 2 2] 23)).grown hg3 ((HO2.out.alloc _).ne hD (by decide)))
            simp only [World.size_alloc] at hz3
            exact (r1.more (by omega)).append (RowsI.one (r2.more (by omega)))
          have hl3 : (rows ++ [([((at_ : Int) + 1), (-1)] : List Int)]).length = rows.length + 1 := by simp
          have hl4 : (RV ++ [Value.slice (some ⟨w.heap.size, 0, none⟩) 2 2]).length = rows.length + 1 := by simp [HR2.out.1]
          have hG3 : Grid w3 B w3.heap.size (.slice (some ⟨g3, 0, none⟩) (rows ++ [[((at_ : Int) + 1), (-1)]]).length c3) (RV ++ [.slice (some ⟨w.heap.size, 0, none⟩) 2 2]) (rows ++ [[((at_ : Int) + 1), (-1)]]) :=
            ⟨own_lo (Own.of_own (B := w.heap.size) (by rw [hl3, hl4]; exact hv3)) hB, hr3⟩
          have hb3 : Below w.heap.size w w3 := (HB2.out.alloc (by omega) _).grown hg3 (by simp; omega) (fun q hq => (HV2.out.lt q hq).1)
          have hz3' : w.heap.size ≤ w3.heap.size := hb3.size
          have j1 := I1.out g3 c3 _ _ w3 (by simp; omega) (by omega) (Lib.hid hG3)
          rw [hl3] at j1
          have J1 := Lib.hid j1
          have HB3 := Lib.hid hb3
          clear hl3 hl4 hD hr3 hG3 hb3 hg3 hv3 hn3 j1 HB2 HR2 HO2 HV2 y3 y4 Y5 hz3 hz2'
          go_wp2_with fail
          refine J1.out.mono ?_
          rintro e1 w4 ⟨g4, c4, RV4, rfl, hG4, hb4⟩
          have hlen4 : (rows ++ [[((at_ : Int) + 1), (-1)]] ++ binL f (fstL s.data.toList) (at_ + 1)).length + (s.size - K - 1) ≤ 50 := by
            rw [List.length_append, List.length_append, HLB.out, HLL.out]; simp; omega
          obtain ⟨M, hM⟩ : ∃ M, M = rows ++ [[((at_ : Int) + 1), (-1)]] ++ binL f (fstL s.data.toList) (at_ + 1) := ⟨_, rfl⟩
          rw [← hM] at hG4 hlen4 ⊢
          have hb4' := HB3.out.trans (hb4.mono hz3')
          have J2 := Lib.hid (I2.out g4 c4 RV4 M w4 hlen4 (by have := hb4.size; omega) (Lib.hid hG4))
          have HB4 := Lib.hid hb4'
          have hz4 := hb4'.size
          have HM := Lib.hid hM
          clear hG4 hb4 hb4' hlen4 hM J1
          go_wp2_with fail
          refine J2.out.mono ?_
          rintro e2 w5 ⟨g5, c5, RV5, rfl, hG5, hb5⟩
          have hfin : rows ++ binL (f + 1) s.data.toList at_ = M ++ binL f (rstL s.data.toList) (at_ + 1 + (K - 1) / 2) := by
            rw [e.out, HM.out]; simp
          have HB5 := Lib.hid (HB4.out.trans (hb5.mono hz4))
          obtain ⟨M2, hM2⟩ : ∃ M2, M2 = M ++ binL f (rstL s.data.toList) (at_ + 1 + (K - 1) / 2) := ⟨_, rfl⟩
          rw [← hM2] at hG5 hfin ⊢
          have HG5 := Lib.hid hG5
          have HF := Lib.hid hfin
          clear hG5 hb5 hM2 hfin J2
          go_wp2
          go_ret
          rw [HF.out]
          exact ⟨g5, c5, RV5, rfl, HG5.out, HB5.out⟩
        · have HRF := Lib.hid hf2
          have q2 : (s.extract (K + 1) s.size).toList.isEmpty = false := by rw [HRE.out]; simpa using hf2
          clear hf1 hf2 HLE HRE hne
          have e := Lib.hid (show binL (f + 1) s.data.toList at_ = [((at_ : Int) + 1), ((at_ : Int) + 1 + ((K - 1 : Nat) : Int) / 2)] :: (binL f (fstL s.data.toList) (at_ + 1) ++ binL f (rstL s.data.toList) (at_ + 1 + (K - 1) / 2)) by
            rw [binL_cons _ _ _ HNE.out, HLL.out, if_neg HLF.out, if_neg HRF.out, show (((K - 1) / 2 : Nat) : Int) = ((K - 1 : Nat) : Int) / 2 by omega])
          have hG1 : Grid ((w.alloc (.cells #[.int .i64 ((at_ : Int) + 1), .int .i64 ((at_ : Int) + 1 + ((K - 1 : Nat) : Int) / 2)] 3)).alloc (.cells #[] 23)) B w.heap.size (.slice (some ⟨g, 0, none⟩) rows.length c) RV rows := HG.out.below (((Below.refl _ w).alloc (Nat.le_refl _) _).alloc (by simp) _)
          have hl1 : (((w.alloc (.cells #[.int .i64 ((at_ : Int) + 1), .int .i64 ((at_ : Int) + 1 + ((K - 1 : Nat) : Int) / 2)] 3)).alloc (.cells #[] 23))).ownsRow w.heap.size 23 1 (.slice (some ⟨w.heap.size + 1, 0, none⟩) 0 0) 0 [] := by
            have := World.ownsRow_lit (base := w.heap.size) (e := 23) (size := 1) (w.alloc (.cells #[.int .i64 ((at_ : Int) + 1), .int .i64 ((at_ : Int) + 1 + ((K - 1 : Nat) : Int) / 2)] 3)) #[] 0 (by simp) (by decide) rfl
            simpa using this
          have hro : Own ((w.alloc (.cells #[.int .i64 ((at_ : Int) + 1), .int .i64 ((at_ : Int) + 1 + ((K - 1 : Nat) : Int) / 2)] 3)).alloc (.cells #[] 23)) B (w.heap.size + 2) 3 (.slice (some ⟨w.heap.size, 0, none⟩) 2 2) (iv [((at_ : Int) + 1), ((at_ : Int) + 1 + ((K - 1 : Nat) : Int) / 2)]) :=
            ((own_lo (lit_own2 w #[.int .i64 ((at_ : Int) + 1), .int .i64 ((at_ : Int) + 1 + ((K - 1 : Nat) : Int) / 2)] 3 (by show (2 : Nat) ≤ maxLen; unfold maxLen; omega)) hB).alloc _).more (by omega)
          have hb1 : Below w.heap.size w ((w.alloc (.cells #[.int .i64 ((at_ : Int) + 1), .int .i64 ((at_ : Int) + 1 + ((K - 1 : Nat) : Int) / 2)] 3)).alloc (.cells #[] 23)) := ((Below.refl _ w).alloc (Nat.le_refl _) _).alloc (by simp) _
          have hs1 : w.heap.size ≤ (((w.alloc (.cells #[.int .i64 ((at_ : Int) + 1), .int .i64 ((at_ : Int) + 1 + ((K - 1 : Nat) : Int) / 2)] 3)).alloc (.cells #[] 23))).heap.size := by simp; omega
          have hz1' : w.heap.size + 2 = (((w.alloc (.cells #[.int .i64 ((at_ : Int) + 1), .int .i64 ((at_ : Int) + 1 + ((K - 1 : Nat) : Int) / 2)] 3)).alloc (.cells #[] 23))).heap.size := by simp
          have HS1 := Lib.hid hs1
          have HZ1 := Lib.hid hz1'
          have x1 : RV.length = rows.length * 1 := by rw [hG1.2.1, Nat.mul_one]
          have hown := hG1.1.1
          rw [hG1.2.1] at hown
          have x2 := hown.cells (g := g) rfl
          have hone : ∀ u ∈ RV, u.oneCell' = true := by
            intro u hu
            obtain ⟨i, hi, rfl⟩ := List.getElem_of_mem hu
            obtain ⟨ao, cap, hv', _⟩ := (hG1.2.2 i _ _ (List.getElem?_eq_getElem hi) (List.getElem?_eq_getElem (by rw [← hG1.2.1]; exact hi))).slice
            rw [hv']; rfl
          have x3 : 0 + rows.length ≤ maxLen := by unfold maxLen; omega
          have x4 : (0 + rows.length) * 24 ≤ 140737488355328 := by omega
          have X1 := Lib.hid x1
          have X2 := Lib.hid x2
          have HG1 := Lib.hid hG1
          have HL1 := Lib.hid hl1
          have HRO := Lib.hid hro
          have HB1 := Lib.hid hb1
          clear x1 x2 hown hG1 hro hb1 hl1 hs1 hz1'
          go_enter Try.func71, Try.ntmps71
          go_wp2_with fail
          refine (C.out _).mono ?_
          rintro e0 w1 ⟨rfl, rfl⟩
          go_wp2_with (at_builtin; refine wpList_append_own _ rfl (.tmp 41) (.tmp 42) 33 rfl w.heap.size 23 i0 (.slice none 0 0) 1 24 Try.underlying33 hi hz0 hz1 hz2 rfl (by decide) _ 0 [] rfl HL1.out ⟨g, 0, none⟩ rows.length c RV rfl X1.out X2.out hone x3 x4 HS1.out ?_)
          intro v2 w2 hv2 hg2 hn2
          obtain ⟨g2, c2, rfl⟩ := own_some3 hv2 hn2
          have b2 : Below w.heap.size ((w.alloc (.cells #[.int .i64 ((at_ : Int) + 1), .int .i64 ((at_ : Int) + 1 + ((K - 1 : Nat) : Int) / 2)] 3)).alloc (.cells #[] 23)) w2 := (Below.refl _ _).grown hg2 (by rw [← HZ1.out]; omega) (fun q hq => by simp [Value.ownBlock] at hq; omega)
          have hr2 := HG1.out.2.below b2
          have ho2 := HRO.out.grown hg2 (.inr (by simp [Value.ownBlock]))
          have hz2' : w.heap.size + 2 ≤ w2.heap.size := by have := hg2.size; have := HZ1.out; omega
          have HB2 := Lib.hid (HB1.out.trans b2)
          have HR2 := Lib.hid hr2
          have HO2 := Lib.hid ho2
          have HV2 := Lib.hid hv2
          have y3 : rows.length + 1 ≤ maxLen := by unfold maxLen; omega
          have y4 : (rows.length + 1) * 24 ≤ 140737488355328 := by omega
          have y5 : w.heap.size ≤ (w2.alloc (.cells #[.slice (some ⟨w.heap.size, 0, none⟩) 2 2] 23)).heap.size := by simp; omega
          have Y5 := Lib.hid y5
          clear hg2 hn2 b2 hr2 ho2 hv2 y5 HG1 HL1 HRO HB1 X1 X2 HS1 HZ1 x3 x4
          go_wp2_with (at_builtin; refine wpList_append_own _ rfl (.tmp 43) (.tmp 45) 33 rfl w.heap.size 23 i0 (.slice none 0 0) 1 24 Try.underlying33 hi hz0 hz1 hz2 rfl (by decide) _ rows.length RV rfl (HV2.out.alloc _) ⟨w2.heap.size, 0, none⟩ 1 1 [.slice (some ⟨w.heap.size, 0, none⟩) 2 2] rfl rfl ?c1 ?c2 y3 y4 Y5.out ?_)
          case c1 => exact cell_one_new _ _ _
          case c2 => intro u hu; simp at hu; subst hu; rfl
          intro v3 w3 hv3 hg3 hn3
          obtain ⟨g3, c3, rfl⟩ := own_some3 hv3 hn3
          have hD : Own (w2.alloc (.cells #[.slice (some ⟨w.heap.size, 0, none⟩) 2 2] 23)) w.heap.size (w2.alloc (.cells #[.slice (some ⟨w.heap.size, 0, none⟩) 2 2] 23)).heap.size 23 (.slice (some ⟨g2, 0, none⟩) rows.length c2) RV := by
            have h1 := HV2.out.alloc (.cells #[.slice (some ⟨w.heap.size, 0, none⟩) 2 2] 23)
            have hl : RV.length = rows.length := HR2.out.1
            exact ⟨by rw [hl]; exact h1, fun q hq => (h1.lt q hq).2⟩
          have hz3 := hg3.size
          have hr3 : RowsI w3 B w3.heap.size (RV ++ [.slice (some ⟨w.heap.size, 0, none⟩) 2 2]) (rows ++ [[((at_ : Int) + 1), ((at_ : Int) + 1 + ((K - 1 : Nat) : Int) / 2)]]) := by
            have r1 := (HR2.out.below ((Below.refl w.heap.size w2).alloc (by omega) (.cells #[.slice (some ⟨w.heap.size, 0, none⟩) 2 2] 23))).grown hD (by decide) hg3
            have r2 := ((HO2.out.alloc (.cells #[.slice (some ⟨w.heap.size, 0, none⟩) 2 2] 23)).grown hg3 ((HO2.out.alloc _).ne hD (by decide)))
            simp only [World.size_alloc] at hz3
            exact (r1.more (by omega)).append (RowsI.one (r2.more (by omega)))
          have hl3 : (rows ++ [([((at_ : Int) + 1), ((at_ : Int) + 1 + ((K - 1 : Nat) : Int) / 2)] : List Int)]).length = rows.length + 1 := by simp
          have hl4 : (RV ++ [Value.slice (some ⟨w.heap.size, 0, none⟩) 2 2]).length = rows.length + 1 := by simp [HR2.out.1]
          have hG3 : Grid w3 B w3.heap.size (.slice (some ⟨g3, 0, none⟩) (rows ++ [[((at_ : Int) + 1), ((at_ : Int) + 1 + ((K - 1 : Nat) : Int) / 2)]]).length c3) (RV ++ [.slice (some ⟨w.heap.size, 0, none⟩) 2 2]) (rows ++ [[((at_ : Int) + 1), ((at_ : Int) + 1 + ((K - 1 : Nat) : Int) / 2)]]) :=
            ⟨own_lo (Own.of_own (B := w.heap.size) (by rw [hl3, hl4]; exact hv3)) hB, hr3⟩
          have hb3 : Below w.heap.size w w3 := (HB2.out.alloc (by omega) _).grown hg3 (by simp; omega) (fun q hq => (HV2.out.lt q hq).1)
          have hz3' : w.heap.size ≤ w3.heap.size := hb3.size
          have j1 := I1.out g3 c3 _ _ w3 (by simp; omega) (by omega) (Lib.hid hG3)
          rw [hl3] at j1
          have J1 := Lib.hid j1
          have HB3 := Lib.hid hb3
          clear hl3 hl4 hD hr3 hG3 hb3 hg3 hv3 hn3 j1 HB2 HR2 HO2 HV2 y3 y4 Y5 hz3 hz2'
          go_wp2_with fail
          refine J1.out.mono ?_
          rintro e1 w4 ⟨g4, c4, RV4, rfl, hG4, hb4⟩
          have hlen4 : (rows ++ [[((at_ : Int) + 1), ((at_ : Int) + 1 + ((K - 1 : Nat) : Int) / 2)]] ++ binL f (fstL s.data.toList) (at_ + 1)).length + (s.size - K - 1) ≤ 50 := by
            rw [List.length_append, List.length_append, HLB.out, HLL.out]; simp; omega
          obtain ⟨M, hM⟩ : ∃ M, M = rows ++ [[((at_ : Int) + 1), ((at_ : Int) + 1 + ((K - 1 : Nat) : Int) / 2)]] ++ binL f (fstL s.data.toList) (at_ + 1) := ⟨_, rfl⟩
          rw [← hM] at hG4 hlen4 ⊢
          have hb4' := HB3.out.trans (hb4.mono hz3')
          have J2 := Lib.hid (I2.out g4 c4 RV4 M w4 hlen4 (by have := hb4.size; omega) (Lib.hid hG4))
          have HB4 := Lib.hid hb4'
          have hz4 := hb4'.size
          have HM := Lib.hid hM
          clear hG4 hb4 hb4' hlen4 hM J1
          go_wp2_with fail
          refine J2.out.mono ?_
          rintro e2 w5 ⟨g5, c5, RV5, rfl, hG5, hb5⟩
          have hfin : rows ++ binL (f + 1) s.data.toList at_ = M ++ binL f (rstL s.data.toList) (at_ + 1 + (K - 1) / 2) := by
            rw [e.out, HM.out]; simp
          have HB5 := Lib.hid (HB4.out.trans (hb5.mono hz4))
          obtain ⟨M2, hM2⟩ : ∃ M2, M2 = M ++ binL f (rstL s.data.toList) (at_ + 1 + (K - 1) / 2) := ⟨_, rfl⟩
          rw [← hM2] at hG5 hfin ⊢
          have HG5 := Lib.hid hG5
          have HF := Lib.hid hfin
          clear hG5 hb5 hM2 hfin J2
          go_wp2
          go_ret
          rw [HF.out]
          exact ⟨g5, c5, RV5, rfl, HG5.out, HB5.out⟩
end Go.Proofs.Ytooplolalbcmjaa

namespace Go.Proofs.Ytooplolalbcmjaa
open Go.RowKit

theorem rows_one {w : World} {B H : Nat} {RV : List Value} {rows : List (List Int)} (h : RowsI w B H RV rows) : ∀ u ∈ RV, u.oneCell' = true := by
  intro u hu
  obtain ⟨i, hi, rfl⟩ := List.getElem_of_mem hu
  obtain ⟨ao, cap, hv', _⟩ := (h.2 i _ _ (List.getElem?_eq_getElem hi) (List.getElem?_eq_getElem (by rw [← h.1]; exact hi))).slice
  rw [hv']; rfl

end Go.Proofs.Ytooplolalbcmjaa

namespace Go.Proofs.Ytooplolalbcmjaa
open Go.RowKit

theorem Try.infoIntS : (Try.prog.info? 3).map (fun i => (i.zero, i.size, i.bytes)) = some (some (.int .i64 0), 1, 8) := by kernel_rfl
theorem stackF_next {s : ByteArray} {k : Nat} (hk : k < s.size) : stackF (s.data.toList.take (k + 1)) = stepS (stackF (s.data.toList.take k)) s[k] := by
  rw [stackF, fold_take _ _ _ _ (by rw [size_list]; exact hk), get_list s k hk]; rfl
theorem stackF_opn {s : ByteArray} {k : Nat} (hk : k < s.size) (hc : s[k].toNat = 40) : stackF (s.data.toList.take (k + 1)) = ((stackF (s.data.toList.take k)).1 ++ [(stackF (s.data.toList.take k)).2.2], (stackF (s.data.toList.take k)).2.1, (stackF (s.data.toList.take k)).2.2 + 1) := by
  rw [stackF_next hk, stepS, if_pos hc]
theorem stackF_cls {s : ByteArray} {k : Nat} (hk : k < s.size) (hc : s[k].toNat = 41) : stackF (s.data.toList.take (k + 1)) = ((stackF (s.data.toList.take k)).1.dropLast, (stackF (s.data.toList.take k)).2.1 ++ [(stackF (s.data.toList.take k)).1.getLastD 0], (stackF (s.data.toList.take k)).2.2) := by
  rw [stackF_next hk, stepS, if_neg (by omega)]
/-- what stands on the stack, how many have come, how many are out -/
theorem stackF_len (r : List UInt8) : ∀ o, scan r.reverse = some o → (stackF r.reverse).1.length = o ∧ (stackF r.reverse).2.2 ≤ r.length ∧ (stackF r.reverse).2.1.length ≤ r.length ∧ ∀ x ∈ (stackF r.reverse).1, x ≤ r.length := by
  induction r with
  | nil => intro o h; simp [scan] at h; subst h; simp [stackF]
  | cons c l ih =>
    intro o h
    rw [List.reverse_cons] at h ⊢
    rw [scan_snoc] at h
    cases hs : scan l.reverse with
    | none => rw [hs] at h; simp [vstep] at h
    | some q =>
      rw [hs] at h
      obtain ⟨h1, h2, h3, h4⟩ := ih q hs
      have e : stackF (l.reverse ++ [c]) = stepS (stackF l.reverse) c := by simp [stackF, List.foldl_append]
      rw [e]
      rcases step_some h with hc | ⟨hc, h0⟩
      · rw [step_opn q hc] at h
        cases h
        rw [stepS, if_pos hc]
        refine ⟨by simp [h1], by simp; omega, by simp; omega, fun x hx => ?_⟩
        simp only [List.mem_append, List.mem_singleton] at hx
        rcases hx with hx | hx
        · have := h4 x hx; simp; omega
        · simp; omega
      · rw [step_cls hc h0] at h
        cases h
        rw [stepS, if_neg (by omega)]
        refine ⟨by simp [h1], by simp; omega, by simp; omega, fun x hx => ?_⟩
        have := h4 x (List.dropLast_subset _ hx)
        simp; omega
theorem stackF_len' (l : List UInt8) (o : Nat) (h : scan l = some o) : (stackF l).1.length = o := by
  have := (stackF_len l.reverse o (by rw [List.reverse_reverse]; exact h)).1
  rwa [List.reverse_reverse] at this
theorem getLastD_at (l : List Nat) (n : Nat) (h : l.length = n + 1) : l.getLastD 0 = l[n]'(by omega) := by
  rw [List.getLastD_eq_getLast?, List.getLast?_eq_getElem?, List.getElem?_eq_getElem (by omega : l.length - 1 < l.length)]
  simp only [Option.getD_some]
  congr 1
  omega
theorem ints_at2 (l : List Nat) (k : Nat) (h : k < l.length) : (ints l)[k]? = some (.int .i64 ((l[k] : Nat) : Int)) := by simp [ints, h]
theorem ints_iv (l : List Nat) : ints l = iv (l.map fun (k : Nat) => (k : Int)) := by simp [ints, iv]

/-- what stands behind k bytes -/
structure Stk_ (B H n m : Nat) (st out : List Nat) (vs vo : Value) (w : World) : Prop where
  outs : w.ownsRow B 3 1 vo m (ints out)
  stk : w.ownsRow B 3 1 vs n (ints st)
  shp : ∃ g cap g' cap', vo = .slice (some ⟨g, 0, none⟩) m cap ∧ vs = .slice (some ⟨g', 0, none⟩) n cap' ∧ g ≠ g' ∧ n ≤ cap' ∧ m ≤ cap
  lens : out.length = m ∧ st.length = n
theorem own_cap {w : World} {B n g c : Nat} {t : TypeId} {xs : List Value} (h : w.ownsRow B t 1 (.slice (some ⟨g, 0, none⟩) n c) n xs) : n ≤ c := by
  rcases h.2 with ⟨h0, _⟩ | ⟨g', cap, cur, hv, _, _, h3, _⟩
  · cases h0
  · simp only [Value.slice.injEq] at hv
    omega
theorem one_int2 (n : Int) : ∀ u ∈ [Value.int .i64 n], u.oneCell' = true := by intro u hu; simp at hu; subst hu; rfl
theorem ownsRow_lo {w : World} {B B' n : Nat} {t : TypeId} {v : Value} {xs : List Value} (h : w.ownsRow B' t 1 v n xs) (hB : B ≤ B') : w.ownsRow B t 1 v n xs :=
  ⟨h.1, h.2.imp id (fun ⟨g, cap, cur, e1, hg, r⟩ => ⟨g, cap, cur, e1, by omega, r⟩)⟩

set_option maxHeartbeats 3200000 in
theorem stackRow_any (s : ByteArray) (hv : valid s.data.toList = true) (w : World) :
    Calls Try.prog 50 #[.string s] w fun e w' => ∃ v, e = .returned v ∧ Own w' w.heap.size w'.heap.size 3 v (iv (stackL s.data.toList)) ∧ Below w.heap.size w w' := by
  have h18 : s.size ≤ 18 := (valid_scan hv).2
  obtain ⟨i0, hi, hz0, hz1, hz2⟩ := info_parts Try.infoIntS
  have HV := Lib.hid hv
  clear hv
  go_enter Try.func50, Try.ntmps50
  go_wp2
  go_loopw [3, 4, 5, 6] (fun vs vo c i wr => ∃ (k n m x : Nat), k ≤ s.size ∧ x ≤ k ∧ n ≤ k ∧ m ≤ k ∧ c = .int .i64 x ∧ i = .int .i64 k ∧ Hid ((stackF (s.data.toList.take k)).2.2 = x) ∧ Hid (Stk_ w.heap.size wr.heap.size n m (stackF (s.data.toList.take k)).1 (stackF (s.data.toList.take k)).2.1 vs vo wr) ∧ Below w.heap.size w wr) (fun _ _ _ i _ => s.size - (intOf i).toNat)
  case atStart =>
    refine ⟨0, 0, 0, 0, Nat.zero_le _, Nat.le_refl _, Nat.le_refl _, Nat.le_refl _, rfl, rfl, rfl, ?_, ((Below.refl _ _).alloc (Nat.le_refl _) _).alloc (by simp) _⟩
    refine ⟨?_, World.ownsRow.alloc (World.ownsRow_lit w #[] 0 (Nat.le_refl _) (by decide) rfl) _, ⟨_, _, _, _, rfl, rfl, by simp, Nat.le_refl _, Nat.le_refl _⟩, rfl, rfl⟩
    have h := World.ownsRow_lit (base := w.heap.size) (e := 3) (size := 1) (w.alloc (.cells #[] 3)) #[] 0 (by simp) (by decide) rfl
    have e : (w.alloc (.cells #[] 3)).heap.size = w.heap.size + 1 := by simp
    rw [e] at h
    exact h
  case round =>
    obtain ⟨k, n, m, x, hk, hx, hn, hm, rfl, rfl, HX, P, hb⟩ := hrel
    have hsz := hb.size
    by_cases hlt : k < s.size
    · have b1 : (k : Int) < (s.size : Int) := by omega
      obtain ⟨st, hst⟩ : ∃ st, st = (stackF (s.data.toList.take k)).1 := ⟨_, rfl⟩
      obtain ⟨out, hout⟩ : ∃ out, out = (stackF (s.data.toList.take k)).2.1 := ⟨_, rfl⟩
      rw [← hst, ← hout] at P
      obtain ⟨g, cap, g', cap', rfl, rfl, hgg, hnc, hmc⟩ := P.out.shp
      have hw1 := P.out.outs
      have hw2 := P.out.stk
      have L1 := Lib.hid P.out.lens.1
      have L2 := Lib.hid P.out.lens.2
      have hglt := (hw1.lt g rfl).2
      rcases valid_byte HV.out k hlt with hc | hc
      · have hcp : ((s[k].toNat : Int) == 40) = true := by rw [hc]; rfl
        have N := Lib.hid (stackF_opn hlt hc)
        rw [← hst, ← hout, HX.out] at N
        have hlit := World.ownsRow_lit (base := wr.heap.size) (e := 3) (size := 1) wr #[] 0 (Nat.le_refl _) (by decide) rfl
        have Hsrc := Lib.hid ((hw2.alloc (.cells #[] 3)).cells (g := g') rfl)
        have x1 : (ints st).length = n * 1 := by rw [ints_length, L2.out, Nat.mul_one]
        have x2 : 0 + n ≤ maxLen := by unfold maxLen; omega
        have x3 : (0 + n) * 8 ≤ 140737488355328 := by omega
        have x4 : wr.heap.size ≤ (wr.alloc (.cells #[] 3)).heap.size := by simp
        clear hst hout P hc
        go_wp2_with (at_builtin; refine wpList_append_own _ rfl (.tmp 19) (.tmp 20) 23 rfl wr.heap.size 3 i0 (.int .i64 0) 1 8 Try.underlying23 hi hz0 hz1 hz2 rfl (by decide) _ 0 [] rfl hlit ⟨g', 0, none⟩ n cap' (ints st) rfl x1 Hsrc.out (ints_one st) x2 x3 x4 ?_)
        intro v1 w1 hv1 hg1 _
        try simp only [Nat.zero_add, List.nil_append] at hv1
        have hbw1 : Below wr.heap.size wr w1 := ((Below.refl _ _).alloc (Nat.le_refl _) _).grown hg1 (by simp) (fun q hq => by simp [Value.ownBlock] at hq; omega)
        have hs1 := hbw1.size
        have y3 : n + 1 ≤ maxLen := by unfold maxLen; omega
        have y4 : (n + 1) * 8 ≤ 140737488355328 := by omega
        have y5 : wr.heap.size ≤ (w1.alloc (.cells #[.int .i64 x] 3)).heap.size := by simp; omega
        have HL1 := Lib.hid hv1.lt
        clear x1 x2 x3 x4 hg1
        go_wp2_with (at_builtin; refine wpList_append_own _ rfl (.tmp 21) (.tmp 23) 23 rfl wr.heap.size 3 i0 (.int .i64 0) 1 8 Try.underlying23 hi hz0 hz1 hz2 rfl (by decide) _ n (ints st) rfl (hv1.alloc _) ⟨w1.heap.size, 0, none⟩ 1 1 [.int .i64 x] rfl rfl (cell_one_new _ _ _) (one_int2 _) y3 y4 y5 ?_)
        intro v2 w2 hv2 hg2 hn2
        obtain ⟨g2, c2, rfl⟩ := own_some3 hv2 hn2
        have hbw2 : Below wr.heap.size wr w2 := (hbw1.alloc hs1 _).grown hg2 (by simp; omega) (fun q hq => (HL1.out q hq).1)
        have hs2 := hbw2.size
        have hp2 : w2.ownsRow w.heap.size 3 1 (.slice (some ⟨g, 0, none⟩) m cap) m (ints out) := own_of_blocks hw1 (fun q hq => hbw2.block q (hw1.lt q hq).2)
        have hge := (hv2.lt g2 rfl).1
        have P2 : Hid (Stk_ w.heap.size w2.heap.size (n + 1) m (st ++ [x]) out (.slice (some ⟨g2, 0, none⟩) (n + 1) c2) (.slice (some ⟨g, 0, none⟩) m cap) w2) :=
          ⟨hp2, by rw [← ints_snoc]; exact ownsRow_lo hv2 hsz, ⟨g, cap, g2, c2, rfl, rfl, by omega, own_cap hv2, hmc⟩, L1.out, by rw [List.length_append, L2.out]; rfl⟩
        have HB2 := Lib.hid (hb.trans (hbw2.mono hsz))
        clear hv1 hg2 y3 y4 y5 hbw1 hbw2 hv2 hn2 hw1 hw2 hlit hp2 hb
        go_wp2
        go_roundw
        case rel => exact ⟨k + 1, n + 1, m, x + 1, by omega, by omega, by omega, by omega, by go_num, by go_num, by rw [N.out]; rfl, by rw [N.out]; exact P2, HB2.out⟩
        case measure => simp [intOf]; omega
      · have hcp : ((s[k].toNat : Int) == 40) = false := by rw [hc]; rfl
        have N := Lib.hid (stackF_cls hlt hc)
        rw [← hst, ← hout, HX.out] at N
        obtain ⟨o, ho⟩ := valid_take HV.out k
        have hso := stackF_len' _ o ho
        rw [← hst] at hso
        have hpos : 0 < o := by
          obtain ⟨q, hq⟩ := valid_take HV.out (k + 1)
          rw [scan_next hlt ho] at hq
          apply Classical.byContradiction
          intro e
          obtain rfl : o = 0 := by omega
          simp [vstep, hc] at hq
        have hl2 := L2.out
        obtain ⟨n', rfl⟩ : ∃ n', n = n' + 1 := ⟨n - 1, by omega⟩
        have hlast := getLastD_at st n' hl2
        have hcell : wr.cell? ⟨g', n', none⟩ = some (.int .i64 ((st.getLastD 0 : Nat) : Int)) := by
          rw [hw2.cellAt n' (by omega), ints_at2 st n' (by omega), hlast]
        obtain ⟨p, hp⟩ : ∃ p, p = st.getLastD 0 := ⟨_, rfl⟩
        rw [← hp] at N hcell
        have hdrop : wr.ownsRow w.heap.size 3 1 (.slice (some ⟨g', 0, none⟩) n' cap') n' (ints st.dropLast) := by
          have h1 : Own wr w.heap.size wr.heap.size 3 (.slice (some ⟨g', 0, none⟩) (n' + 1) cap') (ints st) := ⟨by rw [ints_length, hl2]; exact hw2, fun q hq => (hw2.lt q hq).2⟩
          have h2 := (h1.pop (n := n') (by rw [ints_length]; exact hl2)).1
          rw [ints_dropLast, ints_length, List.length_dropLast, hl2] at h2
          exact h2
        have e1 : ((n' + 1 : Nat) : Int) - 1 = (n' : Int) := by omega
        have b2 : n' < n' + 1 := by omega
        have z2 : m + 1 ≤ maxLen := by unfold maxLen; omega
        have z3 : (m + 1) * 8 ≤ 140737488355328 := by omega
        have Z4 := Lib.hid (show ∀ o : Obj, w.heap.size ≤ (wr.alloc o).heap.size by intro o; simp; omega)
        have Z5 := Lib.hid (show ∀ o : Obj, (wr.alloc o).heap.size = wr.heap.size + 1 by intro o; simp)
        have HD := Lib.hid hdrop
        have HW1 := Lib.hid hw1
        have hg'lt := (hw2.lt g' rfl).2
        clear hst hout P hc hso hpos hl2 hlast hdrop hp ho hw1 hw2
        go_wp2_with (at_builtin; refine wpList_append_lies _ rfl (.tmp 27) (.tmp 34) 23 rfl w.heap.size 3 i0 (.int .i64 0) 1 8 Try.underlying23 hi hz0 hz1 hz2 rfl (by decide) _ m (ints out) rfl (HW1.out.alloc _) ⟨wr.heap.size, 0, none⟩ 1 1 [_] rfl rfl (cell_one_new _ _ _) (one_int2 _) (by decide) z2 z3 (Z4.out _) (wr.heap.size + 1) (Z5.out _) ?_)
        intro g3 c3 w3 hv3 hg3 hw3 hl3
        have hd3 : w3.ownsRow w.heap.size 3 1 (.slice (some ⟨g', 0, none⟩) n' cap') n' (ints st.dropLast) := own_of_blocks HD.out (fun q hq => by
          simp only [Value.ownBlock, Option.some.injEq] at hq
          subst hq
          rw [hg3.block _ (by simp; omega) (by simp [Value.ownBlock]; omega), Below.heap_alloc _ _ _ hg'lt])
        have hne : g3 ≠ g' := by
          rcases hw3 with e2 | e2
          · simp only [Value.ownBlock, Option.some.injEq] at e2; omega
          · omega
        have hb3 : Below w.heap.size w w3 := (hb.alloc (by omega) _).grown hg3 (by simp; omega) (fun q hq => (HW1.out.lt q hq).1)
        have hn'c := own_cap hd3
        have hc3 := own_cap hv3
        have P3 : Hid (Stk_ w.heap.size w3.heap.size n' (m + 1) st.dropLast (out ++ [p]) (.slice (some ⟨g', 0, none⟩) n' cap') (.slice (some ⟨g3, 0, none⟩) (m + 1) c3) w3) :=
          ⟨by rw [← ints_snoc]; exact hv3, hd3, ⟨g3, c3, g', cap', rfl, rfl, hne, hn'c, hc3⟩, by rw [List.length_append, L1.out]; rfl, by rw [List.length_dropLast, L2.out]; rfl⟩
        have HB3 := Lib.hid hb3
        clear hv3 hg3 hw3 hl3 hd3 hb3 hb HD HW1 hcell
        go_wp2
        go_roundw
        case rel => exact ⟨k + 1, n', m + 1, x, by omega, by omega, by omega, by omega, rfl, by go_num, by rw [N.out]; rfl, by rw [N.out]; exact P3, HB3.out⟩
        case measure => simp [intOf]; omega
    · obtain rfl : k = s.size := by omega
      have b1 : ((s.size : Int)) ≤ (s.size : Int) := by omega
      have P := P.out
      rw [List.take_of_length_le (Nat.le_of_eq (size_list s))] at P
      have HP := Lib.hid P
      have HB := Lib.hid hb
      clear P hb
      go_wp2
      go_ret
      refine ⟨_, rfl, ?_, HB.out⟩
      rw [stackL, ← ints_iv]
      have h1 := HP.out.outs
      have h2 := HP.out.lens.1
      refine Own.of_own ?_
      rw [ints_length, h2]
      exact h1
end Go.Proofs.Ytooplolalbcmjaa

namespace Go.Proofs.Ytooplolalbcmjaa
open Go.RowKit

/-- a list of rows in the call's own memory -/
def RowsOut (rows : List (List Int)) (w : World) (e : Ending) (w' : World) : Prop :=
  ∃ v RV, e = .returned v ∧ Grid w' w.heap.size w'.heap.size v RV rows ∧ Below w.heap.size w w'
theorem GridOut.rows {rows : List (List Int)} {w : World} {e : Ending} {w' : World} (h : GridOut w.heap.size rows w e w') : RowsOut rows w e w' := by
  obtain ⟨g, c, RV, rfl, hG, hb⟩ := h
  exact ⟨_, RV, rfl, hG, hb⟩
theorem nilRows (w w' : World) (hb : Below w.heap.size w w') : RowsOut [] w (.returned (.slice none 0 0)) w' :=
  ⟨_, [], rfl, ⟨⟨World.ownsRow_nil _ _ _ _, fun q hq => by simp [Value.ownBlock] at hq⟩, RowsI.nil⟩, hb⟩

def binOut (l : List UInt8) : List (List Int) := if valid l then binL 18 l 0 else []
def fanOut (l : List UInt8) : List (List Int) := if valid l then fansL 18 l 0 (l.length / 2 + 1) else []
def stackOut (l : List UInt8) : List Int := if valid l then stackL l else []

end Go.Proofs.Ytooplolalbcmjaa
