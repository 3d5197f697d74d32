/-
  The walk of the law on leaves of texts of trees, given the contract of the program's LeavesOf.
-/
import Derived.Test.YthlboikljibohaaKLeafL
import Derived.Test.YthlboikljibohaaCDrawR
import Derived.Test.YthlboikljibohaaZG
import Derived.Test.YthlboikljibohaaZK
import Derived.Test.YthlboikljibohaaZR
import Derived.ChangeAgain
namespace Go.Proofs.Ythlboikljibohaa
open Go.RowKit

theorem shaped_belowL {w w1 : World} (h : w.ShapedOpen Try.prog) (hb : Below w.heap.size w w1) : w1.ShapedOpen Try.prog := h.keptBut (hb.frame (fun _ => False)) (fun _ hp => hp.elim)
set_option maxHeartbeats 3200000 in
set_option maxRecDepth 100000 in
theorem wordsOfTrees_law (HLV : Hid (∀ (s : ByteArray) (w : World), Hid (valid s.data.toList = true) → w.ShapedOpen Try.prog → Calls Try.prog 24 #[.string s] w fun e w' => e = .returned (.int .i64 (leavesL s.data.toList)) ∧ Below w.heap.size w w'))
    (a : Option Addr) (len cap : Nat) (zs : List Int) (w : World) (hr0 : IsRow .u8 w a len cap zs) (hsh0 : w.ShapedOpen Try.prog) :
    Calls Try.prog 6 #[.slice a len cap] w fun e w' => e = .returned (.bool true) ∧ Below w.heap.size w w' := by
  have hr := Lib.hid hr0
  have hsh := Lib.hid hsh0
  clear hr0 hsh0
  by_cases hbig : (1048576 : Int) < (len : Int)
  · go_enter Try.func6, Try.ntmps6
    go_wp2
    go_ret
    exact ⟨rfl, Below.refl _ _⟩
  · go_enter Try.func6, Try.ntmps6
    go_wp2_with fail
    refine (drawRootText a len cap zs w hr (by omega)).mono ?_
    rintro e w1 ⟨n, rows, v, RV, r, rfl, g1, hn, hr9, hl, hr2, b1⟩
    have hn := hn
    have hwf : (Lit.int .i64 n).wf = true := wf_smallC n (by omega)
    have G1 := Lib.hid g1
    have B1 := Lib.hid b1
    have hrs : ∀ r ∈ rows, r.length ≤ 1048576 := fun r h => by rw [hr2 r h]; decide
    have hrl : rows.length ≤ 1048576 := by omega
    have CF := Lib.hid (fun (v : Value) (RV : List Value) (w : World) (B0 H0 : Nat) (hG : Hid (Grid w B0 H0 v RV rows)) hH => rootText_any n r rows v RV w hG hH hrl hrs hwf)
    have CS := Lib.hid (fun (v : Value) (RV : List Value) (w : World) (B0 H0 : Nat) (hG : Hid (Grid w B0 H0 v RV rows)) hH => specRootText_any n r rows v RV w hG hH hrl)
    have CD := Lib.hid (fun (v : Value) (RV : List Value) (w : World) (B0 H0 : Nat) (hG : Hid (Grid w B0 H0 v RV rows)) hH => degreesOf_p n rows v RV w B0 H0 hG hH hrl hrs hwf)
    have FF := Lib.hid (leafL_facts (n := n) (r := r) (rows := rows))
    obtain ⟨F, hF⟩ : ∃ F, F = rootOut n rows r := ⟨_, rfl⟩
    rw [← hF] at FF
    simp only [← hF] at CF CS
    obtain ⟨fo, hfo⟩ : ∃ fo : ByteArray, fo = ⟨F.toArray⟩ := ⟨_, rfl⟩
    have HFO : Hid (fo.data.toList = F) := by show _ = _; rw [hfo]
    simp only [← hfo] at CF CS
    obtain ⟨av, cv, rfl, _, _, _, _⟩ := g1.1.slice
    have s01 := b1.size
    have r0 : Hid (w1.heap.size ≤ w1.heap.size) := Nat.le_refl _
    have q2 : (fo.toList == fo.toList) = true := beq_self_eq_true _
    clear g1 b1 hr hrs hF hfo
    go_wp2_with fail
    refine (CF.out _ RV w1 _ _ G1 r0.out).mono ?_
    rintro e w2 ⟨rfl, b2⟩
    have G2 := Lib.hid (G1.out.below b2)
    have B2 := Lib.hid (B1.out.trans (b2.mono s01))
    have s12 := b2.size
    have S12 := Lib.hid s12
    clear b2 s12
    go_wp2_with fail
    refine (CS.out _ RV w2 _ _ G2 S12.out).mono ?_
    rintro e w3 ⟨rfl, b3⟩
    have G3 := Lib.hid (G2.out.below (b3.mono S12.out))
    have B3 := Lib.hid (B2.out.trans (b3.mono (Nat.le_trans s01 S12.out)))
    have S13 := Lib.hid (Nat.le_trans S12.out b3.size)
    clear b3 G2 B2 S12
    go_wp2_with fail
    refine (CF.out _ RV w3 _ _ G3 S13.out).mono ?_
    rintro e w4 ⟨rfl, b4⟩
    have G4 := Lib.hid (G3.out.below (b4.mono S13.out))
    have B4 := Lib.hid (B3.out.trans (b4.mono (Nat.le_trans s01 S13.out)))
    have S14 := Lib.hid (Nat.le_trans S13.out b4.size)
    clear b4 G3 B3 S13 CF CS
    by_cases h0 : F = []
    · have q0 : (fo.toList == []) = true := by rw [ByteArray.toList_eq, HFO.out, h0]; rfl
      clear h0 FF CD
      go_wp2
      go_ret
      exact ⟨rfl, B4.out⟩
    · have q0 : (fo.toList == []) = false := by rw [ByteArray.toList_eq, HFO.out, beq_eq_false_iff_ne]; exact h0
      obtain ⟨N, u, d, rfl, rfl, huN, hN1, hN7, hva, hle, hln, hdl⟩ := FF.out h0
      have CL := Lib.hid (fun (W : World) (hW : W.ShapedOpen Try.prog) => HLV.out fo W (by rw [HFO.out]; exact hva) hW)
      rw [HFO.out, hle] at CL
      have HDL : Hid ((degOut (N : Int) rows).length = N) := by show _ = _; rw [hdl]; simp
      have HDU : Hid (∀ k, k < N → (iv (degOut (N : Int) rows))[k]? = some (.int .i64 (d k : Int))) := fun k hk => by rw [hdl]; simp [iv, hk]
      have ON := Lib.hid (fun k => other_next N u d k)
      obtain ⟨X, hX⟩ : ∃ X : Nat → Nat, X = fun k => (List.range k).countP fun v => decide (v ≠ u) && decide (d v = 1) := ⟨_, rfl⟩
      have HXN : Hid (∀ k, X (k + 1) = X k + (if k ≠ u ∧ d k = 1 then 1 else 0)) := fun k => by rw [hX]; exact ON.out k
      have HX0 : Hid (X 0 = 0) := by show _ = _; rw [hX]; rfl
      have HXl : Hid (∀ k, X k ≤ k) := fun k => by
        rw [hX]
        have := List.countP_le_length (p := fun v => decide (v ≠ u) && decide (d v = 1)) (l := List.range k)
        simpa using this
      have hXN : (List.range N).countP (fun v => decide (v ≠ u) && decide (d v = 1)) = X N := by rw [hX]
      rw [hXN] at CL
      clear h0 FF hva hle hln hdl hX hXN ON
      go_wp2_with fail
      refine (CD.out _ RV w4 _ _ G4 S14.out).mono ?_
      rintro e w5 ⟨v5, rfl, o5, b5⟩
      have B5 := Lib.hid (B4.out.trans (b5.mono (Nat.le_trans s01 S14.out)))
      obtain ⟨a5, c5, rfl, _⟩ := o5.slice
      rw [iv_length, HDL.out] at o5 ⊢
      have O5 := Lib.hid o5
      have CLW := Lib.hid (CL.out w5 (shaped_belowL hsh.out B5.out))
      clear b5 o5 CD G4 B4 G1 B1 S14 CL
      go_wp2
      go_loop [8, 9] (fun e8 ii => ∃ k : Nat, k ≤ N ∧ ii = .int .i64 (k : Int) ∧ e8 = .int .i64 (X k : Int)) (fun _ ii => N - (intOf ii).toNat)
      case atStart => exact ⟨0, Nat.zero_le _, rfl, by rw [HX0.out]; rfl⟩
      case round =>
        obtain ⟨k, hk, rfl, rfl⟩ := hrel
        by_cases hlt : k < N
        · have b1 : (k : Int) < (N : Int) := by omega
          obtain ⟨g5, rfl, _, _, d5, _⟩ := O5.out.at_ k (by rw [iv_length, HDL.out]; exact hlt)
          rw [HDU.out k hlt] at d5
          have XN := HXN.out k
          have XL := HXl.out k
          obtain ⟨y, hy⟩ : ∃ y, y = d k := ⟨_, rfl⟩
          obtain ⟨x, hx⟩ : ∃ x, x = X k := ⟨_, rfl⟩
          rw [← hy] at d5 XN
          rw [← hx] at XN XL ⊢
          clear hy hx
          by_cases hku : k = u
          · have q3 : ((k : Int) == (u : Int)) = true := by rw [hku]; simp
            have q5 : ((k : Int) != (u : Int)) = false := by rw [hku]; simp
            have XE : Hid (X (k + 1) = x) := by show _ = _; rw [XN, if_neg (by rintro ⟨h, _⟩; exact h hku)]; rfl
            clear hku XN
            go_wp2
            go_round
            case rel => exact ⟨k + 1, by omega, by go_num, by rw [XE.out]⟩
            case measure => simp [intOf]; omega
          · have q3 : ((k : Int) == (u : Int)) = false := by rw [beq_eq_false_iff_ne]; omega
            have q5 : ((k : Int) != (u : Int)) = true := by rw [bne_iff_ne]; omega
            by_cases hy1 : y = 1
            · have q4 : ((y : Int) == 1) = true := by rw [hy1]; rfl
              have XE : Hid (X (k + 1) = x + 1) := by show _ = _; rw [XN, if_pos ⟨hku, hy1⟩]
              clear hku hy1 XN
              go_wp2
              go_round
              case rel => exact ⟨k + 1, by omega, by go_num, by rw [XE.out]; go_num⟩
              case measure => simp [intOf]; omega
            · have q4 : ((y : Int) == 1) = false := by rw [beq_eq_false_iff_ne]; omega
              have XE : Hid (X (k + 1) = x) := by show _ = _; rw [XN, if_neg (by rintro ⟨_, h⟩; exact hy1 h)]; rfl
              clear hku hy1 XN
              go_wp2
              go_round
              case rel => exact ⟨k + 1, by omega, by go_num, by rw [XE.out]⟩
              case measure => simp [intOf]; omega
        · obtain rfl : k = N := by omega
          obtain ⟨x, hx⟩ : ∃ x, x = X k := ⟨_, rfl⟩
          rw [← hx] at CLW ⊢
          clear hx HXN HX0 HXl HDL HDU O5
          rcases Nat.lt_trichotomy x 1 with h | h | h
          · obtain rfl : x = 0 := by omega
            go_wp2_with fail
            refine CLW.out.mono ?_
            rintro e w6 ⟨rfl, b6⟩
            have B6 := Lib.hid (B5.out.trans (b6.mono B5.out.size))
            clear b6 CLW
            go_wp2
            go_ret
            exact ⟨rfl, B6.out⟩
          · subst h
            go_wp2_with fail
            refine CLW.out.mono ?_
            rintro e w6 ⟨rfl, b6⟩
            have B6 := Lib.hid (B5.out.trans (b6.mono B5.out.size))
            clear b6 CLW
            go_wp2
            go_ret
            exact ⟨rfl, B6.out⟩
          · have em : max x 1 = x := by omega
            rw [em] at CLW
            have i1 : ¬ ((x : Int) < 1) := by omega
            have i2 : (1 : Int) < (x : Int) := by omega
            have im : Hid (max (x : Int) 1 = (x : Int)) := by show _ = _; omega
            clear em h
            go_wp2_with fail
            refine CLW.out.mono ?_
            rintro e w6 ⟨rfl, b6⟩
            have B6 := Lib.hid (B5.out.trans (b6.mono B5.out.size))
            clear b6 CLW
            go_wp2
            go_ret
            exact ⟨by show Ending.returned (.bool ((x : Int) == max (x : Int) 1)) = _; rw [im.out]; simp, B6.out⟩
end Go.Proofs.Ythlboikljibohaa
