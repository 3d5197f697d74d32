/-
  The middle of a tree, as the program finds it: its one center, or both.
-/
import Derived.Test.YthlboikljibohaaZBP
import Derived.Test.YthlboikljibohaaCFreeO
namespace Go.Proofs.Ythlboikljibohaa
open Go.RowKit

/-- the middle: a center, or an edge of two -/
def midV (L : List Nat) : Value := match L with
  | [a, b] => .iface 93 (.agg #[.int .i64 (a : Int), .int .i64 (b : Int)])
  | L => .iface 92 (.int .i64 (L.headD 0 : Int))
set_option maxHeartbeats 6400000 in
set_option maxRecDepth 100000 in
theorem middle_p (n : Nat) (E : Edges) (hv : Hid (ValidT n E)) (hn7 : n ≤ 7) (tv : Value) (RV : List Value) (w : World) (B0 H0 : Nat) (hG : Hid (Grid w B0 H0 tv RV (nbR n E))) (hH : H0 ≤ w.heap.size) :
    Calls Try.prog 42 #[tv] w fun e w' => e = .returned (midV (cents n E)) ∧ Below w.heap.size w w' := by
  obtain ⟨i0, hi, hz0, hz1, hz2⟩ := info_parts Try.infoIntR
  have hE6 : E.length ≤ 6 := by have := hv.out.len; omega
  have ho : Hid (∀ e ∈ E, e.1 < n ∧ e.2 < n) := fun e he => by have := hv.out.ord e he; omega
  have CL := Lib.hid (fun (u : Nat) (hu : u < n) (W : World) (hW : Below w.heap.size w W) => longest_p n E ho (by omega) 14 u (-1) hu (by omega) (Lib.hid (valid_brn hv.out hn7 u (-1))) tv RV W B0 H0 (Lib.hid (hG.out.below (hW.mono hH))) (Nat.le_trans hH hW.size))
  obtain ⟨at_, ct, rfl, _, hct, _, _⟩ := hG.out.1.slice
  have hgl := hG.out.2.1
  rw [nbR_length] at hgl
  rw [hgl] at CL ⊢
  have C2 := Lib.hid (cents_two hv.out hn7)
  obtain ⟨SZ, hSZ⟩ : ∃ SZ, SZ = w.heap.size := ⟨_, rfl⟩
  have HSZ := Lib.hid hSZ
  rw [← hSZ] at CL
  have O0 : Hid (w.ownsRow SZ 3 1 (.slice none 0 0) 0 (iv (intsN (cfold E n 0).1))) := World.ownsRow_nil _ _ _ _
  clear hG hH hct hgl hSZ hE6
  go_enter Try.func42, Try.ntmps42
  go_wp2_with fail
  go_loopw [3, 4, 5, 6, 11] (fun e3 e4 e5 e6 ii wr => ∃ (k m c best : Nat) (a : Option Addr), k ≤ n ∧ ii = .int .i64 k ∧ e3 = .slice a m c ∧ e4 = .int .i64 (best : Int) ∧ best ≤ n ∧ m ≤ k ∧ Hid ((cfold E n k).2 = best ∧ (cfold E n k).1.length = m) ∧ Hid (wr.ownsRow SZ 3 1 (.slice a m c) m (iv (intsN (cfold E n k).1))) ∧ Hid (Below SZ w wr)) (fun _ _ _ _ ii _ => n - (intOf ii).toNat)
  case atStart => exact ⟨0, 0, 0, n, none, Nat.zero_le _, rfl, rfl, rfl, Nat.le_refl _, Nat.le_refl _, ⟨rfl, rfl⟩, O0, Below.refl _ _⟩
  case round =>
    clear O0
    obtain ⟨k, m, c, best, a, hk, rfl, rfl, rfl, hbn, hmk, HF, HO, HB⟩ := hrel
    by_cases hlt : k < n
    · have b1 : (k : Int) < (n : Int) := by omega
      have CK := CL.out k hlt
      obtain ⟨f, hf⟩ : ∃ f, f = far E 14 k (-1) := ⟨_, rfl⟩
      have hf7 : f ≤ 14 := by rw [hf]; exact far_fuel E 14 k (-1)
      have CF := cfold_next E n k
      unfold cstep at CF
      rw [← hf, HF.out.1] at CF
      rw [← hf] at CK
      have CK := Lib.hid CK
      have CF := Lib.hid CF
      have HWF := Lib.hid (fun (W : World) => wholeFrom_p k W)
      clear hf
      go_wp2_with fail
      refine (HWF.out _).mono ?_
      rintro e w1 ⟨rfl, hb1⟩
      have sR : SZ ≤ wr.heap.size := by have := HB.out.size; rw [HSZ.out]; rw [HSZ.out] at *; exact this
      have BW1 : Hid (Below SZ w w1) := HB.out.trans (hb1.mono sR)
      have HSR := Lib.hid sR
      have HB1 := Lib.hid hb1
      clear hb1 sR HWF
      go_wp2_with fail
      refine (CK.out _ BW1.out).mono ?_
      rintro e w2 ⟨rfl, hb2⟩
      have hb12 : Below wr.heap.size wr w2 := HB1.out.trans (hb2.mono HB1.out.size)
      have BW2 : Hid (Below SZ w w2) := HB.out.trans (hb12.mono HSR.out)
      have HO2 : Hid (w2.ownsRow SZ 3 1 (.slice a m c) m (iv (intsN (cfold E n k).1))) := own_of_blocks HO.out fun q hq => hb12.block q (HO.out.lt q hq).2
      have S2 : Hid (SZ ≤ w2.heap.size) := Nat.le_trans HSR.out hb12.size
      have z1 : m + 1 ≤ maxLen := by unfold maxLen; omega
      have z2 : (m + 1) * 8 ≤ 140737488355328 := by omega
      clear hb2 hb12 HB1 BW1 HSR HO HB CK
      rcases Nat.lt_trichotomy f best with h1 | h1 | h1
      · have d1 : (f : Int) < (best : Int) := by omega
        have CF2 : Hid (cfold E n (k + 1) = ([k], f)) := by show _ = _; rw [CF.out, if_pos h1]
        have S3 : Hid (SZ ≤ (w2.alloc (.cells #[.int .i64 (k : Int)] 3)).heap.size) := by have := S2.out; show _ ≤ _; rw [World.size_alloc]; omega
        have NN : Hid ((w2.alloc (.cells #[.int .i64 (k : Int)] 3)).ownsRow SZ 3 1 (.slice none 0 0) 0 []) := World.ownsRow_nil _ _ _ _
        clear CF HF HO2
        go_wp2_with (at_builtin; refine wpList_append_lies _ rfl (.tmp 25) (.tmp 27) 34 rfl SZ 3 i0 (.int .i64 0) 1 8 Try.underlying34 hi hz0 hz1 hz2 rfl (Nat.succ_pos 0) _ 0 [] rfl NN.out ⟨w2.heap.size, 0, none⟩ 1 1 [.int .i64 (k : Int)] rfl rfl (cell_one_new _ _ _) (one_intR _) (Nat.lt_succ_self 0) (by unfold maxLen; omega) (by omega) S3.out _ rfl ?_)
        intro g5 c5 w5 hv5 hg5 _ _
        have B5 : Hid (Below SZ w w5) := (BW2.out.alloc S2.out _).grown hg5 S3.out (fun q hq => by cases hq)
        have O5 : Hid (w5.ownsRow SZ 3 1 (.slice (some ⟨g5, 0, none⟩) (0 + 1) c5) (0 + 1) (iv (intsN (cfold E n (k + 1)).1))) := by
          show World.ownsRow _ _ _ _ _ _ _
          rw [CF2.out]; exact hv5
        clear hv5 hg5 S2 BW2 S3 NN
        go_wp2
        go_roundw
        case rel => exact ⟨k + 1, 0 + 1, c5, f, _, by omega, by go_num, rfl, rfl, by omega, by omega, ⟨by rw [CF2.out], by rw [CF2.out]; rfl⟩, O5, B5⟩
        case measure => simp [intOf]; omega
      · subst h1
        have CF2 : Hid (cfold E n (k + 1) = ((cfold E n k).1 ++ [k], f)) := by show _ = _; rw [CF.out, if_neg (by omega), if_pos rfl]
        have S3 : Hid (SZ ≤ (w2.alloc (.cells #[.int .i64 (k : Int)] 3)).heap.size) := by have := S2.out; show _ ≤ _; rw [World.size_alloc]; omega
        have HM : Hid ((cfold E n k).1.length = m) := HF.out.2
        clear CF HF
        go_wp2_with (at_builtin; refine wpList_append_lies _ rfl (.tmp 25) (.tmp 27) 34 rfl SZ 3 i0 (.int .i64 0) 1 8 Try.underlying34 hi hz0 hz1 hz2 rfl (Nat.succ_pos 0) _ m (iv (intsN (cfold E n k).1)) rfl (HO2.out.alloc _) ⟨w2.heap.size, 0, none⟩ 1 1 [.int .i64 (k : Int)] rfl rfl (cell_one_new _ _ _) (one_intR _) (Nat.lt_succ_self 0) z1 z2 S3.out _ rfl ?_)
        intro g5 c5 w5 hv5 hg5 _ _
        have B5 : Hid (Below SZ w w5) := (BW2.out.alloc S2.out _).grown hg5 S3.out (fun q hq => (HO2.out.lt q hq).1)
        have O5 : Hid (w5.ownsRow SZ 3 1 (.slice (some ⟨g5, 0, none⟩) (m + 1) c5) (m + 1) (iv (intsN (cfold E n (k + 1)).1))) := by
          show World.ownsRow _ _ _ _ _ _ _
          rw [CF2.out]
          have e : iv (intsN ((cfold E n k).1 ++ [k])) = iv (intsN (cfold E n k).1) ++ [.int .i64 (k : Int)] := by simp [iv, intsN]
          rw [e]; exact hv5
        clear hv5 hg5 S2 BW2 S3 HO2
        go_wp2
        go_roundw
        case rel => exact ⟨k + 1, m + 1, c5, f, _, by omega, by go_num, rfl, rfl, by omega, by omega, ⟨by rw [CF2.out], by rw [CF2.out, List.length_append, HM.out]; rfl⟩, O5, B5⟩
        case measure => simp [intOf]; omega
      · have d1 : ¬ (f : Int) < (best : Int) := by omega
        have d2 : ((f : Int) == (best : Int)) = false := by rw [beq_eq_false_iff_ne]; omega
        have CF2 : Hid (cfold E n (k + 1) = cfold E n k) := by show _ = _; rw [CF.out, if_neg (by omega), if_neg (by omega)]
        clear CF h1
        go_wp2
        go_roundw
        case rel => exact ⟨k + 1, m, c, best, a, by omega, by go_num, rfl, rfl, by omega, by omega, by show _ ∧ _; rw [CF2.out]; exact HF.out, by show World.ownsRow _ _ _ _ _ _ _; rw [CF2.out]; exact HO2.out, BW2⟩
        case measure => simp [intOf]; omega
    · obtain rfl : k = n := by omega
      have HC : Hid ((cfold E k k).1 = cents k E) := rfl
      rw [HC.out] at HO
      have HM : (cents k E).length = m := HF.out.2
      rcases C2.out with ⟨x, hx, hxn⟩ | ⟨x, y, hxy, hlt1, hyn, _⟩
      · have HX := Lib.hid hx
        rw [hx] at HM HO
        have hm : m = 1 := HM.symm
        subst hm
        have e := HO.out
        obtain ⟨g, cap, cur, e1, _⟩ : ∃ g cap cur, (Value.slice a 1 c) = .slice (some ⟨g, 0, none⟩) 1 cap ∧ cur = (0 : Nat) := by
          rcases e.2 with ⟨_, h0⟩ | ⟨g, cap, cur, q, _⟩
          · omega
          · exact ⟨g, cap, 0, q, rfl⟩
        simp only [Value.slice.injEq] at e1
        obtain ⟨rfl, _, rfl⟩ := e1
        have c0 := e.cellAt 0 (by omega)
        replace c0 : wr.cell? ⟨g, 0, none⟩ = some (.int .i64 (x : Int)) := c0
        have HB1 := HB
        clear HF HO e CL C2 HM hx
        go_wp2
        go_ret
        rw [HX.out]
        exact ⟨rfl, by rw [← HSZ.out]; exact HB1.out⟩
      · have HX := Lib.hid hxy
        rw [hxy] at HM HO
        have hm : m = 2 := HM.symm
        subst hm
        have e := HO.out
        obtain ⟨g, cap, cur, e1, _⟩ : ∃ g cap cur, (Value.slice a 2 c) = .slice (some ⟨g, 0, none⟩) 2 cap ∧ cur = (0 : Nat) := by
          rcases e.2 with ⟨_, h0⟩ | ⟨g, cap, cur, q, _⟩
          · omega
          · exact ⟨g, cap, 0, q, rfl⟩
        simp only [Value.slice.injEq] at e1
        obtain ⟨rfl, _, rfl⟩ := e1
        have c0 := e.cellAt 0 (by omega)
        have c1 := e.cellAt 1 (by omega)
        replace c0 : wr.cell? ⟨g, 0, none⟩ = some (.int .i64 (x : Int)) := c0
        replace c1 : wr.cell? ⟨g, 1, none⟩ = some (.int .i64 (y : Int)) := c1
        have HB1 := HB
        clear HF HO e CL C2 HM hxy
        go_wp2_with fail
        go_quiet (fail)
        go_wp2
        go_ret
        rw [HX.out]
        exact ⟨rfl, by rw [← HSZ.out]; exact HB1.out.trans ⟨rfl, rfl, rfl, Nat.le_refl _, fun _ _ => rfl⟩⟩
end Go.Proofs.Ythlboikljibohaa
