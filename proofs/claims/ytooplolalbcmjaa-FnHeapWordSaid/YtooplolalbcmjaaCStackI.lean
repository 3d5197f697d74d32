/-
  The contract of the program's function that answers a word's row behind a stack.
-/
import Derived.Test.YtooplolalbcmjaaCFamI
namespace Go.Proofs.Ytooplolalbcmjaa
open Go.RowKit

/-- what stands behind k bytes: the stack, the row so far, the place in the text -/
structure Srs (w0 wr : World) (B O I : Nat) (s : ByteArray) (k : Nat) (vs v : Value) (st out : List Nat) : Prop where
  stk : StkAt wr B O 3 vs (ints st)
  row : wr.ownsRow B 3 1 v out.length (ints out)
  it : wr.heap[I]? = some (.stringIter s k)
  below : Below B w0 wr
  far : I ≠ O ∧ I < wr.heap.size ∧ B ≤ I
  vf : ∀ g, vs.ownBlock = some g → g ≠ I
  rf : ∀ g, v.ownBlock = some g → g ≠ I ∧ g ≠ O ∧ vs.ownBlock ≠ some g
section
variable {w0 wr w1 : World} {B O I k : Nat} {s : ByteArray} {vs v v' : Value} {st out st' : List Nat}
theorem Srs.iter (h : Srs w0 wr B O I s k vs v st out) : Srs w0 (wr.iterAt I s (k + 1)) B O I s (k + 1) vs v st out := by
  obtain ⟨f1, f2, f3⟩ := h.far
  have hz := Lib.iterAt_size wr I s (k + 1)
  have ho : ∀ j, j ≠ I → (wr.iterAt I s (k + 1)).heap[j]? = wr.heap[j]? := fun j hj => Lib.iterAt_other wr I j s (k + 1) hj
  exact ⟨h.stk.kept (ho O (fun e => f1 e.symm)) (fun g hg => ho g (h.vf g hg)) (by rw [hz]; exact Nat.le_refl _), own_of_blocks h.row fun g hg => ho g (h.rf g hg).1,
    Lib.iterAt_heap wr I s k (k + 1) h.it, Lib.below_iterAt h.below f3 s (k + 1), ⟨f1, by rw [hz]; exact f2, f3⟩, h.vf, h.rf⟩
theorem Srs.turn (h : Srs w0 wr B O I s k vs v st out) (hS : StkAt w1 B O 3 v' (ints st')) (hL : Left_ wr w1 B O vs v') : Srs w0 w1 B O I s k v' v st' out := by
  obtain ⟨f1, f2, f3⟩ := h.far
  have hsz := hL.below.size
  refine ⟨hS, own_of_blocks h.row fun g hg => hL.block g (h.row.lt g hg).2 (h.rf g hg).2.1 (h.rf g hg).2.2, ?_, h.below.trans hL.below, ⟨f1, by omega, f3⟩, fun g hg => ?_, fun g hg => ⟨(h.rf g hg).1, (h.rf g hg).2.1, fun e => ?_⟩⟩
  · rw [hL.block I f2 f1 (fun e => h.vf I e rfl)]; exact h.it
  · rcases hL.row with e | ⟨g', e, hge⟩
    · rw [hg] at e; exact h.vf g e.symm
    · rw [hg] at e; cases e; omega
  · rcases hL.row with e' | ⟨g', e', hge⟩
    · rw [e'] at e; exact (h.rf g hg).2.2 e
    · rw [e] at e'; cases e'
      have := (h.row.lt g hg).2; omega
theorem Srs.app {g c x : Nat} (h : Srs w0 wr B O I s k vs v st out) (hv : w1.ownsRow B 3 1 (.slice (some ⟨g, 0, none⟩) (out.length + 1) c) (out.length + 1) (ints out ++ [.int .i64 (x : Int)]))
    (hg : (wr.alloc (.cells #[.int .i64 (x : Int)] 3)).grownBy w1 v.ownBlock) (hw : v.ownBlock = some g ∨ g = wr.heap.size + 1) : Srs w0 w1 B O I s k vs (.slice (some ⟨g, 0, none⟩) (out.length + 1) c) st (out ++ [x]) := by
  obtain ⟨f1, f2, f3⟩ := h.far
  have hsz := hg.size
  have hz : (wr.alloc (.cells #[.int .i64 (x : Int)] 3)).heap.size = wr.heap.size + 1 := by simp
  rw [hz] at hsz
  have hb : ∀ b, b < wr.heap.size → v.ownBlock ≠ some b → w1.heap[b]? = wr.heap[b]? := fun b hb hne => by
    rw [hg.block b (by rw [hz]; omega) (fun e => hne e.symm), Below.heap_alloc _ _ _ hb]
  have hOlt := h.stk.lt
  refine ⟨h.stk.kept (hb O hOlt (fun e => (h.rf O e).2.1 rfl)) (fun q hq => hb q (h.stk.own.lt q hq).2 (fun e => (h.rf q e).2.2 hq)) (by omega), ?_, ?_, ?_, ⟨f1, by omega, f3⟩, h.vf, fun q hq => ?_⟩
  · have e : ints out ++ [.int .i64 (x : Int)] = ints (out ++ [x]) := by rw [ints_snoc]
    rw [e] at hv
    rw [List.length_append]
    exact hv
  · rw [hb I f2 (fun e => (h.rf I e).1 rfl)]; exact h.it
  · exact (h.below.alloc (by omega) _).grown hg (by rw [hz]; omega) (fun q hq => (h.row.lt q hq).1)
  · simp only [Value.ownBlock, Option.some.injEq] at hq
    subst hq
    rcases hw with e | e
    · exact h.rf _ e
    · refine ⟨by omega, by omega, fun e' => by have := (h.stk.own.lt _ e').2; omega⟩
end
def srs0 (w : World) (t2 : TypeId) (s : ByteArray) : World := (w.alloc (.cells #[.slice none 0 0] t2)).iter s 0
theorem srs_start (w0 w : World) (B : Nat) (hB : Below B w0 w) (hle : B ≤ w.heap.size) (t2 : TypeId) (s : ByteArray) : Srs w0 (srs0 w t2 s) B w.heap.size (w.heap.size + 1) s 0 (.slice none 0 0) (.slice none 0 0) [] [] := by
  have z1 : (w.alloc (.cells #[.slice none 0 0] t2)).heap.size = w.heap.size + 1 := by simp
  have z3 : (srs0 w t2 s).heap.size = w.heap.size + 1 + 1 := by
    show ((w.alloc (.cells #[.slice none 0 0] t2)).alloc (.stringIter s 0)).heap.size = _
    simp
  have b1 : (srs0 w t2 s).heap[w.heap.size]? = (w.alloc (.cells #[.slice none 0 0] t2)).heap[w.heap.size]? := by
    show ((w.alloc (.cells #[.slice none 0 0] t2)).alloc (.stringIter s 0)).heap[w.heap.size]? = _
    rw [Below.heap_alloc _ _ _ (by rw [z1]; omega)]
  refine ⟨⟨?_, ?_, by rw [z3]; omega, hle, World.ownsRow_nil _ _ _ _, by simp [Value.ownBlock]⟩, World.ownsRow_nil _ _ _ _, ?_, ?_, ⟨by omega, by rw [z3]; omega, by omega⟩, fun g hg => by simp [Value.ownBlock] at hg, fun g hg => by simp [Value.ownBlock] at hg⟩
  · exact (World.cell?_of_block (w := w.alloc (.cells #[.slice none 0 0] t2)) (a := ⟨w.heap.size, 0, none⟩) b1).trans (World.cell?_alloc_new w _ _ _)
  · exact (World.frozen?_of_block (w := w.alloc (.cells #[.slice none 0 0] t2)) (a := ⟨w.heap.size, 0, none⟩) b1).trans (World.frozen?_alloc_at _ _ _ _ rfl)
  · have := World.iter_heap (w.alloc (.cells #[.slice none 0 0] t2)) s 0
    rw [z1] at this
    exact this
  · exact (hB.alloc hle _).alloc (by rw [z1]; omega) _
theorem stackF_small {s : ByteArray} (h : valid s.data.toList = true) (k : Nat) : (stackF (s.data.toList.take k)).1.length ≤ 18 ∧ (stackF (s.data.toList.take k)).2.1.length ≤ 18 ∧ (stackF (s.data.toList.take k)).2.2 ≤ 18 := by
  obtain ⟨o, ho⟩ := valid_take h k
  have h18 := valid_size h
  have hl : (s.data.toList.take k).length ≤ 18 := by rw [List.length_take, size_list]; omega
  have h1 := stackF_len (s.data.toList.take k).reverse o (by rw [List.reverse_reverse]; exact ho)
  rw [List.reverse_reverse, List.length_reverse] at h1
  have := scan_le _ o ho
  omega

set_option maxHeartbeats 3200000 in
theorem implStackRow_yes (s : ByteArray) (w : World) (hv : Hid (valid s.data.toList = true)) :
    Calls Try.prog 17 #[.string s] w (IntsOut (stackL s.data.toList) w) := by
  have h18 := valid_size hv.out
  have hsm : s.size ≤ maxLen := by unfold maxLen; omega
  obtain ⟨i0, hi, hz0, hz1, hz2⟩ := info_parts Try.infoIntS
  go_enter Try.func17, Try.ntmps17
  go_wp2_with (go_at_call 27; refine (implValid_is true _ _ hsm hv).mono ?_; rintro e w1 ⟨rfl, hb1⟩)
  have hst := srs_start w w1 w.heap.size hb1 hb1.size 51 s
  obtain ⟨w2, hw2⟩ : ∃ w2, w2 = srs0 w1 51 s := ⟨_, rfl⟩
  rw [← hw2] at hst
  have hw2' : (w1.alloc (.cells #[.slice none 0 0] 51)).iter s 0 = w2 := hw2.symm
  rw [hw2']
  have hle := hb1.size
  clear hw2 hw2' hb1
  obtain ⟨O, hO⟩ : ∃ O, O = w1.heap.size := ⟨_, rfl⟩
  obtain ⟨I, hI⟩ : ∃ I, I = w1.heap.size + 1 := ⟨_, rfl⟩
  rw [← hI, ← hO] at hst ⊢
  rw [← hO] at hle
  have HST := Lib.hid hst
  obtain ⟨B, hB⟩ : ∃ B, B = w.heap.size := ⟨_, rfl⟩
  rw [← hB] at HST hle
  have HBW := Lib.hid hB
  clear hO hI hst hB
  go_loopw [3, 5] (fun row num wr => ∃ (k n : Nat) (a : Option Addr) (m c : Nat) (vs : Value), k ≤ s.size ∧ row = .slice a m c ∧ num = .int .i64 n ∧ Hid ((stackF (s.data.toList.take k)).2.2 = n) ∧ Hid ((stackF (s.data.toList.take k)).2.1.length = m) ∧ Hid (Srs w wr B O I s k vs (.slice a m c) (stackF (s.data.toList.take k)).1 (stackF (s.data.toList.take k)).2.1)) (fun _ _ wr => s.size - wr.iterPos I)
  case atStart => exact ⟨0, 0, none, 0, 0, .slice none 0 0, Nat.zero_le _, rfl, rfl, rfl, rfl, HST.out⟩
  case round =>
    obtain ⟨k, n, a, m, c, vs, hk, rfl, rfl, HN, HM, P⟩ := hrel
    clear HST
    have hpos := Lib.hid (iterPos_of P.out.it)
    by_cases hlt : k < s.size
    · obtain ⟨wi, hwi⟩ : ∃ wi, wi = wr.iterAt I s (k + 1) := ⟨_, rfl⟩
      have P1 := Lib.hid P.out.iter
      rw [← hwi] at P1
      have hit := P.out.it
      obtain ⟨sm1, sm2, sm3⟩ := stackF_small hv.out k
      have hle1 : B ≤ wi.heap.size := by have := P1.out.far; omega
      rcases valid_byte hv.out k hlt with hc | hc
      · have N := stackF_opn hlt hc
        rw [HN.out] at N
        obtain ⟨st, hst⟩ : ∃ st, st = (stackF (s.data.toList.take k)).1 := ⟨_, rfl⟩
        obtain ⟨out, hout⟩ : ∃ out, out = (stackF (s.data.toList.take k)).2.1 := ⟨_, rfl⟩
        rw [← hst, ← hout] at P1 N
        rw [← hst] at sm1
        rw [HN.out] at sm3
        have HM2 : Hid (out.length = m) := by rw [hout]; exact HM.out
        have N := Lib.hid N
        have hcp : ((s[k].toNat : Int) == 40) = true := by rw [hc]; rfl
        have ha : s[k].toNat < 128 := by omega
        have hnx : ∀ ty, _ := fun ty => Lib.run_next_ascii_at (P := Try.prog) wr I s k ty hit hlt ha
        rw [← hwi] at hnx
        have h64 : (ints st).length ≤ 64 := by rw [ints_length]; omega
        have HS := Lib.hid P1.out.stk
        clear hst hout P hit hwi hc ha HN HM
        go_wp2_with (go_at_call 52; refine (pushI_any O vs (ints st) n wi HS h64).mono ?_; rintro e w4 ⟨rfl, g, cc, hS1, hL1⟩)
        have e1 : ints st ++ [.int .i64 (n : Int)] = ints (st ++ [n]) := by rw [ints_snoc]
        rw [e1] at hS1
        have P2 := Lib.hid (P1.out.turn hS1 hL1)
        have HIt := Lib.hid (iterPos_of P2.out.it)
        clear hS1 hL1 HS h64 e1
        go_wp2
        go_roundw
        case rel => exact ⟨k + 1, n + 1, a, m, c, _, by omega, rfl, by go_num, by rw [N.out]; rfl, by rw [N.out]; exact HM2.out, by rw [N.out]; exact P2.out⟩
        case measure => rw [HIt.out, hpos.out]; omega
      · have N := stackF_cls hlt hc
        obtain ⟨o, ho⟩ := valid_take hv.out k
        have hso := stackF_len' _ o ho
        have hpos1 : 0 < o := by
          obtain ⟨q, hq⟩ := valid_take hv.out (k + 1)
          rw [scan_next hlt ho] at hq
          apply Classical.byContradiction
          intro e
          obtain rfl : o = 0 := by omega
          simp [vstep, hc] at hq
        rw [HN.out] at N
        obtain ⟨st, hst⟩ : ∃ st, st = (stackF (s.data.toList.take k)).1 := ⟨_, rfl⟩
        obtain ⟨out, hout⟩ : ∃ out, out = (stackF (s.data.toList.take k)).2.1 := ⟨_, rfl⟩
        rw [← hst, ← hout] at P1 N
        rw [← hst] at sm1 hso
        rw [← hout] at sm2
        have HM2 : Hid (out.length = m) := by rw [hout]; exact HM.out
        obtain ⟨j, rfl⟩ : ∃ j, o = j + 1 := ⟨o - 1, by omega⟩
        have hx : Hid ((ints st)[j]? = some (.int .i64 ((st.getLastD 0 : Nat) : Int))) := by
          rw [getLastD_at st j hso]
          exact ints_at2 st j (by omega)
        obtain ⟨x, hxx⟩ : ∃ x, x = st.getLastD 0 := ⟨_, rfl⟩
        rw [← hxx] at hx N
        have N := Lib.hid N
        have hln : Hid ((ints st).length = j + 1) := by rw [ints_length]; exact hso
        have hj64 : j ≤ 64 := by omega
        have hcp : ((s[k].toNat : Int) == 40) = false := by rw [hc]; rfl
        have ha : s[k].toNat < 128 := by omega
        have hnx : ∀ ty, _ := fun ty => Lib.run_next_ascii_at (P := Try.prog) wr I s k ty hit hlt ha
        rw [← hwi] at hnx
        have HS := Lib.hid P1.out.stk
        rw [HM2.out] at sm2
        clear hst hout P hit hwi hc ha HN HM ho hso hpos1 hxx
        go_wp2_with fail
        refine (popI_any O vs (ints st) x wi HS hln hj64 hx).mono ?_
        rintro e w4 ⟨rfl, g, cc, rfl, hS1, hL1⟩
        rw [ints_dropLast] at hS1
        have P2 := P1.out.turn hS1 hL1
        have hw5 := P2.row
        rw [HM2.out] at hw5
        have HW5 := Lib.hid hw5
        have P2 := Lib.hid P2
        have z1 : m + 1 ≤ maxLen := by unfold maxLen; omega
        have z2 : (m + 1) * 8 ≤ 140737488355328 := by omega
        have Z3 := Lib.hid (show ∀ o : Obj, B ≤ (w4.alloc o).heap.size by intro o; have := P2.out.far; simp; omega)
        have Z4 := Lib.hid (show ∀ o : Obj, (w4.alloc o).heap.size = w4.heap.size + 1 by intro o; simp)
        clear hS1 hL1 hw5 HS hx hln
        go_wp2_with (at_builtin; refine wpList_append_lies _ rfl (.tmp 29) (.tmp 31) 23 rfl B 3 i0 (.int .i64 0) 1 8 Try.underlying23 hi hz0 hz1 hz2 rfl (by decide) _ m (ints out) rfl (HW5.out.alloc _) ⟨w4.heap.size, 0, none⟩ 1 1 [_] rfl rfl (cell_one_new _ _ _) (one_int2 _) (by decide) z1 z2 (Z3.out _) (w4.heap.size + 1) (Z4.out _) ?_)
        intro g5 c5 w5 hv5 hg5 hw6 hl5
        have P3 := P2.out.app (x := x) (by rw [HM2.out]; exact hv5) hg5 hw6
        rw [HM2.out] at P3
        have P3 := Lib.hid P3
        have HIt := Lib.hid (iterPos_of P3.out.it)
        clear hv5 hg5 hw6 hl5 HW5
        go_wp2
        go_roundw
        case rel => exact ⟨k + 1, n, _, m + 1, c5, _, by omega, rfl, rfl, by rw [N.out]; rfl, by rw [N.out]; show (out ++ [x]).length = m + 1; rw [List.length_append, HM2.out]; rfl, by rw [N.out]; exact P3.out⟩
        case measure => rw [HIt.out, hpos.out]; omega
    · obtain rfl : k = s.size := by omega
      have hit := P.out.it
      have hnx := fun ty => Lib.run_next_end_at (P := Try.prog) wr I s s.size ty hit hlt
      have P := P.out
      rw [List.take_of_length_le (Nat.le_of_eq (size_list s))] at P HM
      have HP := Lib.hid P
      clear P hit
      go_wp2
      go_ret
      rw [HBW.out] at HP
      refine ⟨_, rfl, ?_, HP.out.below⟩
      rw [stackL, iv_ints]
      refine Own.of_own ?_
      rw [ints_length]
      exact HP.out.row
theorem implStackRow_no (s : ByteArray) (w : World) (hs : s.size ≤ maxLen) (hv : Hid (valid s.data.toList = false)) :
    Calls Try.prog 17 #[.string s] w (IntsOut [] w) := by
  go_enter Try.func17, Try.ntmps17
  go_wp2_with (go_at_call 27; refine (implValid_is false _ _ hs hv).mono ?_; rintro e w1 ⟨rfl, hb⟩)
  go_ret
  exact nilOut _ _ (by assumption)
theorem implStackRow_any (s : ByteArray) (w : World) (hs : s.size ≤ maxLen) :
    Calls Try.prog 17 #[.string s] w (IntsOut (stackOut s.data.toList) w) := by
  cases hv : valid s.data.toList with
  | true => rw [stackOut, if_pos hv]; exact implStackRow_yes s w hv
  | false => rw [stackOut, if_neg (by rw [hv]; decide)]; exact implStackRow_no s w hs hv
end Go.Proofs.Ytooplolalbcmjaa
