/-
  The contract of the program's function that answers the words one turn away.
-/
import Derived.Test.YtcfenbienebbjaaCAppT
import Derived.Test.YtcfenbienebbjaaCTurnG
import Derived.StillTailTactics
namespace Go.Proofs.Ytcfenbienebbjaa
open Go.RowKit

/-- what stands behind k bytes: the stack, the words so far, the place in the text -/
structure Trs (w0 wr : World) (B O I : Nat) (s : ByteArray) (k : Nat) (vs v : Value) (st : List Nat) (out : List (List UInt8)) : Prop where
  stk : StkAt wr B O 3 vs (ints st)
  row : wr.ownsRow B 9 1 v out.length (sv out)
  it : wr.heap[I]? = some (.stringIter s k)
  below : Below B w0 wr
  far : I ≠ O ∧ I < wr.heap.size ∧ B ≤ I
  vf : ∀ g, vs.ownBlock = some g → g ≠ I
  rf : ∀ g, v.ownBlock = some g → g ≠ I ∧ g ≠ O ∧ vs.ownBlock ≠ some g
section
variable {w0 wr w1 : World} {B O I k : Nat} {s : ByteArray} {vs v v' : Value} {st st' : List Nat} {out out' : List (List UInt8)}
theorem Trs.iter (h : Trs w0 wr B O I s k vs v st out) : Trs w0 (wr.iterAt I s (k + 1)) B O I s (k + 1) vs v st out := by
  obtain ⟨f1, f2, f3⟩ := h.far
  have hz := Lib.iterAt_size wr I s (k + 1)
  have ho : ∀ j, j ≠ I → (wr.iterAt I s (k + 1)).heap[j]? = wr.heap[j]? := fun j hj => Lib.iterAt_other wr I j s (k + 1) hj
  exact ⟨h.stk.kept (ho O (fun e => f1 e.symm)) (fun g hg => ho g (h.vf g hg)) (by rw [hz]; exact Nat.le_refl _), own_of_blocks h.row fun g hg => ho g (h.rf g hg).1,
    Lib.iterAt_heap wr I s k (k + 1) h.it, Lib.below_iterAt h.below f3 s (k + 1), ⟨f1, by rw [hz]; exact f2, f3⟩, h.vf, h.rf⟩
theorem Trs.turn (h : Trs w0 wr B O I s k vs v st out) (hS : StkAt w1 B O 3 v' (ints st')) (hL : Left_ wr w1 B O vs v') : Trs w0 w1 B O I s k v' v st' out := by
  obtain ⟨f1, f2, f3⟩ := h.far
  have hsz := hL.below.size
  refine ⟨hS, own_of_blocks h.row fun g hg => hL.block g (h.row.lt g hg).2 (h.rf g hg).2.1 (h.rf g hg).2.2, ?_, h.below.trans hL.below, ⟨f1, by omega, f3⟩, fun g hg => ?_, fun g hg => ⟨(h.rf g hg).1, (h.rf g hg).2.1, fun e => ?_⟩⟩
  · rw [hL.block I f2 f1 (fun e => h.vf I e rfl)]; exact h.it
  · rcases hL.row with e | ⟨g', e, hge⟩
    · rw [hg] at e; exact h.vf g e.symm
    · rw [hg] at e; cases e; omega
  · rcases hL.row with e' | ⟨g', e', hge⟩
    · rw [e'] at e; exact (h.rf g hg).2.2 e
    · rw [e] at e'; cases e'
      have := (h.row.lt g hg).2; omega
theorem Trs.drew (h : Trs w0 wr B O I s k vs v st out) : Trs w0 wr.drew B O I s k vs v st out :=
  ⟨h.stk.kept rfl (fun _ _ => rfl) (Nat.le_refl _), own_of_blocks h.row fun _ _ => rfl, h.it, Below.drew h.below, h.far, h.vf, h.rf⟩
theorem Trs.app (h : Trs w0 wr B O I s k vs v st out) (hv : w1.ownsRow B 9 1 v' out'.length (sv out')) (hA : App wr w1 B v v') : Trs w0 w1 B O I s k vs v' st out' := by
  obtain ⟨f1, f2, f3⟩ := h.far
  have hsz := hA.below.size
  have hOlt := h.stk.lt
  refine ⟨h.stk.kept (hA.block O hOlt (fun e => (h.rf O e).2.1 rfl)) (fun q hq => hA.block q (h.stk.own.lt q hq).2 (fun e => (h.rf q e).2.2 hq)) hsz, hv, ?_, h.below.trans hA.below, ⟨f1, by omega, f3⟩, h.vf, fun q hq => ?_⟩
  · rw [hA.block I f2 (fun e => (h.rf I e).1 rfl)]; exact h.it
  · rcases hA.row with e | ⟨g', e, hge⟩
    · rw [e] at hq; exact h.rf q hq
    · rw [e] at hq; cases hq
      refine ⟨by omega, by omega, fun e' => by have := (h.stk.own.lt _ e').2; omega⟩
end
def trs0 (w : World) (t2 : TypeId) (s : ByteArray) : World := (w.alloc (.cells #[.slice none 0 0] t2)).iter s 0
theorem trs_start (w0 w : World) (B : Nat) (hB : Below B w0 w) (hle : B ≤ w.heap.size) (t2 : TypeId) (s : ByteArray) : Trs w0 (trs0 w t2 s) B w.heap.size (w.heap.size + 1) s 0 (.slice none 0 0) (.slice none 0 0) [] [] := by
  have z1 : (w.alloc (.cells #[.slice none 0 0] t2)).heap.size = w.heap.size + 1 := by simp
  have z3 : (trs0 w t2 s).heap.size = w.heap.size + 1 + 1 := by
    show ((w.alloc (.cells #[.slice none 0 0] t2)).alloc (.stringIter s 0)).heap.size = _
    simp
  have b1 : (trs0 w t2 s).heap[w.heap.size]? = (w.alloc (.cells #[.slice none 0 0] t2)).heap[w.heap.size]? := by
    show ((w.alloc (.cells #[.slice none 0 0] t2)).alloc (.stringIter s 0)).heap[w.heap.size]? = _
    rw [Below.heap_alloc _ _ _ (by rw [z1]; omega)]
  refine ⟨⟨?_, ?_, by rw [z3]; omega, hle, World.ownsRow_nil _ _ _ _, by simp [Value.ownBlock]⟩, World.ownsRow_nil _ _ _ _, ?_, ?_, ⟨by omega, by rw [z3]; omega, by omega⟩, fun g hg => by simp [Value.ownBlock] at hg, fun g hg => by simp [Value.ownBlock] at hg⟩
  · exact (World.cell?_of_block (w := w.alloc (.cells #[.slice none 0 0] t2)) (a := ⟨w.heap.size, 0, none⟩) b1).trans (World.cell?_alloc_new w _ _ _)
  · exact (World.frozen?_of_block (w := w.alloc (.cells #[.slice none 0 0] t2)) (a := ⟨w.heap.size, 0, none⟩) b1).trans (World.frozen?_alloc_at _ _ _ _ rfl)
  · have := World.iter_heap (w.alloc (.cells #[.slice none 0 0] t2)) s 0
    rw [z1] at this
    exact this
  · exact (hB.alloc hle _).alloc (by rw [z1]; omega) _

/-! ### one step -/
theorem runT_opn {s : ByteArray} {k : Nat} (hk : k < s.size) (hc : s[k].toNat = 40) : runT s.data.toList (k + 1) = ((runT s.data.toList k).1, (runT s.data.toList k).2 ++ [k]) := by
  rw [runT_step _ k (by rw [size_list]; exact hk), tstep]
  exact if_pos hc
theorem runT_cls {s : ByteArray} {k : Nat} (hk : k < s.size) (hc : s[k].toNat = 41) : runT s.data.toList (k + 1) =
    ((runT s.data.toList k).1 ++ appT (s.extract 0 ((runT s.data.toList k).2.getLastD 0)).data.toList (s.extract ((runT s.data.toList k).2.getLastD 0) (k + 1)).data.toList (s.extract (k + 1) s.size).data.toList, (runT s.data.toList k).2.dropLast) := by
  rw [runT_step _ k (by rw [size_list]; exact hk), tstep]
  refine (if_neg (by show ¬ s[k].toNat = 40; omega)).trans ?_
  rw [extract_list, extract_list, extract_list, List.drop_zero, Nat.sub_zero, List.drop_take, List.take_of_length_le (l := s.data.toList.drop (k + 1)) (by rw [List.length_drop, size_list]; exact Nat.le_refl _)]
theorem sort_asc (M : List (List UInt8)) : (M.mergeSort fun x y => decide (x ≤ y)).Pairwise (fun x y => x ≤ y) := by
  have hle : ∀ x y : List UInt8, decide (x ≤ y) = true ↔ lessL y x = false := by
    intro x y
    rw [decide_eq_true_iff]
    constructor
    · intro h
      cases hl : lessL y x with
      | false => rfl
      | true => exact absurd (less_lt.1 hl) h
    · intro h h1
      rw [less_lt.2 h1] at h; cases h
  have := List.pairwise_mergeSort (le := fun x y : List UInt8 => decide (x ≤ y)) (fun a b c h1 h2 => by
    rw [hle] at h1 h2 ⊢
    cases h3 : lessL c a with
    | false => rfl
    | true =>
      exfalso
      rcases less_total a b with e | e | e
      · rw [less_trans _ _ _ h3 e] at h2; cases h2
      · subst e; rw [h3] at h2; cases h2
      · rw [e] at h1; cases h1) (fun a b => by
    rw [Bool.or_eq_true, hle, hle]
    cases h1 : lessL b a with
    | false => exact .inl rfl
    | true =>
      right
      cases h2 : lessL a b with
      | false => rfl
      | true => have := less_trans _ _ _ h1 h2; rw [less_self] at this; cases this) M
  exact this.imp fun h => by simpa using h
theorem sort_out (t : Tw) : ((t.col [] []).mergeSort fun x y => decide (x ≤ y)) = turnsOut t := sort_turns t (List.mergeSort_perm _ _) (sort_asc _)

set_option maxHeartbeats 3200000 in
set_option maxRecDepth 100000 in
theorem implTurnsOf_yes (t : Tw) (s : ByteArray) (w : World) (hs : s.data.toList = t.lst) (hv : Hid (valid s.data.toList = true)) :
    Calls Try.prog 8 #[.string s] w (TextsOut (turnsOut t) w) := by
  have h18 := valid_size hv.out
  have hsm : s.size ≤ maxLen := by unfold maxLen; omega
  have HT := Lib.hid hs
  clear hs
  go_enter Try.func8, Try.ntmps8
  go_wp2_with (go_at_call 21; refine (implValid_is true _ _ hsm hv).mono ?_; rintro e w1 ⟨rfl, hb1⟩)
  have hst := trs_start w w1 w.heap.size hb1 hb1.size 35 s
  obtain ⟨w2, hw2⟩ : ∃ w2, w2 = trs0 w1 35 s := ⟨_, rfl⟩
  rw [← hw2] at hst
  have hw2' : (w1.alloc (.cells #[.slice none 0 0] 35)).iter s 0 = w2 := hw2.symm
  rw [hw2']
  have hle := hb1.size
  clear hw2 hw2' hb1
  obtain ⟨O, hO⟩ : ∃ O, O = w1.heap.size := ⟨_, rfl⟩
  obtain ⟨I, hI⟩ : ∃ I, I = w1.heap.size + 1 := ⟨_, rfl⟩
  rw [← hI, ← hO] at hst ⊢
  rw [← hO] at hle
  have HST := Lib.hid hst
  obtain ⟨B, hB⟩ : ∃ B, B = w.heap.size := ⟨_, rfl⟩
  rw [← hB] at HST hle
  have HBW := Lib.hid hB
  clear hO hI hst hB
  go_loopw [3] (fun row wr => ∃ (k : Nat) (a : Option Addr) (m c : Nat) (vs : Value), k ≤ s.size ∧ row = .slice a m c ∧ Hid ((runT s.data.toList k).1.length = m) ∧ Hid (Trs w wr B O I s k vs (.slice a m c) (runT s.data.toList k).2 (runT s.data.toList k).1)) (fun _ wr => s.size - wr.iterPos I)
  case atStart => exact ⟨0, none, 0, 0, .slice none 0 0, Nat.zero_le _, rfl, rfl, HST.out⟩
  case round =>
    obtain ⟨k, a, m, c, vs, hk, rfl, HM, P⟩ := hrel
    clear HST
    have hpos := Lib.hid (iterPos_of P.out.it)
    by_cases hlt : k < s.size
    · obtain ⟨wi, hwi⟩ : ∃ wi, wi = wr.iterAt I s (k + 1) := ⟨_, rfl⟩
      have P1 := Lib.hid P.out.iter
      rw [← hwi] at P1
      have hit := P.out.it
      obtain ⟨o, ho⟩ := valid_take hv.out k
      have hol := scan_le _ o ho
      have hlk : k ≤ s.data.toList.length := by rw [size_list]; omega
      have hso := runT_open s.data.toList k o hlk ho
      obtain ⟨sm1, sm2⟩ := runT_small s.data.toList k
      rw [List.length_take, size_list] at hol
      have hle1 : B ≤ wi.heap.size := by have := P1.out.far; omega
      rcases valid_byte hv.out k hlt with hc | hc
      · have N := runT_opn hlt hc
        obtain ⟨st, hst⟩ : ∃ st, st = (runT s.data.toList k).2 := ⟨_, rfl⟩
        obtain ⟨out, hout⟩ : ∃ out, out = (runT s.data.toList k).1 := ⟨_, rfl⟩
        rw [← hst, ← hout] at P1 N
        rw [← hst] at hso
        have HM2 : Hid (out.length = m) := by rw [hout]; exact HM.out
        have N := Lib.hid N
        have hcp : ((s[k].toNat : Int) == 40) = true := by rw [hc]; rfl
        have ha : s[k].toNat < 128 := by omega
        have hnx : ∀ ty, _ := fun ty => Lib.run_next_ascii_at (P := Try.prog) wr I s k ty hit hlt ha
        rw [← hwi] at hnx
        have h64 : (ints st).length ≤ 64 := by rw [ints_length]; omega
        have HS := Lib.hid P1.out.stk
        clear hst hout P hit hwi hc ha HM ho hol hso sm1 sm2 hlk
        go_wp2_with (go_at_call 22; refine (pushI_any O vs (ints st) k wi HS h64).mono ?_; rintro e w4 ⟨rfl, g, cc, hS1, hL1⟩)
        have e1 : ints st ++ [.int .i64 (k : Int)] = ints (st ++ [k]) := by rw [ints_snoc]
        rw [e1] at hS1
        have P2 := Lib.hid (P1.out.turn hS1 hL1)
        have HIt := Lib.hid (iterPos_of P2.out.it)
        clear hS1 hL1 HS h64 e1
        go_wp2
        go_roundw
        case rel => exact ⟨k + 1, a, m, c, _, by omega, rfl, by rw [N.out]; exact HM2.out, by rw [N.out]; exact P2.out⟩
        case measure => rw [HIt.out, hpos.out]; omega
      · have N := runT_cls hlt hc
        have hpos1 : 0 < o := by
          obtain ⟨q, hq⟩ := valid_take hv.out (k + 1)
          rw [scan_next hlt ho] at hq
          apply Classical.byContradiction
          intro e
          obtain rfl : o = 0 := by omega
          simp [vstep, hc] at hq
        obtain ⟨st, hst⟩ : ∃ st, st = (runT s.data.toList k).2 := ⟨_, rfl⟩
        obtain ⟨out, hout⟩ : ∃ out, out = (runT s.data.toList k).1 := ⟨_, rfl⟩
        rw [← hst, ← hout] at P1 N
        rw [← hst] at hso sm2
        rw [← hout] at sm1
        have HM2 : Hid (out.length = m) := by rw [hout]; exact HM.out
        obtain ⟨j, rfl⟩ : ∃ j, o = j + 1 := ⟨o - 1, by omega⟩
        have hx : Hid ((ints st)[j]? = some (.int .i64 ((st.getLastD 0 : Nat) : Int))) := by
          rw [getLastD_at st j hso]
          exact ints_at2 st j (by omega)
        have hbk : st.getLastD 0 < k := by
          rw [getLastD_at st j hso]
          exact sm2 _ (List.getElem_mem _)
        obtain ⟨b, hb⟩ : ∃ b, b = st.getLastD 0 := ⟨_, rfl⟩
        rw [← hb] at hx N hbk
        have N := Lib.hid N
        have hln : Hid ((ints st).length = j + 1) := by rw [ints_length]; exact hso
        have hj64 : j ≤ 64 := by omega
        have hcp : ((s[k].toNat : Int) == 40) = false := by rw [hc]; rfl
        have ha : s[k].toNat < 128 := by omega
        have hnx : ∀ ty, _ := fun ty => Lib.run_next_ascii_at (P := Try.prog) wr I s k ty hit hlt ha
        rw [← hwi] at hnx
        have HS := Lib.hid P1.out.stk
        rw [HM2.out] at sm1
        have hm64 : m ≤ 64 := by omega
        clear hst hout P hit hwi hc ha HM ho hol hso hpos1 hb sm1 sm2 hlk
        go_wp2_with fail
        refine (popI_any O vs (ints st) b wi HS hln hj64 hx).mono ?_
        rintro e w4 ⟨rfl, g, cc, rfl, hS1, hL1⟩
        rw [ints_dropLast] at hS1
        have P2 := Lib.hid (P1.out.turn hS1 hL1)
        clear hS1 hL1 HS hx hln
        have ew : IntKind.i64.wrap ((k : Int) + 1) = (k : Int) + 1 := by rw [IntKind.wrap_i64]; omega
        have u1 : (0 : Int) ≤ (k : Int) + 1 := by omega
        have u2 : (k : Int) + 1 ≤ (s.size : Int) := by omega
        have u3 : ((k : Int) + 1).toNat = k + 1 := by omega
        have u4 : k + 1 ≤ s.size := by omega
        have u5 : (b : Int) ≤ (k : Int) + 1 := by omega
        have u6 : (b : Int) ≤ (s.size : Int) := by omega
        have u7 : b ≤ k + 1 := by omega
        go_wp2_with fail
        have P3 := Lib.hid P2.out.drew
        have hle4 : B ≤ w4.drew.heap.size := by have := P3.out.far; omega
        have E1 : (s.extract 0 b).size ≤ 64 := by rw [ByteArray.size_extract]; omega
        have E2 : (s.extract b (k + 1)).size ≤ 64 := by rw [ByteArray.size_extract]; omega
        have E3 : (s.extract (k + 1) s.size).size ≤ 64 := by rw [ByteArray.size_extract]; omega
        have HR := P3.out.row
        have CA := appendTurns_any (.slice a m c) out (s.extract 0 b) (s.extract b (k + 1)) (s.extract (k + 1) s.size) w4.drew (Lib.hid HR) (Lib.hid hle4) (by rw [HM2.out]; exact hm64) E1 E2 E3
        have CA := Lib.hid CA
        clear HR E1 E2 E3 hle4
        go_still_tail 13, (by kernel_rfl)
        change wpList _ _ _ _ _ w4.drew
        obtain ⟨w6, hw6⟩ : ∃ w6, w6 = w4.drew := ⟨_, rfl⟩
        rw [← hw6] at CA P3 ⊢
        clear hw6 P2 P1 hnx ew u1 u2 u3 u4 u5 u6 u7
        go_wp2_with (go_at_call 24; refine CA.out.mono ?_; rintro e w7 ⟨v7, rfl, hr7, ha7⟩)
        have P4 := P3.out.app hr7 ha7
        have hsh := own_shapeS hr7
        obtain ⟨a7, c7, rfl⟩ := hsh
        have P4 := Lib.hid P4
        have HIt := Lib.hid (iterPos_of P4.out.it)
        clear hr7 ha7 CA P3
        go_wp2
        go_roundw
        case rel => exact ⟨k + 1, a7, _, c7, _, by omega, rfl, by rw [N.out]; rfl, by rw [N.out]; exact P4.out⟩
        case measure => rw [HIt.out, hpos.out]; omega
    · obtain rfl : k = s.size := by omega
      have hit := P.out.it
      have hnx := fun ty => Lib.run_next_end_at (P := Try.prog) wr I s s.size ty hit hlt
      have e1 := runT_all t
      rw [← HT.out, size_list] at e1
      have P := P.out
      rw [e1] at P HM
      have hz := P.far
      have HSrt : Hid (∃ (L : List (List UInt8)), L.length = m ∧ L.mergeSort (fun x y => decide (x ≤ y)) = turnsOut t ∧ wr.ownsRow B 9 1 (.slice a m c) m (sv L) ∧ Below B w wr) := ⟨_, HM.out, sort_out t, by have := P.row; rw [HM.out] at this; exact this, P.below⟩
      obtain ⟨L, hL, hM, hR, hBl⟩ := HSrt.out
      have hm64 : m < 4611686018427387904 := by
        obtain ⟨sm1, _⟩ := runT_small s.data.toList s.size
        rw [e1, HM.out] at sm1
        omega
      have HBl := Lib.hid hBl
      have HMS := Lib.hid hM
      have HL := Lib.hid hL
      have HR := Lib.hid hR
      clear HSrt P hit hz e1 hL hM hR hBl HM HT
      by_cases hm0 : m = 0
      · subst hm0
        obtain rfl : L = [] := List.eq_nil_of_length_eq_zero HL.out
        have HT0 : Hid (turnsOut t = []) := by show _ = _; rw [← HMS.out]; simp
        go_wp2_with (go_at_call 25; refine (Try.slices_Sort_string_none a c _).mono ?_; rintro e w7 ⟨rfl, rfl⟩)
        go_ret
        rw [HT0.out]
        rw [HBW.out] at HR HBl
        exact ⟨_, rfl, Own.of_own HR.out, HBl.out⟩
      · rcases HR.out.2 with ⟨hnil, h0⟩ | ⟨g, cap, cur, hsl, hbase, hb, q1, q2, q3, q4⟩
        · omega
        · simp only [Value.slice.injEq] at hsl
          obtain ⟨rfl, _, rfl⟩ := hsl
          have hsv : sv L = L.map Go.Proofs.encStr := rfl
          have HH := holds_of_block hb (ss := L) (by rw [HL.out]; simpa [hsv] using q4)
          have hlt2 : g < wr.heap.size := (Array.getElem?_eq_some_iff.1 hb).1
          have CS := Try.slices_Sort_string g 0 c L wr HH hlt2 (by rw [HL.out]; exact hm64)
          rw [HMS.out, HL.out] at CS
          have CS := Lib.hid CS
          have HRS : Hid (∀ (n : Nat) (os : Array Obj), (Sort.grow (Sort.putRow Go.Proofs.encStr (Sort.ahead wr n) g 0 (turnsOut t).toArray) os).ownsRow B 9 1 (.slice (some ⟨g, 0, none⟩) m c) m (sv (turnsOut t)) ∧ Below B w (Sort.grow (Sort.putRow Go.Proofs.encStr (Sort.ahead wr n) g 0 (turnsOut t).toArray) os)) := by
            intro n os
            have hln : (turnsOut t).length = L.length := by rw [← HMS.out]; simp
            have r1 := ownsRow_sorted (n := n) (os := os) (base := B) (cap := c) hln hbase hb (by rw [HL.out]; exact q1) q2 q3
            rw [HL.out] at r1
            refine ⟨r1, HBl.out.grown (grownBy_sorted (n := n) (os := os) _) (by omega) (fun q hq => by cases hq; exact hbase)⟩
          have HLen : Hid ((turnsOut t).length = m) := by show _ = _; rw [← HL.out, ← HMS.out]; simp
          clear HH hlt2 hb q1 q2 q3 q4 hbase HR hsv HMS HL
          go_wp2_with (go_at_call 25; refine CS.out.mono ?_; rintro e w7 ⟨rfl, n7, os7, rfl⟩)
          have RS := HRS.out n7 os7
          obtain ⟨w8, hw8⟩ : ∃ w8, w8 = Sort.grow (Sort.putRow Go.Proofs.encStr (Sort.ahead wr n7) g 0 (turnsOut t).toArray) os7 := ⟨_, rfl⟩
          rw [← hw8] at RS ⊢
          clear hw8 HRS CS
          go_wp2
          go_ret
          rw [HBW.out] at RS
          refine ⟨_, rfl, Own.of_own ?_, RS.2⟩
          rw [sv_length, HLen.out]
          exact RS.1
theorem implTurnsOf_no (s : ByteArray) (w : World) (hs : s.size ≤ maxLen) (hv : Hid (valid s.data.toList = false)) :
    Calls Try.prog 8 #[.string s] w (TextsOut [] w) := by
  go_enter Try.func8, Try.ntmps8
  go_wp2_with (go_at_call 21; refine (implValid_is false _ _ hs hv).mono ?_; rintro e w1 ⟨rfl, hb⟩)
  go_ret
  exact noTexts _ _ (by assumption)
theorem implTurnsOf_any (s : ByteArray) (w : World) (hs : s.size ≤ maxLen) :
    Calls Try.prog 8 #[.string s] w (TextsOut (turnsTx s.data.toList) w) := by
  cases hv : valid s.data.toList with
  | false => rw [turnsTx, if_neg (by rw [hv]; decide)]; exact implTurnsOf_no s w hs hv
  | true =>
    obtain ⟨t, h, h9⟩ := valid_tree hv
    rw [h, turnsTx_in h9]
    exact implTurnsOf_yes t s w h hv
end Go.Proofs.Ytcfenbienebbjaa
