/-
  The contract of the program's function that tells for each pair those that it is in.
-/
import Derived.Test.YtmoelhaobnloaaaZV
import Derived.Test.YtmoelhaobnloaaaWPairs
namespace Go.Proofs.Ytmoelhaobnloaaa
open Go.RowKit

theorem Try.infoIntP : (Try.prog.info? 3).map (fun i => (i.zero, i.size, i.bytes)) = some (some (.int .i64 0), 1, 8) := by kernel_rfl
theorem Try.infoRowP : (Try.prog.info? 26).map (fun i => (i.zero, i.size, i.bytes)) = some (some (.slice none 0 0), 1, 24) := by kernel_rfl
theorem Try.sizeIntP : (Try.prog.info? 3).map (·.size) = some 1 := by kernel_rfl

/-- what stands behind k bytes: the iterator, what is open, the rows; all in blocks from B on and below H -/
structure Pairs_ (s : ByteArray) (I B H k : Nat) (op : List Nat) (rows : List (List Nat)) (vo vr : Value) (w : World) : Prop where
  iter : w.heap[I]? = some (.stringIter s k)
  iterLt : B ≤ I ∧ I < H
  opn : Own w B H 3 vo (ints op)
  rws : ∃ RV, Own w B H 26 vr RV ∧ Rows_ w B H RV rows ∧ Apart_ RV vo

section
variable {s : ByteArray} {I B H H' k : Nat} {op : List Nat} {rows : List (List Nat)} {vo vr : Value} {w w' : World}
theorem Pairs_.more (h : Pairs_ s I B H k op rows vo vr w) (hH : H ≤ H') : Pairs_ s I B H' k op rows vo vr w :=
  ⟨h.iter, ⟨h.iterLt.1, Nat.lt_of_lt_of_le h.iterLt.2 hH⟩, h.opn.more hH, by obtain ⟨RV, a, b, c⟩ := h.rws; exact ⟨RV, a.more hH, b.more hH, c⟩⟩
theorem Pairs_.below (h : Pairs_ s I B H k op rows vo vr w) (hb : Below H w w') : Pairs_ s I B H k op rows vo vr w' :=
  ⟨by rw [hb.block I h.iterLt.2]; exact h.iter, h.iterLt, h.opn.below hb, by obtain ⟨RV, a, b, c⟩ := h.rws; exact ⟨RV, a.below hb, b.below hb, c⟩⟩
theorem Pairs_.next (h : Pairs_ s I B H k op rows vo vr w) (k' : Nat) : Pairs_ s I B H k' op rows vo vr (w.iterAt I s k') := by
  have ho : ∀ {t : TypeId} {v : Value} {xs : List Value}, Own w B H t v xs → Own (w.iterAt I s k') B H t v xs := fun {t v xs} hv => by
    refine ⟨own_iterAt hv.1 (fun e => ?_) s k', hv.2⟩
    rcases hv.1.2 with ⟨rfl, _⟩ | ⟨g, cap, cur, rfl, _, h2, _⟩
    · simp [Value.ownBlock] at e
    · simp only [Value.ownBlock, Option.some.injEq] at e
      subst e
      rw [h.iter] at h2
      cases h2
  refine ⟨Lib.iterAt_heap w I s k k' h.iter, h.iterLt, ho h.opn, ?_⟩
  obtain ⟨RV, a, b, c⟩ := h.rws
  exact ⟨RV, ho a, ⟨b.1, fun i v r h1 h2 => ho (b.2 i v r h1 h2)⟩, c⟩
/-- a ) -/
theorem Pairs_.pop {g cap n m : Nat} (h : Pairs_ s I B H k op rows (.slice (some ⟨g, 0, none⟩) m cap) vr w) (hl : op.length = n + 1) : Pairs_ s I B H k op.dropLast rows (.slice (some ⟨g, 0, none⟩) n cap) vr w := by
  have := h.opn.pop (n := n) (by rw [ints_length]; exact hl)
  rw [ints_dropLast] at this
  exact ⟨h.iter, h.iterLt, this, h.rws⟩
/-- a (, behind the copy: what is open grows -/
theorem Pairs_.push {n : Nat} {v' v7 : Value} (h : Pairs_ s I B H k op rows vo vr w) (h7 : Own w B (H + 1) 3 v7 (ints op)) (h7b : v7.ownBlock = some H) (hH : H < w.heap.size)
    (hown : w'.ownsRow B 3 1 v' (op.length + 1) (ints op ++ [.int .i64 n])) (hg : w.grownBy w' vo.ownBlock) (hv : v'.ownBlock = vo.ownBlock ∨ v'.ownBlock = some w.heap.size) :
    (∃ RV, Own w' B w'.heap.size 26 vr RV ∧ Rows_ w' B w'.heap.size RV rows ∧ Apart_ RV v') ∧ w'.heap[I]? = some (.stringIter s k) ∧ Own w' B w'.heap.size 3 v' (ints (op ++ [n])) ∧ Own w' B w'.heap.size 3 v7 (ints op) ∧ v7.ownBlock ≠ v'.ownBlock := by
  have hs := hg.size
  have ho : Own w' B w'.heap.size 3 v' (ints (op ++ [n])) := by
    rw [ints_snoc] at hown
    exact Own.of_own (by rw [ints_length, List.length_append]; exact hown)
  have hne : ∀ {u : Value} {q : Nat}, u.ownBlock = some q → q < w.heap.size → (vo.ownBlock ≠ some q) → u.ownBlock ≠ v'.ownBlock := fun {u q} h1 h2 h3 e => by
    rcases hv with e1 | e1
    · rw [e1, h1] at e; exact h3 e.symm
    · rw [e1, h1] at e; simp at e; omega
  have h7o : vo.ownBlock ≠ some H := fun e => by have := h.opn.2 H e; omega
  refine ⟨?_, ?_, ho, ?_, hne h7b hH h7o⟩
  · obtain ⟨RV, a, b, c⟩ := h.rws
    refine ⟨RV, (a.grown hg (a.ne h.opn (by decide))).more (by omega), ⟨b.1, fun i v r h1 h2 => ((b.2 i v r h1 h2).grown hg (c i v h1)).more (by omega)⟩, fun i u hu => ?_⟩
    rcases c i u hu with e | e
    · exact .inl e
    · cases hq : u.ownBlock with
      | none => exact .inl rfl
      | some q =>
        right
        have hi : i < rows.length := by rw [← b.1]; exact (List.getElem?_eq_some_iff.1 hu).1
        have hlt := (b.2 i u _ hu (List.getElem?_eq_getElem hi)).2 q hq
        rw [← hq]
        exact hne hq (by omega) (fun e2 => e (by rw [hq, e2]))
  · rw [hg.block I (by have := h.iterLt.2; omega) ?_]
    · exact h.iter
    · intro e
      rcases h.opn.1.2 with ⟨rfl, _⟩ | ⟨g, cap, cur, rfl, _, h2, _⟩
      · simp [Value.ownBlock] at e
      · simp only [Value.ownBlock, Option.some.injEq] at e
        subst e
        rw [h.iter] at h2
        cases h2
  · exact (h7.grown hg (.inr (by rw [h7b]; exact fun e => h7o e.symm))).more (by omega)
/-- a (, behind the last append: the rows grow -/
theorem Pairs_.rowAdd {vo' vr' v7 : Value} {op' : List Nat} {RV : List Value} (a : Own w B H 26 vr RV) (b : Rows_ w B H RV rows) (c : Apart_ RV vo')
    (hit : w.heap[I]? = some (.stringIter s k)) (hI : B ≤ I ∧ I < H) (ho : Own w B H 3 vo' (ints op')) (h7 : Own w B H 3 v7 (ints op)) (hne : v7.ownBlock ≠ vo'.ownBlock)
    (hown : w'.ownsRow B 26 1 vr' (rows.length + 1) (RV ++ [v7])) (hg : w.grownBy w' vr.ownBlock) (hH : H ≤ w.heap.size) :
    Pairs_ s I B w'.heap.size k op' (rows ++ [op]) vo' vr' w' := by
  have hs := hg.size
  have hle : H ≤ w'.heap.size := by omega
  have hr : ∀ {v : Value} {xs : List Value}, Own w B H 3 v xs → Own w' B w'.heap.size 3 v xs := fun {v xs} hv => (hv.grown hg (hv.ne a (by decide))).more hle
  refine ⟨?_, ⟨hI.1, by omega⟩, hr ho, RV ++ [v7], Own.of_own (by rw [List.length_append, b.1]; exact hown), Rows_.snoc ⟨b.1, fun i v r h1 h2 => hr (b.2 i v r h1 h2)⟩ (hr h7), fun i u hu => ?_⟩
  · rw [hg.block I (by omega) ?_]
    · exact hit
    · intro e
      rcases a.1.2 with ⟨rfl, _⟩ | ⟨g, cap, cur, rfl, _, h2, _⟩
      · simp [Value.ownBlock] at e
      · simp only [Value.ownBlock, Option.some.injEq] at e
        subst e
        rw [hit] at h2
        cases h2
  · by_cases hi : i < RV.length
    · rw [List.getElem?_append_left hi] at hu
      exact c i u hu
    · have hi' : i = RV.length := by
        have := (List.getElem?_eq_some_iff.1 hu).1
        simp at this; omega
      subst hi'
      rw [List.getElem?_append_right (Nat.le_refl _), Nat.sub_self] at hu
      simp at hu
      subst hu
      exact .inr hne
end

/-- what the function answers -/
def PairsOut (s : ByteArray) (w : World) (e : Ending) (w' : World) : Prop :=
  ∃ v RV, e = .returned v ∧ Own w' w.heap.size w'.heap.size 26 v RV ∧ Rows_ w' w.heap.size w'.heap.size RV (openP s.data.toList).1 ∧ Below w.heap.size w w'

set_option maxHeartbeats 1600000 in
theorem openPairs_any (s : ByteArray) (w : World) (hv : Hid (valid s.data.toList = true)) :
    Calls Try.prog 48 #[.string s] w (PairsOut s w) := by
  have h18 := valid_size hv.out
  obtain ⟨i0, hi, hz0, hz1, hz2⟩ := info_parts Try.infoIntP
  obtain ⟨j0, ji, jz0, jz1, jz2⟩ := info_parts Try.infoRowP
  have hsi := Lib.hid Try.sizeIntP
  go_enter Try.func48, Try.ntmps48
  go_wp2
  obtain ⟨I, hI⟩ : ∃ I, I = w.heap.size := ⟨_, rfl⟩
  have hb0 : Below w.heap.size w (w.iter s 0) := (Below.refl _ _).alloc (Nat.le_refl _) _
  have hp0 : Pairs_ s I w.heap.size (w.heap.size + 1) 0 [] [] (.slice none 0 0) (.slice none 0 0) (w.iter s 0) :=
    ⟨by rw [hI]; exact World.iter_heap w s 0, by omega, ⟨World.ownsRow_nil _ _ _ _, fun g hg => by simp [Value.ownBlock] at hg⟩, [], ⟨World.ownsRow_nil _ _ _ _, fun g hg => by simp [Value.ownBlock] at hg⟩, Rows_.nil, fun i u hu => by simp at hu⟩
  have hsz0 : w.heap.size + 1 ≤ (w.iter s 0).heap.size := by show _ ≤ (w.heap.push _).size; simp
  rw [← hI]
  have HI := Lib.hid hI
  clear hI
  go_loopw [3, 4] (fun vr vo wr => ∃ k : Nat, k ≤ s.size ∧ Hid (Pairs_ s I w.heap.size wr.heap.size k (openP (s.data.toList.take k)).2 (openP (s.data.toList.take k)).1 vo vr wr) ∧ Below w.heap.size w wr) (fun _ _ wr => s.size - wr.iterPos I)
  case atStart => exact ⟨0, Nat.zero_le _, hp0.more hsz0, hb0⟩
  case round =>
    clear hp0 hb0 hsz0
    obtain ⟨k, hk, H, hb⟩ := hrel
    have hit := H.out.iter
    have hpos := Lib.hid (iterPos_of hit)
    by_cases hlt : k < s.size
    · have ha : s[k].toNat < 128 := by rcases valid_byte hv.out k hlt with h | h <;> omega
      have hnx := fun ty => Lib.run_next_ascii_at (P := Try.prog) wr I s k ty hit hlt ha
      have Hn := Lib.hid (H.out.next (k + 1))
      have hbn := Lib.below_iterAt hb (k := I) (by have := HI.out; omega) s (k + 1)
      have hsn : (wr.iterAt I s (k + 1)).heap.size = wr.heap.size := Lib.iterAt_size _ _ _ _
      obtain ⟨W1, hW1⟩ : ∃ W1, W1 = wr.iterAt I s (k + 1) := ⟨_, rfl⟩
      rw [← hW1] at hnx Hn hbn hsn
      rw [← hsn] at Hn
      have hle := openP_le (s.data.toList.take k)
      rw [List.length_take, size_list] at hle
      obtain ⟨op, hop⟩ : ∃ op, op = (openP (s.data.toList.take k)).2 := ⟨_, rfl⟩
      obtain ⟨rows, hrows⟩ : ∃ rows, rows = (openP (s.data.toList.take k)).1 := ⟨_, rfl⟩
      have hstep := Lib.hid (openP_next hlt)
      rw [← hop] at Hn hle
      rw [← hrows] at Hn hle
      have HO := Lib.hid hop
      have HR := Lib.hid hrows
      clear hW1 hsn hit H hb hop hrows
      rcases valid_byte hv.out k hlt with hc | hc
      · -- a (
        have hcp : ((s[k].toNat : Int) == 41) = false := by rw [hc]; rfl
        obtain ⟨RV, hR1, hR2, hR3⟩ := Hn.out.rws
        obtain ⟨ao, co, hvo, hnone, hlc, hcm, hsome⟩ := Hn.out.opn.slice
        obtain ⟨ar, cr, hvr, hnoner, hlcr, hcmr, hsomer⟩ := hR1.slice
        have hRl := hR2.1
        rw [ints_length] at hvo hnone hlc
        rw [hRl] at hvr hnoner hlcr
        subst hvo
        subst hvr
        have HRl := Lib.hid hRl
        have Hsome := Lib.hid hsome
        have Hnone := Lib.hid hnone
        clear hRl hsome hsomer hnone hnoner
        obtain ⟨G, hG⟩ : ∃ G, G = W1.heap.size := ⟨_, rfl⟩
        have HG := Lib.hid hG
        have hBG : w.heap.size ≤ G := by rw [hG]; exact hbn.size
        go_wp2_with (at_make; refine wpList_make_full _ rfl _ _ 26 rfl w.heap.size 3 i0 (.int .i64 0) 1 Try.underlying26 hi hz0 hz1 _ _ _ _ op.length rfl rfl rfl rfl ?b2 ?b3 ?b4 ?_)
        case b2 => rw [hz2]; omega
        case b3 => unfold maxLen; omega
        case b4 => omega
        intro w2 hown2 hg2
        rw [← hG] at hown2
        have hfull := own_full hown2
        have hG2 := (hown2.lt G rfl).2
        have hb2 : Below G W1 w2 := (Below.refl _ _).grown hg2 (by omega) (fun q hq => by cases hq)
        have P2 := Lib.hid (Hn.out.below (by rw [← hG]; exact hb2))
        have hbn2 := hbn.trans (hb2.mono hBG)
        rw [← hG] at P2 ⊢
        obtain ⟨Z, hZ⟩ : ∃ Z, Z = (madeCells #[Value.int .i64 0] op.length).toList := ⟨_, rfl⟩
        have hZl : Z.length = op.length := by rw [hZ, toList_madeCells_one]; simp
        rw [← hZ] at hfull
        have HZ := Lib.hid hZl
        have HF := Lib.hid hfull
        clear hG hown2 hg2 hb2 hZ hZl hfull Hn
        go_wp2_with (refine wpList_copy_splice (o := ⟨some 25, _, _, _, _, _⟩) rfl (.tmp 23) (.tmp 24) 26 26 rfl 3 Try.underlying26 hsi.out _ _ _ _ _ _ rfl rfl G 0 Z 3 HF.out (ints op) ?cn ?cpos ?cfit (ints_one op) G w2 (Below.refl _ _) (Nat.le_refl _) ?_)
        case cn => rw [ints_length]; exact (Nat.min_self _).symm
        case cpos =>
          intro hp
          rw [ints_length] at hp
          obtain ⟨g, cap, hv1, _, hlt1, _⟩ := P2.out.opn.cell 0 (by rw [ints_length]; exact hp)
          refine ⟨⟨g, 0, none⟩, by simp only [Value.slice.injEq] at hv1; exact hv1.1, fun j v hj => ?_⟩
          have hj' : j < (ints op).length := (List.getElem?_eq_some_iff.1 hj).1
          obtain ⟨g', cap', hv2, _, _, hc2, _⟩ := P2.out.opn.cell j hj'
          have hgg : g = g' := by
            rw [hv1] at hv2
            simp only [Value.slice.injEq, Option.some.injEq, Addr.mk.injEq, and_true] at hv2
            exact hv2.1
          subst hgg
          rw [show (⟨g, 0, none⟩ : Addr).add j = ⟨g, j, none⟩ by simp [Addr.add_lit], hc2, hj]
        case cfit => rw [ints_length, HZ.out]; omega
        intro w3 hcopy hb3
        have P3 := Lib.hid (P2.out.below hb3)
        have hb3' := hbn2.trans (hb3.mono hBG)
        have h7 : Hid (Own w3 w.heap.size (G + 1) 3 (.slice (some ⟨G, 0, none⟩) op.length op.length) (ints op)) := by
          have e : splice Z 0 (ints op) = ints op := by
            simp [splice, ints_length, HZ.out]
          have hc := hcopy.out
          rw [e] at hc
          have := own_of_full hBG (by unfold maxLen; omega) (ints_length op) hc
          exact ⟨by rw [ints_length]; exact this, fun q hq => by simp [Value.ownBlock] at hq; omega⟩
        have hG3 : G < w3.heap.size := by have := hb3.size; omega
        have ho3 : w3.ownsRow w.heap.size 3 1 (.slice ao op.length co) op.length (ints op) := by
          have := P3.out.opn.1
          rw [ints_length] at this
          exact this
        have hbs3 := hb3'.size
        clear hcopy hb3 hbn2 P2 HF
        go_wp2_with (at_builtin; refine wpList_append_lies _ rfl (.tmp 26) (.tmp 29) 26 rfl w.heap.size 3 i0 (.int .i64 0) 1 8 Try.underlying26 hi hz0 hz1 hz2 rfl (by decide) _ op.length (ints op) rfl (ho3.alloc _) ⟨w3.heap.size, 0, none⟩ 1 1 [.int .i64 rows.length] rfl rfl ?d1 ?d2 (by omega) ?d4 ?d5 ?d6 (w3.heap.size + 1) ?d7 ?_)
        case d1 => exact cell_one_new _ _ _
        case d2 => intro u hu; simp at hu; subst hu; rfl
        case d4 => unfold maxLen; omega
        case d5 => omega
        case d6 => simp; omega
        case d7 => simp
        intro g5 c5 w5 hown5 hg5 hw5 hl5
        have P4 := P3.out.below (w' := w3.alloc (.cells #[.int .i64 rows.length] 3)) ((Below.refl _ _).alloc (by omega) _)
        obtain ⟨⟨RV5, a5, b5, c5'⟩, it5, o5, h75, ne5⟩ := P4.push (v7 := .slice (some ⟨G, 0, none⟩) op.length op.length) (h7.out.alloc _) rfl (by simp; omega) hown5 hg5 (by
          rcases hw5 with e | e
          · left; rw [e]; rfl
          · right; rw [e]; simp [Value.ownBlock])
        have hb5 : Below w.heap.size w w5 := (hb3'.alloc (by omega) _).grown hg5 (by simp; omega) (fun q hq => by
          rcases ho3.lt q hq with ⟨h1, _⟩; exact h1)
        have hs5 := hb5.size
        have B5 := Lib.hid (b5.1)
        have hr5 : w5.ownsRow w.heap.size 26 1 (.slice ar rows.length cr) rows.length RV5 := by
          have := a5.1
          rw [b5.1] at this
          exact this
        have X5 := Lib.hid (show Own w5 w.heap.size w5.heap.size 26 (.slice ar rows.length cr) RV5 ∧ Rows_ w5 w.heap.size w5.heap.size RV5 rows ∧ Apart_ RV5 (.slice (some ⟨g5, 0, none⟩) (op.length + 1) c5) ∧ w5.heap[I]? = some (.stringIter s (k + 1)) ∧ Own w5 w.heap.size w5.heap.size 3 (.slice (some ⟨g5, 0, none⟩) (op.length + 1) c5) (ints (op ++ [rows.length])) ∧ Own w5 w.heap.size w5.heap.size 3 (.slice (some ⟨G, 0, none⟩) op.length op.length) (ints op) ∧ (Value.slice (some ⟨G, 0, none⟩) op.length op.length).ownBlock ≠ (Value.slice (some ⟨g5, 0, none⟩) (op.length + 1) c5).ownBlock ∧ (w.heap.size ≤ I ∧ I < w5.heap.size) from
          ⟨a5, b5, c5', it5, o5, h75, ne5, by have := P4.iterLt; have := hg5.size; simp at this; omega⟩)
        clear P4 a5 b5 c5' it5 o5 h75 ne5 hown5 hg5 hw5 hl5 ho3 h7 P3 hb3'
        go_wp2_with (at_builtin; refine wpList_append_own _ rfl (.tmp 31) (.tmp 33) 23 rfl w.heap.size 26 j0 (.slice none 0 0) 1 24 Try.underlying23 ji jz0 jz1 jz2 rfl (by decide) _ rows.length RV5 rfl (hr5.alloc _) ⟨w5.heap.size, 0, none⟩ 1 1 [.slice (some ⟨G, 0, none⟩) op.length op.length] rfl rfl ?e1 ?e2 ?e3 ?e4 ?e5 ?_)
        case e1 => exact cell_one_new _ _ _
        case e2 => intro u hu; simp at hu; subst hu; rfl
        case e3 => unfold maxLen; omega
        case e4 => omega
        case e5 => simp; omega
        intro v7 w7 hown7 hg7 _
        obtain ⟨a5, b5, c5', it5, o5, h75, ne5, hI5⟩ := X5.out
        have P7 := Lib.hid (Pairs_.rowAdd (s := s) (k := k + 1) (op := op) (op' := op ++ [rows.length]) (a5.alloc (.cells #[.slice (some ⟨G, 0, none⟩) op.length op.length] 26)) (b5.alloc _) c5' (by rw [Below.heap_alloc _ _ _ hI5.2]; exact it5) hI5 (o5.alloc _) (h75.alloc _) ne5 hown7 hg7 (by simp))
        have hb7 : Below w.heap.size w w7 := (hb5.alloc (by omega) _).grown hg7 (by simp; omega) (fun q hq => by
          rcases hr5.lt q hq with ⟨h1, _⟩; exact h1)
        clear a5 b5 c5' it5 o5 h75 ne5 hown7 hg7 X5 hr5 hb5
        go_wp2
        go_roundw
        case rel => exact ⟨k + 1, by omega, by show Pairs_ _ _ _ _ _ _ _ _ _ _; rw [hstep.out, ← Prod.eta (openP _), ← HO.out, ← HR.out]; simp only [stepOP, hc]; exact P7.out, hb7⟩
        case measure => rw [iterPos_of P7.out.iter, hpos.out]; omega
      · -- a )
        have hcp : ((s[k].toNat : Int) == 41) = true := by rw [hc]; rfl
        have hpop := open_pos hv.out hlt hc
        rw [← HO.out] at hpop
        obtain ⟨n, hn⟩ : ∃ n, op.length = n + 1 := ⟨op.length - 1, by omega⟩
        obtain ⟨ao, co, hvo, hnone, hlc, hcm, hsome⟩ := Hn.out.opn.slice
        rw [ints_length] at hvo hnone hlc
        cases ao with
        | none => exfalso; have := (hnone rfl).1; omega
        | some a =>
          obtain ⟨g, rfl, _, _⟩ := hsome a rfl
          subst hvo
          have P := Lib.hid (Hn.out.pop hn)
          have hn18 : n ≤ 18 := by omega
          rw [hn] at hlc ⊢
          clear hn hpop hsome hnone Hn
          go_wp2
          go_roundw
          case rel => exact ⟨k + 1, by omega, by show Pairs_ _ _ _ _ _ _ _ _ _ _; rw [hstep.out, ← Prod.eta (openP _), ← HO.out, ← HR.out]; simp only [stepOP, hc]; exact P.out, hbn⟩
          case measure => rw [iterPos_of P.out.iter, hpos.out]; omega
    · obtain rfl : k = s.size := by omega
      have hnx := fun ty => Lib.run_next_end_at (P := Try.prog) wr I s s.size ty hit hlt
      go_wp2
      go_ret
      have H := H.out
      rw [List.take_of_length_le (Nat.le_of_eq (size_list s))] at H
      obtain ⟨RV, a, b, _⟩ := H.rws
      exact ⟨_, RV, rfl, a, b, hb⟩
end Go.Proofs.Ytmoelhaobnloaaa
