/-
  The contract of the model's function that gives numbers behind a stack.
-/
import Derived.Test.YtpphilladlladaaCFam
import Derived.Test.YtpphilladlladaaWPairs
import Derived.Test.YtpphilladlladaaCMirrorB
namespace Go.Proofs.Ytpphilladlladaa
open Go.RowKit

theorem Try.infoIntS : (Try.prog.info? 3).map (fun i => (i.zero, i.size, i.bytes)) = some (some (.int .i64 0), 1, 8) := by kernel_rfl
theorem stackF_next {s : ByteArray} {k : Nat} (hk : k < s.size) : stackF (s.data.toList.take (k + 1)) = stepS (stackF (s.data.toList.take k)) s[k] := by
  rw [stackF, fold_take _ _ _ _ (by rw [size_list]; exact hk), get_list s k hk]; rfl
theorem stackF_opn {s : ByteArray} {k : Nat} (hk : k < s.size) (hc : s[k].toNat = 40) : stackF (s.data.toList.take (k + 1)) = ((stackF (s.data.toList.take k)).1 ++ [(stackF (s.data.toList.take k)).2.2], (stackF (s.data.toList.take k)).2.1, (stackF (s.data.toList.take k)).2.2 + 1) := by
  rw [stackF_next hk, stepS, if_pos hc]
theorem stackF_cls {s : ByteArray} {k : Nat} (hk : k < s.size) (hc : s[k].toNat = 41) : stackF (s.data.toList.take (k + 1)) = ((stackF (s.data.toList.take k)).1.dropLast, (stackF (s.data.toList.take k)).2.1 ++ [(stackF (s.data.toList.take k)).1.getLastD 0], (stackF (s.data.toList.take k)).2.2) := by
  rw [stackF_next hk, stepS, if_neg (by omega)]
/-- what stands on the stack, how many have come, how many are out -/
theorem stackF_len (r : List UInt8) : ∀ o, scan r.reverse = some o → (stackF r.reverse).1.length = o ∧ (stackF r.reverse).2.2 ≤ r.length ∧ (stackF r.reverse).2.1.length ≤ r.length ∧ ∀ x ∈ (stackF r.reverse).1, x ≤ r.length := by
  induction r with
  | nil => intro o h; simp [scan] at h; subst h; simp [stackF]
  | cons c l ih =>
    intro o h
    rw [List.reverse_cons] at h ⊢
    rw [scan_snoc] at h
    cases hs : scan l.reverse with
    | none => rw [hs] at h; simp [vstep] at h
    | some q =>
      rw [hs] at h
      obtain ⟨h1, h2, h3, h4⟩ := ih q hs
      have e : stackF (l.reverse ++ [c]) = stepS (stackF l.reverse) c := by simp [stackF, List.foldl_append]
      rw [e]
      rcases step_some h with hc | ⟨hc, h0⟩
      · rw [step_opn q hc] at h
        cases h
        rw [stepS, if_pos hc]
        refine ⟨by simp [h1], by simp; omega, by simp; omega, fun x hx => ?_⟩
        simp only [List.mem_append, List.mem_singleton] at hx
        rcases hx with hx | hx
        · have := h4 x hx; simp; omega
        · simp; omega
      · rw [step_cls hc h0] at h
        cases h
        rw [stepS, if_neg (by omega)]
        refine ⟨by simp [h1], by simp; omega, by simp; omega, fun x hx => ?_⟩
        have := h4 x (List.dropLast_subset _ hx)
        simp; omega
theorem stackF_len' (l : List UInt8) (o : Nat) (h : scan l = some o) : (stackF l).1.length = o := by
  have := (stackF_len l.reverse o (by rw [List.reverse_reverse]; exact h)).1
  rwa [List.reverse_reverse] at this
theorem getLastD_at (l : List Nat) (n : Nat) (h : l.length = n + 1) : l.getLastD 0 = l[n]'(by omega) := by
  rw [List.getLastD_eq_getLast?, List.getLast?_eq_getElem?, List.getElem?_eq_getElem (by omega : l.length - 1 < l.length)]
  simp only [Option.getD_some]
  congr 1
  omega
theorem ints_at2 (l : List Nat) (k : Nat) (h : k < l.length) : (ints l)[k]? = some (.int .i64 ((l[k] : Nat) : Int)) := by simp [ints, h]
theorem ints_iv (l : List Nat) : ints l = iv (l.map fun (k : Nat) => (k : Int)) := by simp [ints, iv]

/-- what stands behind k bytes -/
structure Stk_ (B H n m : Nat) (st out : List Nat) (vs vo : Value) (w : World) : Prop where
  outs : w.ownsRow B 3 1 vo m (ints out)
  stk : w.ownsRow B 3 1 vs n (ints st)
  shp : ∃ g cap g' cap', vo = .slice (some ⟨g, 0, none⟩) m cap ∧ vs = .slice (some ⟨g', 0, none⟩) n cap' ∧ g ≠ g' ∧ n ≤ cap' ∧ m ≤ cap
  lens : out.length = m ∧ st.length = n
theorem own_cap {w : World} {B n g c : Nat} {t : TypeId} {xs : List Value} (h : w.ownsRow B t 1 (.slice (some ⟨g, 0, none⟩) n c) n xs) : n ≤ c := by
  rcases h.2 with ⟨h0, _⟩ | ⟨g', cap, cur, hv, _, _, h3, _⟩
  · cases h0
  · simp only [Value.slice.injEq] at hv
    omega
theorem one_int2 (n : Int) : ∀ u ∈ [Value.int .i64 n], u.oneCell' = true := by intro u hu; simp at hu; subst hu; rfl
theorem ownsRow_lo {w : World} {B B' n : Nat} {t : TypeId} {v : Value} {xs : List Value} (h : w.ownsRow B' t 1 v n xs) (hB : B ≤ B') : w.ownsRow B t 1 v n xs :=
  ⟨h.1, h.2.imp id (fun ⟨g, cap, cur, e1, hg, r⟩ => ⟨g, cap, cur, e1, by omega, r⟩)⟩

set_option maxHeartbeats 3200000 in
theorem stackRow_any (s : ByteArray) (hv : valid s.data.toList = true) (w : World) :
    Calls Try.prog 51 #[.string s] w fun e w' => ∃ v, e = .returned v ∧ Own w' w.heap.size w'.heap.size 3 v (iv (stackL s.data.toList)) ∧ Below w.heap.size w w' := by
  have h18 : s.size ≤ 18 := (valid_scan hv).2
  obtain ⟨i0, hi, hz0, hz1, hz2⟩ := info_parts Try.infoIntS
  have HV := Lib.hid hv
  clear hv
  go_enter Try.func51, Try.ntmps51
  go_wp2
  go_loopw [3, 4, 5, 6] (fun vs vo c i wr => ∃ (k n m x : Nat), k ≤ s.size ∧ x ≤ k ∧ n ≤ k ∧ m ≤ k ∧ c = .int .i64 x ∧ i = .int .i64 k ∧ Hid ((stackF (s.data.toList.take k)).2.2 = x) ∧ Hid (Stk_ w.heap.size wr.heap.size n m (stackF (s.data.toList.take k)).1 (stackF (s.data.toList.take k)).2.1 vs vo wr) ∧ Below w.heap.size w wr) (fun _ _ _ i _ => s.size - (intOf i).toNat)
  case atStart =>
    refine ⟨0, 0, 0, 0, Nat.zero_le _, Nat.le_refl _, Nat.le_refl _, Nat.le_refl _, rfl, rfl, rfl, ?_, ((Below.refl _ _).alloc (Nat.le_refl _) _).alloc (by simp) _⟩
    refine ⟨?_, World.ownsRow.alloc (World.ownsRow_lit w #[] 0 (Nat.le_refl _) (by decide) rfl) _, ⟨_, _, _, _, rfl, rfl, by simp, Nat.le_refl _, Nat.le_refl _⟩, rfl, rfl⟩
    have h := World.ownsRow_lit (base := w.heap.size) (e := 3) (size := 1) (w.alloc (.cells #[] 3)) #[] 0 (by simp) (by decide) rfl
    have e : (w.alloc (.cells #[] 3)).heap.size = w.heap.size + 1 := by simp
    rw [e] at h
    exact h
  case round =>
    obtain ⟨k, n, m, x, hk, hx, hn, hm, rfl, rfl, HX, P, hb⟩ := hrel
    have hsz := hb.size
    by_cases hlt : k < s.size
    · have b1 : (k : Int) < (s.size : Int) := by omega
      obtain ⟨st, hst⟩ : ∃ st, st = (stackF (s.data.toList.take k)).1 := ⟨_, rfl⟩
      obtain ⟨out, hout⟩ : ∃ out, out = (stackF (s.data.toList.take k)).2.1 := ⟨_, rfl⟩
      rw [← hst, ← hout] at P
      obtain ⟨g, cap, g', cap', rfl, rfl, hgg, hnc, hmc⟩ := P.out.shp
      have hw1 := P.out.outs
      have hw2 := P.out.stk
      have L1 := Lib.hid P.out.lens.1
      have L2 := Lib.hid P.out.lens.2
      have hglt := (hw1.lt g rfl).2
      rcases valid_byte HV.out k hlt with hc | hc
      · have hcp : ((s[k].toNat : Int) == 40) = true := by rw [hc]; rfl
        have N := Lib.hid (stackF_opn hlt hc)
        rw [← hst, ← hout, HX.out] at N
        have hlit := World.ownsRow_lit (base := wr.heap.size) (e := 3) (size := 1) wr #[] 0 (Nat.le_refl _) (by decide) rfl
        have Hsrc := Lib.hid ((hw2.alloc (.cells #[] 3)).cells (g := g') rfl)
        have x1 : (ints st).length = n * 1 := by rw [ints_length, L2.out, Nat.mul_one]
        have x2 : 0 + n ≤ maxLen := by unfold maxLen; omega
        have x3 : (0 + n) * 8 ≤ 140737488355328 := by omega
        have x4 : wr.heap.size ≤ (wr.alloc (.cells #[] 3)).heap.size := by simp
        clear hst hout P hc
        go_wp2_with (at_builtin; refine wpList_append_own _ rfl (.tmp 19) (.tmp 20) 29 rfl wr.heap.size 3 i0 (.int .i64 0) 1 8 Try.underlying29 hi hz0 hz1 hz2 rfl (by decide) _ 0 [] rfl hlit ⟨g', 0, none⟩ n cap' (ints st) rfl x1 Hsrc.out (ints_one st) x2 x3 x4 ?_)
        intro v1 w1 hv1 hg1 _
        try simp only [Nat.zero_add, List.nil_append] at hv1
        have hbw1 : Below wr.heap.size wr w1 := ((Below.refl _ _).alloc (Nat.le_refl _) _).grown hg1 (by simp) (fun q hq => by simp [Value.ownBlock] at hq; omega)
        have hs1 := hbw1.size
        have y3 : n + 1 ≤ maxLen := by unfold maxLen; omega
        have y4 : (n + 1) * 8 ≤ 140737488355328 := by omega
        have y5 : wr.heap.size ≤ (w1.alloc (.cells #[.int .i64 x] 3)).heap.size := by simp; omega
        have HL1 := Lib.hid hv1.lt
        clear x1 x2 x3 x4 hg1
        go_wp2_with (at_builtin; refine wpList_append_own _ rfl (.tmp 21) (.tmp 23) 29 rfl wr.heap.size 3 i0 (.int .i64 0) 1 8 Try.underlying29 hi hz0 hz1 hz2 rfl (by decide) _ n (ints st) rfl (hv1.alloc _) ⟨w1.heap.size, 0, none⟩ 1 1 [.int .i64 x] rfl rfl (cell_one_new _ _ _) (one_int2 _) y3 y4 y5 ?_)
        intro v2 w2 hv2 hg2 hn2
        obtain ⟨g2, c2, rfl⟩ := own_some3 hv2 hn2
        have hbw2 : Below wr.heap.size wr w2 := (hbw1.alloc hs1 _).grown hg2 (by simp; omega) (fun q hq => (HL1.out q hq).1)
        have hs2 := hbw2.size
        have hp2 : w2.ownsRow w.heap.size 3 1 (.slice (some ⟨g, 0, none⟩) m cap) m (ints out) := own_of_blocks hw1 (fun q hq => hbw2.block q (hw1.lt q hq).2)
        have hge := (hv2.lt g2 rfl).1
        have P2 : Hid (Stk_ w.heap.size w2.heap.size (n + 1) m (st ++ [x]) out (.slice (some ⟨g2, 0, none⟩) (n + 1) c2) (.slice (some ⟨g, 0, none⟩) m cap) w2) :=
          ⟨hp2, by rw [← ints_snoc]; exact ownsRow_lo hv2 hsz, ⟨g, cap, g2, c2, rfl, rfl, by omega, own_cap hv2, hmc⟩, L1.out, by rw [List.length_append, L2.out]; rfl⟩
        have HB2 := Lib.hid (hb.trans (hbw2.mono hsz))
        clear hv1 hg2 y3 y4 y5 hbw1 hbw2 hv2 hn2 hw1 hw2 hlit hp2 hb
        go_wp2
        go_roundw
        case rel => exact ⟨k + 1, n + 1, m, x + 1, by omega, by omega, by omega, by omega, by go_num, by go_num, by rw [N.out]; rfl, by rw [N.out]; exact P2, HB2.out⟩
        case measure => simp [intOf]; omega
      · have hcp : ((s[k].toNat : Int) == 40) = false := by rw [hc]; rfl
        have N := Lib.hid (stackF_cls hlt hc)
        rw [← hst, ← hout, HX.out] at N
        obtain ⟨o, ho⟩ := valid_take HV.out k
        have hso := stackF_len' _ o ho
        rw [← hst] at hso
        have hpos : 0 < o := by
          obtain ⟨q, hq⟩ := valid_take HV.out (k + 1)
          rw [scan_next hlt ho] at hq
          apply Classical.byContradiction
          intro e
          obtain rfl : o = 0 := by omega
          simp [vstep, hc] at hq
        have hl2 := L2.out
        obtain ⟨n', rfl⟩ : ∃ n', n = n' + 1 := ⟨n - 1, by omega⟩
        have hlast := getLastD_at st n' hl2
        have hcell : wr.cell? ⟨g', n', none⟩ = some (.int .i64 ((st.getLastD 0 : Nat) : Int)) := by
          rw [hw2.cellAt n' (by omega), ints_at2 st n' (by omega), hlast]
        obtain ⟨p, hp⟩ : ∃ p, p = st.getLastD 0 := ⟨_, rfl⟩
        rw [← hp] at N hcell
        have hdrop : wr.ownsRow w.heap.size 3 1 (.slice (some ⟨g', 0, none⟩) n' cap') n' (ints st.dropLast) := by
          have h1 : Own wr w.heap.size wr.heap.size 3 (.slice (some ⟨g', 0, none⟩) (n' + 1) cap') (ints st) := ⟨by rw [ints_length, hl2]; exact hw2, fun q hq => (hw2.lt q hq).2⟩
          have h2 := (h1.pop (n := n') (by rw [ints_length]; exact hl2)).1
          rw [ints_dropLast, ints_length, List.length_dropLast, hl2] at h2
          exact h2
        have e1 : ((n' + 1 : Nat) : Int) - 1 = (n' : Int) := by omega
        have b2 : n' < n' + 1 := by omega
        have z2 : m + 1 ≤ maxLen := by unfold maxLen; omega
        have z3 : (m + 1) * 8 ≤ 140737488355328 := by omega
        have Z4 := Lib.hid (show ∀ o : Obj, w.heap.size ≤ (wr.alloc o).heap.size by intro o; simp; omega)
        have Z5 := Lib.hid (show ∀ o : Obj, (wr.alloc o).heap.size = wr.heap.size + 1 by intro o; simp)
        have HD := Lib.hid hdrop
        have HW1 := Lib.hid hw1
        have hg'lt := (hw2.lt g' rfl).2
        clear hst hout P hc hso hpos hl2 hlast hdrop hp ho hw1 hw2
        go_wp2_with (at_builtin; refine wpList_append_lies _ rfl (.tmp 27) (.tmp 34) 29 rfl w.heap.size 3 i0 (.int .i64 0) 1 8 Try.underlying29 hi hz0 hz1 hz2 rfl (by decide) _ m (ints out) rfl (HW1.out.alloc _) ⟨wr.heap.size, 0, none⟩ 1 1 [_] rfl rfl (cell_one_new _ _ _) (one_int2 _) (by decide) z2 z3 (Z4.out _) (wr.heap.size + 1) (Z5.out _) ?_)
        intro g3 c3 w3 hv3 hg3 hw3 hl3
        have hd3 : w3.ownsRow w.heap.size 3 1 (.slice (some ⟨g', 0, none⟩) n' cap') n' (ints st.dropLast) := own_of_blocks HD.out (fun q hq => by
          simp only [Value.ownBlock, Option.some.injEq] at hq
          subst hq
          rw [hg3.block _ (by simp; omega) (by simp [Value.ownBlock]; omega), Below.heap_alloc _ _ _ hg'lt])
        have hne : g3 ≠ g' := by
          rcases hw3 with e2 | e2
          · simp only [Value.ownBlock, Option.some.injEq] at e2; omega
          · omega
        have hb3 : Below w.heap.size w w3 := (hb.alloc (by omega) _).grown hg3 (by simp; omega) (fun q hq => (HW1.out.lt q hq).1)
        have hn'c := own_cap hd3
        have hc3 := own_cap hv3
        have P3 : Hid (Stk_ w.heap.size w3.heap.size n' (m + 1) st.dropLast (out ++ [p]) (.slice (some ⟨g', 0, none⟩) n' cap') (.slice (some ⟨g3, 0, none⟩) (m + 1) c3) w3) :=
          ⟨by rw [← ints_snoc]; exact hv3, hd3, ⟨g3, c3, g', cap', rfl, rfl, hne, hn'c, hc3⟩, by rw [List.length_append, L1.out]; rfl, by rw [List.length_dropLast, L2.out]; rfl⟩
        have HB3 := Lib.hid hb3
        clear hv3 hg3 hw3 hl3 hd3 hb3 hb HD HW1 hcell
        go_wp2
        go_roundw
        case rel => exact ⟨k + 1, n', m + 1, x, by omega, by omega, by omega, by omega, rfl, by go_num, by rw [N.out]; rfl, by rw [N.out]; exact P3, HB3.out⟩
        case measure => simp [intOf]; omega
    · obtain rfl : k = s.size := by omega
      have b1 : ((s.size : Int)) ≤ (s.size : Int) := by omega
      have P := P.out
      rw [List.take_of_length_le (Nat.le_of_eq (size_list s))] at P
      have HP := Lib.hid P
      have HB := Lib.hid hb
      clear P hb
      go_wp2
      go_ret
      refine ⟨_, rfl, ?_, HB.out⟩
      rw [stackL, ← ints_iv]
      have h1 := HP.out.outs
      have h2 := HP.out.lens.1
      refine Own.of_own ?_
      rw [ints_length, h2]
      exact h1
end Go.Proofs.Ytpphilladlladaa
