/-
  The walk of the law on trees as webs.
-/
import Derived.Test.YtohbkpccfhciaaaCDrawT
import Derived.Test.YtohbkpccfhciaaaWCodeF
import Derived.Test.YtohbkpccfhciaaaZO
import Derived.Test.YtohbkpccfhciaaaZC
import Derived.Test.YtohbkpccfhciaaaZE
import Derived.Test.YtohbkpccfhciaaaCGridApp
import Derived.Test.YtohbkpccfhciaaaCByCuts
import Derived.Test.YtohbkpccfhciaaaCByRows
import Derived.Test.YtohbkpccfhciaaaCWithP
import Derived.Test.YtohbkpccfhciaaaKSpanL
namespace Go.Proofs.Ytohbkpccfhciaaa
open Go.RowKit

theorem tree_web {n : Int} {rows : List (List Int)} (h : treeB n rows = true) (h5 : n ≤ 5) : webB n rows = true ∧ spanC n rows = 1 ∧ (spansL n rows).length = 1 ∧ (rows.length : Int) = n - 1 ∧ spanC n (rows.drop 1) = if n = 1 then spanC n (rows.drop 1) else 0 := by
  obtain ⟨⟨h1, _⟩, hrw, hV⟩ := treeB_iff.1 h
  have hlen : (edgesR rows).length = rows.length := by simp [edgesR]
  have hl := hV.len
  have hrow : ∀ r ∈ rows, rowW n r := fun r hr => by
    rw [hrw] at hr
    obtain ⟨e, he, rfl⟩ := List.mem_map.1 hr
    have := hV.ord e he
    refine ⟨rfl, ?_, ?_⟩
    · show 0 ≤ (e.1 : Int) ∧ (e.1 : Int) ≤ n - 1
      omega
    · show 0 ≤ (e.2 : Int) ∧ (e.2 : Int) ≤ n - 1
      omega
  have hw : webB n rows = true := webB_iff.2 ⟨hrow, ⟨h1, h5⟩, by omega⟩
  have hs := spans_valid hV (by omega)
  refine ⟨hw, by rw [spanC, if_pos hw, hs]; rfl, by rw [spansL, if_pos hw, List.length_map, hs], by omega, ?_⟩
  by_cases hn : n = 1
  · rw [if_pos hn]
  · have hw2 : webB n (rows.drop 1) = true := webB_iff.2 ⟨fun r hr => hrow r (List.mem_of_mem_drop hr), ⟨h1, h5⟩, by rw [List.length_drop]; omega⟩
    rw [if_neg hn, spanC, if_pos hw2]
    have : (spansN n.toNat (edgesR (rows.drop 1))).length = 0 := spans_few (by
      have : (edgesR (rows.drop 1)).length = (rows.drop 1).length := by simp [edgesR]
      rw [this, List.length_drop]; omega)
    rw [this]; rfl
set_option maxHeartbeats 3200000 in
set_option maxRecDepth 100000 in
theorem oneSpan_law (a : Option Addr) (len cap : Nat) (zs : List Int) (w : World) (hr0 : IsRow .u8 w a len cap zs) :
    Calls Try.prog 4 #[.slice a len cap] w fun e w' => e = .returned (.bool true) ∧ Below w.heap.size w w' := by
  have hr := Lib.hid hr0
  clear hr0
  by_cases hbig : (1048576 : Int) < (len : Int)
  · go_enter Try.func4, Try.ntmps4
    go_wp2
    go_ret
    exact ⟨rfl, Below.refl _ _⟩
  · go_enter Try.func4, Try.ntmps4
    go_wp2_with fail
    refine (drawCodeOf a len cap zs w hr (by omega)).mono ?_
    rintro e w1 ⟨n, rows, v, RV, rfl, g1, hn, hl, hr2, b1⟩
    have hwf : (Lit.int .i64 n).wf = true := wf_smallC n (by omega)
    have G1 := Lib.hid g1
    have B1 := Lib.hid b1
    have hrs : ∀ r ∈ rows, r.length ≤ 1048576 := fun r h => by rw [hr2 r h]; decide
    have HRS := Lib.hid hrs
    have hrl : rows.length ≤ 1048576 := by omega
    have CS := Lib.hid (fun (v : Value) (RV : List Value) (w : World) (B0 H0 : Nat) (hG : Hid (Grid w B0 H0 v RV rows)) hH => specCode_any n rows v RV w hG hH hrl)
    have CI := Lib.hid (fun (v : Value) (RV : List Value) (w : World) (B0 H0 : Nat) (hG : Hid (Grid w B0 H0 v RV rows)) hH => codeOf_p n rows v RV w B0 H0 hG hH hrl hrs hwf)
    have hcl := codeOut_le n rows
    obtain ⟨l, hle⟩ : ∃ l, l = codeOut n rows := ⟨_, rfl⟩
    rw [← hle] at hcl
    simp only [← hle] at CI CS
    obtain ⟨av, cv, rfl, hcv, _⟩ := Grid.form g1
    obtain ⟨m, hm⟩ : ∃ m, m = rows.length := ⟨_, rfl⟩
    rw [← hm] at G1 hcv ⊢
    have HMR := Lib.hid hm
    have s01 := b1.size
    clear g1 b1 hr hrs hle hm
    go_wp2_with fail
    refine (CI.out _ RV w1 _ _ G1 (Nat.le_refl _)).mono ?_
    rintro e w2 ⟨v2, rfl, o2, b2⟩
    have G2 := Lib.hid (G1.out.below b2)
    have B2 := Lib.hid (B1.out.trans (b2.mono s01))
    have O2 := Lib.hid o2
    have s12 := b2.size
    clear b2 o2
    go_wp2_with fail
    refine (CS.out _ RV w2 _ _ G2 s12).mono ?_
    rintro e w3 ⟨v3, rfl, o3, b3⟩
    have G3 := Lib.hid (G2.out.below (b3.mono s12))
    have B3 := Lib.hid (B2.out.trans (b3.mono (by omega)))
    have O23 := Lib.hid (O2.out.below b3)
    have O3 := Lib.hid o3
    have s23 := b3.size
    clear b3 o3 G2 B2 O2
    go_wp2_with fail
    refine (equalInts_yes l v2 v3 w3 O23 O3 (by omega)).mono ?_
    rintro e w4 ⟨rfl, t4⟩
    have z4 : w4.heap.size = w3.heap.size := by rw [t4.1]
    have G4 := Lib.hid (G3.out.same t4.1)
    have B4 := Lib.hid (B3.out.trans (t4.below _))
    have s14 : w1.heap.size ≤ w4.heap.size := by omega
    have CV := Lib.hid (validTree_p n rows _ RV w4 _ _ G4 s14 hrl HRS.out hwf)
    obtain ⟨b, hb⟩ : ∃ b, b = treeB n rows := ⟨_, rfl⟩
    rw [← hb] at CV
    have HBT := Lib.hid hb
    clear t4 z4 G3 B3 O3 O23 CI CS hb hcl
    go_wp2_with fail
    refine CV.out.mono ?_
    rintro e w5 ⟨rfl, b5⟩
    have G5 := Lib.hid (G4.out.below (b5.mono s14))
    have B5 := Lib.hid (B4.out.trans (b5.mono (by omega)))
    have s15 : w1.heap.size ≤ w5.heap.size := by have := b5.size; omega
    clear b5 G4 B4 CV s14 s12 s23
    cases b with
    | false =>
      go_wp2
      go_ret
      exact ⟨rfl, B5.out⟩
    | true =>
      by_cases h5 : (5 : Int) < n
      · go_wp2
        go_ret
        exact ⟨rfl, B5.out⟩
      · obtain ⟨_, f1, f2, f3, f4⟩ := tree_web (n := n) (rows := rows) HBT.out.symm (by omega)
        have CR := Lib.hid (spanByRows_p n rows _ RV w5 _ _ G5 s15 hrl HRS.out hwf)
        rw [f1] at CR
        have F2 := Lib.hid f2
        have F4 := Lib.hid f4
        have hmn : (m : Int) = n - 1 := by rw [HMR.out]; exact f3
        have HMN := Lib.hid hmn
        have m1 : n = 1 ∨ 1 ≤ m := by omega
        clear f1 f2 f3 f4 hmn
        go_wp2_with fail
        refine CR.out.mono ?_
        rintro e w6 ⟨rfl, b6⟩
        have G6 := Lib.hid (G5.out.below (b6.mono s15))
        have B6 := Lib.hid (B5.out.trans (b6.mono (by omega)))
        have s16 : w1.heap.size ≤ w6.heap.size := by have := b6.size; omega
        have CO := Lib.hid (spansOf_p n rows _ RV w6 _ _ G6 s16 hrl HRS.out hwf)
        clear b6 G5 B5 CR s15
        go_wp2_with fail
        refine CO.out.mono ?_
        rintro e w7 ⟨v7, rfl, o7, b7⟩
        have G7 := Lib.hid (G6.out.below (b7.mono s16))
        have B7 := Lib.hid (B6.out.trans (b7.mono (by omega)))
        have s17 : w1.heap.size ≤ w7.heap.size := by have := b7.size; omega
        obtain ⟨a7, c7, rfl, _, _, _, _⟩ := o7.slice
        rw [iv_length, F2.out]
        clear b7 o7 G6 B6 CO s16
        by_cases hn1 : n = 1
        · subst hn1
          clear m1
          go_wp2
          go_ret
          exact ⟨rfl, B7.out⟩
        · have hm1 : 1 ≤ m := m1.resolve_left hn1
          have i1 : (1 : Int) ≤ (m : Int) := by omega
          have i2 : (m : Int) ≤ (cv : Int) := by omega
          have q1 : (n == 1) = false := by simp [hn1]
          have F5 : Hid (spanC n (rows.drop 1) = 0) := by have := F4.out; rw [if_neg hn1] at this; exact this
          have R7 : Hid (RdR w7 w1.heap.size av rows) := by
            obtain ⟨a', c', e, h⟩ := grid_rd G7.out
            simp only [Value.slice.injEq] at e
            show RdR _ _ _ _
            rw [e.1]; exact h
          obtain ⟨bb, off, rfl⟩ : ∃ b off, av = some ⟨b, off, none⟩ := by
            obtain ⟨b, off, _, _, e, _⟩ := R7.out 0 (by rw [← HMR.out]; exact hm1)
            exact ⟨b, off, e⟩
          have RT : Hid (RdR w7 w1.heap.size (some ⟨bb, off + 1, none⟩) (rows.drop 1)) := by
            have h := R7.out
            cases hrows : rows with
            | nil => exact fun k hk => by simp at hk
            | cons r rest => rw [hrows] at h; exact RdR.tail h
          have HD : Hid ((rows.drop 1).length = m - 1) := by show _ = _; rw [List.length_drop, ← HMR.out]
          by_cases hc1 : cv = 1
          · subst hc1
            have hm0 : m - 1 = 0 := by omega
            have CX := Lib.hid (spanByCuts_r n (rows.drop 1) (some ⟨bb, off, none⟩) 0 w7 (H0 := w1.heap.size) (Lib.hid (fun k hk => by rw [HD.out, hm0] at hk; omega)) s17)
            rw [F5.out, HD.out, hm0] at CX
            clear HBT HMN F2 F4 R7 RT m1 hm0
            go_wp2_with fail
            refine CX.out.mono ?_
            rintro e w8 ⟨rfl, b8⟩
            have B8 := Lib.hid (B7.out.trans (b8.mono (by omega)))
            clear b8 CX
            go_wp2
            go_ret
            exact ⟨rfl, B8.out⟩
          · have CX := Lib.hid (spanByCuts_r n (rows.drop 1) (some ⟨bb, off + 1, none⟩) (cv - 1) w7 RT s17)
            rw [F5.out, HD.out] at CX
            clear HBT HMN F2 F4 R7 RT m1
            go_wp2_with fail
            refine CX.out.mono ?_
            rintro e w8 ⟨rfl, b8⟩
            have B8 := Lib.hid (B7.out.trans (b8.mono (by omega)))
            clear b8 CX
            go_wp2
            go_ret
            exact ⟨rfl, B8.out⟩
end Go.Proofs.Ytohbkpccfhciaaa
