/-
  The walk of the law on SpanByCuts.
-/
import Derived.Test.YtgboecnfghhooaaCGridApp
import Derived.Test.YtgboecnfghhooaaCByCuts
import Derived.Test.YtgboecnfghhooaaKSpanL
namespace Go.Proofs.Ytgboecnfghhooaa
open Go.RowKit

theorem edgesR_app (a b : List (List Int)) : edgesR (a ++ b) = edgesR a ++ edgesR b := by simp [edgesR]
theorem spanC_rev (n : Int) (rows : List (List Int)) : spanC n rows.reverse = spanC n rows := by
  have hb : webB n rows.reverse = webB n rows := by
    rw [Bool.eq_iff_iff, webB_iff, webB_iff, List.length_reverse]
    simp only [List.mem_reverse]
  unfold spanC
  rw [hb]
  by_cases h : webB n rows = true
  · obtain ⟨N, rfl, h1, h5, _, hE, _, _⟩ := web_rows h
    rw [if_pos h, if_pos h, Int.toNat_natCast, show edgesR rows.reverse = (edgesR rows).reverse by simp [edgesR], spans_rev h1 h5 hE]
  · rw [if_neg h, if_neg h]
theorem spanC_more (n : Int) (rows : List (List Int)) : spanC n (rows ++ [[0, n - 1]]) < 0 ∨ spanC n rows ≤ spanC n (rows ++ [[0, n - 1]]) := by
  by_cases h : webB n (rows ++ [[0, n - 1]]) = true
  · right
    obtain ⟨N, rfl, h1, h5, _, hE, _, _⟩ := web_rows h
    rw [edgesR_app] at hE
    have he : edgesR [[(0 : Int), (N : Int) - 1]] = [(0, N - 1)] := by
      simp [edgesR]
    rw [he] at hE
    have h2 : webB (N : Int) rows = true := by
      obtain ⟨a1, a2, a3⟩ := webB_iff.1 h
      refine webB_iff.2 ⟨fun r hr => a1 r (List.mem_append.2 (.inl hr)), a2, ?_⟩
      rw [List.length_append] at a3; omega
    unfold spanC
    rw [if_pos h, if_pos h2, Int.toNat_natCast, edgesR_app, he]
    have := spans_more (n := N) (E := edgesR rows) (x := (0, N - 1)) h1 h5 (fun e hm => hE e (List.mem_append.2 (.inl hm))) ⟨by simp only; omega, by simp only; omega⟩
    omega
  · left
    unfold spanC
    rw [if_neg h]; decide
set_option maxHeartbeats 3200000 in
set_option maxRecDepth 100000 in
theorem spanByCuts_law (a : Option Addr) (len cap : Nat) (zs : List Int) (w : World) (hr0 : IsRow .u8 w a len cap zs) :
    Calls Try.prog 6 #[.slice a len cap] w fun e w' => e = .returned (.bool true) ∧ Below w.heap.size w w' := by
  have hr := Lib.hid hr0
  clear hr0
  by_cases hbig : (1048576 : Int) < (len : Int)
  · go_enter Try.func6, Try.ntmps6
    go_wp2
    go_ret
    exact ⟨rfl, Below.refl _ _⟩
  · go_enter Try.func6, Try.ntmps6
    go_wp2_with fail
    refine (drawSpanByCuts a len cap zs w hr (by omega)).mono ?_
    rintro e w1 ⟨n, rows, v, RV, rfl, g1, hn, hl, hr2, b1⟩
    have hwf : (Lit.int .i64 n).wf = true := wf_smallW n (by omega)
    have G1 := Lib.hid g1
    have B1 := Lib.hid b1
    have hrs : ∀ r ∈ rows, r.length ≤ 1048576 := fun r h => by rw [hr2 r h]; decide
    have HRS := Lib.hid hrs
    have hrl : rows.length ≤ 1048576 := by omega
    obtain ⟨av, cv, rfl, hcv, _⟩ := Grid.form g1
    have hgl : RV.length = rows.length := g1.2.1
    obtain ⟨m, hm⟩ : ∃ m, m = rows.length := ⟨_, rfl⟩
    rw [← hm] at G1 hcv ⊢
    have HMR := Lib.hid hm
    have s01 := b1.size
    clear g1 b1 hr hrs hm
    have CI := Lib.hid (spanByCuts_p n rows _ RV w1 _ _ G1 (Nat.le_refl _) hrl HRS.out hwf)
    obtain ⟨t, ht⟩ : ∃ t, t = spanC n rows := ⟨_, rfl⟩
    rw [← ht] at CI
    have HT := Lib.hid ht
    clear ht
    go_wp2_with fail
    refine CI.out.mono ?_
    rintro e w2 ⟨rfl, b2⟩
    have G2 := Lib.hid (G1.out.below b2)
    have B2 := Lib.hid (B1.out.trans (b2.mono s01))
    have s12 := b2.size
    have CS := Lib.hid (specSpanByCuts_any n rows _ RV w2 G2 s12 hrl)
    rw [← HT.out] at CS
    clear b2 CI
    go_wp2_with fail
    refine CS.out.mono ?_
    rintro e w3 ⟨rfl, b3⟩
    have G3 := Lib.hid (G2.out.below (b3.mono s12))
    have B3 := Lib.hid (B2.out.trans (b3.mono (by omega)))
    have s13 : w1.heap.size ≤ w3.heap.size := by have := b3.size; omega
    have q1 : ((t : Int) == t) = true := by simp
    have q2 : ((t : Int) != t) = false := by simp
    clear b3 G2 B2 CS
    by_cases ht0 : t < 0
    · have CS := Lib.hid (specSpanByCuts_any n rows _ RV w3 G3 s13 hrl)
      rw [← HT.out] at CS
      go_wp2_with fail
      refine CS.out.mono ?_
      rintro e w4 ⟨rfl, b4⟩
      have B4 := Lib.hid (B3.out.trans (b4.mono (by omega)))
      clear b4
      go_wp2
      go_ret
      exact ⟨rfl, B4.out⟩
    · have s03 : w.heap.size ≤ w3.heap.size := by omega
      have hm20 : m ≤ 20 := by have := HMR.out; omega
      have hRm : RV.length = m := by rw [hgl, HMR.out]
      have HRm := Lib.hid hRm
      have RS3 := Lib.hid (RdS.of (G3.out.1) rfl)
      have OL : Hid ((w3.alloc (.cells #[] 32)).ownsRow w3.heap.size 32 1 (.slice (some ⟨w3.heap.size, 0, none⟩) 0 0) 0 []) := World.ownsRow_lit (base := w3.heap.size) (e := 32) (size := 1) w3 #[] 0 (Nat.le_refl _) (by unfold maxLen; omega) rfl
      have ONE := Lib.hid (rows_one G3.out.2)
      have BL : Hid (Below w3.heap.size w3 (w3.alloc (.cells #[] 32))) := (Below.refl _ w3).alloc (Nat.le_refl _) _
      have en : IntKind.i64.wrap (n - 1) = n - 1 := by rw [IntKind.wrap_i64]; omega
      clear hgl hRm
      go_wp2_with (at_builtin; refine wpList_append_gr (H := w1.heap.size) rfl (.tmp 33) (.tmp 34) rfl w3.heap.size (.slice (some ⟨w3.heap.size, 0, none⟩) 0 0) 0 [] rfl OL.out av m cv rfl RV HRm.out (RS3.out.below (BL.out.mono s13)) ONE.out (by omega) (by omega) BL.out.size ?_)
      intro av5 nv5 cv5 w5 hv5 hg5
      have B35 : Hid (Below w3.heap.size w3 w5) := BL.out.grown hg5 BL.out.size (fun q hq => by simp only [Value.ownBlock, Option.some.injEq] at hq; omega)
      have O5 : Hid (w5.ownsRow w3.heap.size 32 1 (.slice av5 nv5 cv5) m RV) := by first | exact hv5 | (rw [List.nil_append, Nat.zero_add] at hv5; exact hv5)
      have s35 := B35.out.size
      clear hv5 hg5 OL BL RS3
      go_wp2_with (at_builtin; refine wpList_append_gr (H := w5.heap.size + 2) rfl (.tmp 35) (.tmp 39) rfl w3.heap.size (.slice av5 nv5 cv5) m RV rfl ((O5.out.alloc _).alloc _) (some ⟨w5.heap.size + 1, 0, none⟩) 1 1 rfl [.slice (some ⟨w5.heap.size, 0, none⟩) 2 2] rfl ?_ (one_rowR _ _ _ _ rfl) (by omega) (by omega) (by rw [World.size_alloc, World.size_alloc]; omega) ?_)
      · intro j x hx
        match j, hx with
        | 0, hx =>
          have h := cell_one_new (w5.alloc (.cells #[.int .i64 0, .int .i64 (n - 1)] 3)) (.slice (some ⟨w5.heap.size, 0, none⟩) 2 2) 32 0 _ rfl
          rw [World.size_alloc] at h
          exact ⟨w5.heap.size + 1, 0, rfl, by omega, by rw [← Option.some.inj hx]; exact h⟩
      intro av6 nv6 cv6 w6 hv6 hg6
      have B5a : Below w5.heap.size w5 ((w5.alloc (.cells #[.int .i64 0, .int .i64 (n - 1)] 3)).alloc (.cells #[.slice (some ⟨w5.heap.size, 0, none⟩) 2 2] 32)) := ((Below.refl _ w5).alloc (Nat.le_refl _) _).alloc (by rw [World.size_alloc]; omega) _
      have hlt5 : ∀ q, (Value.slice av5 nv5 cv5).ownBlock = some q → w3.heap.size ≤ q ∧ q < w5.heap.size := fun q hq => O5.out.lt q hq
      have B36 : Hid (Below w3.heap.size w3 w6) := (B35.out.trans (B5a.mono s35)).grown hg6 (Nat.le_trans s35 B5a.size) (fun q hq => (hlt5 q hq).1)
      have GN : Hid (Grid w6 w.heap.size w6.heap.size (.slice av6 nv6 cv6) (RV ++ [.slice (some ⟨w5.heap.size, 0, none⟩) 2 2]) (rows ++ [[0, n - 1]])) := by
        have hR6 := (G3.out.2.below (B36.out.mono s13)).more (Nat.le_trans s13 B36.out.size)
        refine ⟨own_lo (B := w3.heap.size) (Own.of_own ?_) s03, hR6.append (RowsI.one ?_)⟩
        · rw [List.length_append, HRm.out]; exact hv6
        · have hz2 : ((w5.alloc (.cells #[.int .i64 0, .int .i64 (n - 1)] 3)).alloc (.cells #[.slice (some ⟨w5.heap.size, 0, none⟩) 2 2] 32)).heap.size = w5.heap.size + 2 := by rw [World.size_alloc, World.size_alloc]
          have hsz6 := hg6.size
          rw [hz2] at hsz6
          have o1 := (lit_own2T w5 #[.int .i64 0, .int .i64 (n - 1)] 3 (by show 2 ≤ maxLen; unfold maxLen; omega)).1
          have o2 := own_of_blocks (w' := w6) o1 (fun q hq => by
            have hq' : q = w5.heap.size := by simp only [Value.ownBlock, Option.some.injEq] at hq; exact hq.symm
            subst hq'
            rw [hg6.block w5.heap.size (by rw [hz2]; omega) (fun e => by have := (hlt5 _ e.symm).2; omega)]
            exact heap_alloc_old _ _ (by rw [World.size_alloc]; omega))
          exact ⟨⟨o2.1, o2.2.imp id (fun ⟨g, cp, cu, e1, hge, r⟩ => ⟨g, cp, cu, e1, by omega, r⟩)⟩, fun q hq => by
            simp only [Value.ownBlock, Option.some.injEq] at hq
            omega⟩
      have l1 : (rows ++ [[0, n - 1]]).length ≤ 1048576 := by rw [List.length_append]; simp only [List.length_cons, List.length_nil]; omega
      have CM := Lib.hid (spanByCuts_p n (rows ++ [[0, n - 1]]) _ _ w6 _ _ GN (Nat.le_refl _) l1 (fun r hr => by
        rcases List.mem_append.1 hr with h | h
        · exact HRS.out r h
        · rw [List.mem_singleton.1 h]; show 2 ≤ 1048576; decide) hwf)
      have MORE := Lib.hid (spanC_more n rows)
      rw [← HT.out] at MORE
      obtain ⟨z, hz⟩ : ∃ z, z = spanC n (rows ++ [[0, n - 1]]) := ⟨_, rfl⟩
      rw [← hz] at CM MORE
      have B6 := Lib.hid (B3.out.trans (B36.out.mono s03))
      have G6 := Lib.hid (G3.out.below (B36.out.mono s13))
      have s16 : w1.heap.size ≤ w6.heap.size := Nat.le_trans s13 B36.out.size
      clear hv6 hg6 B5a hlt5 O5 B35 GN l1 hz ONE G3 B3 B36
      go_wp2_with fail
      refine CM.out.mono ?_
      rintro e w7 ⟨rfl, b7⟩
      have G7 := Lib.hid (G6.out.below (b7.mono s16))
      have B7 := Lib.hid (B6.out.trans (b7.mono (by omega)))
      have s17 : w1.heap.size ≤ w7.heap.size := by have := b7.size; omega
      have CB := Lib.hid (backwards_p rows _ RV w7 G7 s17 (by omega) (by omega))
      clear b7 CM G6 B6
      go_wp2_with fail
      refine CB.out.mono ?_
      rintro e w8 ⟨u8, rfl, g8, b8⟩
      have G8 := Lib.hid g8
      have B8 := Lib.hid (B7.out.trans (b8.mono (by omega)))
      have s78 := b8.size
      obtain ⟨av8, cv8, rfl, _, _⟩ := Grid.form g8
      have CR := Lib.hid (spanByCuts_p n rows.reverse _ _ w8 _ _ G8 (Nat.le_refl _) (by rw [List.length_reverse]; omega) (fun r hr => HRS.out r (List.mem_reverse.1 hr)) hwf)
      rw [spanC_rev, ← HT.out, List.length_reverse, ← HMR.out] at CR
      rw [List.length_reverse, ← HMR.out]
      clear g8 b8 CB G7 B7 G8
      go_wp2_with fail
      refine CR.out.mono ?_
      rintro e w9 ⟨rfl, b9⟩
      have B9 := Lib.hid (B8.out.trans (b9.mono (by omega)))
      clear b9 CR
      rcases MORE.out with hm1 | hm1
      · have hm2 : z < 0 := hm1
        clear MORE hm1
        go_wp2
        go_ret
        exact ⟨rfl, B9.out⟩
      · by_cases hz0 : z < 0
        · clear MORE hm1
          go_wp2
          go_ret
          exact ⟨rfl, B9.out⟩
        · have hge : t ≤ z := hm1
          clear MORE hm1
          go_wp2
          go_ret
          exact ⟨rfl, B9.out⟩
end Go.Proofs.Ytgboecnfghhooaa
