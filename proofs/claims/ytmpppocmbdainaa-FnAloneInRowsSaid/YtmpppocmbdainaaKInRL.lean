/-
  The walk of the law that rows have the fewest sets of nodes that are alone, with the program's function as premise.
-/
import Derived.Test.YtmpppocmbdainaaKCntL
import Derived.Test.YtmpppocmbdainaaZD
namespace Go.Proofs.Ytmpppocmbdainaa
open Go.RowKit

/-- the edges of a row of so many nodes -/
def pathE (n : Nat) : Edges := (List.range (n - 1)).map fun v => (v, v + 1)
theorem pathE_snoc {v : Nat} (h : 1 ≤ v) : pathE (v + 1) = pathE v ++ [(v - 1, v)] := by
  unfold pathE
  obtain ⟨k, rfl⟩ : ∃ k, v = k + 1 := ⟨v - 1, by omega⟩
  rw [Nat.add_sub_cancel, Nat.add_sub_cancel, List.range_succ, List.map_append]; rfl
theorem pathE_len (v : Nat) : (pathE v).length = v - 1 := by simp [pathE]
theorem rowsE_snoc9 (E : Edges) (a b : Nat) : rowsE (E ++ [(a, b)]) = rowsE E ++ [[(a : Int), (b : Int)]] := by simp [rowsE]
theorem rowsE_two9 {E : Edges} : ∀ r ∈ rowsE E, r.length ≤ 1048576 := by
  intro r hr
  obtain ⟨e, _, rfl⟩ := List.mem_map.1 hr
  show 2 ≤ 1048576
  decide
theorem fib_few : ∀ k, k ≤ 7 → fibA k ≤ 34 := by decide
theorem fib_next {v : Nat} (h : 1 ≤ v) : fibA (v + 1) = fibA v + fibA (v - 1) := by
  obtain ⟨k, rfl⟩ : ∃ k, v = k + 1 := ⟨v - 1, by omega⟩
  rfl
theorem path_sets : ∀ k : Nat, k < 7 → treeV countN ((k + 1 : Nat) : Int) (rowsE (pathE (k + 1))) = (fibA (k + 1) : Int) := by decide +kernel
theorem sets_fib {n : Nat} {E : Edges} (h : TreeS n E) : fibA n ≤ countN n E := by
  have hn : 0 < n := by have := h.v.len; omega
  obtain ⟨h1, h2⟩ := tree_start h
  have h3 := (set_fib 14 0 (-1) h1 h2).2
  rw [sz_all h.v h.h7 hn] at h3
  exact h3
theorem gridA_lit {w : World} {B : Nat} (hB : B ≤ w.heap.size) : GridA (w.alloc (.cells #[] 29)) B (.slice (some ⟨w.heap.size, 0, none⟩) 0 0) [] [] := by
  refine ⟨⟨Own.of_own ?_, RowsI.nil⟩, fun i j u v _ h => by simp at h⟩
  exact World.ownsRow_lit (base := B) (e := 29) (size := 1) w #[] 0 hB (by unfold maxLen; omega) rfl
set_option maxHeartbeats 3200000 in
set_option maxRecDepth 100000 in
theorem fnAloneInRows_law (PF : TreeFn 15 (treeV countN)) (a : Option Addr) (len cap : Nat) (zs : List Int) (w : World) (hr0 : IsRow .u8 w a len cap zs) :
    Calls Try.prog 9 #[.slice a len cap] w fun e w' => e = .returned (.bool true) ∧ Below w.heap.size w w' := by
  have hr := Lib.hid hr0
  clear hr0
  by_cases hbig : (1048576 : Int) < (len : Int)
  · go_enter Try.func9, Try.ntmps9
    go_wp2
    go_ret
    exact ⟨rfl, Below.refl _ _⟩
  · go_enter Try.func9, Try.ntmps9
    go_wp2_with fail
    refine (drawCountAlone a len cap zs w hr (by omega)).mono ?_
    rintro e w1 ⟨n, rows, v, RV, rfl, g1, hn, hl, hr2, b1⟩
    have hwf : (Lit.int .i64 n).wf = true := wf_smallC n (by omega)
    have G1 := Lib.hid g1
    have B1 := Lib.hid b1
    have hrs : ∀ r ∈ rows, r.length ≤ 1048576 := fun r h => by rw [hr2 r h]; decide
    have hrl : rows.length ≤ 1048576 := by omega
    have CF := PF.at_ hrl hrs hwf
    have CS := specCountAlone_any.at_ hrl hrs hwf
    obtain ⟨av, cv, rfl, _, _, _, _⟩ := g1.1.slice
    have s01 := b1.size
    have r0 : Hid (w1.heap.size ≤ w1.heap.size) := Nat.le_refl _
    rcases treeV_or n rows with hno | ⟨N, rfl, hT, hre, hyes⟩
    · simp only [hno] at CF CS
      clear g1 b1 hr hrs hl hr2 hn hwf hno PF
      go_wp2_with fail
      refine (CF.out _ RV w1 _ _ G1 r0.out).mono ?_
      rintro e w2 ⟨rfl, b2⟩
      have G2 := Lib.hid (G1.out.below b2)
      have B2 := Lib.hid (B1.out.trans (b2.mono s01))
      have S12 := Lib.hid b2.size
      clear b2
      go_wp2_with fail
      refine (CS.out _ RV w2 _ _ G2 S12.out).mono ?_
      rintro e w3 ⟨rfl, b3⟩
      have G3 := Lib.hid (G2.out.below (b3.mono S12.out))
      have B3 := Lib.hid (B2.out.trans (b3.mono (Nat.le_trans s01 S12.out)))
      have S13 := Lib.hid (Nat.le_trans S12.out b3.size)
      clear b3 G2 B2 S12
      go_wp2_with fail
      refine (CF.out _ RV w3 _ _ G3 S13.out).mono ?_
      rintro e w6 ⟨rfl, b6⟩
      have B6 := Lib.hid (B3.out.trans (b6.mono (Nat.le_trans s01 S13.out)))
      clear b6
      go_wp2
      go_ret
      exact ⟨rfl, B6.out⟩
    · simp only [hyes] at CF CS
      have h7 := hT.h7
      have h1 : 0 < N := by have := hT.v.len; omega
      have hfib := sets_fib hT
      have hps := path_sets (N - 1) (by omega)
      rw [Nat.sub_add_cancel h1] at hps
      have HPS := Lib.hid hps
      have hz128 : countN N (edgesR rows) ≤ 128 := (start_le hT).2.2.2
      have hrlp : (rowsE (pathE N)).length ≤ 1048576 := by rw [rowsE_len, pathE_len]; omega
      have CQ := PF.at_ hrlp rowsE_two9 hwf
      rw [hps] at CQ
      obtain ⟨z, hz⟩ : ∃ z, z = countN N (edgesR rows) := ⟨_, rfl⟩
      rw [← hz] at CF CS hz128 hfib
      have HFIB := Lib.hid hfib
      have f1 : ((z : Int) == (z : Int)) = true := beq_self_eq_true _
      have f2 : ¬ (z : Int) < 0 := by omega
      obtain ⟨j0, hj, hy0, hy1, hy2⟩ := info_parts Try.infoRowR
      have FEW := Lib.hid fib_few
      clear g1 b1 hr hrs hl hr2 hn hwf hyes hT hre hz PF hps hfib hrlp
      go_wp2_with fail
      refine (CF.out _ RV w1 _ _ G1 r0.out).mono ?_
      rintro e w2 ⟨rfl, b2⟩
      have G2 := Lib.hid (G1.out.below b2)
      have B2 := Lib.hid (B1.out.trans (b2.mono s01))
      have S12 := Lib.hid b2.size
      clear b2
      go_wp2_with fail
      refine (CS.out _ RV w2 _ _ G2 S12.out).mono ?_
      rintro e w3 ⟨rfl, b3⟩
      have G3 := Lib.hid (G2.out.below (b3.mono S12.out))
      have B3 := Lib.hid (B2.out.trans (b3.mono (Nat.le_trans s01 S12.out)))
      have S13 := Lib.hid (Nat.le_trans S12.out b3.size)
      clear b3 G2 B2 S12 CS
      go_wp2_with fail
      refine (CF.out _ RV w3 _ _ G3 S13.out).mono ?_
      rintro e w4 ⟨rfl, b4⟩
      have G4 := Lib.hid (G3.out.below (b4.mono S13.out))
      have B4 := Lib.hid (B3.out.trans (b4.mono (Nat.le_trans s01 S13.out)))
      have S14 := Lib.hid (Nat.le_trans S13.out b4.size)
      clear b4 G3 B3 S13
      obtain ⟨GB, hGB⟩ : ∃ GB, GB = w4.heap.size := ⟨_, rfl⟩
      have HGB := Lib.hid hGB
      have GA0 : Hid (GridA (w4.alloc (.cells #[] 29)) GB (.slice (some ⟨GB, 0, none⟩) 0 0) [] (rowsE (pathE 1))) := by
        show GridA _ _ _ _ _
        rw [hGB]; exact gridA_lit (Nat.le_refl _)
      have GB0 : Hid (Below GB w4 (w4.alloc (.cells #[] 29))) := by
        show Below _ _ _
        rw [hGB]; exact (Below.refl _ _).alloc (Nat.le_refl _) _
      go_wp2_with fail
      rw [← hGB]
      clear hGB
      go_loopw [5, 6, 7, 8, 9] (fun aa bb tt vv cc wr => ∃ (v : Nat) (RW : List Value), 1 ≤ v ∧ v ≤ N ∧ vv = .int .i64 (v : Int) ∧ aa = .int .i64 (fibA (v - 1) : Int) ∧ bb = .int .i64 (fibA v : Int) ∧ Hid (GridA wr GB tt RW (rowsE (pathE v))) ∧ Hid (Below GB w4 wr)) (fun _ _ _ vv _ _ => N - (intOf vv).toNat)
      case atStart => exact ⟨1, [], Nat.le_refl _, h1, rfl, rfl, rfl, GA0, GB0⟩
      case round =>
        clear GA0 GB0
        obtain ⟨v, RW, hv1, hvN, rfl, rfl, rfl, HU, HB⟩ := hrel
        have hGr : Hid (GB ≤ wr.heap.size) := by have := HB.out.size; show GB ≤ _; rw [HGB.out]; exact this
        have hlen : (rowsE (pathE v)).length = v - 1 := by rw [rowsE_len, pathE_len]
        by_cases hlt : v < N
        · have b1 : (v : Int) < (N : Int) := by omega
          obtain ⟨au, cu, rfl, hOW⟩ := HU.out.shape
          rw [hlen] at hOW HU ⊢
          obtain ⟨p, hp⟩ : ∃ p, p = v - 1 := ⟨_, rfl⟩
          have ev : v = p + 1 := by omega
          subst ev
          rw [← hp] at hOW HU hlen ⊢
          clear hp
          have e1 : IntKind.i64.wrap (((p + 1 : Nat) : Int) - 1) = (p : Int) := by rw [IntKind.wrap_i64]; omega
          have hf1 := FEW.out p (by omega)
          have hf2 := FEW.out (p + 1) (by omega)
          have hf3 : Hid (fibA (p + 1 + 1) = fibA (p + 1) + fibA p) := fib_next (by omega)
          obtain ⟨x, hx⟩ : ∃ x, x = fibA p := ⟨_, rfl⟩
          obtain ⟨y, hy⟩ : ∃ y, y = fibA (p + 1) := ⟨_, rfl⟩
          rw [← hx] at hf1 hf3 ⊢
          rw [← hy] at hf2 hf3 ⊢
          have HY := Lib.hid hy
          have e2 : IntKind.i64.wrap ((x : Int) + (y : Int)) = ((x + y : Nat) : Int) := by rw [IntKind.wrap_i64]; omega
          have z1 : p + 1 ≤ maxLen := by unfold maxLen; omega
          have z2 : (p + 1) * 24 ≤ 140737488355328 := by omega
          have Y3 := Lib.hid (show GB ≤ ((wr.alloc (.cells #[.int .i64 (p : Int), .int .i64 ((p + 1 : Nat) : Int)] 3)).alloc (.cells #[.slice (some ⟨wr.heap.size, 0, none⟩) 2 2] 29)).heap.size by have := hGr.out; simp; omega)
          have OW3 := Lib.hid ((hOW.alloc (.cells #[.int .i64 (p : Int), .int .i64 ((p + 1 : Nat) : Int)] 3)).alloc (.cells #[.slice (some ⟨wr.heap.size, 0, none⟩) 2 2] 29))
          have CN := cell_one_new (wr.alloc (.cells #[.int .i64 (p : Int), .int .i64 ((p + 1 : Nat) : Int)] 3)) (.slice (some ⟨wr.heap.size, 0, none⟩) 2 2) 29
          rw [World.size_alloc] at CN
          have CN := Lib.hid CN
          have HLEN := Lib.hid hlen
          clear hOW hlen hx hy
          go_wp2_with (at_builtin; refine wpList_append_lies _ rfl _ _ 23 rfl GB 29 j0 (.slice none 0 0) 1 24 Try.underlying23 hj hy0 hy1 hy2 rfl (Nat.succ_pos 0) (.slice au p cu) p RW rfl OW3.out ⟨wr.heap.size + 1, 0, none⟩ 1 1 [.slice (some ⟨wr.heap.size, 0, none⟩) 2 2] rfl rfl CN.out (one_rowR _ _ _ _ rfl) (Nat.succ_pos 0) z1 z2 Y3.out _ rfl ?_)
          intro g7 c7 w7 hv7 hg7 _ _
          obtain ⟨G7, B7⟩ := HU.out.push (cs := #[.int .i64 (p : Int), .int .i64 ((p + 1 : Nat) : Int)]) (n := 2) (row := [(p : Int), ((p + 1 : Nat) : Int)]) HLEN.out rfl rfl (by omega) hGr.out hv7 hg7
          rw [show rowsE (pathE (p + 1)) ++ [[(p : Int), ((p + 1 : Nat) : Int)]] = rowsE (pathE (p + 1 + 1)) by rw [pathE_snoc (v := p + 1) (by omega), rowsE_snoc9, Nat.add_sub_cancel]] at G7
          have G7 := Lib.hid G7
          have B8 := Lib.hid (HB.out.trans B7)
          clear hv7 hg7 B7 HU HB OW3 CN Y3 hGr HLEN
          go_wp2
          go_roundw
          case rel => exact ⟨p + 1 + 1, _, by omega, by omega, by go_num, by rw [Nat.add_sub_cancel, ← HY.out], by (rw [hf3.out, Nat.add_comm, Int.natCast_add]), G7, B8⟩
          case measure => simp [intOf]; omega
        · obtain rfl : v = N := by omega
          have W4 : Hid (w4.heap.size ≤ wr.heap.size) := HB.out.size
          have BB : Hid (Below w4.heap.size w4 wr) := by show Below _ _ _; rw [← HGB.out]; exact HB.out
          have GU := Lib.hid HU.out.grid
          obtain ⟨au, cu, rfl, _⟩ := HU.out.shape
          have GE := Lib.hid (G4.out.below (BB.out.mono S14.out))
          have S1r := Lib.hid (Nat.le_trans S14.out W4.out)
          have B5 := Lib.hid (B4.out.trans (BB.out.mono (Nat.le_trans s01 S14.out)))
          have ff : (fibA v : Int) ≤ (z : Int) := by have := HFIB.out; omega
          have f3 : ((fibA v : Int) == (fibA v : Int)) = true := beq_self_eq_true _
          obtain ⟨y, hy⟩ : ∃ y, y = fibA v := ⟨_, rfl⟩
          rw [← hy] at CQ ff f3 ⊢
          clear HU HB hlen HPS HFIB hy BB G4 B4
          go_wp2_with fail
          refine (CQ.out _ RW wr _ _ GU (Nat.le_refl _)).mono ?_
          rintro e w5 ⟨rfl, b5⟩
          have G5 := Lib.hid (GE.out.below (b5.mono S1r.out))
          have S15 := Lib.hid (Nat.le_trans S1r.out b5.size)
          have B6 := Lib.hid (B5.out.trans (b5.mono (Nat.le_trans s01 S1r.out)))
          clear b5 GE B5 GU
          go_wp2_with fail
          refine (CF.out _ RV w5 _ _ G5 S15.out).mono ?_
          rintro e w6 ⟨rfl, b6⟩
          have B7 := Lib.hid (B6.out.trans (b6.mono (Nat.le_trans s01 S15.out)))
          clear b6
          go_wp2
          go_ret
          exact ⟨(by first | rfl | (simp [ff]; done)), B7.out⟩
end Go.Proofs.Ytmpppocmbdainaa
