/-
  The contract of the program's FindTried, of numbers that can be read.
-/
import Derived.Test.YtakpbnkncjddeaaZST
import Derived.Test.YtakpbnkncjddeaaZLP
import Derived.Test.YtakpbnkncjddeaaZWI
namespace Go.Proofs.Ytakpbnkncjddeaa
open Go.RowKit

set_option maxRecDepth 100000 in
set_option maxHeartbeats 1600000 in
theorem implFindTried_any (l : List Int) (a : Option Addr) (cv : Nat) (w : World) {H : Nat} (hR : Hid (RdI w H a l)) (hH : H ≤ w.heap.size) (hl : l.length ≤ 1048576) :
    Calls Try.prog 28 #[.slice a l.length cv] w fun e w' => e = .returned (.int .i64 (ftI l)) ∧ Below w.heap.size w w' := by
  have CV := Lib.hid (implValidLoads_rd l a cv w hR hl)
  cases hw : loadB l
  · rw [hw] at CV
    have E := Lib.hid (show ftI l = -1 by rw [ftI, hw]; rfl)
    clear hw
    go_enter Try.func28, Try.ntmps28
    go_wp2_with fail
    refine CV.out.mono ?_
    rintro e w1 ⟨rfl, rfl⟩
    go_wp2
    go_ret
    exact ⟨by rw [E.out]; rfl, Below.refl _ _⟩
  · rw [hw] at CV
    by_cases h5 : l.length ≤ 5
    · obtain ⟨L, rfl, eL, h7, h20⟩ := loadB_nats hw
      have E := Lib.hid (show ftI (ldI L) = (fcC L : Int) by rw [ftI, hw, decide_eq_true h5, natsL_ldI]; rfl)
      have hL5 : L.length ≤ 5 := by rw [ldI_len] at h5; exact h5
      obtain ⟨n, hn⟩ : ∃ n, n = L.length := ⟨_, rfl⟩
      have hnn : (ldI L).length = n := by rw [ldI_len, hn]
      have CB := Lib.hid (fun W (hW : Below w.heap.size w W) (s : ByteArray) (hs : s.size ≤ maxLen) => implFindBy_any (ldI L) a cv s W (Lib.hid (hR.out.below (hW.mono hH))) (Nat.le_trans hH hW.size) hl hs)
      rw [hnn] at CB CV ⊢
      have b5 : ¬ (5 : Int) < (n : Int) := by omega
      have CWO := Lib.hid (implWords_any (n : Int) w)
      obtain ⟨WL, hWL⟩ : ∃ WL, WL = wordsL (2 * L.length) [] 0 L.length := ⟨_, rfl⟩
      have hout : wordsOut (n : Int) = WL := by rw [wordsOut, if_pos ⟨by omega, by omega⟩, Int.toNat_natCast, hWL, hn]
      rw [hout] at CWO
      have WF : Hid (∀ k (h : k < WL.length), fbI (ldI L) WL[k] = ((fbW WL[k] L : Nat) : Int) ∧ WL[k].length ≤ 100) := fun k h => by
        have := word_fineP hL5 (s := WL[k]) (by rw [← hWL]; exact List.getElem_mem h)
        exact ⟨fbI_yes h7 h20 this.1 this.2, by omega⟩
      have WN := words_fewP L.length hL5
      rw [← hWL] at WN
      have TK : Hid (∀ k (h : k < WL.length), (fbAll L).take (k + 1) = (fbAll L).take k ++ [fbW WL[k] L]) := fun k h => by
        subst hWL
        exact fbAll_take L k h
      have TA : Hid ((fbAll L).take WL.length = fbAll L) := List.take_of_length_le (by rw [fbAll, List.length_map, hWL]; exact Nat.le_refl _)
      have MN := Lib.hid (fbAll_min hL5)
      obtain ⟨q, hq⟩ : ∃ q, q = WL.length := ⟨_, rfl⟩
      rw [← hq] at WN
      have HQ := Lib.hid hq
      have q1 := WN.1
      have q2 := WN.2
      clear hw eL h7 h20 hL5 hn hnn hout hWL WN hl h5 hR hH hq
      go_enter Try.func28, Try.ntmps28
      go_wp2_with fail
      refine CV.out.mono ?_
      rintro e w1 ⟨rfl, rfl⟩
      go_wp2_with fail
      refine CWO.out.mono ?_
      rintro e w2 ⟨v2, rfl, o2, hb2⟩
      obtain ⟨at2, ct2, rfl, _⟩ := o2.slice
      rw [sv_length, ← HQ.out] at o2 ⊢
      obtain ⟨gt, rfl, _, _, _, _⟩ := o2.at_ 0 (by rw [sv_length, ← HQ.out]; exact q1)
      have TX : Hid (∀ k (h : k < WL.length), w2.cell? ⟨gt, k, none⟩ = some (.string ⟨WL[k].toArray⟩) ∧ gt < w2.heap.size) := fun k h => by
        obtain ⟨_, e, _, hg, hx, _⟩ := o2.at_ k (by rw [sv_length]; exact h)
        cases e
        exact ⟨hx.trans (by simp [sv, h]), hg⟩
      have HB2 := Lib.hid hb2
      obtain ⟨B, hB⟩ : ∃ B, B = w2.heap.size := ⟨_, rfl⟩
      have S0 : Hid (w2.ownsRow B 3 1 (.slice none 0 0) 0 (iv (ldI ((fbAll L).take 0))) ∧ Below B w2 w2) := ⟨World.ownsRow_nil _ _ _ _, Below.refl _ _⟩
      rw [← hB] at TX
      have W0 : Hid (∀ W, Below B w2 W → Below w.heap.size w W ∧ B ≤ W.heap.size) := fun W h => by
        rw [hB] at h ⊢
        exact ⟨HB2.out.trans (h.mono HB2.out.size), h.size⟩
      clear o2 hb2 HB2 hB CWO CV
      go_wp2
      go_loopw [3, 5, 18] (fun v _ i wr => ∃ (k : Nat) (a1 : Option Addr) (c1 : Nat), k ≤ q ∧ i = .int .i64 (k : Int) ∧ v = .slice a1 k c1 ∧ Hid (wr.ownsRow B 3 1 (.slice a1 k c1) k (iv (ldI ((fbAll L).take k))) ∧ Below B w2 wr)) (fun _ _ i _ => q - (intOf i).toNat)
      case atStart => exact ⟨0, none, 0, by omega, rfl, rfl, S0⟩
      case round =>
        clear S0
        obtain ⟨k, a1, c1, hk, rfl, rfl, HS⟩ := hrel
        by_cases hlt : k < q
        · have b1 : (k : Int) < (q : Int) := by omega
          obtain ⟨ho, hb⟩ := HS.out
          have hkl : k < WL.length := by rw [← HQ.out]; exact hlt
          obtain ⟨t1, t2⟩ := TX.out k hkl
          have c0 := (hb.cell (p := ⟨gt, k, none⟩) t2).trans t1
          obtain ⟨f1, f2⟩ := WF.out k hkl
          have TK1 := TK.out k hkl
          obtain ⟨s, hs⟩ : ∃ s : ByteArray, s = ⟨WL[k].toArray⟩ := ⟨_, rfl⟩
          have C1 := CB.out wr (W0.out wr hb).1 s (by rw [hs]; show WL[k].toArray.size ≤ _; rw [List.size_toArray]; unfold maxLen; omega)
          rw [show s.data.toList = WL[k] by rw [hs]] at C1
          rw [f1] at C1
          rw [← hs] at c0
          obtain ⟨z, hz⟩ : ∃ z, z = fbW WL[k] L := ⟨_, rfl⟩
          rw [← hz] at C1 TK1
          have C1 := Lib.hid C1
          have QE : Hid (iv (ldI ((fbAll L).take k)) ++ iv [(z : Int)] = iv (ldI ((fbAll L).take (k + 1)))) := by show _ = _; rw [TK1, ldI_snoc, iv_app]
          have HO := Lib.hid ho
          have HB := Lib.hid hb
          have hk9 : k ≤ 1000 := by omega
          have e3 : IntKind.i64.wrap ((k : Int) + 1) = (k : Int) + 1 := by rw [IntKind.wrap_i64]; omega
          clear HS ho hb hkl t1 t2 f1 f2 TK1 hs hz
          go_wp2_with fail
          refine C1.out.mono ?_
          rintro e w3 ⟨rfl, hb3⟩
          have O2 := Lib.hid ((own_of_blocks HO.out (fun j hj => hb3.block j (HO.out.lt j hj).2)).alloc (.cells #[.int .i64 (z : Int)] 3))
          have B2 : Hid (Below B w2 w3) := HB.out.trans (hb3.mono (W0.out _ HB.out).2)
          have B3 : Hid (B ≤ w3.heap.size) := (W0.out _ B2.out).2
          clear HO HB hb3 C1
          go_wp2_with (at_builtin; refine wpList_append_rd rfl (.tmp 22) (.tmp 26) rfl B _ k _ rfl O2.out (some ⟨_, 0, none⟩) 1 1 rfl (l := [(z : Int)]) rfl (lit_rdP _ _) hk9 (by omega) (by have := B3.out; simp; omega) ?_)
          intro v3 w4 ho3 hg3
          obtain ⟨a3, c6, rfl⟩ := own_formN ho3
          rw [QE.out] at ho3
          have B4 : Hid (Below B w2 w4) := Below.grown (B2.out.alloc B3.out _) hg3 (by have := B3.out; simp; omega) (fun j hj => (O2.out.lt j hj).1)
          have O3 := Lib.hid ho3
          clear ho3 hg3 O2 B2 B3
          go_wp2
          go_roundw
          case rel => exact ⟨k + 1, a3, c6, by omega, by go_num, rfl, O3.out, B4.out⟩
          case measure => simp [intOf]; omega
        · obtain rfl : k = q := by omega
          obtain ⟨ho, hb⟩ := HS.out
          have ek : (fbAll L).take k = fbAll L := by rw [HQ.out]; exact TA.out
          have CM := minRow_p ((fbAll L).take k) a1 k c1 B wr ho (by omega) (by omega)
          rw [ek, MN.out] at CM
          have CM := Lib.hid CM
          have HB := Lib.hid (W0.out wr hb).1
          clear HS ho hb ek
          go_wp2_with fail
          refine CM.out.mono ?_
          rintro e w3 ⟨rfl, rfl⟩
          go_wp2
          go_ret
          exact ⟨by rw [E.out]; rfl, HB.out⟩
    · have E := Lib.hid (show ftI l = -1 by rw [ftI, hw, decide_eq_false h5]; rfl)
      have b5 : (5 : Int) < (l.length : Int) := by omega
      clear hw
      go_enter Try.func28, Try.ntmps28
      go_wp2_with fail
      refine CV.out.mono ?_
      rintro e w1 ⟨rfl, rfl⟩
      go_wp2
      go_ret
      exact ⟨by rw [E.out]; rfl, Below.refl _ _⟩
end Go.Proofs.Ytakpbnkncjddeaa
