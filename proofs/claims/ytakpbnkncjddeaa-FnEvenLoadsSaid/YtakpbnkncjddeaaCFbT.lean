/-
  The contracts of the model's FindBy and FindTried.
-/
import Derived.Test.YtakpbnkncjddeaaCFbS
import Derived.Test.YtakpbnkncjddeaaZCW
import Derived.Test.YtakpbnkncjddeaaZV
namespace Go.Proofs.Ytakpbnkncjddeaa
open Go.RowKit

set_option maxRecDepth 100000 in
set_option maxHeartbeats 1600000 in
theorem specFindBy_any (l : List Int) (a : Option Addr) (cv : Nat) (s : ByteArray) (w : World) {H : Nat} (hR : Hid (RdI w H a l)) (hl : l.length ≤ 1048576) (hcv : l.length ≤ cv) (hs : s.size ≤ maxLen) :
    Calls Try.prog 32 #[.slice a l.length cv, .string s] w fun e w' => e = .returned (.int .i64 (fbI l s.data.toList)) ∧ ∃ q, w' = w.drewN q := by
  have CV := Lib.hid (validLoadsM_any l a cv w hR hl)
  cases hw : loadB l
  · rw [hw] at CV
    have E := Lib.hid (fbI_no (l := l) (s := s.data.toList) (fun h => by rw [hw] at h; exact absurd h.1 (by decide)))
    clear hw
    go_enter Try.func32, Try.ntmps32
    go_wp2_with fail
    refine CV.out.mono ?_
    rintro e w1 ⟨rfl, rfl⟩
    go_wp2
    go_ret
    exact ⟨by rw [E.out]; rfl, 0, rfl⟩
  · rw [hw] at CV
    cases hv : valid s.data.toList with
    | false =>
      have E := Lib.hid (fbI_no (l := l) (s := s.data.toList) (fun h => by rw [hv] at h; exact absurd h.2.1 (by decide)))
      have CW := Lib.hid (fun W => specValid_is false s W hs (Lib.hid hv))
      clear hw hv
      go_enter Try.func32, Try.ntmps32
      go_wp2_with fail
      refine CV.out.mono ?_
      rintro e w1 ⟨rfl, rfl⟩
      go_wp2_with fail
      refine (CW.out _).mono ?_
      rintro e w1 ⟨rfl, rfl⟩
      go_wp2
      go_ret
      exact ⟨by rw [E.out]; rfl, 0, rfl⟩
    | true =>
      have CW := Lib.hid (fun W => specValid_is true s W hs (Lib.hid hv))
      by_cases hlen : s.data.toList.length = 2 * l.length
      · obtain ⟨L, rfl, eL, h7, h20⟩ := loadB_nats hw
        rw [ldI_len] at hlen
        have E := Lib.hid (fbI_yes h7 h20 hv hlen)
        obtain ⟨t, ht, ht9⟩ := tree_ofP hv
        have hts : t.size = L.length := by rw [← ht, Tw.lst_length] at hlen; omega
        have EF : fbW s.data.toList L = fbT t L 1 := by rw [← ht, fbW_lst (by omega)]
        rw [EF] at E
        have CF := Lib.hid (findBy_any t s L a cv 1 w H ht.symm hts.symm (by omega) (by omega) h20 (by rw [ldI_len] at hcv; exact hcv) hR)
        have hnn : (ldI L).length = t.size := by rw [ldI_len, hts]
        have b1 : (s.size : Int) = 2 * (t.size : Int) := by rw [← size_list, hlen]; omega
        have e1 : IntKind.i64.wrap (2 * (t.size : Int)) = 2 * (t.size : Int) := by rw [IntKind.wrap_i64]; omega
        rw [hnn] at CV ⊢
        obtain ⟨n, hn⟩ : ∃ n, n = t.size := ⟨_, rfl⟩
        rw [← hn] at CV CF b1 e1 ⊢
        clear hw hv hlen ht hts EF hnn hn eL h7 h20 hl hs ht9 hR
        go_enter Try.func32, Try.ntmps32
        go_wp2_with fail
        refine CV.out.mono ?_
        rintro e w1 ⟨rfl, rfl⟩
        go_wp2_with fail
        refine (CW.out _).mono ?_
        rintro e w1 ⟨rfl, rfl⟩
        go_wp2_with fail
        refine CF.out.mono ?_
        rintro e w2 ⟨rfl, q, rfl⟩
        go_wp2
        go_ret
        exact ⟨by rw [E.out]; rfl, q, rfl⟩
      · have E := Lib.hid (fbI_no (l := l) (s := s.data.toList) (fun h => hlen h.2.2))
        have h7 := loadB_len hw
        obtain ⟨n, hn⟩ : ∃ n, n = l.length := ⟨_, rfl⟩
        rw [size_list, ← hn] at hlen
        rw [← hn] at CV ⊢
        have b1 : ¬ (s.size : Int) = 2 * (n : Int) := by omega
        have e1 : IntKind.i64.wrap (2 * (n : Int)) = 2 * (n : Int) := by rw [IntKind.wrap_i64]; omega
        clear hw hv hlen hn h7 hl
        go_enter Try.func32, Try.ntmps32
        go_wp2_with fail
        refine CV.out.mono ?_
        rintro e w1 ⟨rfl, rfl⟩
        go_wp2_with fail
        refine (CW.out _).mono ?_
        rintro e w1 ⟨rfl, rfl⟩
        go_wp2
        go_ret
        exact ⟨by rw [E.out]; rfl, 0, rfl⟩

set_option maxRecDepth 100000 in
set_option maxHeartbeats 1600000 in
theorem specFindTried_any (l : List Int) (a : Option Addr) (cv : Nat) (w : World) {H : Nat} (hR : Hid (RdI w H a l)) (hH : H ≤ w.heap.size) (hl : l.length ≤ 1048576) (hcv : l.length ≤ cv) :
    Calls Try.prog 34 #[.slice a l.length cv] w fun e w' => e = .returned (.int .i64 (ftI l)) ∧ Below w.heap.size w w' := by
  have CV := Lib.hid (validLoadsM_any l a cv w hR hl)
  cases hw : loadB l
  · rw [hw] at CV
    have E := Lib.hid (show ftI l = -1 by rw [ftI, hw]; rfl)
    clear hw
    go_enter Try.func34, Try.ntmps34
    go_wp2_with fail
    refine CV.out.mono ?_
    rintro e w1 ⟨rfl, rfl⟩
    go_wp2
    go_ret
    exact ⟨by rw [E.out]; rfl, Below.refl _ _⟩
  · rw [hw] at CV
    by_cases h5 : l.length ≤ 5
    · obtain ⟨L, rfl, eL, h7, h20⟩ := loadB_nats hw
      have E := Lib.hid (show ftI (ldI L) = (fcC L : Int) by rw [ftI, hw, decide_eq_true h5, natsL_ldI]; rfl)
      have hL5 : L.length ≤ 5 := by rw [ldI_len] at h5; exact h5
      obtain ⟨WL, hWL⟩ : ∃ WL, WL = wordsL (2 * L.length) [] 0 L.length := ⟨_, rfl⟩
      have CWO := wordsFrom_any (2 * L.length) 0 L.length 0 (L.length : Int) ⟨#[]⟩ w (by omega) rfl rfl (by omega) (by show 0 + _ ≤ _; omega)
      rw [show (ByteArray.mk #[]).data.toList = [] from rfl, ← hWL] at CWO
      have CWO := Lib.hid CWO
      have WF : Hid (∀ k (h : k < WL.length) (W : World), Hid (RdI W H a (ldI L)) → Calls Try.prog 58 #[.slice a L.length cv, .string ⟨WL[k].toArray⟩, .int .i64 1] W fun e w' => e = .returned (.int .i64 (fbW WL[k] L : Int)) ∧ ∃ q, w' = W.drewN q) := fun k h W hRW => by
        have h1 := word_fineP hL5 (s := WL[k]) (by rw [← hWL]; exact List.getElem_mem h)
        obtain ⟨t, ht, ht9⟩ := tree_ofP h1.1
        have hts : t.size = L.length := by have := h1.2; rw [← ht, Tw.lst_length] at this; omega
        have := findBy_any t ⟨WL[k].toArray⟩ L a cv 1 W H ht.symm hts.symm (by omega) (by omega) h20 (by rw [ldI_len] at hcv; exact hcv) hRW
        rw [hts] at this
        rw [show fbW WL[k] L = fbT t L 1 by rw [← ht, fbW_lst (by omega)]]
        exact this
      have WN := words_fewP L.length hL5
      rw [← hWL] at WN
      have TK : Hid (∀ k (h : k < WL.length), (fbAll L).take (k + 1) = (fbAll L).take k ++ [fbW WL[k] L]) := fun k h => by
        subst hWL
        exact fbAll_take L k h
      have TA : Hid ((fbAll L).take WL.length = fbAll L) := List.take_of_length_le (by rw [fbAll, List.length_map, hWL]; exact Nat.le_refl _)
      have MN := Lib.hid (fbAll_leastI hL5)
      have LB : Hid (∀ k (h : k < WL.length), fbW WL[k] L ≤ 980) := fun k h => by
        have h1 := word_fineP hL5 (s := WL[k]) (by rw [← hWL]; exact List.getElem_mem h)
        have h2 := fbW_most h1.1 h1.2
        have h3 := sum_bd h20
        have h4 : L.length * L.sum ≤ 7 * (20 * 7) := Nat.mul_le_mul h7 (Nat.le_trans h3 (Nat.mul_le_mul_left _ h7))
        omega
      obtain ⟨q, hq⟩ : ∃ q, q = WL.length := ⟨_, rfl⟩
      rw [← hq] at WN
      have HQ := Lib.hid hq
      have q1 := WN.1
      have q2 := WN.2
      have hnn : (ldI L).length = L.length := ldI_len L
      rw [hnn] at CV ⊢
      obtain ⟨n, hn⟩ : ∃ n, n = L.length := ⟨_, rfl⟩
      rw [← hn] at CV WF CWO hL5 ⊢
      have b5 : ¬ (5 : Int) < (n : Int) := by omega
      have hRB : Hid (∀ W, Below w.heap.size w W → RdI W H a (ldI L)) := fun W hW => hR.out.below (hW.mono hH)
      clear hw eL h7 h20 hL5 hn hnn hWL WN hl h5 hR hq hH hcv
      go_enter Try.func34, Try.ntmps34
      go_wp2_with fail
      refine CV.out.mono ?_
      rintro e w1 ⟨rfl, rfl⟩
      go_wp2_with fail
      refine CWO.out.mono ?_
      rintro e w2 ⟨gt, ct, rfl, o2, hb2⟩
      rw [← HQ.out] at o2 ⊢
      have TX : Hid (∀ k (h : k < WL.length), w2.cell? ⟨gt, k, none⟩ = some (.string ⟨WL[k].toArray⟩)) := fun k h => by
        have := o2.cells (g := gt) rfl k (.string ⟨WL[k].toArray⟩) (by simp [sv, h])
        simpa [Addr.add_lit] using this
      have HB2 := Lib.hid hb2
      clear o2 hb2 CWO CV
      go_wp2
      go_loopw [3, 5, 6] (fun v i _ wr => ∃ (k : Nat), k ≤ q ∧ i = .int .i64 (k : Int) ∧ v = .int .i64 (leastI ((fbAll L).take k)) ∧ Hid (∃ m, wr = w2.drewN m)) (fun _ i _ _ => q - (intOf i).toNat)
      case atStart => exact ⟨0, by omega, rfl, rfl, 0, rfl⟩
      case round =>
        obtain ⟨k, hk, rfl, rfl, HS⟩ := hrel
        have HBw : Hid (Below w.heap.size w wr) := by obtain ⟨m, hm⟩ := HS.out; rw [hm]; exact HB2.out.trans ⟨rfl, rfl, rfl, Nat.le_refl _, fun _ _ => rfl⟩
        by_cases hlt : k < q
        · have b1 : (k : Int) < (q : Int) := by omega
          have hkl : k < WL.length := by rw [← HQ.out]; exact hlt
          have c0 : wr.cell? ⟨gt, k, none⟩ = some (.string ⟨WL[k].toArray⟩) := by obtain ⟨m, hm⟩ := HS.out; rw [hm]; exact TX.out k hkl
          have TK1 := TK.out k hkl
          have C1 := WF.out k hkl wr (Lib.hid (hRB.out wr HBw.out))
          have LB1 := LB.out k hkl
          obtain ⟨s, hs⟩ : ∃ s : ByteArray, s = ⟨WL[k].toArray⟩ := ⟨_, rfl⟩
          rw [← hs] at c0 C1
          obtain ⟨z, hz⟩ : ∃ z, z = fbW WL[k] L := ⟨_, rfl⟩
          rw [← hz] at C1 TK1 LB1
          have C1 := Lib.hid C1
          have QE := leastI_snoc ((fbAll L).take k) z
          rw [← TK1] at QE
          obtain ⟨x, hx⟩ : ∃ x, x = leastI ((fbAll L).take k) := ⟨_, rfl⟩
          obtain ⟨y, hy⟩ : ∃ y, y = leastI ((fbAll L).take (k + 1)) := ⟨_, rfl⟩
          rw [← hx, ← hy] at QE
          rw [← hx]
          have HY := Lib.hid hy
          have e3 : IntKind.i64.wrap ((k : Int) + 1) = (k : Int) + 1 := by rw [IntKind.wrap_i64]; omega
          clear hkl TK1 hs hz hx hy LB1
          go_wp2_with fail
          refine C1.out.mono ?_
          rintro e w3 ⟨rfl, m3, hm3⟩
          have HW3 : Hid (∃ m, w3 = w2.drewN m) := by
            obtain ⟨m, hm⟩ := HS.out
            exact ⟨m + m3, by rw [hm3, hm, World.drewN_drewN]⟩
          clear hm3 C1 c0 HS HBw
          by_cases hx0 : x < 0
          · have EY : y = (z : Int) := by rw [QE, if_pos (.inl hx0)]
            have HEY := Lib.hid EY
            clear QE EY
            go_wp2
            go_roundw
            case rel => exact ⟨k + 1, by omega, by go_num, by rw [← HY.out, HEY.out], HW3⟩
            case measure => simp [intOf]; omega
          · by_cases hzx : (z : Int) < x
            · have HEY : Hid (y = (z : Int)) := by show _ = _; rw [QE, if_pos (.inr hzx)]
              clear QE
              go_wp2
              go_roundw
              case rel => exact ⟨k + 1, by omega, by go_num, by rw [← HY.out, HEY.out], HW3⟩
              case measure => simp [intOf]; omega
            · have HEY : Hid (y = x) := by show _ = _; rw [QE, if_neg (by omega)]
              clear QE
              go_wp2
              go_roundw
              case rel => exact ⟨k + 1, by omega, by go_num, by rw [← HY.out, HEY.out], HW3⟩
              case measure => simp [intOf]; omega
        · obtain rfl : k = q := by omega
          have ek : Hid (leastI ((fbAll L).take k) = (fcC L : Int)) := by show _ = _; rw [HQ.out, TA.out, MN.out]
          rw [ek.out]
          go_wp2
          go_ret
          exact ⟨by rw [E.out]; rfl, HBw.out⟩
    · have E := Lib.hid (show ftI l = -1 by rw [ftI, hw, decide_eq_false h5]; rfl)
      have b5 : (5 : Int) < (l.length : Int) := by omega
      clear hw
      go_enter Try.func34, Try.ntmps34
      go_wp2_with fail
      refine CV.out.mono ?_
      rintro e w1 ⟨rfl, rfl⟩
      go_wp2
      go_ret
      exact ⟨by rw [E.out]; rfl, Below.refl _ _⟩
end Go.Proofs.Ytakpbnkncjddeaa
