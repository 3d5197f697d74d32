/-
  The program's SpansOf and SpansWith, of any rows.
-/
import Derived.Test.YtgboecnfghhooaaCSpansP
import Derived.Test.YtgboecnfghhooaaCWithS
namespace Go.Proofs.Ytgboecnfghhooaa
open Go.RowKit

theorem spansOf_p (n : Int) (rows : List (List Int)) (v : Value) (RV : List Value) (w : World) (B0 H0 : Nat) (hG : Hid (Grid w B0 H0 v RV rows)) (hH : H0 ≤ w.heap.size) (_hrl : rows.length ≤ 1048576) (_hrs : ∀ r ∈ rows, r.length ≤ 1048576) (_hwf : (Lit.int .i64 n).wf = true) :
    Calls Try.prog 22 #[.int .i64 n, v] w (IntsOut (spansL n rows) w) := by
  obtain ⟨a, cv, rfl, hR⟩ := grid_rd hG.out
  exact spansOf_r n rows a cv w (Lib.hid hR) hH
set_option maxHeartbeats 3200000 in
set_option maxRecDepth 100000 in
theorem spansWith_r (n : Int) (rows : List (List Int)) (k : Int) (a : Option Addr) (cv : Nat) (w : World) {H0 : Nat} (hR : Hid (RdR w H0 a rows)) (hH : H0 ≤ w.heap.size) (_hrl : rows.length ≤ 1048576) :
    Calls Try.prog 32 #[.int .i64 n, .slice a rows.length cv, .int .i64 k] w fun e w' => e = .returned (.int .i64 (spanW n rows k)) ∧ Below w.heap.size w w' := by
  have C := Lib.hid (validWeb_r n rows a cv w hR hH)
  cases ht : webB n rows with
  | false =>
    rw [spanW, if_neg (by rw [ht]; simp)]
    rw [ht] at C
    obtain ⟨m, hm⟩ : ∃ m, m = rows.length := ⟨_, rfl⟩
    rw [← hm] at C ⊢
    clear hR hm ht
    go_enter Try.func32, Try.ntmps32
    go_wp2_with fail
    refine C.out.mono ?_
    rintro e w1 ⟨rfl, hb⟩
    have HB := Lib.hid hb
    clear hb C
    go_wp2
    go_ret
    exact ⟨rfl, HB.out⟩
  | true =>
    rw [ht] at C
    by_cases hk : 0 ≤ k ∧ k ≤ (rows.length : Int) - 1
    · rw [spanW, if_pos ⟨ht, hk⟩]
      obtain ⟨N, rfl, h1, h5, hrw, hE, h8, hlr⟩ := web_rows ht
      obtain ⟨K, rfl⟩ : ∃ K : Nat, k = K := ⟨k.toNat, by omega⟩
      rw [Int.toNat_natCast, Int.toNat_natCast]
      have CO := Lib.hid (fun (w1 : World) (hb : Below w.heap.size w w1) => spansOf_r (N : Int) rows a cv w1 (Lib.hid (hR.out.below (hb.mono hH))) (Nat.le_trans hH hb.size))
      have hL : spansL (N : Int) rows = (spansN N (edgesR rows)).map fun (k : Nat) => (k : Int) := by rw [spansL, if_pos ht, Int.toNat_natCast]
      obtain ⟨hz256, hs256⟩ := spans_lt (n := N) h8
      obtain ⟨L, hLe⟩ : ∃ L, L = spansN N (edgesR rows) := ⟨_, rfl⟩
      rw [hL, ← hLe] at CO
      rw [← hLe] at hz256 hs256 ⊢
      have HS := Lib.hid hs256
      have WS := Lib.hid (with_step L K)
      have WL := Lib.hid (with_le L K)
      have WA : Hid (withN (L.take L.length) K = withN L K) := by show _ = _; rw [List.take_length]
      have W0 : Hid (withN (L.take 0) K = 0) := rfl
      have CI := Lib.hid (fun (s : Nat) (hs : s < 256) W => inSet_p K s W (by omega) hs)
      obtain ⟨m, hm⟩ : ∃ m, m = rows.length := ⟨_, rfl⟩
      rw [← hm] at C CO hk ⊢
      obtain ⟨z, hz⟩ : ∃ z, z = L.length := ⟨_, rfl⟩
      have HZ := Lib.hid hz
      rw [← hz] at hz256
      have k1 : ¬ (K : Int) < 0 := by omega
      have k2 : ¬ ((m : Int) ≤ (K : Int)) := by omega
      have k3 : (K : Int) < (m : Int) := by omega
      clear hrw hR hm ht hE hlr h8 hL hLe hs256 hk hz
      go_enter Try.func32, Try.ntmps32
      go_wp2_with fail
      refine C.out.mono ?_
      rintro e w1 ⟨rfl, hb⟩
      have HB := Lib.hid hb
      have CO1 := Lib.hid (CO.out w1 hb)
      clear hb C CO
      go_wp2_with fail
      refine CO1.out.mono ?_
      rintro e w2 ⟨v, rfl, hO, hb2⟩
      rw [← ints_iv2] at hO
      obtain ⟨av2, c2, rfl, _, _, _, _⟩ := hO.slice
      rw [ints_length, ← HZ.out] at hO ⊢
      have O2 := Lib.hid hO
      have HB2 := Lib.hid (HB.out.trans (hb2.mono HB.out.size))
      clear hO hb2 CO1 HB
      go_wp2
      go_loopw [7, 28] (fun cc ii wr => ∃ i x : Nat, i ≤ z ∧ ii = .int .i64 (i : Int) ∧ cc = .int .i64 (x : Int) ∧ x ≤ i ∧ Hid (x = withN (L.take i) K) ∧ w2 = wr) (fun _ ii _ => z - (intOf ii).toNat)
      case atStart => exact ⟨0, 0, Nat.zero_le _, rfl, rfl, Nat.le_refl _, W0.out.symm, rfl⟩
      case round =>
        obtain ⟨i, x, hi, rfl, rfl, hx, HX, rfl⟩ := hrel
        by_cases hlt : i < z
        · have b1 : (i : Int) < (z : Int) := by omega
          have hiL : i < L.length := by rw [← HZ.out]; exact hlt
          obtain ⟨gv, rfl, _, _, hc, _⟩ := O2.out.at_ i (by rw [ints_length]; exact hiL)
          have hcell := hc.trans (ints_get L i (List.getElem?_eq_getElem hiL))
          have S1 := WS.out i hiL
          have hy := HS.out _ (List.getElem_mem hiL)
          obtain ⟨y, hy0⟩ : ∃ y, y = L[i] := ⟨_, rfl⟩
          rw [← hy0] at hcell S1 hy
          have C1 := Lib.hid (CI.out y hy w2)
          obtain ⟨b, hb⟩ : ∃ b, b = y / 2 ^ K % 2 := ⟨_, rfl⟩
          rw [← hb] at S1 C1
          have hb1 : b ≤ 1 := by omega
          clear hc hy0 hb
          by_cases hbb : b = 1
          · rw [decide_eq_true hbb] at C1
            have HX2 : Hid (x + 1 = withN (L.take (i + 1)) K) := by show _ = _; rw [S1, ← HX.out, hbb]
            have ewx : IntKind.i64.wrap ((x : Int) + 1) = (x : Int) + 1 := by rw [IntKind.wrap_i64]; omega
            clear hbb S1 hb1 HX
            go_wp2_with fail
            refine C1.out.mono ?_
            rintro e w3 ⟨rfl, rfl⟩
            clear C1
            go_wp2
            go_roundw
            case rel => exact ⟨i + 1, x + 1, by omega, by go_num, by go_num, by omega, HX2, by trivial⟩
            case measure => simp [intOf]; omega
          · rw [decide_eq_false hbb] at C1
            have HX2 : Hid (x = withN (L.take (i + 1)) K) := by show _ = _; rw [S1, ← HX.out]; omega
            clear hbb S1 hb1 HX
            go_wp2_with fail
            refine C1.out.mono ?_
            rintro e w3 ⟨rfl, rfl⟩
            clear C1
            go_wp2
            go_roundw
            case rel => exact ⟨i + 1, x, by omega, by go_num, rfl, by omega, HX2, by trivial⟩
            case measure => simp [intOf]; omega
        · obtain rfl : i = z := by omega
          have hx2 : x = withN L K := by
            have h1 := HX.out
            rw [HZ.out, WA.out] at h1
            exact h1
          have HX2 := Lib.hid hx2
          clear HX hx2
          go_wp2
          go_ret
          exact ⟨by rw [← HX2.out]; rfl, HB2.out⟩
    · rw [spanW, if_neg (fun h => hk h.2)]
      obtain ⟨m, hm⟩ : ∃ m, m = rows.length := ⟨_, rfl⟩
      rw [← hm] at C hk ⊢
      by_cases hk0 : k < 0
      · clear hR hm ht hk
        go_enter Try.func32, Try.ntmps32
        go_wp2_with fail
        refine C.out.mono ?_
        rintro e w1 ⟨rfl, hb⟩
        have HB := Lib.hid hb
        clear hb C
        go_wp2
        go_ret
        exact ⟨rfl, HB.out⟩
      · have hk1 : (m : Int) ≤ k := by omega
        clear hR hm ht hk
        go_enter Try.func32, Try.ntmps32
        go_wp2_with fail
        refine C.out.mono ?_
        rintro e w1 ⟨rfl, hb⟩
        have HB := Lib.hid hb
        clear hb C
        go_wp2
        go_ret
        exact ⟨rfl, HB.out⟩
/-- the program's count of spans with an edge, of any rows -/
theorem spansWith_p (n : Int) (rows : List (List Int)) (k : Int) (v : Value) (RV : List Value) (w : World) (B0 H0 : Nat) (hG : Hid (Grid w B0 H0 v RV rows)) (hH : H0 ≤ w.heap.size) (_hrl : rows.length ≤ 1048576) :
    Calls Try.prog 32 #[.int .i64 n, v, .int .i64 k] w fun e w' => e = .returned (.int .i64 (spanW n rows k)) ∧ Below w.heap.size w w' := by
  obtain ⟨a, cv, rfl, hR⟩ := grid_rd hG.out
  exact spansWith_r n rows k a cv w (Lib.hid hR) hH _hrl
end Go.Proofs.Ytgboecnfghhooaa
