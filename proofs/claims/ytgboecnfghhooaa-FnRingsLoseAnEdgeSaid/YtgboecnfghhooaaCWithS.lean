/-
  The contract of the model's function SpansWith, of any rows.
-/
import Derived.Test.YtgboecnfghhooaaCWebS
namespace Go.Proofs.Ytgboecnfghhooaa
open Go.RowKit

/-- how many of some sets have a place -/
def withN (L : List Nat) (k : Nat) : Nat := L.countP fun s => decide (s / 2 ^ k % 2 = 1)
theorem with_step (L : List Nat) (k i : Nat) (h : i < L.length) : withN (L.take (i + 1)) k = withN (L.take i) k + L[i] / 2 ^ k % 2 := by
  unfold withN
  rw [List.take_succ_eq_append_getElem h, List.countP_append, List.countP_singleton]
  congr 1
  by_cases hb : L[i] / 2 ^ k % 2 = 1
  · rw [if_pos (decide_eq_true hb), hb]
  · rw [if_neg (by simp [hb])]; omega
theorem with_le (L : List Nat) (k i : Nat) : withN (L.take i) k ≤ i := by
  unfold withN
  have h1 := List.countP_le_length (p := fun s => decide (s / 2 ^ k % 2 = 1)) (l := L.take i)
  rw [List.length_take] at h1
  omega
def spanW (n : Int) (rows : List (List Int)) (k : Int) : Int := if webB n rows = true ∧ 0 ≤ k ∧ k ≤ (rows.length : Int) - 1 then (withN (spansN n.toNat (edgesR rows)) k.toNat : Int) else -1
theorem spans_lt {n : Nat} {E : Edges} (h : E.length ≤ 8) : (spansN n E).length ≤ 256 ∧ ∀ s ∈ spansN n E, s < 256 := by
  have hp := pow2_le E.length h
  unfold spansN
  constructor
  · have := List.length_filter_le (fun s => spanB n (pickE E s)) (List.range (2 ^ E.length))
    rw [List.length_range] at this
    omega
  · intro s hs
    have := List.mem_range.1 (List.mem_filter.1 hs).1
    omega
set_option maxHeartbeats 3200000 in
set_option maxRecDepth 100000 in
theorem specSpansWith_any (n : Int) (rows : List (List Int)) (k : Int) (v : Value) (RV : List Value) (w : World) {B0 H0 : Nat} (hG : Hid (Grid w B0 H0 v RV rows)) (hH : H0 ≤ w.heap.size) (hrl : rows.length ≤ 1048576) :
    Calls Try.prog 33 #[.int .i64 n, v, .int .i64 k] w fun e w' => e = .returned (.int .i64 (spanW n rows k)) ∧ Below w.heap.size w w' := by
  have C := Lib.hid (validWeb_any n rows v RV w hG hrl)
  obtain ⟨av, cv, rfl, _, hcv, hcm, _⟩ := hG.out.1.slice
  have hgl : RV.length = rows.length := hG.out.2.1
  obtain ⟨m, hm⟩ : ∃ m, m = RV.length := ⟨_, rfl⟩
  have HMR : Hid (rows.length = m) := by show _ = _; rw [hm, hgl]
  rw [← hm] at C hcv hG ⊢
  have hm20 : m ≤ 1048576 := by omega
  have ewl : IntKind.i64.wrap ((m : Int) - 1) = (m : Int) - 1 := by rw [IntKind.wrap_i64]; omega
  clear hgl hm
  cases ht : webB n rows with
  | false =>
    rw [spanW, if_neg (by rw [ht]; simp)]
    rw [ht] at C
    clear hG ht
    go_enter Try.func33, Try.ntmps33
    go_wp2_with fail
    refine C.out.mono ?_
    rintro e w1 ⟨rfl, rfl⟩
    go_wp2
    go_ret
    exact ⟨rfl, Below.refl _ _⟩
  | true =>
    by_cases hk : 0 ≤ k ∧ k ≤ (m : Int) - 1
    · rw [spanW, if_pos ⟨ht, by rw [HMR.out]; exact hk⟩]
      rw [ht] at C
      have CR := Lib.hid (inRB k 0 ((m : Int) - 1) w (Lib.hid (decide_eq_true hk)))
      obtain ⟨N, rfl, h1, h5, hr, hE, h8, hlr⟩ := web_rows ht
      obtain ⟨K, rfl⟩ : ∃ K : Nat, k = K := ⟨k.toNat, by omega⟩
      rw [Int.toNat_natCast, Int.toNat_natCast]
      obtain ⟨E, hE0⟩ : ∃ E, E = edgesR rows := ⟨_, rfl⟩
      rw [← hE0] at hr hE h8 hlr ⊢
      have hK7 : K ≤ 7 := by have := HMR.out; omega
      subst hr
      have CD := Lib.hid (spans_any N E (.slice av m cv) RV w hG hH (Lib.hid hE) ⟨h1, h5⟩ h8)
      obtain ⟨hz256, hs256⟩ := spans_lt (n := N) h8
      obtain ⟨L, hL⟩ : ∃ L, L = spansN N E := ⟨_, rfl⟩
      rw [← hL] at CD hz256 hs256 ⊢
      have HS := Lib.hid hs256
      have P3 := Lib.hid (fun W => pow2_any K W (by omega))
      have hpw : 0 < 2 ^ K := Nat.two_pow_pos K
      have WS := Lib.hid (with_step L K)
      have WL := Lib.hid (with_le L K)
      have WA : Hid (withN (L.take L.length) K = withN L K) := by show _ = _; rw [List.take_length]
      have W0 : Hid (withN (L.take 0) K = 0) := rfl
      obtain ⟨p, hp⟩ : ∃ p, p = 2 ^ K := ⟨_, rfl⟩
      rw [← hp] at P3 hpw WS
      have p0 : ((p : Int) == 0) = false := by rw [beq_eq_false_iff_ne]; omega
      clear hG ht hE0 hE hlr h8 hcv hL hp hs256 hk
      go_enter Try.func33, Try.ntmps33
      go_wp2_with fail
      refine C.out.mono ?_
      rintro e w1 ⟨rfl, rfl⟩
      go_wp2_with fail
      refine CR.out.mono ?_
      rintro e w1 ⟨rfl, rfl⟩
      go_wp2_with fail
      refine CD.out.mono ?_
      rintro e w2 ⟨g, z, c, rfl, hI⟩
      have I2 := Lib.hid hI
      have hzl := hI.len
      rw [hzl] at hz256
      have HZ := Lib.hid hzl
      clear hI CD CR C hzl
      go_wp2
      go_loopw [7, 9] (fun oo ii wr => ∃ i x : Nat, i ≤ z ∧ ii = .int .i64 (i : Int) ∧ oo = .int .i64 (x : Int) ∧ x ≤ i ∧ Hid (x = withN (L.take i) K) ∧ Hid (Ils w wr w.heap.size g z c L)) (fun _ ii _ => z - (intOf ii).toNat)
      case atStart => exact ⟨0, 0, Nat.zero_le _, rfl, rfl, Nat.le_refl _, W0.out.symm, I2⟩
      case round =>
        clear I2
        obtain ⟨i, x, hi, rfl, rfl, hx, HX, I⟩ := hrel
        by_cases hlt : i < z
        · have b1 : (i : Int) < (z : Int) := by omega
          have hiL : i < L.length := by rw [HZ.out]; exact hlt
          have hcell := (I.out.own.cellAt i (by omega)).trans (ints_get L i (List.getElem?_eq_getElem hiL))
          have S1 := WS.out i hiL
          have hy := HS.out _ (List.getElem_mem hiL)
          obtain ⟨y, hy0⟩ : ∃ y, y = L[i] := ⟨_, rfl⟩
          rw [← hy0] at hcell S1 hy
          obtain ⟨d, hd⟩ : ∃ d, d = y / p := ⟨_, rfl⟩
          have hdy : d ≤ y := by rw [hd]; exact Nat.div_le_self _ _
          have ewd : IntKind.i64.wrap ((y : Int) / (p : Int)) = (d : Int) := by
            rw [← Int.natCast_ediv, ← hd, IntKind.wrap_i64]; omega
          rw [← hd] at S1
          obtain ⟨b, hb⟩ : ∃ b, b = d % 2 := ⟨_, rfl⟩
          have et : (d : Int).tmod 2 = (b : Int) := by rw [Int.tmod_eq_emod_of_nonneg (by omega), hb]; omega
          have hb1 : b ≤ 1 := by omega
          rw [← hb] at S1
          have ewx : IntKind.i64.wrap ((x : Int) + (b : Int)) = (x : Int) + (b : Int) := by rw [IntKind.wrap_i64]; omega
          have HX2 : Hid (x + b = withN (L.take (i + 1)) K) := by show _ = _; rw [S1, ← HX.out]
          have HC : Hid (∀ z : Nat, Calls Try.prog 41 #[.int .i64 2, .int .i64 (K : Int)] (wr.drewN z) fun e w' => e = .returned (.int .i64 (p : Int)) ∧ ∃ q, w' = (wr.drewN z).drewN q) := fun z => (P3.out _).mono (by rintro e w' ⟨rfl, rfl⟩; exact ⟨rfl, 0, rfl⟩)
          clear hy0 hd hb S1 hdy HX
          go_wp2_with fail
          go_quiet ((go_at_call 41; exact Calls.quiet_of (HC.out _)))
          go_wp2
          go_roundw
          case rel => exact ⟨i + 1, x + b, by omega, by go_num, by go_num, by omega, HX2, I.out.drewN _⟩
          case measure => simp [intOf]; omega
        · obtain rfl : i = z := by omega
          have hx2 : x = withN L K := by
            have h1 := HX.out
            rw [← HZ.out, WA.out] at h1
            exact h1
          have HX2 := Lib.hid hx2
          clear HX hx2
          go_wp2
          go_ret
          exact ⟨by rw [← HX2.out]; rfl, I.out.below⟩
    · rw [spanW, if_neg (by rw [HMR.out]; exact fun h => hk h.2)]
      rw [ht] at C
      have CR := Lib.hid (inRB k 0 ((m : Int) - 1) w (Lib.hid (decide_eq_false hk)))
      clear hG ht hk
      go_enter Try.func33, Try.ntmps33
      go_wp2_with fail
      refine C.out.mono ?_
      rintro e w1 ⟨rfl, rfl⟩
      go_wp2_with fail
      refine CR.out.mono ?_
      rintro e w1 ⟨rfl, rfl⟩
      go_wp2
      go_ret
      exact ⟨rfl, Below.refl _ _⟩
end Go.Proofs.Ytgboecnfghhooaa
