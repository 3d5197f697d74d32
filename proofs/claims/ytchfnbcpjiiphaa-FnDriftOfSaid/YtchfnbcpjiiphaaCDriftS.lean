/-
  The contract of the model's DriftOf.
-/
import Derived.Test.YtchfnbcpjiiphaaCSpecP
import Derived.Test.YtchfnbcpjiiphaaZW
namespace Go.Proofs.Ytchfnbcpjiiphaa
open Go.RowKit

theorem driftUp_step {l : List Int} {k : Nat} (h : k < l.length) (hp : k < (placesB l).length) : driftUp l (k + 1) = driftUp l k + ((placesB l)[k] - l[k]) := by
  rw [driftUp, List.getD_eq_getElem?_getD, List.getElem?_eq_getElem hp, List.getD_eq_getElem?_getD, List.getElem?_eq_getElem h]; rfl
set_option maxHeartbeats 3200000 in
set_option maxRecDepth 100000 in
theorem specDriftOf_any (l : List Int) (v : Value) (w : World) {B0 H0 : Nat} (hv : Hid (Own w B0 H0 3 v (iv l))) (hH : H0 ≤ w.heap.size) (hl : l.length ≤ 1048576) :
    Calls Try.prog 31 #[v] w fun e w' => e = .returned (.int .i64 (driftB l)) ∧ Below w.heap.size w w' := by
  have CA := Lib.hid (specAllPark_any l v w hv hH hl)
  cases hp : parkB l with
  | false =>
    have hd := Lib.hid (show driftB l = -1 by rw [driftB, hp]; rfl)
    rw [hp] at CA
    go_enter Try.func31, Try.ntmps31
    go_wp2_with fail
    refine CA.out.mono ?_
    rintro e w' ⟨rfl, hb⟩
    go_wp2
    go_ret
    exact ⟨by rw [hd.out]; rfl, hb⟩
  | true =>
    have hwb : wishB l = true := by
      rw [parkB, Bool.and_eq_true] at hp
      exact hp.1
    have hd := Lib.hid (show driftB l = driftUp l l.length by rw [driftB, hp]; rfl)
    have hl8 := wishB_len hwb
    have HDS := Lib.hid (drift_small hwb)
    have HWB := Lib.hid hwb
    rw [hp] at CA
    have CP := Lib.hid (fun (W : World) (hW : Below w.heap.size w W) => parkM_any l HWB v W (Lib.hid (hv.out.below (hW.mono hH))) (Nat.le_trans hH hW.size) hl)
    obtain ⟨av, cv, rfl, _, hcv, _, _⟩ := hv.out.slice
    rw [iv_length] at hv hcv CA CP ⊢
    obtain ⟨n, hn⟩ : ∃ n, n = l.length := ⟨_, rfl⟩
    have HN := Lib.hid hn
    rw [← hn] at hv hcv hl hl8 hd CA CP HDS ⊢
    clear hwb hp hn
    go_enter Try.func31, Try.ntmps31
    go_wp2_with fail
    refine CA.out.mono ?_
    rintro e w1 ⟨rfl, b1⟩
    have CP1 := Lib.hid (CP.out w1 b1)
    have V1 := Lib.hid (hv.out.below (b1.mono hH))
    have Z1 := Lib.hid (Nat.le_trans hH b1.size)
    have B1 := Lib.hid b1
    clear b1
    go_wp2_with fail
    refine CP1.out.mono ?_
    rintro e w2 ⟨y, rfl, hy, hb2⟩
    have V2 := Lib.hid (V1.out.below (hb2.mono Z1.out))
    have B2 := Lib.hid (B1.out.trans (hb2.mono B1.out.size))
    have hyl : (placesB l).length = n := by rw [placesB_length, HN.out]
    have HYL := Lib.hid hyl
    obtain ⟨ay, cy, rfl, _⟩ := hy.slice
    rw [iv_length, hyl] at hy ⊢
    have Y2 := Lib.hid hy
    clear hy hb2 hyl V1 Z1 B1 CP1
    go_wp2
    go_loopw [3, 5] (fun o i wr => ∃ k : Nat, k ≤ n ∧ i = .int .i64 k ∧ o = .int .i64 (driftUp l k) ∧ Hid (Same w2 wr)) (fun _ i _ => n - (intOf i).toNat)
    case atStart => exact ⟨0, Nat.zero_le _, rfl, rfl, Same.refl w2⟩
    case round =>
      obtain ⟨k, hk, rfl, rfl, HS⟩ := hrel
      by_cases hlt : k < n
      · have hkl : k < l.length := by rw [← HN.out]; exact hlt
        have hkp : k < (placesB l).length := by rw [HYL.out]; exact hlt
        have b0 : (k : Int) < (n : Int) := by omega
        obtain ⟨g1, rfl, _, _, h1, _⟩ := (V2.out.same HS.out.1).at_ k (by rw [iv_length]; exact hkl)
        obtain ⟨g2, rfl, _, _, h2, _⟩ := (Y2.out.same HS.out.1).at_ k (by rw [iv_length]; exact hkp)
        rw [iv_at l k hkl] at h1
        rw [iv_at _ k hkp] at h2
        have E := Lib.hid (driftUp_step hkl hkp)
        have s1 := HDS.out k hk
        have s2 := wishB_at HWB.out hkl
        have s3 := places_at l hkl
        rw [List.getD_eq_getElem?_getD, List.getElem?_eq_getElem hkp] at s3
        simp only [Option.getD_some] at s3
        rw [← HN.out] at s2 s3
        obtain ⟨x, hx⟩ : ∃ x, x = l[k] := ⟨_, rfl⟩
        obtain ⟨z, hz⟩ : ∃ z, z = (placesB l)[k] := ⟨_, rfl⟩
        obtain ⟨S, hS⟩ : ∃ S, S = driftUp l k := ⟨_, rfl⟩
        rw [← hx] at h1 E s2
        rw [← hz] at h2 E s3
        rw [← hS] at E s1 ⊢
        clear hx hz hS
        have q1 : IntKind.i64.wrap (S + z) = S + z := by rw [IntKind.wrap_i64]; omega
        have q2 : IntKind.i64.wrap (S + z - x) = S + z - x := by rw [IntKind.wrap_i64]; omega
        go_wp2
        go_quiet (fail)
        go_wp2
        go_roundw
        case rel => exact ⟨k + 1, by omega, by go_num, by rw [E.out]; congr 1; omega, HS.out.drewN _⟩
        case measure => simp [intOf]; omega
      · obtain rfl : k = n := by omega
        go_wp2
        go_ret
        exact ⟨by rw [hd.out]; rfl, B2.out.trans (HS.out.below _)⟩
end Go.Proofs.Ytchfnbcpjiiphaa
