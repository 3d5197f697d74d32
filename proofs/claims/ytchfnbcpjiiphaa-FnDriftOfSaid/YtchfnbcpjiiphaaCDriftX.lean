/-
  DriftOf among goroutines that only leave.
-/
import Derived.Test.YtchfnbcpjiiphaaCAllX
import Derived.Test.YtchfnbcpjiiphaaCDriftS
namespace Go.Proofs.Ytchfnbcpjiiphaa
open Go Go.Conc Go.RowKit

set_option maxRecDepth 100000 in
set_option maxHeartbeats 3200000 in
theorem driftOf_x (l : List Int) (v : Value) (w : World) {B H : Nat} (hv : Own w B H 3 v (iv l)) (hH : H ≤ w.heap.size) (hl : l.length ≤ 1048576) (hs : SetX Try.prog w) :
    CallsX Try.prog 30 #[v] w (AnsX (.int .i64 (driftB l)) w) := by
  refine callsX_of_postX Try.func30 rfl ansX_like ?_
  simp only [Try.ntmps30, List.size_toArray, List.length_cons, List.length_nil, Nat.reduceAdd, Nat.reduceSub, Array.replicate_succ, Array.replicate_zero, List.push_toArray, List.append_toArray, List.nil_append, List.cons_append]
  obtain ⟨Q, hQ0⟩ : ∃ Q, Q = postX Try.f30 (AnsX (.int .i64 (driftB l)) w) := ⟨_, rfl⟩
  have hQl : LikeQ Q := by rw [hQ0]; exact likeQ_post ansX_like
  rw [← hQ0]
  have hQ := Lib.hid hQ0
  clear hQ0
  refine wpX_piece tameT (by kernel_rfl) rfl hs.set hQl fun w₁ hl₁ => ?_
  go_wp2
  refine wpX_like ?_ hl₁
  clear hl₁ w₁
  refine wpX_seq (wpX_seq (wpX_region ?_))
  simp only [List.size_toArray, List.length_cons, List.length_nil, Nat.reduceAdd, Nat.zero_add, List.range, List.range.loop]
  refine opsX_pure rfl rfl rfl fun w₁ hl₁ K hK => ?_
  go_simp
  refine hK _ ?_
  clear hK K hl₁ w₁
  refine opsX_calls (allPark_x l v w hv hH hl hs) rfl rfl rfl (by simp [Act.eval]) Try.func16 rfl rfl fun v1 w1 ⟨hv1, hb1⟩ => ?_
  subst hv1
  have B1 := Lib.hid hb1
  have V1 := Lib.hid (hv.x (hb1.mono hH))
  have Z1 := Lib.hid (Nat.le_trans hH hb1.size)
  clear hb1
  walk_nrm
  cases hp : parkB l with
  | false =>
    have hd := Lib.hid (show driftB l = -1 by rw [driftB, hp]; rfl)
    clear hp
    refine opsX_pure rfl rfl rfl fun w₁ hl₁ K hK => ?_
    go_simp
    refine hK _ ?_
    clear hK K hl₁ w₁
    refine opsX_nil ?_
    refine wpX_cond (t := true) rfl ?_
    rw [if_pos rfl]
    refine wpX_of_wp tameT (by kernel_rfl) rfl (hs.x B1.out).set (likeQ_then hQl) fun w₁ hl₁ => ?_
    have B2 := Lib.hid (B1.out.like hl₁)
    clear hl₁
    go_wp2
    show Q _ _ _
    rw [hQ.out]
    exact ⟨.inr rfl, rfl, _, results_one rfl _, by rw [hd.out]; rfl, B2.out⟩
  | true =>
    have hwb : wishB l = true := by
      rw [parkB, Bool.and_eq_true] at hp
      exact hp.1
    have hd := Lib.hid (show driftB l = driftUp l l.length by rw [driftB, hp]; rfl)
    have hl8 := wishB_len hwb
    have HDS := Lib.hid (drift_small hwb)
    have HWB := Lib.hid hwb
    clear hp hwb
    refine opsX_pure rfl rfl rfl fun w₁ hl₁ K hK => ?_
    go_simp
    refine hK _ ?_
    clear hK K hl₁ w₁
    refine opsX_nil ?_
    refine wpX_cond (t := false) rfl ?_
    rw [if_neg (by decide)]
    refine wpX_skip ?_
    show WpX _ _ Q _ _
    refine wpX_piece tameT (by kernel_rfl) rfl (hs.x B1.out).set hQl fun w₁ hl₁ => ?_
    go_wp2
    refine wpX_like ?_ hl₁
    clear hl₁ w₁
    refine wpX_seq (wpX_seq (wpX_region ?_))
    simp only [List.size_toArray, List.length_cons, List.length_nil, Nat.reduceAdd, Nat.zero_add, List.range, List.range.loop]
    refine opsX_pure rfl rfl rfl fun w₁ hl₁ K hK => ?_
    go_simp
    refine hK _ ?_
    clear hK K hl₁ w₁
    refine opsX_calls (placesOf_x l v w1 V1.out Z1.out hl (hs.x B1.out)) rfl rfl rfl (by simp [Act.eval]) Try.func11 rfl rfl fun y w2 hp2 => ?_
    have Y2 := Lib.hid (hp2.2.1 HWB.out)
    have V2 := Lib.hid (V1.out.x (hp2.1.mono Z1.out))
    have B2 := Lib.hid (B1.out.trans (hp2.1.mono B1.out.size))
    have HYL := Lib.hid (placesB_length l)
    have hyl : (iv (placesB l)).length = l.length := by rw [iv_length, placesB_length]
    clear hp2 V1 Z1 B1
    obtain ⟨ay, cy, rfl, _⟩ := Y2.out.slice
    rw [hyl] at Y2 ⊢
    clear hyl
    walk_nrm
    refine opsX_pure rfl rfl rfl fun w₁ hl₁ K hK => ?_
    go_simp
    refine hK _ ?_
    clear hK K hl₁ w₁
    refine opsX_pure rfl rfl rfl fun w₁ hl₁ K hK => ?_
    go_simp
    refine hK _ ?_
    clear hK K hl₁ w₁
    refine opsX_nil ?_
    obtain ⟨n, hn⟩ : ∃ n, n = l.length := ⟨_, rfl⟩
    have HN := Lib.hid hn
    obtain ⟨av, cv, rfl, _⟩ := V2.out.slice
    rw [iv_length] at V2 ⊢
    rw [← hn] at V2 Y2 hl hl8 hd HDS HYL ⊢
    clear hn hv
    refine wpX_of_wp tameT (by kernel_rfl) rfl (hs.x B2.out).set (likeQ_then hQl) fun w₃ hl₃ => ?_
    have V3 := Lib.hid (V2.out.like hl₃)
    have Y3 := Lib.hid (Y2.out.like hl₃)
    have B3 := Lib.hid (B2.out.like hl₃)
    have S3 := Lib.hid (hs.x B3.out)
    clear V2 Y2 B2 hl₃
    go_wp2
    go_loop [3, 12] (fun o i => ∃ k : Nat, k ≤ n ∧ i = .int .i64 k ∧ o = .int .i64 (driftUp l k)) (fun _ i => n - (intOf i).toNat)
    case atStart => exact ⟨0, Nat.zero_le _, rfl, rfl⟩
    case round =>
      obtain ⟨k, hk, rfl, rfl⟩ := hrel
      by_cases hlt : k < n
      · have hkl : k < l.length := by rw [← HN.out]; exact hlt
        have hkp : k < (placesB l).length := by rw [HYL.out]; exact hlt
        have b0 : (k : Int) < (n : Int) := by omega
        obtain ⟨g1, rfl, _, _, h1, _⟩ := V3.out.at_ k (by rw [iv_length]; exact hkl)
        obtain ⟨g2, rfl, _, _, h2, _⟩ := Y3.out.at_ k (by rw [iv_length]; exact hkp)
        rw [iv_at l k hkl] at h1
        rw [iv_at _ k hkp] at h2
        have E := Lib.hid (driftUp_step hkl hkp)
        have s1 := HDS.out k hk
        have s2 := wishB_at HWB.out hkl
        have s3 := places_at l hkl
        rw [List.getD_eq_getElem?_getD, List.getElem?_eq_getElem hkp] at s3
        simp only [Option.getD_some] at s3
        rw [← HN.out] at s2 s3
        obtain ⟨x, hx⟩ : ∃ x, x = l[k] := ⟨_, rfl⟩
        obtain ⟨z, hz⟩ : ∃ z, z = (placesB l)[k] := ⟨_, rfl⟩
        obtain ⟨S, hS⟩ : ∃ S, S = driftUp l k := ⟨_, rfl⟩
        rw [← hx] at h1 E s2
        rw [← hz] at h2 E s3
        rw [← hS] at E s1 ⊢
        clear hx hz hS
        have q1 : IntKind.i64.wrap (z - x) = z - x := by rw [IntKind.wrap_i64]; omega
        have q2 : IntKind.i64.wrap (S + (z - x)) = S + (z - x) := by rw [IntKind.wrap_i64]; omega
        go_wp2
        go_round
        case rel => exact ⟨k + 1, by omega, by go_num, by rw [E.out]⟩
        case measure => simp [intOf]; omega
      · obtain rfl : k = n := by omega
        go_wp2
        rw [hQ.out]
        refine wpX_last tameT (by kernel_rfl) rfl S3.out.set ansX_like (fun w₄ hl₄ => ?_) fun tmps => ⟨_, results_one rfl tmps⟩
        have B4 := Lib.hid (B3.out.like hl₄)
        clear hl₄
        go_wp2
        go_ret
        exact ⟨_, rfl, by rw [hd.out]; rfl, B4.out⟩
end Go.Proofs.Ytchfnbcpjiiphaa
