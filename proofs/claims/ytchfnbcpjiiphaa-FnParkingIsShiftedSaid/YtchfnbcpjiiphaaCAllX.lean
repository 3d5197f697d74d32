/-
  AllPark among goroutines that only leave.
-/
import Derived.Test.YtchfnbcpjiiphaaCPlaceX
import Derived.Test.YtchfnbcpjiiphaaCContP
import Derived.Test.YtchfnbcpjiiphaaCLeav
namespace Go.Proofs.Ytchfnbcpjiiphaa
open Go Go.Conc Go.RowKit

set_option maxRecDepth 100000 in
set_option maxHeartbeats 1600000 in
theorem allPark_x (l : List Int) (v : Value) (w : World) {B H : Nat} (hv : Own w B H 3 v (iv l)) (hH : H ≤ w.heap.size) (hl : l.length ≤ 1048576) (hs : SetX Try.prog w) :
    CallsX Try.prog 16 #[v] w (AnsX (.bool (parkB l)) w) := by
  refine callsX_of_postX Try.func16 rfl ansX_like ?_
  simp only [Try.ntmps16, List.size_toArray, List.length_cons, List.length_nil, Nat.reduceAdd, Nat.reduceSub, Array.replicate_succ, Array.replicate_zero, List.push_toArray, List.append_toArray, List.nil_append, List.cons_append]
  obtain ⟨Q, hQ0⟩ : ∃ Q, Q = postX Try.f16 (AnsX (.bool (parkB l)) w) := ⟨_, rfl⟩
  have hQl : LikeQ Q := by rw [hQ0]; exact likeQ_post ansX_like
  rw [← hQ0]
  have hQ := Lib.hid hQ0
  clear hQ0
  refine wpX_piece tameT (by kernel_rfl) rfl hs.set hQl fun w₁ hl₁ => ?_
  go_wp2
  refine wpX_like ?_ hl₁
  clear hl₁ w₁
  refine wpX_seq (wpX_region ?_)
  simp only [List.size_toArray, List.length_cons, List.length_nil, Nat.reduceAdd, Nat.zero_add, List.range, List.range.loop]
  refine opsX_pure rfl rfl rfl fun w₁ hl₁ K hK => ?_
  go_simp
  refine hK _ ?_
  clear hK K hl₁ w₁
  refine opsX_callp tameT (fun w₁ hl₁ => (validWishes_p l v w₁ (Lib.hid (hv.like hl₁)) hl).mono fun e w' q => ⟨q.1, q.2 ▸ Like.refl _⟩) rfl rfl rfl (by simp [Act.eval]) rfl hs.set ?_
  walk_nrm
  refine opsX_pure rfl rfl rfl fun w₁ hl₁ K hK => ?_
  go_simp
  refine hK _ ?_
  clear hK K hl₁ w₁
  cases hwb : wishB l with
  | false =>
    refine opsX_unwanted rfl rfl ?_
    refine opsX_unwanted rfl rfl ?_
    refine opsX_unwanted rfl rfl ?_
    refine opsX_unwanted rfl rfl ?_
    walk_nrm
    refine opsX_pure rfl rfl rfl fun w₁ hl₁ K hK => ?_
    go_simp
    refine hK _ ?_
    clear hK K hl₁ w₁
    refine opsX_pure rfl rfl rfl fun w₁ hl₁ K hK => ?_
    go_simp
    refine hK _ ?_
    clear hK K hl₁ w₁
    refine opsX_nil ?_
    show WpX _ _ Q _ _
    refine wpX_ret ?_
    rw [hQ.out]
    exact ⟨.inr rfl, rfl, _, results_one rfl _, by rw [parkB, hwb]; rfl, BelowX.refl _ _⟩
  | true =>
    refine opsX_pure rfl rfl rfl fun w₁ hl₁ K hK => ?_
    go_simp
    refine hK _ ?_
    clear hK K hl₁ w₁
    refine opsX_calls (placesOf_x l v w hv hH hl hs) rfl rfl rfl (by simp [Act.eval]) Try.func11 rfl rfl fun v' w' hp => ?_
    walk_nrm
    have hp2 := hp.2.1 hwb
    have hpl : (placesB l).length ≤ 1048576 := by rw [placesB_length]; exact hl
    have hs' := hs.x hp.1
    refine opsX_of_wpList tameT 5 rfl (by kernel_rfl) rfl hs'.set (likeQ_then hQl) fun w₁ hl₁ => ?_
    have C := Lib.hid (contains_p (placesB l) (-1) v' w₁ (Lib.hid (hp2.like hl₁)) hpl)
    obtain ⟨t, ht⟩ : ∃ t, t = (placesB l).contains (-1) := ⟨_, rfl⟩
    rw [← ht] at C
    have HT := Lib.hid ht
    clear ht
    simp only [List.drop_succ_cons, List.drop_zero]
    go_wp2_with fail
    refine C.out.mono ?_
    rintro e w₂ ⟨rfl, rfl⟩
    go_wp2
    refine wpX_ret ?_
    rw [hQ.out]
    exact ⟨.inr rfl, rfl, _, results_one rfl _, by rw [parkB, hwb, ← HT.out]; rfl, hp.1.like hl₁⟩
end Go.Proofs.Ytchfnbcpjiiphaa
