/-
  The program's shifted; ShiftFor among goroutines that only leave.
-/
import Derived.Test.YtchfnbcpjiiphaaCAllX
import Derived.Test.YtchfnbcpjiiphaaCParkS
import Derived.Test.YtchfnbcpjiiphaaZW
namespace Go.Proofs.Ytchfnbcpjiiphaa
open Go Go.Conc Go.RowKit

theorem own_formX {w : World} {B n : Nat} {t : TypeId} {v : Value} {xs : List Value} (h : w.ownsRow B t 1 v n xs) : ∃ a c, v = .slice a n c := by
  rcases h.2 with ⟨h0, h1⟩ | ⟨g, cap, cur, e, _⟩
  · exact ⟨none, 0, by rw [h0, h1]⟩
  · exact ⟨_, _, e⟩
set_option maxHeartbeats 3200000 in
set_option maxRecDepth 100000 in
theorem shifted_p (l : List Int) (hw : Hid (wishB l = true)) (k : Nat) (hk : k ≤ l.length) (v : Value) (w : World) {B0 H0 : Nat} (hv : Hid (Own w B0 H0 3 v (iv l))) (hH : H0 ≤ w.heap.size) :
    Calls Try.prog 50 #[v, .int .i64 k] w fun e w' => ∃ y, e = .returned y ∧ Own w' w.heap.size w'.heap.size 3 y (iv (shiftL l k)) ∧ Below w.heap.size w w' := by
  obtain ⟨i0, hi, hz0, hz1, hz2⟩ := info_parts Try.infoIntQ
  have hl8 := wishB_len hw.out
  obtain ⟨av, cv, rfl, _, hcv, _, _⟩ := hv.out.slice
  rw [iv_length] at hv hcv ⊢
  obtain ⟨n, hn⟩ : ∃ n, n = l.length := ⟨_, rfl⟩
  have HN := Lib.hid hn
  rw [← hn] at hv hcv hl8 hk ⊢
  have hw1 : IntKind.i64.wrap ((n : Int) + 1) = (n : Int) + 1 := by rw [IntKind.wrap_i64]; omega
  clear hn
  obtain ⟨G, hG⟩ : ∃ G, G = w.heap.size := ⟨_, rfl⟩
  rw [← hG] at hH
  have HG := Lib.hid hG
  have HZ0 : Hid (G ≤ w.heap.size) := by show _ ≤ _; omega
  clear hG
  go_enter Try.func50, Try.ntmps50
  go_wp2
  go_loopw [5, 10] (fun s i wi => ∃ j : Nat, j ≤ n ∧ i = .int .i64 j ∧ Hid (wi.ownsRow G 3 1 s j (iv ((shiftL l k).take j))) ∧ Hid (Below G w wi) ∧ Hid (G ≤ wi.heap.size)) (fun _ i _ => n - (intOf i).toNat)
  case atStart => exact ⟨0, Nat.zero_le _, rfl, World.ownsRow_nil _ _ _ _, Below.refl _ _, HZ0⟩
  case round =>
    obtain ⟨j, hj, rfl, HO, HB, HZZ⟩ := hrel
    obtain ⟨sa, sc, rfl⟩ := own_formX HO.out
    by_cases hjlt : j < n
    · have hjl : j < l.length := by rw [← HN.out]; exact hjlt
      have b2 : (j : Int) < (n : Int) := by omega
      obtain ⟨g1, rfl, _, _, h1, _⟩ := (hv.out.below (HB.out.mono hH)).at_ j (by rw [iv_length]; exact hjl)
      rw [iv_at l j hjl] at h1
      have HSN := Lib.hid (shiftL_at l k hjl)
      obtain ⟨x, hx⟩ : ∃ x : Nat, l[j] = (x : Int) := ⟨l[j].toNat, by have := (wishB_at hw.out hjl).1; omega⟩
      have hxn : x ≤ n := by have := (wishB_at hw.out hjl).2; have := HN.out; omega
      rw [hx] at h1 HSN
      rw [← HN.out, shift_nat] at HSN
      have q0 : IntKind.i64.wrap ((x : Int) + (k : Int)) = (x : Int) + (k : Int) := by rw [IntKind.wrap_i64]; omega
      have q1 := shift_tmod x k n
      obtain ⟨z, hz⟩ : ∃ z, z = (x + k) % (n + 1) := ⟨_, rfl⟩
      have hzn : z ≤ n := by rw [hz]; have := Nat.mod_lt (x + k) (show 0 < n + 1 by omega); omega
      rw [← hz] at q1 HSN
      have hne : ¬ ((n : Int) + 1 = 0) := by omega
      have HZ := Lib.hid (show ∀ o : Obj, G ≤ (wr.alloc o).heap.size by intro o; rw [World.size_alloc]; have := HZZ.out; omega)
      clear hz hx
      go_wp2_with (at_builtin; refine wpList_append_own _ rfl _ _ 23 rfl G 3 i0 (.int .i64 0) 1 8 Try.underlying23 hi hz0 hz1 hz2 rfl (by decide) _ j (iv ((shiftL l k).take j)) rfl (HO.out.alloc _) ⟨wr.heap.size, 0, none⟩ 1 1 [.int .i64 (z : Int)] rfl rfl (cell_one_new _ _ _) (by intro u hu; simp at hu; subst hu; rfl) (by unfold maxLen; omega) (by omega) (HZ.out _) ?_)
      intro v' w7 hown7 hg7 hn7
      rw [iv_snoc, ← HSN.out] at hown7
      have HO7 := Lib.hid hown7
      have HB7 : Hid (Below G w w7) := HB.out.trans (((Below.refl _ _).alloc HZZ.out _).grown hg7 (by have := HZZ.out; simp; omega) (fun r hr => (HO.out.lt r hr).1))
      have HZ7 : Hid (G ≤ w7.heap.size) := by show _ ≤ _; have h1 := hg7.size; rw [World.size_alloc] at h1; have := HZZ.out; omega
      clear HO HB hown7 hg7 HZ HZZ
      go_wp2
      go_roundw
      case rel => exact ⟨j + 1, by omega, by go_num, HO7, HB7, HZ7⟩
      case measure => simp [intOf]; omega
    · have HJ := Lib.hid (show j = n by omega)
      have b2 : ¬ (j : Int) < (n : Int) := by omega
      have hsl : (iv (shiftL l k)).length = j := by rw [iv_length, shiftL_length, ← HN.out, HJ.out]
      have OS : Hid (Own wr w.heap.size wr.heap.size 3 (.slice sa j sc) (iv (shiftL l k))) := by
        have e : (shiftL l k).take j = shiftL l k := List.take_of_length_le (by rw [shiftL_length, HJ.out, HN.out]; exact Nat.le_refl _)
        have h := HO.out
        rw [e, HG.out] at h
        exact ⟨by rw [hsl]; exact h, fun g hg => (h.lt g hg).2⟩
      clear HO hsl
      go_wp2
      go_ret
      exact ⟨_, rfl, OS.out, by rw [← HG.out]; exact HB.out⟩
/-- shifted in the crowd -/
theorem shifted_x (l : List Int) (hw : wishB l = true) (k : Nat) (hk : k ≤ l.length) (v : Value) (w : World) {B H : Nat} (hv : Own w B H 3 v (iv l)) (hH : H ≤ w.heap.size) (hs : SetX Try.prog w) :
    CallsX Try.prog 50 #[v, .int .i64 k] w fun v' w' => BelowX w.heap.size w w' ∧ Own w' w.heap.size w'.heap.size 3 v' (iv (shiftL l k)) :=
  callsX_lone tameT rfl hs.set (fun v' w' w₁ hl h => ⟨h.1.like hl, by rw [hl.size]; exact h.2.like hl⟩) fun w₁ hl₁ => (shifted_p l (Lib.hid hw) k hk v w₁ (Lib.hid (hv.like hl₁)) (by rw [hl₁.size]; exact hH)).mono fun e w' ⟨y, he, ho, hb⟩ =>
    ⟨y, he, (like_x hl₁).trans (below_x (hb.mono (Nat.le_of_eq hl₁.size.symm))), by rw [← hl₁.size]; exact ho⟩

def InvF (w : World) (l : List Int) (v : Value) (n : Nat) (a : Act) (w' : World) : Prop :=
  ∃ (k : Nat) (u1 u3 u11 u12 u13 u14 u15 u16 u17 u18 : Value), k ≤ n + 1 ∧ BelowX w.heap.size w w' ∧ (∀ j, j < k → parkB (shiftL l j) = false) ∧
    a = { tmps := #[v, u1, .int .i64 0, u3, v, .bool true, .bool false, v, .int .i64 n, .int .i64 ((n : Int) + 1), .int .i64 k, u11, u12, u13, u14, u15, u16, u17, u18], defers := [] }
def MuF (n : Nat) (a : Act) (_ : World) : Nat := match a.tmps.getD 10 undef with | .int _ j => n + 1 - j.toNat | _ => 0
theorem invF_like {w : World} {l : List Int} {v : Value} {n : Nat} (a : Act) (w' w₁ : World) (hl : Like w' w₁) (h : InvF w l v n a w') : InvF w l v n a w₁ := by
  obtain ⟨k, u1, u3, u11, u12, u13, u14, u15, u16, u17, u18, h1, h2, h3⟩ := h
  exact ⟨k, u1, u3, u11, u12, u13, u14, u15, u16, u17, u18, h1, h2.like hl, h3⟩
set_option maxRecDepth 100000 in
set_option maxHeartbeats 3200000 in
theorem shiftFor_x (l : List Int) (v : Value) (w : World) {B H : Nat} (hv : Own w B H 3 v (iv l)) (hH : H ≤ w.heap.size) (hl : l.length ≤ 1048576) (hs : SetX Try.prog w) :
    CallsX Try.prog 34 #[v] w (AnsX (.int .i64 (shiftB l)) w) := by
  refine callsX_of_postX Try.func34 rfl ansX_like ?_
  simp only [Try.ntmps34, List.size_toArray, List.length_cons, List.length_nil, Nat.reduceAdd, Nat.reduceSub, Array.replicate_succ, Array.replicate_zero, List.push_toArray, List.append_toArray, List.nil_append, List.cons_append]
  obtain ⟨Q, hQ0⟩ : ∃ Q, Q = postX Try.f34 (AnsX (.int .i64 (shiftB l)) w) := ⟨_, rfl⟩
  have hQl : LikeQ Q := by rw [hQ0]; exact likeQ_post ansX_like
  rw [← hQ0]
  have hQ := Lib.hid hQ0
  clear hQ0
  refine wpX_piece tameT (by kernel_rfl) rfl hs.set hQl fun w₁ hl₁ => ?_
  go_wp2
  refine wpX_like ?_ hl₁
  clear hl₁ w₁
  cases hwb : wishB l with
  | false =>
    have hd := Lib.hid (shiftB_bad hwb)
    refine wpX_piece tameT (by kernel_rfl) rfl hs.set hQl fun w₁ hl₁ => ?_
    have C := Lib.hid (validWishes_p l v w₁ (Lib.hid (hv.like hl₁)) hl)
    have B1 := Lib.hid (like_x (B := w.heap.size) hl₁)
    rw [hwb] at C
    go_wp2_with fail
    refine C.out.mono ?_
    rintro e w' ⟨rfl, rfl⟩
    go_wp2
    show Q _ _ _
    rw [hQ.out]
    exact ⟨.inr rfl, rfl, _, results_one rfl _, by rw [hd.out]; rfl, B1.out⟩
  | true =>
    have hl8 := wishB_len hwb
    have HWB := Lib.hid hwb
    refine wpX_piece tameT (by kernel_rfl) rfl hs.set hQl fun w₁ hl₁ => ?_
    have C := Lib.hid (validWishes_p l v w₁ (Lib.hid (hv.like hl₁)) hl)
    rw [hwb] at C
    clear hwb
    go_wp2_with fail
    refine C.out.mono ?_
    rintro e w' ⟨rfl, rfl⟩
    go_wp2
    refine wpX_like ?_ hl₁
    clear C hl₁ w₁
    obtain ⟨av, cv, rfl, _⟩ := hv.slice
    rw [iv_length] at hv ⊢
    obtain ⟨n, hn⟩ : ∃ n, n = l.length := ⟨_, rfl⟩
    have HN := Lib.hid hn
    rw [← hn] at hv hl hl8 ⊢
    have hw1 : IntKind.i64.wrap ((n : Int) + 1) = (n : Int) + 1 := by rw [IntKind.wrap_i64]; omega
    clear hn
    refine wpX_seq (wpX_piece tameT (by kernel_rfl) rfl hs.set (likeQ_then hQl) fun w₁ hl₁ => ?_)
    go_wp2
    refine wpX_like ?_ hl₁
    clear hl₁ w₁
    refine wpX_block ?_
    refine wpX_loop (InvF w l (.slice av n cv) n) (MuF n) ⟨0, _, _, _, _, _, _, _, _, _, _, Nat.zero_le _, BelowX.refl _ _, fun j hj => absurd hj (Nat.not_lt_zero _), rfl⟩ ?_
    rintro a w' ⟨k, u1, u3, u11, u12, u13, u14, u15, u16, u17, u18, hk, hb, hno, rfl⟩
    have B' := Lib.hid hb
    have HNO := Lib.hid hno
    have S' := Lib.hid (hs.x hb)
    have V' := Lib.hid (hv.x (hb.mono hH))
    have Z' := Lib.hid (Nat.le_trans hH hb.size)
    clear hb hno
    refine wpX_seq (wpX_region ?_)
    simp only [List.size_toArray, List.length_cons, List.length_nil, Nat.zero_add, List.range, List.range.loop]
    refine opsX_pure rfl rfl rfl fun w₁ hl₁ K hK => ?_
    go_simp
    refine hK _ ?_
    clear hK K hl₁ w₁
    refine opsX_nil ?_
    by_cases hlt : k < n + 1
    · have hltn : k ≤ n := by omega
      have HKL := Lib.hid (show k ≤ l.length by rw [← HN.out]; exact hltn)
      have hb1 : (k : Int) < (n : Int) + 1 := by omega
      have hdec : decide ((k : Int) < (n : Int) + 1) = true := decide_eq_true hb1
      refine wpX_seq (wpX_cond (t := true) (by simp [Act.eval, hdec]) ?_)
      rw [if_pos rfl]
      refine wpX_skip ?_
      refine wpX_seq (wpX_block ?_)
      refine wpX_seq (wpX_region ?_)
      simp only [List.size_toArray, List.length_cons, List.length_nil, Nat.reduceAdd, Nat.zero_add, List.range, List.range.loop]
      refine opsX_pure rfl rfl rfl fun w₁ hl₁ K hK => ?_
      go_simp
      refine hK _ ?_
      clear hK K hl₁ w₁
      refine opsX_pure rfl rfl rfl fun w₁ hl₁ K hK => ?_
      go_simp
      refine hK _ ?_
      clear hK K hl₁ w₁
      refine opsX_nil ?_
      refine wpX_seq (wpX_region ?_)
      simp only [List.size_toArray, List.length_cons, List.length_nil, Nat.reduceAdd, Nat.zero_add, List.range, List.range.loop]
      refine opsX_pure rfl rfl rfl fun w₁ hl₁ K hK => ?_
      go_simp
      refine hK _ ?_
      clear hK K hl₁ w₁
      refine opsX_pure rfl rfl rfl fun w₁ hl₁ K hK => ?_
      go_simp
      refine hK _ ?_
      clear hK K hl₁ w₁
      refine opsX_calls (shifted_x l HWB.out k HKL.out (.slice av n cv) w' V'.out Z'.out S'.out) rfl rfl rfl (by simp [Act.eval]) Try.func50 rfl rfl fun y w2 ⟨hb2, hy2⟩ => ?_
      have B2 := Lib.hid (B'.out.trans (hb2.mono B'.out.size))
      walk_nrm
      refine opsX_calls (allPark_x (shiftL l k) y w2 hy2 (Nat.le_refl _) (by rw [shiftL_length, ← HN.out]; exact hl) (hs.x B2.out)) rfl rfl rfl (by simp [Act.eval]) Try.func16 rfl rfl fun v3 w3 ⟨hv3, hb3⟩ => ?_
      subst hv3
      have B3 := Lib.hid (B2.out.trans (hb3.mono B2.out.size))
      clear hb2 hy2 hb3 B2 B' S' V' Z'
      walk_nrm
      refine opsX_nil ?_
      cases hp : parkB (shiftL l k) with
      | true =>
        have hr := Lib.hid (shiftB_at HWB.out HKL.out HNO.out hp)
        refine wpX_cond (t := true) rfl ?_
        rw [if_pos rfl]
        refine wpX_seq (wpX_region ?_)
        simp only [List.size_toArray, List.length_cons, List.length_nil, Nat.reduceAdd, Nat.zero_add, List.range, List.range.loop]
        refine opsX_pure rfl rfl rfl fun w₁ hl₁ K hK => ?_
        go_simp
        refine hK _ ?_
        clear hK K hl₁ w₁
        refine opsX_pure rfl rfl rfl fun w₁ hl₁ K hK => ?_
        go_simp
        refine hK _ ?_
        clear hK K hl₁ w₁
        refine opsX_nil ?_
        refine wpX_ret ?_
        show Q _ _ _
        rw [hQ.out]
        exact ⟨.inr rfl, rfl, _, results_one rfl _, by rw [hr.out]; rfl, B3.out⟩
      | false =>
        have HN2 : Hid (∀ j, j < k + 1 → parkB (shiftL l j) = false) := fun j hj => by
          by_cases e : j = k
          · subst e; exact hp
          · exact HNO.out j (by omega)
        have hw2 : IntKind.i64.wrap ((k : Int) + 1) = ((k + 1 : Nat) : Int) := by rw [IntKind.wrap_i64]; omega
        refine wpX_cond (t := false) rfl ?_
        rw [if_neg (by decide)]
        refine wpX_skip ?_
        show WpX _ _ _ _ _
        refine wpX_region ?_
        simp only [List.size_toArray, List.length_cons, List.length_nil, Nat.reduceAdd, Nat.zero_add, List.range, List.range.loop]
        refine opsX_pure rfl rfl rfl fun w₁ hl₁ K hK => ?_
        go_simp
        refine hK _ ?_
        clear hK K hl₁ w₁
        refine opsX_pure rfl rfl rfl fun w₁ hl₁ K hK => ?_
        go_simp
        refine hK _ ?_
        clear hK K hl₁ w₁
        refine opsX_nil ?_
        show InvF _ _ _ _ _ _ ∧ _
        refine ⟨⟨k + 1, _, _, _, _, _, _, _, _, _, _, by omega, B3.out, HN2.out, rfl⟩, ?_⟩
        simp [MuF]
        omega
    · have hdec : decide ((k : Int) < (n : Int) + 1) = false := decide_eq_false (by omega)
      have hr := Lib.hid (shiftB_no HWB.out fun j hj => HNO.out j (by have := HN.out; omega))
      refine wpX_seq (wpX_cond (t := false) (by simp [Act.eval, hdec]) ?_)
      rw [if_neg (by decide)]
      refine wpX_exit ?_
      show WpX _ _ Q _ _
      rw [hQ.out]
      refine wpX_last tameT (by kernel_rfl) rfl S'.out.set ansX_like (fun w₄ hl₄ => ?_) fun tmps => ⟨_, results_one rfl tmps⟩
      have B4 := Lib.hid (B'.out.like hl₄)
      clear hl₄
      go_wp2
      go_ret
      exact ⟨_, rfl, by rw [hr.out]; rfl, B4.out⟩
end Go.Proofs.Ytchfnbcpjiiphaa
