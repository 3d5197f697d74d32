/-
  The contract of slices.Clone; tryWishes and ParkTried among goroutines that only leave.
-/
import Derived.Test.YtchfnbcpjiiphaaCAllX
import Derived.Test.YtchfnbcpjiiphaaCParkS
import Derived.Test.YtchfnbcpjiiphaaZW
namespace Go.Proofs.Ytchfnbcpjiiphaa
open Go Go.Conc Go.RowKit

set_option maxHeartbeats 1600000 in
set_option maxRecDepth 100000 in
theorem cloneI_p (l : List Int) (v : Value) (w : World) {B0 H0 : Nat} (hv : Hid (Own w B0 H0 3 v (iv l))) (hH : H0 ≤ w.heap.size) (hl : l.length ≤ 1048576) (hn : l = [] → v = .slice none 0 0) :
    Calls Try.prog 53 #[v] w fun e w' => ∃ y, e = .returned y ∧ Own w' w.heap.size w'.heap.size 3 y (iv l) ∧ Below w.heap.size w w' := by
  obtain ⟨i0, hi, hz0, hz1, hz2⟩ := info_parts Try.infoIntQ
  have EQN := fun (W : World) (a : Option Addr) (n c : Nat) => Lib.run_eql_slice_nil (P := Try.prog) W 23 3 a n c 0 0 Try.underlying23
  by_cases h0 : l = []
  · obtain rfl := hn h0
    subst h0
    go_enter Try.func53, Try.ntmps53
    go_wp2
    go_ret
    exact ⟨_, rfl, ⟨World.ownsRow_nil _ _ _ _, fun g hg => by cases hg⟩, Below.refl _ _⟩
  · have hpos : 0 < l.length := List.length_pos_iff.2 h0
    clear hn h0
    obtain ⟨g, cv, rfl, hg0, hg1, hc, _⟩ := hv.out.cell 0 (by rw [iv_length]; exact hpos)
    have HCELL := Lib.hid (fun (o : Obj) (j : Nat) (u : Value) (hj : (iv l)[j]? = some u) => show (w.alloc o).cell? ((⟨g, 0, none⟩ : Addr).add j) = some u by
      have hjl : j < (iv l).length := (List.getElem?_eq_some_iff.1 hj).1
      obtain ⟨g', e, _, _, hc', _⟩ := hv.out.at_ j hjl
      cases e
      rw [Addr.add_lit, Nat.zero_add, World.cell?_alloc_lt _ _ _ (show g < w.heap.size by omega), hc', hj])
    have HONE := Lib.hid (show ∀ u ∈ iv l, u.oneCell' = true by
      intro u hu
      obtain ⟨x, _, rfl⟩ := List.mem_map.1 hu
      rfl)
    rw [iv_length] at hv ⊢
    obtain ⟨n, hnn⟩ : ∃ n, n = l.length := ⟨_, rfl⟩
    have HN := Lib.hid hnn
    rw [← hnn] at hv hl hpos ⊢
    have hst : (w.alloc (.cells #[] 3)).ownsRow w.heap.size 3 1 (.slice (some ⟨w.heap.size, 0, none⟩) 0 0) 0 (iv []) := World.ownsRow_lit (base := w.heap.size) (e := 3) (size := 1) w #[] 0 (Nat.le_refl _) (by decide) rfl
    have HST := Lib.hid hst
    have HIVL := Lib.hid (show (iv l).length = n * 1 by rw [iv_length, HN.out, Nat.mul_one])
    clear hst hc hnn
    go_enter Try.func53, Try.ntmps53
    go_wp2_with (at_builtin; refine wpList_append_own _ rfl _ _ 23 rfl w.heap.size 3 i0 (.int .i64 0) 1 8 Try.underlying23 hi hz0 hz1 hz2 rfl (by decide) _ 0 (iv []) rfl HST.out ⟨g, 0, none⟩ n cv (iv l) rfl HIVL.out (HCELL.out _) HONE.out (by unfold maxLen; omega) (by omega) (by simp) ?_)
    intro v' w7 hown7 hg7 hn7
    have HO7 := Lib.hid hown7
    have HB7 : Hid (Below w.heap.size w w7) := ((Below.refl _ _).alloc (Nat.le_refl _) _).grown hg7 (by simp) (fun r hr => by simp [Value.ownBlock] at hr; omega)
    clear hown7 hg7 hn7
    go_wp2
    go_ret
    have h1 : (iv l).length = n := by rw [HIVL.out, Nat.mul_one]
    have h2 := HO7.out
    refine ⟨_, rfl, ⟨?_, fun g hg => (h2.lt g hg).2⟩, HB7.out⟩
    rw [h1]
    simpa [iv] using h2
theorem cloneI_x (l : List Int) (v : Value) (w : World) {B H : Nat} (hv : Own w B H 3 v (iv l)) (hH : H ≤ w.heap.size) (hl : l.length ≤ 1048576) (hn : l = [] → v = .slice none 0 0) (hs : SetX Try.prog w) :
    CallsX Try.prog 53 #[v] w fun v' w' => BelowX w.heap.size w w' ∧ Own w' w.heap.size w'.heap.size 3 v' (iv l) :=
  callsX_lone tameT rfl hs.set (fun v' w' w₁ hl h => ⟨h.1.like hl, by rw [hl.size]; exact h.2.like hl⟩) fun w₁ hl₁ => (cloneI_p l v w₁ (Lib.hid (hv.like hl₁)) (by rw [hl₁.size]; exact hH) hl hn).mono fun e w' ⟨y, he, ho, hb⟩ =>
    ⟨y, he, (like_x hl₁).trans (below_x (hb.mono (Nat.le_of_eq hl₁.size.symm))), by rw [← hl₁.size]; exact ho⟩

def InvW (n d q : Nat) (w : World) (l : List Int) (v : Value) (a : Act) (w' : World) : Prop :=
  ∃ (k : Nat) (u2 u3 u6 u11 u12 u16 u17 u18 u19 u20 u21 u22 u23 u24 u25 u26 u27 u28 : Value), k ≤ n + 1 ∧ BelowX w.heap.size w w' ∧
    a = { tmps := #[.int .i64 n, v, u2, u3, .int .i64 0, .int .i64 (sumR (fun x => tryN n d (l ++ [(x : Int)])) k : Nat), u6, v, .int .i64 q, .int .i64 n, .bool ((q : Int) == (n : Int)), u11, u12, .int .i64 n, .int .i64 ((n : Int) + 1), .int .i64 k, u16, u17, u18, u19, u20, u21, u22, u23, u24, u25, u26, u27, u28], defers := [] }
def MuW (n : Nat) (a : Act) (_ : World) : Nat := match a.tmps.getD 15 undef with | .int _ j => n + 1 - j.toNat | _ => 0
theorem tryN_small {n d : Nat} (hn : n ≤ 4) (hd : d ≤ 4) (l : List Int) : tryN n d l ≤ 625 := by
  refine Nat.le_trans (tryN_le n d l) ?_
  have h1 : (n + 1) ^ d ≤ 5 ^ d := Nat.pow_le_pow_left (by omega) d
  have h2 : 5 ^ d ≤ 5 ^ 4 := Nat.pow_le_pow_right (by omega) hd
  have h3 : (5 : Nat) ^ 4 = 625 := by decide
  omega
set_option maxRecDepth 100000 in
set_option maxHeartbeats 6400000 in
theorem tryWishes_x (n : Nat) (hn : n ≤ 4) : ∀ (d : Nat) (l : List Int) (v : Value) (w : World) (B H : Nat), l.length + d = n → Own w B H 3 v (iv l) → H ≤ w.heap.size → (l = [] → v = .slice none 0 0) → SetX Try.prog w →
    CallsX Try.prog 49 #[.int .i64 n, v] w (AnsX (.int .i64 (tryN n d l : Nat)) w) := by
  obtain ⟨i0, hi, hz0, hz1, hz2⟩ := info_parts Try.infoIntQ
  intro d
  induction d with
  | zero =>
    intro l v w B H hd hv hH hnil hs
    have hl : l.length ≤ 1048576 := by omega
    have hall := allPark_x l v w hv hH hl hs
    have HT := Lib.hid (show tryN n 0 l = if parkB l = true then 1 else 0 from rfl)
    obtain ⟨av, cv, rfl, _⟩ := hv.slice
    rw [iv_length] at hv hall ⊢
    have hln : l.length = n := by omega
    rw [hln] at hv hall ⊢
    clear hnil
    refine callsX_of_postX Try.func49 rfl ansX_like ?_
    simp only [Try.ntmps49, List.size_toArray, List.length_cons, List.length_nil, Nat.reduceAdd, Nat.reduceSub, Array.replicate_succ, Array.replicate_zero, List.push_toArray, List.append_toArray, List.nil_append, List.cons_append]
    obtain ⟨Q, hQ0⟩ : ∃ Q, Q = postX Try.f49 (AnsX (.int .i64 (tryN n 0 l : Nat)) w) := ⟨_, rfl⟩
    have hQl : LikeQ Q := by rw [hQ0]; exact likeQ_post ansX_like
    rw [← hQ0]
    have hQ := Lib.hid hQ0
    clear hQ0
    refine wpX_piece tameT (by kernel_rfl) rfl hs.set hQl fun w₁ hl₁ => ?_
    go_wp2
    refine wpX_like ?_ hl₁
    clear hl₁ w₁

    refine wpX_seq (wpX_seq (wpX_region ?_))
    simp only [List.size_toArray, List.length_cons, List.length_nil, Nat.reduceAdd, Nat.zero_add, List.range, List.range.loop]
    refine opsX_pure rfl rfl rfl fun w₁ hl₁ K hK => ?_
    go_simp
    refine hK _ ?_
    clear hK K hl₁ w₁
    refine opsX_pure rfl rfl rfl fun w₁ hl₁ K hK => ?_
    go_simp
    refine hK _ ?_
    clear hK K hl₁ w₁
    refine opsX_pure rfl rfl rfl fun w₁ hl₁ K hK => ?_
    go_simp
    refine hK _ ?_
    clear hK K hl₁ w₁
    refine opsX_pure rfl rfl rfl fun w₁ hl₁ K hK => ?_
    go_simp
    refine hK _ ?_
    clear hK K hl₁ w₁
    refine opsX_nil ?_
    refine wpX_cond (t := true) (by simp [Act.eval]) ?_
    rw [if_pos rfl]
    refine wpX_seq (wpX_seq (wpX_region ?_))
    simp only [List.size_toArray, List.length_cons, List.length_nil, Nat.reduceAdd, Nat.zero_add, List.range, List.range.loop]
    refine opsX_pure rfl rfl rfl fun w₁ hl₁ K hK => ?_
    go_simp
    refine hK _ ?_
    clear hK K hl₁ w₁
    refine opsX_calls hall rfl rfl rfl (by simp [Act.eval]) Try.func16 rfl rfl fun v1 w1 ⟨hv1, hb1⟩ => ?_
    subst hv1
    have B1 := Lib.hid hb1
    walk_nrm
    refine opsX_nil ?_
    cases hp : parkB l with
    | true =>
      have hr := Lib.hid (show tryN n 0 l = 1 by rw [HT.out, hp]; rfl)
      refine wpX_cond (t := true) rfl ?_
      rw [if_pos rfl]
      refine wpX_seq (wpX_region ?_)
      simp only [List.size_toArray, List.length_cons, List.length_nil, Nat.zero_add, List.range, List.range.loop]
      refine opsX_pure rfl rfl rfl fun w₁ hl₁ K hK => ?_
      go_simp
      refine hK _ ?_
      clear hK K hl₁ w₁
      refine opsX_nil ?_
      refine wpX_ret ?_
      show Q _ _ _
      rw [hQ.out]
      exact ⟨.inr rfl, rfl, _, results_one rfl _, by rw [hr.out]; rfl, B1.out⟩
    | false =>
      have hr := Lib.hid (show tryN n 0 l = 0 by rw [HT.out, hp]; rfl)
      refine wpX_cond (t := false) rfl ?_
      rw [if_neg (by decide)]
      refine wpX_skip ?_
      show WpX _ _ _ _ _
      refine wpX_seq (wpX_region ?_)
      simp only [List.size_toArray, List.length_cons, List.length_nil, Nat.zero_add, List.range, List.range.loop]
      refine opsX_pure rfl rfl rfl fun w₁ hl₁ K hK => ?_
      go_simp
      refine hK _ ?_
      clear hK K hl₁ w₁
      refine opsX_nil ?_
      refine wpX_ret ?_
      show Q _ _ _
      rw [hQ.out]
      exact ⟨.inr rfl, rfl, _, results_one rfl _, by rw [hr.out]; rfl, B1.out⟩
  | succ d ih =>
    intro l v w B H hd hv hH hnil hs
    have HT := Lib.hid (show tryN n (d + 1) l = sumR (fun x => tryN n d (l ++ [(x : Int)])) (n + 1) from rfl)
    have HCL := Lib.hid (fun (W : World) (hb : BelowX w.heap.size w W) => cloneI_x l v W (hv.x (hb.mono hH)) (Nat.le_trans hH hb.size) (by omega) hnil (hs.x hb))
    have IH := Lib.hid (fun (k : Nat) (y : Value) (W : World) (B H : Nat) (hy : Own W B H 3 y (iv (l ++ [(k : Int)]))) (hH : H ≤ W.heap.size) (hs : SetX Try.prog W) => ih (l ++ [(k : Int)]) y W B H (by rw [List.length_append]; simp; omega) hy hH (fun e => by simp at e) hs)
    have HSM := Lib.hid (fun k => tryN_small hn (show d ≤ 4 by omega) (l ++ [((k : Nat) : Int)]))
    have HSU := Lib.hid (fun k => sumR_le (f := fun x => tryN n d (l ++ [(x : Int)])) (b := 625) k fun x _ => HSM.out x)
    obtain ⟨av, cv, rfl, _⟩ := hv.slice
    rw [iv_length] at hv HCL ⊢
    obtain ⟨q, hq⟩ : ∃ q, q = l.length := ⟨_, rfl⟩
    have HQ := Lib.hid hq
    rw [← hq] at hv HCL hd ⊢
    have hqn : q < n := by omega
    have hqne : ¬ (q : Int) = (n : Int) := by omega
    have hdec : decide ((q : Int) = (n : Int)) = false := decide_eq_false hqne
    have hw1 : IntKind.i64.wrap ((n : Int) + 1) = (n : Int) + 1 := by rw [IntKind.wrap_i64]; omega
    clear ih hnil hv hq
    have hs' := hs
    refine callsX_of_postX Try.func49 rfl ansX_like ?_
    simp only [Try.ntmps49, List.size_toArray, List.length_cons, List.length_nil, Nat.reduceAdd, Nat.reduceSub, Array.replicate_succ, Array.replicate_zero, List.push_toArray, List.append_toArray, List.nil_append, List.cons_append]
    obtain ⟨Q, hQ0⟩ : ∃ Q, Q = postX Try.f49 (AnsX (.int .i64 (tryN n (d + 1) l : Nat)) w) := ⟨_, rfl⟩
    have hQl : LikeQ Q := by rw [hQ0]; exact likeQ_post ansX_like
    rw [← hQ0]
    have hQ := Lib.hid hQ0
    clear hQ0
    refine wpX_piece tameT (by kernel_rfl) rfl hs.set hQl fun w₁ hl₁ => ?_
    go_wp2
    refine wpX_like ?_ hl₁
    clear hl₁ w₁

    refine wpX_seq (wpX_seq (wpX_region ?_))
    simp only [List.size_toArray, List.length_cons, List.length_nil, Nat.reduceAdd, Nat.zero_add, List.range, List.range.loop]
    refine opsX_pure rfl rfl rfl fun w₁ hl₁ K hK => ?_
    go_simp
    refine hK _ ?_
    clear hK K hl₁ w₁
    refine opsX_pure rfl rfl rfl fun w₁ hl₁ K hK => ?_
    go_simp
    refine hK _ ?_
    clear hK K hl₁ w₁
    refine opsX_pure rfl rfl rfl fun w₁ hl₁ K hK => ?_
    go_simp
    refine hK _ ?_
    clear hK K hl₁ w₁
    refine opsX_pure rfl rfl rfl fun w₁ hl₁ K hK => ?_
    go_simp
    refine hK _ ?_
    clear hK K hl₁ w₁
    refine opsX_nil ?_
    refine wpX_cond (t := false) (by simp [Act.eval, hqne]) ?_
    rw [if_neg (by decide)]
    refine wpX_skip ?_
    show WpX _ _ Q _ _
    refine wpX_piece tameT (by kernel_rfl) rfl hs.set hQl fun w₁ hl₁ => ?_
    go_wp2
    refine wpX_like ?_ hl₁
    clear hl₁ w₁
    refine wpX_seq (wpX_piece tameT (by kernel_rfl) rfl hs.set (likeQ_then hQl) fun w₁ hl₁ => ?_)
    go_wp2
    refine wpX_like ?_ hl₁
    clear hl₁ w₁
    refine wpX_block ?_
    refine wpX_loop (InvW n d q w l (.slice av q cv)) (MuW n) ⟨0, _, _, _, _, _, _, _, _, _, _, _, _, _, _, _, _, _, _, Nat.zero_le _, BelowX.refl _ _, rfl⟩ ?_
    rintro a w' ⟨k, u2, u3, u6, u11, u12, u16, u17, u18, u19, u20, u21, u22, u23, u24, u25, u26, u27, u28, hk, hb, rfl⟩
    have B' := Lib.hid hb
    have C' := Lib.hid (HCL.out w' hb)
    clear hb
    refine wpX_seq (wpX_region ?_)
    simp only [List.size_toArray, List.length_cons, List.length_nil, Nat.zero_add, List.range, List.range.loop]
    refine opsX_pure rfl rfl rfl fun w₁ hl₁ K hK => ?_
    go_simp
    refine hK _ ?_
    clear hK K hl₁ w₁
    refine opsX_nil ?_
    by_cases hlt : k < n + 1
    · have hb1 : (k : Int) < (n : Int) + 1 := by omega
      have hdec : decide ((k : Int) < (n : Int) + 1) = true := decide_eq_true hb1
      have hsm := HSM.out k
      have hsu := HSU.out k
      have hwA : IntKind.i64.wrap (((sumR (fun x => tryN n d (l ++ [(x : Int)])) k : Nat) : Int) + ((tryN n d (l ++ [(k : Int)]) : Nat) : Int)) = ((sumR (fun x => tryN n d (l ++ [(x : Int)])) (k + 1) : Nat) : Int) := by
        rw [sumR, IntKind.wrap_i64]; omega
      have HWA := Lib.hid hwA
      clear hsm hsu hwA
      obtain ⟨S0, hS0⟩ : ∃ S0 : Nat, S0 = sumR (fun x => tryN n d (l ++ [(x : Int)])) k := ⟨_, rfl⟩
      rw [← hS0] at HWA ⊢
      clear hS0
      refine wpX_seq (wpX_cond (t := true) (by simp [Act.eval, hdec]) ?_)
      rw [if_pos rfl]
      refine wpX_skip ?_
      refine wpX_seq (wpX_block ?_)
      refine wpX_seq (wpX_region ?_)
      simp only [List.size_toArray, List.length_cons, List.length_nil, Nat.reduceAdd, Nat.zero_add, List.range, List.range.loop]
      refine opsX_pure rfl rfl rfl fun w₁ hl₁ K hK => ?_
      go_simp
      refine hK _ ?_
      clear hK K hl₁ w₁
      refine opsX_pure rfl rfl rfl fun w₁ hl₁ K hK => ?_
      go_simp
      refine hK _ ?_
      clear hK K hl₁ w₁
      refine opsX_nil ?_
      refine wpX_region ?_
      simp only [List.size_toArray, List.length_cons, List.length_nil, Nat.reduceAdd, Nat.zero_add, List.range, List.range.loop]
      refine opsX_pure rfl rfl rfl fun w₁ hl₁ K hK => ?_
      go_simp
      refine hK _ ?_
      clear hK K hl₁ w₁
      refine opsX_pure rfl rfl rfl fun w₁ hl₁ K hK => ?_
      go_simp
      refine hK _ ?_
      clear hK K hl₁ w₁
      refine opsX_pure rfl rfl rfl fun w₁ hl₁ K hK => ?_
      go_simp
      refine hK _ ?_
      clear hK K hl₁ w₁
      refine opsX_calls C'.out rfl rfl rfl (by simp [Act.eval]) Try.func53 rfl rfl fun y w2 ⟨hb2, hy2⟩ => ?_
      have B2 := Lib.hid (B'.out.trans (hb2.mono B'.out.size))
      have Y2 := Lib.hid hy2
      have Z2 := Lib.hid hb2.size
      obtain ⟨ya, yc, rfl, _⟩ := hy2.slice
      rw [iv_length, ← HQ.out] at Y2 ⊢
      clear hb2 hy2 C'
      walk_nrm
      refine opsX_pure rfl rfl rfl fun w₁ hl₁ K hK => ?_
      go_simp
      refine hK _ ?_
      clear hK K hl₁ w₁
      refine opsX_k rfl rfl rfl fun w₁ hl₁ K hK => ?_
      go_simp
      refine hK _ _ ?_
      clear hK K
      have Y3 : Hid ((w₁.alloc (.cells #[.int .i64 (k : Int)] 3)).ownsRow w'.heap.size 3 1 (.slice ya q yc) q (iv l)) := by
        have h := (Y2.out.like hl₁).1.alloc (.cells #[.int .i64 (k : Int)] 3)
        rw [iv_length, ← HQ.out] at h
        exact h
      have B3 := Lib.hid (B2.out.trans ((like_x (B := w.heap.size) hl₁).trans (below_x ((Below.refl w.heap.size w₁).alloc (by rw [hl₁.size]; exact B2.out.size) (.cells #[.int .i64 (k : Int)] 3)))))
      have Z3 : Hid (w'.heap.size ≤ (w₁.alloc (.cells #[.int .i64 (k : Int)] 3)).heap.size) := by show _ ≤ _; rw [World.size_alloc, hl₁.size]; have := Z2.out; omega
      have C3 := Lib.hid (cell_one_new w₁ (.int .i64 (k : Int)) 3)
      have G3 : Hid (w'.heap.size ≤ w₁.heap.size) := by show _ ≤ _; rw [hl₁.size]; exact Z2.out
      generalize w₁.alloc (.cells #[.int .i64 (k : Int)] 3) = w3 at Y3 B3 Z3 C3 ⊢
      obtain ⟨c0, hc0⟩ : ∃ c0, c0 = w₁.heap.size := ⟨_, rfl⟩
      rw [← hc0] at C3 G3 ⊢
      clear hl₁ hc0 w₁ Y2 B2 Z2
      refine opsX_k rfl rfl rfl fun w₁ hl₁ K hK => ?_
      obtain ⟨out', w4, hr, hown', hgrow, hnil⟩ := run_append_own (P := Try.prog) w₁ w'.heap.size 23 23 3 i0 (.int .i64 0) 1 8 Try.underlying23 hi hz0 hz1 hz2 rfl (by decide) (.slice ya q yc) q (iv l) (own_of_blocks Y3.out fun g _ => by rw [hl₁.heap]) ⟨c0, 0, none⟩ 1 1 [.int .i64 (k : Int)] rfl (fun j u hj => (hl₁.cell _).trans (C3.out j u hj)) (by intro u hu; simp at hu; subst hu; rfl) (by unfold maxLen; omega) (by omega) (by rw [hl₁.size]; exact Z3.out)
      refine uponK_append (.tmp 21) (.tmp 23) 23 rfl rfl rfl hr (hK _ _ ?_)
      clear hK K
      have S4 : Hid (w'.heap.size ≤ w4.heap.size) := by show _ ≤ _; have h1 := hgrow.size; rw [hl₁.size] at h1; have := Z3.out; omega
      have B4 : Hid (BelowX w.heap.size w w4) := B3.out.trans ((like_x (B := w.heap.size) hl₁).trans (below_x ((Below.refl w.heap.size w₁).grown hgrow (by rw [hl₁.size]; exact B3.out.size) (fun r hr => Nat.le_trans B'.out.size (Y3.out.lt r hr).1))))
      have Y4 : Own w4 w'.heap.size w4.heap.size 3 out' (iv (l ++ [(k : Int)])) := by
        rw [iv_snoc] at hown'
        refine ⟨?_, fun g hg => (hown'.lt g hg).2⟩
        rw [iv_length, List.length_append, List.length_singleton, ← HQ.out]
        exact hown'
      have I4 := Lib.hid (IH.out k out' w4 _ _ Y4 (Nat.le_refl _) (hs.x B4.out))
      clear hr hown' hgrow hnil hl₁ w₁ Y3 B3 Z3 C3 G3 Y4
      walk_nrm
      refine opsX_calls I4.out rfl rfl rfl (by simp [Act.eval]) Try.func49 rfl rfl fun v5 w5 ⟨hv5, hb5⟩ => ?_
      subst hv5
      have B5 := Lib.hid (B4.out.trans (hb5.mono B4.out.size))
      clear hb5 B4 I4
      walk_nrm
      refine opsX_pure rfl rfl rfl fun w₁ hl₁ K hK => ?_
      go_simp
      rw [HWA.out]
      refine hK _ ?_
      clear hK K hl₁ w₁
      refine opsX_pure rfl rfl rfl fun w₁ hl₁ K hK => ?_
      go_simp
      refine hK _ ?_
      clear hK K hl₁ w₁
      refine opsX_nil ?_
      have hw2 : IntKind.i64.wrap ((k : Int) + 1) = ((k + 1 : Nat) : Int) := by rw [IntKind.wrap_i64]; omega
      show WpX _ _ _ _ _
      refine wpX_region ?_
      simp only [List.size_toArray, List.length_cons, List.length_nil, Nat.reduceAdd, Nat.zero_add, List.range, List.range.loop]
      refine opsX_pure rfl rfl rfl fun w₁ hl₁ K hK => ?_
      go_simp
      refine hK _ ?_
      clear hK K hl₁ w₁
      refine opsX_pure rfl rfl rfl fun w₁ hl₁ K hK => ?_
      go_simp
      refine hK _ ?_
      clear hK K hl₁ w₁
      refine opsX_nil ?_
      show InvW _ _ _ _ _ _ _ _ ∧ _
      refine ⟨⟨k + 1, _, _, _, _, _, _, _, _, _, _, _, _, _, _, _, _, _, _, by omega, B5.out, rfl⟩, ?_⟩
      simp [MuW]
      omega
    · obtain rfl : k = n + 1 := by omega
      have S' := Lib.hid (hs.x B'.out)
      rw [← HT.out]
      refine wpX_seq (wpX_cond (t := false) (by simp [Act.eval]) ?_)
      rw [if_neg (by decide)]
      refine wpX_exit ?_
      show WpX _ _ Q _ _
      rw [hQ.out]
      refine wpX_last tameT (by kernel_rfl) rfl S'.out.set ansX_like (fun w₄ hl₄ => ?_) fun tmps => ⟨_, results_one rfl tmps⟩
      have B4 := Lib.hid (B'.out.like hl₄)
      clear hl₄
      go_wp2
      go_ret
      exact ⟨_, rfl, rfl, B4.out⟩
set_option maxRecDepth 100000 in
set_option maxHeartbeats 1600000 in
theorem parkTried_x (z : Int) (w : World) (hs : SetX Try.prog w) :
    CallsX Try.prog 25 #[.int .i64 z] w (AnsX (.int .i64 (triedN z)) w) := by
  by_cases hz : 0 ≤ z ∧ z ≤ 4
  · obtain ⟨n, rfl⟩ : ∃ n : Nat, z = (n : Int) := ⟨z.toNat, by omega⟩
    have hn : n ≤ 4 := by omega
    have hv : triedN (n : Int) = ((tryN n n [] : Nat) : Int) := by rw [triedN, if_pos hz, (try_few hn).1]; rfl
    rw [hv]
    have TW := Lib.hid (tryWishes_x n hn n [] (.slice none 0 0) w 0 w.heap.size (by simp) ⟨World.ownsRow_nil _ _ _ _, fun g hg => by cases hg⟩ (Nat.le_refl _) (fun _ => rfl) hs)
    have b1 : ¬ ((n : Int) < 0) := by omega
    have b2 : ¬ ((n : Int) > 4) := by omega
    have b3 : ¬ ((4 : Int) < (n : Int)) := by omega
    clear hz hv
    refine callsX_of_postX Try.func25 rfl ansX_like ?_
    simp only [Try.ntmps25, List.size_toArray, List.length_cons, List.length_nil, Nat.reduceAdd, Nat.reduceSub, Array.replicate_succ, Array.replicate_zero, List.push_toArray, List.append_toArray, List.nil_append, List.cons_append]
    obtain ⟨Q, hQ0⟩ : ∃ Q, Q = postX Try.f25 (AnsX (.int .i64 (tryN n n [] : Nat)) w) := ⟨_, rfl⟩
    have hQl : LikeQ Q := by rw [hQ0]; exact likeQ_post ansX_like
    rw [← hQ0]
    have hQ := Lib.hid hQ0
    clear hQ0
    refine wpX_piece tameT (by kernel_rfl) rfl hs.set hQl fun w₁ hl₁ => ?_
    go_wp2
    refine wpX_like ?_ hl₁
    clear hl₁ w₁

    refine wpX_piece tameT (by kernel_rfl) rfl hs.set hQl fun w₁ hl₁ => ?_
    go_wp2
    refine wpX_like ?_ hl₁
    clear hl₁ w₁
    refine wpX_seq (wpX_region ?_)
    simp only [List.size_toArray, List.length_cons, List.length_nil, Nat.reduceAdd, Nat.zero_add, List.range, List.range.loop]
    refine opsX_pure rfl rfl rfl fun w₁ hl₁ K hK => ?_
    go_simp
    refine hK _ ?_
    clear hK K hl₁ w₁
    refine opsX_calls TW.out rfl rfl rfl (by simp [Act.eval]) Try.func49 rfl rfl fun v5 w5 ⟨hv5, hb5⟩ => ?_
    subst hv5
    have B5 := Lib.hid hb5
    walk_nrm
    refine opsX_pure rfl rfl rfl fun w₁ hl₁ K hK => ?_
    go_simp
    refine hK _ ?_
    clear hK K hl₁ w₁
    refine opsX_nil ?_
    refine wpX_ret ?_
    show Q _ _ _
    rw [hQ.out]
    exact ⟨.inr rfl, rfl, _, results_one rfl _, rfl, B5.out⟩
  · have hv : triedN z = -1 := by rw [triedN, if_neg hz]
    rw [hv]
    refine callsX_of_postX Try.func25 rfl ansX_like ?_
    simp only [Try.ntmps25, List.size_toArray, List.length_cons, List.length_nil, Nat.reduceAdd, Nat.reduceSub, Array.replicate_succ, Array.replicate_zero, List.push_toArray, List.append_toArray, List.nil_append, List.cons_append]
    obtain ⟨Q, hQ0⟩ : ∃ Q, Q = postX Try.f25 (AnsX (.int .i64 (-1)) w) := ⟨_, rfl⟩
    have hQl : LikeQ Q := by rw [hQ0]; exact likeQ_post ansX_like
    rw [← hQ0]
    have hQ := Lib.hid hQ0
    clear hQ0
    refine wpX_piece tameT (by kernel_rfl) rfl hs.set hQl fun w₁ hl₁ => ?_
    go_wp2
    refine wpX_like ?_ hl₁
    clear hl₁ w₁

    by_cases h0 : z < 0
    · skip
      refine wpX_piece tameT (by kernel_rfl) rfl hs.set hQl fun w₁ hl₁ => ?_
      have B1 := Lib.hid (like_x (B := w.heap.size) hl₁)
      clear hl₁
      go_wp2
      show Q _ _ _
      rw [hQ.out]
      exact ⟨.inr rfl, rfl, _, results_one rfl _, rfl, B1.out⟩
    · have h4 : 4 < z := by omega
      refine wpX_piece tameT (by kernel_rfl) rfl hs.set hQl fun w₁ hl₁ => ?_
      have B1 := Lib.hid (like_x (B := w.heap.size) hl₁)
      clear hl₁
      go_wp2
      show Q _ _ _
      rw [hQ.out]
      exact ⟨.inr rfl, rfl, _, results_one rfl _, rfl, B1.out⟩
end Go.Proofs.Ytchfnbcpjiiphaa
