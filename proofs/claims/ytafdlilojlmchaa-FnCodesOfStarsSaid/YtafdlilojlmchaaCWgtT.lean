/-
  The contracts of the program's MostAlone, CountAlone, MostPairs and LeastWatch, of any rows.
-/
import Derived.Test.YtafdlilojlmchaaZJA
import Derived.Test.YtafdlilojlmchaaZJP
import Derived.Test.YtafdlilojlmchaaZJW
import Derived.Test.YtafdlilojlmchaaCNbrs
import Derived.Test.YtafdlilojlmchaaZ4
import Derived.Test.YtafdlilojlmchaaKLstL
namespace Go.Proofs.Ytafdlilojlmchaa
open Go.RowKit

theorem greatest_p (a b : Int) (w : World) : Calls Try.prog 53 #[.agg #[.int .i64 a, .int .i64 b]] w fun e w' => e = .returned (.int .i64 b) ∧ Below w.heap.size w w' := by
  go_enter Try.func53, Try.ntmps53
  go_wp2
  go_ret
  exact ⟨rfl, (Below.refl _ _).alloc (Nat.le_refl _) _⟩
theorem least_p (a b c : Int) (w : World) : Calls Try.prog 50 #[.agg #[.int .i64 a, .int .i64 b, .int .i64 c]] w fun e w' => e = .returned (.int .i64 c) ∧ Below w.heap.size w w' := by
  go_enter Try.func50, Try.ntmps50
  go_wp2
  go_ret
  exact ⟨rfl, (Below.refl _ _).alloc (Nat.le_refl _) _⟩
/-- the fewest watchers of a tree, by its branches, are the fewest of all sets -/
theorem least_wat {n : Nat} {E : Edges} (h : ValidT n E) (h7 : n ≤ 7) : leastN n E = (watF E 14 0 (-1)).2.2 := by
  have hn : 0 < n := by have := h.len; omega
  have hp := nd_perm h h7 hn
  have hB := valid_brn h h7 0 (-1)
  have hnd := hp.nodup_iff.2 List.nodup_range
  refine Nat.le_antisymm ?_ ?_
  · obtain ⟨_, _, D', a1, a2, a4⟩ := wat_high 14 0 (-1) hB hnd
    have hlt : ∀ y ∈ D', y < n := fun y hy => List.mem_range.1 (hp.mem_iff.1 (a1 y hy))
    obtain ⟨s, h3, h4⟩ := bits_there (fun i => decide (i ∈ D')) n
    have hw : watchB n E s = true := (watch_iff h).2 fun v hv => by
      have h5 := a4 v (hp.mem_iff.2 (List.mem_range.2 hv))
      refine h5.mono fun z hz => ?_
      rw [h4, List.mem_filter, decide_eq_true_eq]
      exact ⟨List.mem_range.2 (hlt z hz), hz⟩
    have h5 := lst_few hw (2 ^ n) h3
    have h6 : popN s n ≤ D'.length := by
      rw [pop_len, h4]
      exact List.Nodup.length_le_of_subset (List.nodup_range.filter _) fun x hx => of_decide_eq_true (List.mem_filter.1 hx).2
    exact Nat.le_trans h5 (Nat.le_trans h6 a2)
  · have key : ∀ s, watchB n E s = true → (watF E 14 0 (-1)).2.2 ≤ popN s n := by
      intro s hw
      have hs := (watch_iff h).1 hw
      have h1 := (wat_low (fun i => decide (i ∈ setsB n s)) 14 0 (-1) hB hnd fun y hy _ => by
        rcases hs y (List.mem_range.1 (hp.mem_iff.1 hy)) with q | ⟨z, hz, q⟩
        · exact .inl (decide_eq_true q)
        · exact .inr ⟨z, q, decide_eq_true hz⟩).2.2 (by
        rcases hs 0 hn with q | ⟨z, hz, q⟩
        · exact .inl (decide_eq_true q)
        · exact .inr ⟨z, mem_away.2 ⟨q, by omega⟩, decide_eq_true hz⟩)
      refine Nat.le_trans h1 ?_
      rw [pop_len, hp.countP_eq]
      unfold setsB
      rw [List.countP_eq_length_filter]
      refine Nat.le_of_eq (congrArg List.length ?_)
      refine List.filter_congr fun x hx => ?_
      have hx' := List.mem_range.1 hx
      by_cases q : s / 2 ^ x % 2 = 1
      · rw [decide_eq_true q]; exact decide_eq_true (List.mem_filter.2 ⟨hx, decide_eq_true q⟩)
      · rw [decide_eq_false q]; exact decide_eq_false fun hh => q (of_decide_eq_true (List.mem_filter.1 hh).2)
    have hall : ∀ k, (watF E 14 0 (-1)).2.2 ≤ lstN n E k := by
      intro k
      induction k with
      | zero =>
        have := (wat_le 14 0 (-1) hB).2.2
        rw [sz_all h h7 hn] at this
        exact this
      | succ k ih =>
        rw [lst_next]
        split
        · next hw => have := key k hw; omega
        · exact ih
    exact hall _
set_option maxRecDepth 100000 in
set_option maxHeartbeats 1600000 in
theorem treeP_p (n : Int) (rows : List (List Int)) (v : Value) (RV : List Value) (w : World) (B0 H0 : Nat) (hG : Hid (Grid w B0 H0 v RV rows)) (hH : H0 ≤ w.heap.size) (hrl : rows.length ≤ 1048576) (hrs : ∀ r ∈ rows, r.length ≤ 1048576) (hwf : (Lit.int .i64 n).wf = true) :
    Calls Try.prog 51 #[.int .i64 n, v, .func (.func 52) #[] #[], .func (.func 53) #[] #[]] w fun e w' => e = .returned (.int .i64 (treeV pairsN n rows)) ∧ Below w.heap.size w w' := by
  obtain ⟨av, cv, hv⟩ : ∃ a c, v = .slice a RV.length c := by
    obtain ⟨a, c, h, _⟩ := hG.out.1.slice; exact ⟨a, c, h⟩
  cases ht : treeB n rows with
  | true =>
    rw [treeV, if_pos ht]
    obtain ⟨h1, h2⟩ := rowsE_tree ht
    obtain ⟨N, hN⟩ : ∃ N : Nat, n = N := ⟨n.toNat, by have := (treeB_iff.1 ht).1; omega⟩
    obtain ⟨t1, t2⟩ := tree_start h2
    have hst := start_le h2
    have CN := Lib.hid (treeNb_yes N rows v RV w hG hH hrl hrs (Lib.hid (by rw [← hN]; exact ht)))
    rw [← hN] at CN
    have hnat : n.toNat = N := by omega
    have h0 : 0 < N := by have := h2.v.len; omega
    have HO : Hid (∀ e ∈ edgesR rows, e.1 < N ∧ e.2 < N) := fun e he => by have := h2.v.ord e he; omega
    have hl64 : (edgesR rows).length ≤ 64 := by have := h2.len; omega
    have CW := Lib.hid (fun (tv : Value) (RV : List Value) (W : World) (B0 H0 : Nat) => weighP_p N (edgesR rows) HO hl64 (Lib.hid (joinP_p N (edgesR rows))) 14 0 (-1) h0 (by omega) (Lib.hid t1) (Lib.hid t2) tv RV W B0 H0)
    obtain ⟨p0, hp0⟩ : ∃ p0, p0 = (pairF (edgesR rows) 14 0 (-1)).2 := ⟨_, rfl⟩
    obtain ⟨p1, hp1⟩ : ∃ p1, p1 = (pairF (edgesR rows) 14 0 (-1)).1 := ⟨_, rfl⟩
    simp only [← hp0, ← hp1] at CW hst
    have HV : Hid ((p1 : Int) = ((pairsN n.toNat (edgesR rows) : Nat) : Int)) := by show _ = _; unfold pairsN; rw [← hp1]
    have CT := Lib.hid (fun W => greatest_p (p0 : Int) (p1 : Int) W)
    have CF := Lib.hid (fun W => wholeFrom_p 0 W)
    clear hp0 hp1 t1 t2 HO h0 hst h2 h1 ht hnat hN hG hH hrl hrs
    subst hv
    go_enter Try.func51, Try.ntmps51
    go_wp2_with fail
    refine CN.out.mono ?_
    rintro e w1 ⟨x, RW, rfl, hg, hb1⟩
    have HG1 := Lib.hid hg
    have HB1 := Lib.hid hb1
    obtain ⟨ax, cx, hx, _⟩ := hg.1.slice
    subst hx
    clear hg hb1 CN
    go_wp2_with fail
    refine (CF.out _).mono ?_
    rintro e w2 ⟨rfl, hb2⟩
    have HG2 := Lib.hid (HG1.out.below hb2)
    have HB2 : Hid (Below w.heap.size w w2) := HB1.out.trans (hb2.mono HB1.out.size)
    have CW2 := Lib.hid (CW.out _ _ w2 _ _ HG2 hb2.size)
    clear hb2 HB1 HG1 CF CW HG2
    go_wp2_with fail
    refine CW2.out.mono ?_
    rintro e w3 ⟨rfl, hb3⟩
    have HB3 : Hid (Below w.heap.size w w3) := HB2.out.trans (hb3.mono HB2.out.size)
    clear hb3 HB2 CW2
    go_wp2_with fail
    refine (CT.out _).mono ?_
    rintro e w4 ⟨rfl, hb4⟩
    have HB4 : Hid (Below w.heap.size w w4) := HB3.out.trans (hb4.mono HB3.out.size)
    clear hb4 HB3 CT
    go_wp2
    go_ret
    exact ⟨by rw [← HV.out]; rfl, HB4.out⟩
  | false =>
    rw [treeV, if_neg (by rw [ht]; decide)]
    have CN := Lib.hid (treeNb_no n rows v RV w hG hH hrl hrs hwf ht)
    clear hG hH hrl hrs ht
    subst hv
    go_enter Try.func51, Try.ntmps51
    go_wp2_with fail
    refine CN.out.mono ?_
    rintro e w1 ⟨rfl, hb1⟩
    have HB1 := Lib.hid hb1
    clear hb1 CN
    go_wp2
    go_ret
    exact ⟨rfl, HB1.out⟩
set_option maxRecDepth 100000 in
set_option maxHeartbeats 800000 in
theorem implMostPairs_any : TreeFn 22 (treeV pairsN) := by
  intro n rows v RV w B0 H0 hG hH hrl hrs hwf
  have CT := Lib.hid (treeP_p n rows v RV w B0 H0 hG hH hrl hrs hwf)
  obtain ⟨av, cv, rfl⟩ : ∃ a c, v = .slice a RV.length c := by
    obtain ⟨a, c, h, _⟩ := hG.out.1.slice; exact ⟨a, c, h⟩
  obtain ⟨z, hz⟩ : ∃ z, z = treeV pairsN n rows := ⟨_, rfl⟩
  rw [← hz] at CT ⊢
  clear hz hG hH hrl hrs hwf
  go_enter Try.func22, Try.ntmps22
  go_wp2_with fail
  refine CT.out.mono ?_
  rintro e w1 ⟨rfl, hb1⟩
  have HB1 := Lib.hid hb1
  clear hb1 CT
  go_wp2
  go_ret
  exact ⟨rfl, HB1.out⟩
set_option maxRecDepth 100000 in
set_option maxHeartbeats 1600000 in
theorem treeW_p (n : Int) (rows : List (List Int)) (v : Value) (RV : List Value) (w : World) (B0 H0 : Nat) (hG : Hid (Grid w B0 H0 v RV rows)) (hH : H0 ≤ w.heap.size) (hrl : rows.length ≤ 1048576) (hrs : ∀ r ∈ rows, r.length ≤ 1048576) (hwf : (Lit.int .i64 n).wf = true) :
    Calls Try.prog 48 #[.int .i64 n, v, .func (.func 49) #[] #[], .func (.func 50) #[] #[]] w fun e w' => e = .returned (.int .i64 (treeV leastN n rows)) ∧ Below w.heap.size w w' := by
  obtain ⟨av, cv, hv⟩ : ∃ a c, v = .slice a RV.length c := by
    obtain ⟨a, c, h, _⟩ := hG.out.1.slice; exact ⟨a, c, h⟩
  cases ht : treeB n rows with
  | true =>
    rw [treeV, if_pos ht]
    obtain ⟨h1, h2⟩ := rowsE_tree ht
    obtain ⟨N, hN⟩ : ∃ N : Nat, n = N := ⟨n.toNat, by have := (treeB_iff.1 ht).1; omega⟩
    obtain ⟨t1, t2⟩ := tree_start h2
    have hst := start_le h2
    have CN := Lib.hid (treeNb_yes N rows v RV w hG hH hrl hrs (Lib.hid (by rw [← hN]; exact ht)))
    rw [← hN] at CN
    have hnat : n.toNat = N := by omega
    have h0 : 0 < N := by have := h2.v.len; omega
    have HO : Hid (∀ e ∈ edgesR rows, e.1 < N ∧ e.2 < N) := fun e he => by have := h2.v.ord e he; omega
    have hl64 : (edgesR rows).length ≤ 64 := by have := h2.len; omega
    have CW := Lib.hid (fun (tv : Value) (RV : List Value) (W : World) (B0 H0 : Nat) => weighW_p N (edgesR rows) HO hl64 (Lib.hid (joinW_p N (edgesR rows))) 14 0 (-1) h0 (by omega) (Lib.hid t1) (Lib.hid t2) tv RV W B0 H0)
    obtain ⟨p0, hp0⟩ : ∃ p0, p0 = (watF (edgesR rows) 14 0 (-1)).1 := ⟨_, rfl⟩
    obtain ⟨p1, hp1⟩ : ∃ p1, p1 = (watF (edgesR rows) 14 0 (-1)).2.1 := ⟨_, rfl⟩
    obtain ⟨p2, hp2⟩ : ∃ p2, p2 = (watF (edgesR rows) 14 0 (-1)).2.2 := ⟨_, rfl⟩
    simp only [← hp0, ← hp1, ← hp2] at CW hst
    have HV : Hid ((p2 : Int) = ((leastN n.toNat (edgesR rows) : Nat) : Int)) := by show _ = _; rw [least_wat h2.v h2.h7, ← hp2]
    have CT := Lib.hid (fun W => least_p (p0 : Int) (p1 : Int) (p2 : Int) W)
    have CF := Lib.hid (fun W => wholeFrom_p 0 W)
    clear hp0 hp1 hp2 t1 t2 HO h0 hst h2 h1 ht hnat hN hG hH hrl hrs
    subst hv
    go_enter Try.func48, Try.ntmps48
    go_wp2_with fail
    refine CN.out.mono ?_
    rintro e w1 ⟨x, RW, rfl, hg, hb1⟩
    have HG1 := Lib.hid hg
    have HB1 := Lib.hid hb1
    obtain ⟨ax, cx, hx, _⟩ := hg.1.slice
    subst hx
    clear hg hb1 CN
    go_wp2_with fail
    refine (CF.out _).mono ?_
    rintro e w2 ⟨rfl, hb2⟩
    have HG2 := Lib.hid (HG1.out.below hb2)
    have HB2 : Hid (Below w.heap.size w w2) := HB1.out.trans (hb2.mono HB1.out.size)
    have CW2 := Lib.hid (CW.out _ _ w2 _ _ HG2 hb2.size)
    clear hb2 HB1 HG1 CF CW HG2
    go_wp2_with fail
    refine CW2.out.mono ?_
    rintro e w3 ⟨rfl, hb3⟩
    have HB3 : Hid (Below w.heap.size w w3) := HB2.out.trans (hb3.mono HB2.out.size)
    clear hb3 HB2 CW2
    go_wp2_with fail
    refine (CT.out _).mono ?_
    rintro e w4 ⟨rfl, hb4⟩
    have HB4 : Hid (Below w.heap.size w w4) := HB3.out.trans (hb4.mono HB3.out.size)
    clear hb4 HB3 CT
    go_wp2
    go_ret
    exact ⟨by rw [← HV.out]; rfl, HB4.out⟩
  | false =>
    rw [treeV, if_neg (by rw [ht]; decide)]
    have CN := Lib.hid (treeNb_no n rows v RV w hG hH hrl hrs hwf ht)
    clear hG hH hrl hrs ht
    subst hv
    go_enter Try.func48, Try.ntmps48
    go_wp2_with fail
    refine CN.out.mono ?_
    rintro e w1 ⟨rfl, hb1⟩
    have HB1 := Lib.hid hb1
    clear hb1 CN
    go_wp2
    go_ret
    exact ⟨rfl, HB1.out⟩
set_option maxRecDepth 100000 in
set_option maxHeartbeats 800000 in
theorem implLeastWatch_any : TreeFn 21 (treeV leastN) := by
  intro n rows v RV w B0 H0 hG hH hrl hrs hwf
  have CT := Lib.hid (treeW_p n rows v RV w B0 H0 hG hH hrl hrs hwf)
  obtain ⟨av, cv, rfl⟩ : ∃ a c, v = .slice a RV.length c := by
    obtain ⟨a, c, h, _⟩ := hG.out.1.slice; exact ⟨a, c, h⟩
  obtain ⟨z, hz⟩ : ∃ z, z = treeV leastN n rows := ⟨_, rfl⟩
  rw [← hz] at CT ⊢
  clear hz hG hH hrl hrs hwf
  go_enter Try.func21, Try.ntmps21
  go_wp2_with fail
  refine CT.out.mono ?_
  rintro e w1 ⟨rfl, hb1⟩
  have HB1 := Lib.hid hb1
  clear hb1 CT
  go_wp2
  go_ret
  exact ⟨rfl, HB1.out⟩
end Go.Proofs.Ytafdlilojlmchaa
