/-
  The contract of the model's function that tells whether edges are a tree.
-/
import Derived.Test.YtafdlilojlmchaaZH
import Derived.Test.YtafdlilojlmchaaZV
namespace Go.Proofs.Ytafdlilojlmchaa
open Go.RowKit

theorem inR (x lo hi : Int) (w : World) {b : Bool} (hb : Hid (decide (lo ≤ x ∧ x ≤ hi) = b)) (z : Nat) :
    Calls Try.prog 54 #[.int .i64 x, .int .i64 lo, .int .i64 hi] (w.drewN z) fun e w' => e = .returned (.bool b) ∧ ∃ q, w' = (w.drewN z).drewN q := by
  by_cases h : lo ≤ x ∧ x ≤ hi
  · have e : b = true := by rw [← hb.out]; exact decide_eq_true h
    rw [e]
    refine (inRange_yes x lo hi _ h.1 h.2).mono ?_
    rintro e w' ⟨rfl, rfl⟩
    exact ⟨rfl, 0, rfl⟩
  · have e : b = false := by rw [← hb.out]; exact decide_eq_false h
    rw [e]
    refine (inRange_no x lo hi _ (by omega)).mono ?_
    rintro e w' ⟨rfl, rfl⟩
    exact ⟨rfl, 0, rfl⟩
/-- a row of two numbers, where it lies -/
theorem pair_at {w : World} {B H k : Nat} {av : Option Addr} {cv : Nat} {RV : List Value} {rows : List (List Int)} {a b : Int} (hG : Grid w B H (.slice av rows.length cv) RV rows) (hk : k < rows.length) (hr : rows[k] = [a, b]) :
    ∃ ga gr cr, av = some ⟨ga, 0, none⟩ ∧ 2 ≤ cr ∧ w.cell? ⟨ga, k, none⟩ = some (.slice (some ⟨gr, 0, none⟩) 2 cr) ∧ w.cell? ⟨gr, 0, none⟩ = some (.int .i64 a) ∧ w.cell? ⟨gr, 1, none⟩ = some (.int .i64 b) := by
  have h1 := hG.1
  have h2 := hG.2
  have hl := h2.1
  rw [← hl] at h1
  obtain ⟨ga, e1, _, _, hc, _⟩ := h1.at_ k (by rw [hl]; exact hk)
  obtain ⟨u, hu, ho⟩ := h2.at_ k hk
  rw [hr] at ho
  obtain ⟨au, cu, rfl, _, hcu, _, _⟩ := ho.slice
  rw [iv_length] at ho hcu hu
  obtain ⟨gr, rfl, _, _, c0, _⟩ := ho.at_ 0 (by rw [iv_length]; simp)
  obtain ⟨gr', e5, _, _, c1, _⟩ := ho.at_ 1 (by rw [iv_length]; simp)
  cases e5
  rw [hu] at hc
  exact ⟨ga, gr, cu, e1, hcu, hc, c0, c1⟩
theorem row_len {w : World} {B H k : Nat} {av : Option Addr} {cv : Nat} {RV : List Value} {rows : List (List Int)} (hG : Grid w B H (.slice av rows.length cv) RV rows) (hk : k < rows.length) :
    ∃ ga au cu, av = some ⟨ga, 0, none⟩ ∧ rows[k].length ≤ cu ∧ cu ≤ maxLen ∧ w.cell? ⟨ga, k, none⟩ = some (.slice au rows[k].length cu) := by
  have h1 := hG.1
  have h2 := hG.2
  have hl := h2.1
  rw [← hl] at h1
  obtain ⟨ga, e1, _, _, hc, _⟩ := h1.at_ k (by rw [hl]; exact hk)
  obtain ⟨u, hu, ho⟩ := h2.at_ k hk
  obtain ⟨au, cu, rfl, _, hcu, hcm, _⟩ := ho.slice
  rw [iv_length] at hcu hu
  rw [hu] at hc
  exact ⟨ga, au, cu, e1, hcu, hcm, hc⟩
theorem tree_no {n : Int} {rows : List (List Int)} {k : Nat} (hk : k < rows.length) (h : okAt n rows k = false) : treeB n rows = false := by
  unfold treeB
  rw [okUp_no h hk]; simp
theorem tree_range {n : Int} {rows : List (List Int)} (h : ¬ (1 ≤ n ∧ n ≤ 7)) : treeB n rows = false := by
  unfold treeB
  rw [decide_eq_false h]; simp
theorem tree_len {n : Int} {rows : List (List Int)} (h : ¬ ((rows.length : Int) = n - 1)) : treeB n rows = false := by
  unfold treeB
  rw [decide_eq_false h]; simp
theorem below_drewR (w : World) (q : Nat) : Below w.heap.size w (w.drewN q) := ⟨rfl, rfl, rfl, Nat.le_refl _, fun _ _ => rfl⟩
theorem getD_at {rows : List (List Int)} {k : Nat} (hk : k < rows.length) : rows.getD k [] = rows[k] := by rw [List.getD_eq_getElem?_getD, List.getElem?_eq_getElem hk]; rfl

set_option maxHeartbeats 3200000 in
set_option maxRecDepth 100000 in
theorem validTree_any (n : Int) (rows : List (List Int)) (v : Value) (RV : List Value) (w : World) {B0 H0 : Nat} (hG : Hid (Grid w B0 H0 v RV rows)) (hH : H0 ≤ w.heap.size) (hrl : rows.length ≤ 1048576) :
    Calls Try.prog 31 #[.int .i64 n, v] w fun e w' => e = .returned (.bool (treeB n rows)) ∧ Below w.heap.size w w' := by
  obtain ⟨av, cv, rfl, _, hcv, _, _⟩ := hG.out.1.slice
  have hgl := hG.out.2.1
  rw [hgl] at hG hcv ⊢
  by_cases hn : 1 ≤ n ∧ n ≤ 7
  · have C0 := Lib.hid (inRange_yes n 1 7 w hn.1 hn.2)
    have ew : wrap64 (n - 1) = n - 1 := by unfold wrap64; omega
    have ew2 : IntKind.i64.wrap (n - 1) = n - 1 := by rw [IntKind.wrap_i64]; omega
    by_cases hlen : (rows.length : Int) = n - 1
    · have q0 : ((rows.length : Int) == n - 1) = true := by rw [hlen]; simp
      have hr6 : rows.length ≤ 6 := by omega
      have HLEN := Lib.hid hlen
      have HN := Lib.hid hn
      obtain ⟨hn1, hn2⟩ := hn
      have H1 : Hid (rows.length = (n - 1).toNat) := by show _ = _; omega
      clear hlen
      go_enter Try.func31, Try.ntmps31
      go_wp2_with fail
      refine C0.out.mono ?_
      rintro e w1 ⟨rfl, rfl⟩
      go_wp2_with fail
      have q00 : ((rows.length : Int) != n - 1) = false := by rw [bne, q0]; rfl
      simp only [q00]
      clear q0 q00
      go_loopw [5] (fun ii wr => ∃ k : Nat, k ≤ rows.length ∧ ii = .int .i64 k ∧ Hid (okUp n rows k = true) ∧ Hid (∃ q, wr = w.drewN q)) (fun ii _ => rows.length - (intOf ii).toNat)
      case atStart => exact ⟨0, Nat.zero_le _, rfl, rfl, ⟨0, rfl⟩⟩
      case round =>
        obtain ⟨k, hk, rfl, HU, HW⟩ := hrel
        have hGr : Grid wr B0 H0 (.slice av rows.length cv) RV rows := hG.out.same (by obtain ⟨q, h⟩ := HW.out; rw [h]; rfl)
        have HBl : Hid (∀ z, Below w.heap.size w (wr.drewN z)) := fun z => by obtain ⟨q, h⟩ := HW.out; rw [h, World.drewN_drewN]; exact below_drewR _ _
        by_cases hlt : k < rows.length
        · have b1 : (k : Int) < (rows.length : Int) := by omega
          have hgd := getD_at hlt
          have HAT : Hid (okAt n rows k = (okRow n rows[k] && (decide (k = 0) || okNext (rows.getD (k - 1) []) rows[k]))) := by show _ = _; unfold okAt; rw [hgd]
          by_cases h2 : rows[k].length = 2
          · obtain ⟨a, b, hr⟩ : ∃ a b, rows[k] = [a, b] := by
              match rows[k], h2 with
              | [a, b], _ => exact ⟨a, b, rfl⟩
            obtain ⟨ga, gr, cr, rfl, hcr, hc1, hc2, hc3⟩ := pair_at hGr hlt hr
            rw [hr] at HAT
            by_cases ha : 0 ≤ a ∧ a ≤ n - 1
            · by_cases hb : a + 1 ≤ b ∧ b ≤ n - 1
              · have C1 := Lib.hid (inR a 0 (n - 1) wr (b := true) (decide_eq_true ha))
                have C2 := Lib.hid (inR b (a + 1) (n - 1) wr (b := true) (decide_eq_true hb))
                have ea : IntKind.i64.wrap (a + 1) = a + 1 := by rw [IntKind.wrap_i64]; omega
                have hrow : okRow n [a, b] = true := by simp [okRow]; omega
                rw [hrow, Bool.true_and] at HAT
                by_cases hk0 : k = 0
                · subst hk0
                  rw [decide_eq_true rfl, Bool.true_or] at HAT
                  have HU2 : Hid (okUp n rows (0 + 1) = true) := by show _ = _; rw [okUp_step, HU.out, HAT.out]; rfl
                  have HW2 : ∀ z, Hid (∃ q, wr.drewN z = w.drewN q) := fun z => by obtain ⟨q, h⟩ := HW.out; exact ⟨q + z, by rw [h, World.drewN_drewN]⟩
                  clear HAT hrow hr h2 hgd hGr ha hb
                  go_wp2_with fail
                  go_quiet (first
                    | (go_at_call_of 54 b; exact Calls.quiet_of (C2.out _))
                    | (go_at_call_of 54 a; exact Calls.quiet_of (C1.out _)))
                  go_wp2_with fail
                  go_quiet (fail)
                  go_wp2
                  go_roundw
                  case rel => exact ⟨0 + 1, by omega, by go_num, HU2, by first | exact HW2 _ | (rw [World.drewN_drewN]; exact HW2 _)⟩
                  case measure => simp [intOf]; omega
                · rw [decide_eq_false hk0, Bool.false_or] at HAT
                  have hkp : k - 1 < rows.length := by omega
                  obtain ⟨p, r, hpr, _, _⟩ := okRow_eq (by
                    have h1 := okUp_at HU.out (show k - 1 < k by omega)
                    unfold okAt at h1
                    rw [Bool.and_eq_true, getD_at hkp] at h1
                    exact h1.1)
                  rw [getD_at hkp, hpr] at HAT
                  obtain ⟨ga', gp, cp, e9, hcp, hp1, hp2, hp3⟩ := pair_at hGr hkp hpr
                  cases e9
                  have e1 : ((k : Int) - 1).toNat = k - 1 := by omega
                  have e2 : (0 : Int) ≤ (k : Int) - 1 := by omega
                  have e3 : (k : Int) - 1 < (rows.length : Int) := by omega
                  have e4 : IntKind.i64.wrap ((k : Int) - 1) = (k : Int) - 1 := by rw [IntKind.wrap_i64]; omega
                  have e5 : (0 : Int) < (k : Int) := by omega
                  have hz0 : 0 < k := by omega
                  have hnx : okNext [(p : Int), (r : Int)] [a, b] = (decide ((p : Int) < a) || (decide ((p : Int) = a) && decide ((r : Int) < b))) := rfl
                  rw [hnx] at HAT
                  obtain ⟨P, hP⟩ : ∃ P : Int, P = (p : Int) := ⟨_, rfl⟩
                  obtain ⟨R, hR⟩ : ∃ R : Int, R = (r : Int) := ⟨_, rfl⟩
                  rw [← hP, ← hR] at HAT
                  rw [← hP] at hp2
                  rw [← hR] at hp3
                  by_cases c1 : a < P
                  · rw [decide_eq_false (show ¬ P < a by omega), decide_eq_false (show ¬ P = a by omega)] at HAT
                    have TN := Lib.hid (tree_no hlt HAT.out)
                    clear HAT hrow hr h2 hgd hGr ha hb hnx hP hR hpr hk0
                    go_wp2_with fail
                    go_quiet (first
                      | (go_at_call_of 54 b; exact Calls.quiet_of (C2.out _))
                      | (go_at_call_of 54 a; exact Calls.quiet_of (C1.out _)))
                    go_wp2_with fail
                    go_quiet (fail)
                    go_wp2
                    go_ret
                    exact ⟨by rw [TN.out]; rfl, by first | exact HBl.out _ | (rw [World.drewN_drewN]; exact HBl.out _)⟩
                  · have cd : decide (a < P) = false := decide_eq_false c1
                    by_cases c2 : a = P
                    · have qe : (a == P) = true := by rw [c2]; simp
                      by_cases c3 : b ≤ R
                      · rw [decide_eq_false (show ¬ P < a by omega), decide_eq_true c2.symm, decide_eq_false (show ¬ R < b by omega)] at HAT
                        have TN := Lib.hid (tree_no hlt HAT.out)
                        clear HAT hrow hr h2 hgd hGr ha hb hnx hP hR hpr hk0 c2 c1
                        go_wp2_with fail
                        go_quiet (first
                          | (go_at_call_of 54 b; exact Calls.quiet_of (C2.out _))
                          | (go_at_call_of 54 a; exact Calls.quiet_of (C1.out _)))
                        go_wp2_with fail
                        go_quiet (fail)
                        go_wp2
                        go_ret
                        exact ⟨by rw [TN.out]; rfl, by first | exact HBl.out _ | (rw [World.drewN_drewN]; exact HBl.out _)⟩
                      · have c3' : R < b := by omega
                        rw [decide_eq_false (show ¬ P < a by omega), decide_eq_true c2.symm, decide_eq_true c3'] at HAT
                        have HU2 : Hid (okUp n rows (k + 1) = true) := by show _ = _; rw [okUp_step, HU.out, HAT.out]; rfl
                        have HW2 : ∀ z, Hid (∃ q, wr.drewN z = w.drewN q) := fun z => by obtain ⟨q, h⟩ := HW.out; exact ⟨q + z, by rw [h, World.drewN_drewN]⟩
                        clear HAT hrow hr h2 hgd hGr ha hb hnx hP hR hpr hk0 c2 c1 c3
                        go_wp2_with fail
                        go_quiet (first
                          | (go_at_call_of 54 b; exact Calls.quiet_of (C2.out _))
                          | (go_at_call_of 54 a; exact Calls.quiet_of (C1.out _)))
                        go_wp2_with fail
                        go_quiet (fail)
                        go_wp2
                        go_roundw
                        case rel => exact ⟨k + 1, by omega, by go_num, HU2, by first | exact HW2 _ | (rw [World.drewN_drewN]; exact HW2 _)⟩
                        case measure => simp [intOf]; omega
                    · have qe : (a == P) = false := by rw [beq_eq_false_iff_ne]; exact c2
                      rw [decide_eq_true (show P < a by omega)] at HAT
                      have HU2 : Hid (okUp n rows (k + 1) = true) := by show _ = _; rw [okUp_step, HU.out, HAT.out]; rfl
                      have HW2 : ∀ z, Hid (∃ q, wr.drewN z = w.drewN q) := fun z => by obtain ⟨q, h⟩ := HW.out; exact ⟨q + z, by rw [h, World.drewN_drewN]⟩
                      clear HAT hrow hr h2 hgd hGr ha hb hnx hP hR hpr hk0 c2 c1
                      go_wp2_with fail
                      go_quiet (first
                        | (go_at_call_of 54 b; exact Calls.quiet_of (C2.out _))
                        | (go_at_call_of 54 a; exact Calls.quiet_of (C1.out _)))
                      go_wp2_with fail
                      go_quiet (fail)
                      go_wp2
                      go_roundw
                      case rel => exact ⟨k + 1, by omega, by go_num, HU2, by first | exact HW2 _ | (rw [World.drewN_drewN]; exact HW2 _)⟩
                      case measure => simp [intOf]; omega
              · have C1 := Lib.hid (inR a 0 (n - 1) wr (b := true) (decide_eq_true ha))
                have C2 := Lib.hid (inR b (a + 1) (n - 1) wr (b := false) (decide_eq_false hb))
                have ea : IntKind.i64.wrap (a + 1) = a + 1 := by rw [IntKind.wrap_i64]; omega
                have hrow : okRow n [a, b] = false := by
                  unfold okRow
                  by_cases h1 : a + 1 ≤ b
                  · simp; omega
                  · simp [h1]
                rw [hrow, Bool.false_and] at HAT
                have TN := Lib.hid (tree_no hlt HAT.out)
                clear HAT hrow hb hr h2 hgd hGr
                go_wp2_with fail
                go_quiet (first
                  | (go_at_call_of 54 b; exact Calls.quiet_of (C2.out _))
                  | (go_at_call_of 54 a; exact Calls.quiet_of (C1.out _)))
                go_wp2
                go_ret
                exact ⟨by rw [TN.out]; rfl, HBl.out _⟩
            · have C1 := Lib.hid (inR a 0 (n - 1) wr (b := false) (decide_eq_false ha))
              have hrow : okRow n [a, b] = false := by
                unfold okRow
                by_cases h1 : 0 ≤ a
                · by_cases h2 : a + 1 ≤ b
                  · simp; omega
                  · simp [h2]
                · simp [h1]
              rw [hrow, Bool.false_and] at HAT
              have TN := Lib.hid (tree_no hlt HAT.out)
              clear HAT hrow ha hr h2 hgd hGr
              go_wp2_with fail
              go_quiet (first
                | (go_at_call_of 54 a; exact Calls.quiet_of (C1.out _)))
              go_wp2
              go_ret
              exact ⟨by rw [TN.out]; rfl, HBl.out _⟩
          · obtain ⟨ga, au, cu, rfl, hcu, hcm, hc1⟩ := row_len hGr hlt
            have q1 : ((rows[k].length : Int) == 2) = false := by rw [beq_eq_false_iff_ne]; omega
            have q2 : ((rows[k].length : Int) != 2) = true := by rw [bne, q1]; rfl
            have hrow : okRow n rows[k] = false := by
              unfold okRow
              split
              · rename_i h; rw [h] at h2; simp at h2
              · rfl
            rw [hrow, Bool.false_and] at HAT
            have TN := Lib.hid (tree_no hlt HAT.out)
            obtain ⟨m, hm⟩ : ∃ m, m = rows[k].length := ⟨_, rfl⟩
            rw [← hm] at hc1 q1 q2 hcu h2
            clear HAT hrow hm hgd hGr
            go_wp2_with fail
            go_quiet (fail)
            go_wp2
            go_ret
            exact ⟨by rw [TN.out]; rfl, HBl.out _⟩
        · obtain rfl : k = rows.length := by omega
          obtain ⟨r1, r2, r3⟩ := ok_rows HU.out
          obtain ⟨N, rfl⟩ : ∃ N : Nat, n = N := ⟨n.toNat, by omega⟩
          have hEl : (edgesR rows).length = rows.length := by simp [edgesR]
          have TB : Hid (treeB (N : Int) rows = ((((reachedN N (edgesR rows)).length : Nat) : Int) == (N : Int))) := by
            show _ = _
            unfold treeB
            rw [HU.out, decide_eq_true HN.out, decide_eq_true HLEN.out, Int.toNat_natCast]
            simp only [Bool.true_and]
            rw [Bool.eq_iff_iff, decide_eq_true_iff, beq_iff_eq]
          obtain ⟨E, hE⟩ : ∃ E, E = edgesR rows := ⟨_, rfl⟩
          rw [← hE] at r1 r2 TB hEl
          have hwl : Hid (w.heap.size ≤ wr.heap.size) := by obtain ⟨q, h⟩ := HW.out; show _ ≤ _; rw [h]; exact Nat.le_refl _
          rw [← hEl] at hGr ⊢
          rw [r1] at hGr
          have RA := Lib.hid (reached_any N E _ RV wr (Lib.hid hGr) (Nat.le_trans hH hwl.out) (Lib.hid fun e he => by have := r2 e he; omega) (by omega) (by omega))
          clear hGr r1 r2 r3 hE hEl HU
          go_wp2_with (go_at_call 59; refine RA.out.mono ?_; rintro e w2 ⟨g, c, rfl, hI⟩)
          go_ret
          refine ⟨by rw [TB.out]; rfl, ?_⟩
          obtain ⟨q, h⟩ := HW.out
          have := hI.below
          rw [h] at this
          exact (below_drewR w q).trans this
    · have q0 : ((rows.length : Int) == n - 1) = false := by rw [beq_eq_false_iff_ne]; exact hlen
      have TN := Lib.hid (tree_len hlen)
      clear hlen
      go_enter Try.func31, Try.ntmps31
      go_wp2_with fail
      refine C0.out.mono ?_
      rintro e w1 ⟨rfl, rfl⟩
      go_wp2_with fail
      all_goals first
        | (exfalso; omega)
        | (go_ret; exact ⟨by rw [TN.out]; rfl, Below.refl _ _⟩)
  · have C0 := Lib.hid (inRange_no n 1 7 w (by omega))
    have TN := Lib.hid (tree_range (rows := rows) hn)
    clear hn
    go_enter Try.func31, Try.ntmps31
    go_wp2_with fail
    refine C0.out.mono ?_
    rintro e w1 ⟨rfl, rfl⟩
    go_wp2_with fail
    go_ret
    exact ⟨by rw [TN.out]; rfl, Below.refl _ _⟩
end Go.Proofs.Ytafdlilojlmchaa
