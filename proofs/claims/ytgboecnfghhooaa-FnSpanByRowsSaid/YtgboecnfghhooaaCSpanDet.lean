/-
  The model's rows of all nodes but the last one, and its SpanByRows.
-/
import Derived.Test.YtgboecnfghhooaaCDetM
import Derived.Test.YtgboecnfghhooaaCByRows
namespace Go.Proofs.Ytgboecnfghhooaa
open Go.RowKit

/-- rows that are filled -/
structure MatS (w W : World) (B G c n : Nat) (RV : List Value) (M : Nat → Nat → Int) : Prop where
  grid : GridA W B (.slice (some ⟨G, 0, none⟩) n c) RV (gridM n n M)
  below : Below B w W
  ge : B ≤ W.heap.size
theorem MatS.drew {w W : World} {B G c n : Nat} {RV : List Value} {M : Nat → Nat → Int} (h : MatS w W B G c n RV M) : MatS w W.drew B G c n RV M :=
  ⟨h.grid.below ⟨rfl, rfl, rfl, Nat.le_refl _, fun _ _ => rfl⟩, Below.drew h.below, h.ge⟩
theorem MatS.set {w W : World} {B G c n p j gp l cp : Nat} {RV : List Value} {M : Nat → Nat → Int} {x : Int} (h : MatS w W B G c n RV M) (hu : RV[p]? = some (.slice (some ⟨gp, 0, none⟩) l cp)) (hp : p < n) (hB : B ≤ gp) : MatS w (W.setCell ⟨gp, j, none⟩ (.int .i64 x)) B G c n RV (setM M p j x) :=
  ⟨h.grid.set2 hu hp, h.below.setCell (p := ⟨gp, j, none⟩) hB _, by have := h.ge; simpa [World.setCell] using this⟩
theorem MatS.row {w W : World} {B G c n i : Nat} {RV : List Value} {M : Nat → Nat → Int} (h : MatS w W B G c n RV M) (hi : i < n) : ∃ gi ci, RV[i]? = some (.slice (some ⟨gi, 0, none⟩) n ci) := by
  obtain ⟨_, _, gi, ci, _, e2, _⟩ := h.grid.at2 hi hi
  exact ⟨gi, ci, e2⟩
theorem MatS.at2 {w W : World} {B G c n i j : Nat} {RV : List Value} {M : Nat → Nat → Int} (h : MatS w W B G c n RV M) (hi : i < n) (hj : j < n) {gi l ci : Nat} (hu : RV[i]? = some (.slice (some ⟨gi, 0, none⟩) l ci)) :
    l = n ∧ B ≤ gi ∧ W.cell? ⟨G, i, none⟩ = some (.slice (some ⟨gi, 0, none⟩) n ci) ∧ W.cell? ⟨gi, j, none⟩ = some (.int .i64 (M i j)) ∧ W.frozen? ⟨gi, j, none⟩ = false := by
  obtain ⟨G', c', gi', ci', e1, e2, c1, c2, f2, hB, _⟩ := h.grid.at2 hi hj
  rw [hu] at e2
  simp only [Option.some.injEq, Value.slice.injEq, Addr.mk.injEq] at e2
  obtain ⟨⟨rfl, _⟩, rfl, rfl⟩ := e2
  simp only [Value.slice.injEq, Option.some.injEq, Addr.mk.injEq] at e1
  obtain ⟨⟨rfl, _⟩, _, _⟩ := e1
  exact ⟨rfl, hB, c1, c2, f2⟩
theorem gridM_snoc (k m : Nat) (M : Nat → Nat → Int) : gridM (k + 1) m M = gridM k m M ++ [(List.range m).map fun j => M k j] := by
  unfold gridM
  rw [List.range_succ, List.map_append]; rfl
theorem zero_row (m : Nat) : ((List.range m).map fun _ => (0 : Int)) = List.replicate m 0 := by
  apply List.ext_getElem?
  intro j
  by_cases hj : j < m <;> simp [hj]
/-- one more and one less at both places of an edge -/
def fourM (M : Nat → Nat → Int) (a b : Nat) : Nat → Nat → Int :=
  setM (setM (setM (setM M a a (M a a + 1)) b b (setM M a a (M a a + 1) b b + 1)) a b (setM (setM M a a (M a a + 1)) b b (setM M a a (M a a + 1) b b + 1) a b - 1)) b a
    (setM (setM (setM M a a (M a a + 1)) b b (setM M a a (M a a + 1) b b + 1)) a b (setM (setM M a a (M a a + 1)) b b (setM M a a (M a a + 1) b b + 1) a b - 1) b a - 1)
theorem four_cE {M : Nat → Nat → Int} {a b : Nat} (hab : a ≠ b) (i j : Nat) : fourM M a b i j = M i j + cE (a, b) i j := by
  unfold fourM setM cE isE ind
  simp only
  have hba : ¬ b = a := Ne.symm hab
  rw [if_neg hab]
  by_cases h1 : i = a <;> by_cases h2 : j = a <;> by_cases h3 : i = b <;> by_cases h4 : j = b <;> subst_vars <;> simp_all <;> (try split) <;> omega
theorem one_cE {M : Nat → Nat → Int} {p q K : Nat} (hq : K ≤ q) (hp : p < K) {e : Nat × Nat} (he : e = (p, q) ∨ e = (q, p)) (i j : Nat) (hi : i < K) (hj : j < K) : setM M p p (M p p + 1) i j = M i j + cE e i j := by
  have hpq : p ≠ q := by omega
  have hiq : i ≠ q := by omega
  have hjq : j ≠ q := by omega
  have hE : isE e i j = 0 := by
    unfold isE ind
    rcases he with rfl | rfl
    · rw [if_neg (by simp only; omega)]
    · rw [if_neg (by simp only; omega)]
  have hc : cE e i j = if i = j then (if i = p then 1 else 0) else 0 := by
    unfold cE
    rw [hE]
    rcases he with rfl | rfl
    · simp [hpq, hiq]
    · simp [Ne.symm hpq, hiq]
  rw [hc]
  unfold setM
  by_cases h1 : i = p
  · subst h1
    by_cases h2 : j = i
    · subst h2; simp
    · simp [h2, Ne.symm h2]
  · simp [h1]
theorem no_cE {e : Nat × Nat} (h : e.1 = e.2) (i j : Nat) : cE e i j = 0 := by unfold cE; rw [if_pos h]

set_option maxHeartbeats 6400000 in
set_option maxRecDepth 100000 in
theorem spanDet_any (n : Nat) (E : Edges) (v : Value) (RV0 : List Value) (w : World) {B0 H0 : Nat} (hG : Hid (Grid w B0 H0 v RV0 (rowsE E))) (hH : H0 ≤ w.heap.size) (hn : 1 ≤ n ∧ n ≤ 5) (hE : Hid (∀ e ∈ E, e.1 < n ∧ e.2 < n)) (h8 : E.length ≤ 8) :
    Calls Try.prog 48 #[.int .i64 (n : Int), v] w fun e w' => e = .returned (.int .i64 ((spansN n E).length : Int)) ∧ Below w.heap.size w w' := by
  obtain ⟨i0, hi, hz0, hz1, hz2⟩ := info_parts Try.infoIntR
  obtain ⟨j0, hj, hy0, hy1, hy2⟩ := info_parts Try.infoRowR
  obtain ⟨hn1, hn5⟩ := hn
  have RE := Lib.hid (show ∀ W, Below w.heap.size w W → Grid W B0 H0 v RV0 (rowsE E) from fun W hW => hG.out.below (hW.mono hH))
  obtain ⟨av, cv, rfl, _, hcv, hcm, _⟩ := hG.out.1.slice
  have hgl : RV0.length = E.length := by rw [hG.out.2.1, rowsE_length]
  obtain ⟨M, hM⟩ : ∃ M, M = RV0.length := ⟨_, rfl⟩
  have hME : M = E.length := by rw [hM, hgl]
  have HM := Lib.hid hME
  rw [← hM] at RE hcv ⊢
  have hM8 : M ≤ 8 := by omega
  have HR := rows_spans hn1 hn5 hE.out
  have HS8 := Lib.hid (rows_small hn5 h8 hE.out)
  obtain ⟨z, hz⟩ : ∃ z : Int, z = ((spansN n E).length : Int) := ⟨_, rfl⟩
  rw [← hz] at HR ⊢
  have LT := Lib.hid (fun (j : Nat) (hj : j < E.length) (i i' : Nat) (hi : i < n) => lap_take (j := i') E hn5 hE.out hj hi)
  have LS := Lib.hid (fun (j : Nat) (hj : j ≤ E.length) (i i' : Nat) (hi : i < n) => lap_small (j := i') E hn5 hE.out hi j hj)
  obtain ⟨K, hK⟩ : ∃ K, n = K + 1 := ⟨n - 1, by omega⟩
  have HKn := Lib.hid hK
  rw [show n - 1 = K by omega] at HR HS8
  have HRh := Lib.hid HR
  obtain ⟨B, hB⟩ : ∃ B, B = w.heap.size := ⟨_, rfl⟩
  have HB0 := Lib.hid hB
  have ewn : IntKind.i64.wrap ((n : Int) - 1) = (K : Int) := by rw [IntKind.wrap_i64]; omega
  have G0 : Hid (GridA (w.alloc (.cells #[] 32)) B (.slice (some ⟨w.heap.size, 0, none⟩) 0 0) [] (gridM 0 K fun _ _ => 0)) := GridA.nil0 (by omega)
  have BA : Hid (Below B w (w.alloc (.cells #[] 32))) := by show Below _ _ _; rw [hB]; exact (Below.refl _ w).alloc (Nat.le_refl _) _
  have sA : Hid (B ≤ (w.alloc (.cells #[] 32)).heap.size) := by show _ ≤ _; rw [World.size_alloc]; omega
  have HK4 : K ≤ 4 := by omega
  clear hG hgl hM hME hz HR hB hn1 h8 hK
  go_enter Try.func48, Try.ntmps48
  go_wp2_with fail
  go_loopw [5, 6] (fun e5 e6 wr => ∃ (k G c : Nat) (RV : List Value), k ≤ K ∧ e6 = .int .i64 (k : Int) ∧ e5 = .slice (some ⟨G, 0, none⟩) k c ∧ Hid (GridA wr B (.slice (some ⟨G, 0, none⟩) k c) RV (gridM k K fun _ _ => 0)) ∧ Hid (Below B w wr) ∧ Hid (B ≤ wr.heap.size)) (fun _ e6 _ => K - (intOf e6).toNat)
  case atStart => exact ⟨0, _, 0, [], Nat.zero_le _, rfl, rfl, G0, BA, sA⟩
  case round =>
    clear G0 BA sA
    obtain ⟨k, G, c, RV, hk, rfl, rfl, HG, HB, sB⟩ := hrel
    by_cases hlt2 : k < K
    · have b1 : (k : Int) < (K : Int) := by omega
      have hRVl : RV.length = k := by have := HG.out.grid.2.1; rwa [gridM_length] at this
      have hOW : wr.ownsRow B 32 1 (.slice (some ⟨G, 0, none⟩) k c) k RV := by have := HG.out.grid.1.1; rwa [hRVl] at this
      have z1 : k + 1 ≤ maxLen := by unfold maxLen; omega
      have z2 : (k + 1) * 24 ≤ 140737488355328 := by omega
      go_wp2_with (at_make; refine wpList_make_full _ rfl _ _ 32 rfl wr.heap.size 3 i0 (.int .i64 0) 1 Try.underlying32 hi hz0 hz1 _ _ _ _ K rfl rfl rfl rfl ?b2 ?b3 (Nat.le_refl _) ?_)
      case b2 => rw [hz2]; omega
      case b3 => unfold maxLen; omega
      intro w2 hown hgrow
      have hb2 : Below wr.heap.size wr w2 := (Below.refl _ _).grown hgrow (Nat.le_refl _) (fun k hk => by cases hk)
      rw [show (madeCells #[Value.int .i64 0] K).toList = List.replicate K (Value.int .i64 0) from toList_madeCells_one _ _] at hown
      obtain ⟨gk, hgk⟩ : ∃ gk, gk = wr.heap.size := ⟨_, rfl⟩
      have hO2 : Own w2 wr.heap.size w2.heap.size 3 (.slice (some ⟨gk, 0, none⟩) K K) (iv (List.replicate K 0)) := by
        have e : iv (List.replicate K 0) = List.replicate K (Value.int .i64 0) := by simp [iv]
        rw [e]
        refine own_lo (B := wr.heap.size) (Own.of_own ?_) (Nat.le_refl _)
        rw [List.length_replicate, hgk]
        exact hown
      have HOW : Hid (w2.ownsRow B 32 1 (.slice (some ⟨G, 0, none⟩) k c) k RV) := own_of_blocks hOW fun q hq => hb2.block q (hOW.lt q hq).2
      have HO2 := Lib.hid hO2
      have HB2 := Lib.hid hb2
      rw [← hgk]
      clear hown hgrow hb2 hO2 hgk hOW
      go_wp2_with (at_builtin; refine wpList_append_lies _ rfl (.tmp 17) (.tmp 21) 26 rfl B 32 j0 (.slice none 0 0) 1 24 Try.underlying26 hj hy0 hy1 hy2 rfl (Nat.lt_succ_self 0) _ k RV rfl (HOW.out.alloc _) ⟨w2.heap.size, 0, none⟩ 1 1 [.slice (some ⟨gk, 0, none⟩) K K] rfl rfl (cell_one_new _ _ _) (one_rowR _ _ _ _ rfl) (Nat.lt_succ_self 0) z1 z2 (by have := HB2.out.size; have := sB.out; rw [World.size_alloc]; omega) _ rfl ?_)
      intro g2 c2 w3 hv3 hg3 _ _
      obtain ⟨hGA, hBA⟩ := HG.out.add (gridM_length _ _ _) HB2.out HO2.out sB.out hv3 hg3
      rw [← zero_row K, ← gridM_snoc k K fun _ _ => 0] at hGA
      have GA2 := Lib.hid hGA
      have BA2 := Lib.hid (HB.out.trans hBA)
      have SA2 : Hid (B ≤ w3.heap.size) := Nat.le_trans sB.out hBA.size
      clear hGA hBA hv3 hg3 HOW HO2 HB2 HG HB sB
      go_wp2
      go_roundw
      case rel => exact ⟨k + 1, g2, c2, _, by omega, by go_num, rfl, GA2, BA2, SA2⟩
      case measure => simp [intOf]; omega
    · obtain rfl : k = K := by omega
      rw [gridM_congr (n := k) (m := k) (M' := lapE n (E.take 0)) (fun i j _ _ => by rw [List.take_zero, lap_nil])] at HG
      have MS : Hid (MatS w wr B G c k RV (lapE n (E.take 0))) := ⟨HG.out, HB.out, sB.out⟩
      clear HG HB sB
      go_wp2
      go_loopw [7, 8, 9] (fun e7 e8 e9 W => ∃ q : Nat, q ≤ M ∧ e7 = .int .i64 (q : Int) ∧ Hid (MatS w W B G c k RV (lapE n (E.take q)))) (fun e7 _ _ _ => M - (intOf e7).toNat)
      case atStart => exact ⟨0, Nat.zero_le _, rfl, MS⟩
      case round =>
        clear MS
        obtain ⟨q, hq, rfl, S1⟩ := hrel
        by_cases hlt3 : q < M
        · have b1 : (q : Int) < (M : Int) := by omega
          have hqE : q < E.length := by rw [← HM.out]; exact hlt3
          obtain ⟨ga, c', gr, cr, e1, hga, hgr, _, _, hcr, d1, d2, d3⟩ := edge_at (RE.out wr (by rw [← HB0.out]; exact S1.out.below)) hqE
          simp only [Value.slice.injEq] at e1
          obtain ⟨hax, hme, hcx'⟩ := e1
          subst hax
          clear hme hcx'
          obtain ⟨l1, l2⟩ := hE.out _ (List.getElem_mem hqE)
          have LT1 := Lib.hid (LT.out q hqE)
          have D1 : Hid (BdM k 8 (lapE n (E.take q))) := fun i j hi => by have := LS.out q (by omega) i j (by have := HKn.out; omega); omega
          obtain ⟨y, hy⟩ : ∃ y, y = E[q] := ⟨_, rfl⟩
          rw [← hy] at d2 d3 l1 l2 LT1
          obtain ⟨a, b⟩ := y
          simp only at d2 d3 l1 l2
          obtain ⟨M0, hM0⟩ : ∃ M0, M0 = lapE n (E.take q) := ⟨_, rfl⟩
          rw [← hM0] at S1 D1 LT1
          have GT : Hid (∀ M', (∀ i j, i < k → j < k → M' i j = M0 i j + cE (a, b) i j) → gridM k k M' = gridM k k (lapE n (E.take (q + 1)))) := fun M' h => gridM_congr fun i j hi hj => by
            rw [h i j hi hj, LT1.out i j (by have := HKn.out; omega)]
          have MT : Hid (∀ (W : World) M', (∀ i j, i < k → j < k → M' i j = M0 i j + cE (a, b) i j) → MatS w W B G c k RV M' → MatS w W B G c k RV (lapE n (E.take (q + 1)))) := fun W M' h hS => ⟨by rw [← GT.out M' h]; exact hS.grid, hS.below, hS.ge⟩
          clear hy hM0 LT1 GT hga hgr
          by_cases hab : a = b
          · subst hab
            have q1 : ((a : Int) == (a : Int)) = true := by simp
            have S2 : Hid (MatS w wr B G c k RV (lapE n (E.take (q + 1)))) := MT.out wr M0 (fun i j _ _ => by rw [no_cE rfl]; omega) S1.out
            clear MT S1 D1
            go_wp2
            go_roundw
            case rel => exact ⟨q + 1, by omega, by go_num, S2⟩
            case measure => simp [intOf]; omega
          · have q1 : ((a : Int) == (b : Int)) = false := by rw [beq_eq_false_iff_ne]; omega
            by_cases haK : a < k
            · have p1 : (a : Int) < (k : Int) := by omega
              by_cases hbK : b < k
              · have p2 : (b : Int) < (k : Int) := by omega
                obtain ⟨g1, c1, hu1⟩ := S1.out.row haK
                obtain ⟨_, hB1, cr1, cm1, f1⟩ := S1.out.at2 haK haK hu1
                have bd1 := D1.out a a haK
                have Sx1 := fun x => Lib.hid (S1.out.drew.set (j := a) (x := x) hu1 haK hB1)
                obtain ⟨x1, hx1⟩ : ∃ x, x = M0 a a := ⟨_, rfl⟩
                rw [← hx1] at cm1
                have D2 : Hid (BdM k (8 + 1) (setM M0 a a (x1 + 1))) := D1.out.set (by omega)
                have ew1 : IntKind.i64.wrap (x1 + 1) = x1 + 1 := by rw [IntKind.wrap_i64]; omega
                have Sn1 := Sx1 (x1 + 1)
                obtain ⟨M1, hM1⟩ : ∃ M', M' = setM M0 a a (x1 + 1) := ⟨_, rfl⟩
                rw [← hM1] at D2 Sn1
                have HM1 : Hid (M1 = setM M0 a a (M0 a a + 1)) := by show _ = _; rw [hM1, hx1]
                clear S1 Sx1 hx1 bd1 D1 hu1 hM1 hB1
                go_wp2_with fail
                go_still_tail 14, (by kernel_rfl)
                change wpList _ _ _ _ _ wr.drew
                go_upto_region 14 with fail
                obtain ⟨w1', hw1⟩ : ∃ w', w' = wr.drew.setCell ⟨g1, a, none⟩ (.int .i64 (x1 + 1)) := ⟨_, rfl⟩
                have hw1b : (wr.setCell ⟨g1, a, none⟩ (.int .i64 (x1 + 1))).drew = w1' := hw1.symm
                rw [← hw1] at Sn1
                have S2 := Sn1
                first | rw [hw1b] | rw [← hw1]
                clear hw1 hw1b Sn1 cr1 cm1 f1 ew1
                obtain ⟨g2, c2, hu2⟩ := S2.out.row hbK
                obtain ⟨_, hB2, cr2, cm2, f2⟩ := S2.out.at2 hbK hbK hu2
                have bd2 := D2.out b b hbK
                have Sx2 := fun x => Lib.hid (S2.out.drew.set (j := b) (x := x) hu2 hbK hB2)
                obtain ⟨x2, hx2⟩ : ∃ x, x = M1 b b := ⟨_, rfl⟩
                rw [← hx2] at cm2
                have D3 : Hid (BdM k (8 + 1 + 1) (setM M1 b b (x2 + 1))) := D2.out.set (by omega)
                have ew2 : IntKind.i64.wrap (x2 + 1) = x2 + 1 := by rw [IntKind.wrap_i64]; omega
                have Sn2 := Sx2 (x2 + 1)
                obtain ⟨M2, hM2⟩ : ∃ M', M' = setM M1 b b (x2 + 1) := ⟨_, rfl⟩
                rw [← hM2] at D3 Sn2
                have HM2 : Hid (M2 = setM M1 b b (M1 b b + 1)) := by show _ = _; rw [hM2, hx2]
                clear S2 Sx2 hx2 bd2 D2 hu2 hM2 hB2
                go_wp2_with fail
                go_still_tail 14, (by kernel_rfl)
                change wpList _ _ _ _ _ w1'.drew
                go_upto_region 16 with fail
                obtain ⟨w2', hw2⟩ : ∃ w', w' = w1'.drew.setCell ⟨g2, b, none⟩ (.int .i64 (x2 + 1)) := ⟨_, rfl⟩
                have hw2b : (w1'.setCell ⟨g2, b, none⟩ (.int .i64 (x2 + 1))).drew = w2' := hw2.symm
                rw [← hw2] at Sn2
                have S3 := Sn2
                first | rw [hw2b] | rw [← hw2]
                clear hw2 hw2b Sn2 cr2 cm2 f2 ew2
                obtain ⟨g3, c3, hu3⟩ := S3.out.row haK
                obtain ⟨_, hB3, cr3, cm3, f3⟩ := S3.out.at2 haK hbK hu3
                have bd3 := D3.out a b haK
                have Sx3 := fun x => Lib.hid (S3.out.drew.set (j := b) (x := x) hu3 haK hB3)
                obtain ⟨x3, hx3⟩ : ∃ x, x = M2 a b := ⟨_, rfl⟩
                rw [← hx3] at cm3
                have D4 : Hid (BdM k (8 + 1 + 1 + 1) (setM M2 a b (x3 - 1))) := D3.out.set (by omega)
                have ew3 : IntKind.i64.wrap (x3 - 1) = x3 - 1 := by rw [IntKind.wrap_i64]; omega
                have Sn3 := Sx3 (x3 - 1)
                obtain ⟨M3, hM3⟩ : ∃ M', M' = setM M2 a b (x3 - 1) := ⟨_, rfl⟩
                rw [← hM3] at D4 Sn3
                have HM3 : Hid (M3 = setM M2 a b (M2 a b - 1)) := by show _ = _; rw [hM3, hx3]
                clear S3 Sx3 hx3 bd3 D3 hu3 hM3 hB3
                go_wp2_with fail
                go_still_tail 14, (by kernel_rfl)
                change wpList _ _ _ _ _ w2'.drew
                go_upto_region 18 with fail
                obtain ⟨w3', hw3⟩ : ∃ w', w' = w2'.drew.setCell ⟨g3, b, none⟩ (.int .i64 (x3 - 1)) := ⟨_, rfl⟩
                have hw3b : (w2'.setCell ⟨g3, b, none⟩ (.int .i64 (x3 - 1))).drew = w3' := hw3.symm
                rw [← hw3] at Sn3
                have S4 := Sn3
                first | rw [hw3b] | rw [← hw3]
                clear hw3 hw3b Sn3 cr3 cm3 f3 ew3
                obtain ⟨g4, c4, hu4⟩ := S4.out.row hbK
                obtain ⟨_, hB4, cr4, cm4, f4⟩ := S4.out.at2 hbK haK hu4
                have bd4 := D4.out b a hbK
                have Sx4 := fun x => Lib.hid (S4.out.drew.set (j := a) (x := x) hu4 hbK hB4)
                obtain ⟨x4, hx4⟩ : ∃ x, x = M3 b a := ⟨_, rfl⟩
                rw [← hx4] at cm4
                have D5 : Hid (BdM k (8 + 1 + 1 + 1 + 1) (setM M3 b a (x4 - 1))) := D4.out.set (by omega)
                have ew4 : IntKind.i64.wrap (x4 - 1) = x4 - 1 := by rw [IntKind.wrap_i64]; omega
                have Sn4 := Sx4 (x4 - 1)
                obtain ⟨M4, hM4⟩ : ∃ M', M' = setM M3 b a (x4 - 1) := ⟨_, rfl⟩
                rw [← hM4] at D5 Sn4
                have HM4 : Hid (M4 = setM M3 b a (M3 b a - 1)) := by show _ = _; rw [hM4, hx4]
                clear S4 Sx4 hx4 bd4 D4 hu4 hM4 hB4
                go_wp2_with fail
                go_still_tail 14, (by kernel_rfl)
                change wpList _ _ _ _ _ w3'.drew
                go_wp2
                obtain ⟨w4', hw4⟩ : ∃ w', w' = w3'.drew.setCell ⟨g4, a, none⟩ (.int .i64 (x4 - 1)) := ⟨_, rfl⟩
                have hw4b : (w3'.setCell ⟨g4, a, none⟩ (.int .i64 (x4 - 1))).drew = w4' := hw4.symm
                rw [← hw4] at Sn4
                have S5 := Sn4
                first | rw [hw4b] | rw [← hw4]
                clear hw4 hw4b Sn4 cr4 cm4 f4 ew4
                have S6 : Hid (MatS w w4' B G c k RV (lapE n (E.take (q + 1)))) := MT.out _ M4 (fun i j _ _ => by rw [HM4.out, HM3.out, HM2.out, HM1.out, ← four_cE hab]; rfl) S5.out
                clear MT S5 D5 HM1 HM2 HM3 HM4
                try go_wp2
                go_roundw
                case rel => exact ⟨q + 1, by omega, by go_num, S6⟩
                case measure => simp [intOf]; omega
              · have hbk : k ≤ b := by omega
                have p2 : ¬ (b : Int) < (k : Int) := by omega
                obtain ⟨g1, c1, hu1⟩ := S1.out.row haK
                obtain ⟨_, hB1, cr1, cm1, f1⟩ := S1.out.at2 haK haK hu1
                have bd1 := D1.out a a haK
                have Sx1 := fun x => Lib.hid (S1.out.drew.set (j := a) (x := x) hu1 haK hB1)
                obtain ⟨x1, hx1⟩ : ∃ x, x = M0 a a := ⟨_, rfl⟩
                rw [← hx1] at cm1
                have D2 : Hid (BdM k (8 + 1) (setM M0 a a (x1 + 1))) := D1.out.set (by omega)
                have ew1 : IntKind.i64.wrap (x1 + 1) = x1 + 1 := by rw [IntKind.wrap_i64]; omega
                have Sn1 := Sx1 (x1 + 1)
                obtain ⟨M1, hM1⟩ : ∃ M', M' = setM M0 a a (x1 + 1) := ⟨_, rfl⟩
                rw [← hM1] at D2 Sn1
                have HM1 : Hid (M1 = setM M0 a a (M0 a a + 1)) := by show _ = _; rw [hM1, hx1]
                clear S1 Sx1 hx1 bd1 D1 hu1 hM1 hB1
                go_wp2_with fail
                go_still_tail 14, (by kernel_rfl)
                change wpList _ _ _ _ _ wr.drew
                go_upto_region 14 with fail
                obtain ⟨w1', hw1⟩ : ∃ w', w' = wr.drew.setCell ⟨g1, a, none⟩ (.int .i64 (x1 + 1)) := ⟨_, rfl⟩
                have hw1b : (wr.setCell ⟨g1, a, none⟩ (.int .i64 (x1 + 1))).drew = w1' := hw1.symm
                rw [← hw1] at Sn1
                have S2 := Sn1
                first | rw [hw1b] | rw [← hw1]
                clear hw1 hw1b Sn1 cr1 cm1 f1 ew1
                have S6 : Hid (MatS w w1' B G c k RV (lapE n (E.take (q + 1)))) := MT.out _ M1 (fun i j hi hj => by rw [HM1.out]; exact one_cE hbk haK (.inl rfl) i j hi hj) S2.out
                clear MT S2 D2 HM1
                go_wp2
                go_roundw
                case rel => exact ⟨q + 1, by omega, by go_num, S6⟩
                case measure => simp [intOf]; omega
            · have p1 : ¬ (a : Int) < (k : Int) := by omega
              have hak : k ≤ a := by omega
              have hbK : b < k := by have := HKn.out; omega
              have p2 : (b : Int) < (k : Int) := by omega
              obtain ⟨g1, c1, hu1⟩ := S1.out.row hbK
              obtain ⟨_, hB1, cr1, cm1, f1⟩ := S1.out.at2 hbK hbK hu1
              have bd1 := D1.out b b hbK
              have Sx1 := fun x => Lib.hid (S1.out.drew.set (j := b) (x := x) hu1 hbK hB1)
              obtain ⟨x1, hx1⟩ : ∃ x, x = M0 b b := ⟨_, rfl⟩
              rw [← hx1] at cm1
              have D2 : Hid (BdM k (8 + 1) (setM M0 b b (x1 + 1))) := D1.out.set (by omega)
              have ew1 : IntKind.i64.wrap (x1 + 1) = x1 + 1 := by rw [IntKind.wrap_i64]; omega
              have Sn1 := Sx1 (x1 + 1)
              obtain ⟨M1, hM1⟩ : ∃ M', M' = setM M0 b b (x1 + 1) := ⟨_, rfl⟩
              rw [← hM1] at D2 Sn1
              have HM1 : Hid (M1 = setM M0 b b (M0 b b + 1)) := by show _ = _; rw [hM1, hx1]
              clear S1 Sx1 hx1 bd1 D1 hu1 hM1 hB1
              go_wp2_with fail
              go_still_tail 14, (by kernel_rfl)
              change wpList _ _ _ _ _ wr.drew
              go_upto_region 16 with fail
              obtain ⟨w1', hw1⟩ : ∃ w', w' = wr.drew.setCell ⟨g1, b, none⟩ (.int .i64 (x1 + 1)) := ⟨_, rfl⟩
              have hw1b : (wr.setCell ⟨g1, b, none⟩ (.int .i64 (x1 + 1))).drew = w1' := hw1.symm
              rw [← hw1] at Sn1
              have S2 := Sn1
              first | rw [hw1b] | rw [← hw1]
              clear hw1 hw1b Sn1 cr1 cm1 f1 ew1
              have S6 : Hid (MatS w w1' B G c k RV (lapE n (E.take (q + 1)))) := MT.out _ M1 (fun i j hi hj => by rw [HM1.out]; exact one_cE hak hbK (.inr rfl) i j hi hj) S2.out
              clear MT S2 D2 HM1
              go_wp2
              go_roundw
              case rel => exact ⟨q + 1, by omega, by go_num, S6⟩
              case measure => simp [intOf]; omega
        · obtain rfl : q = M := by omega
          have hfull : E.take q = E := by rw [HM.out, List.take_length]
          rw [hfull] at S1
          have CD : Hid (Calls Try.prog 69 #[.slice (some ⟨G, 0, none⟩) k c] wr fun e w' => e = .returned (.int .i64 z) ∧ Below wr.heap.size wr w') := by
            have := specDet_any k HK4 (gridM k k (lapE n E)) (some ⟨G, 0, none⟩) c wr wr.heap.size (gridM_length _ _ _) (Lib.hid fun r hr => (gridM_mem hr).1) HS8 (Nat.le_refl _) (Lib.hid (RdR.of S1.out.grid.grid))
            rwa [HRh.out] at this
          have HBB := Lib.hid S1.out.below
          have sB := Lib.hid S1.out.ge
          clear S1 hfull HS8 HRh
          go_wp2_with fail
          refine CD.out.mono ?_
          rintro e w9 ⟨rfl, b9⟩
          have HB9 : Hid (Below B w w9) := HBB.out.trans (b9.mono sB.out)
          clear b9 CD
          go_wp2
          go_ret
          exact ⟨rfl, by rw [← HB0.out]; exact HB9.out⟩
set_option maxHeartbeats 1600000 in
/-- the model's count by a determinant, of any rows -/
theorem specSpanByRows_any (n : Int) (rows : List (List Int)) (v : Value) (RV : List Value) (w : World) (B0 H0 : Nat) (hG : Hid (Grid w B0 H0 v RV rows)) (hH : H0 ≤ w.heap.size) (hrl : rows.length ≤ 1048576) :
    Calls Try.prog 20 #[.int .i64 n, v] w fun e w' => e = .returned (.int .i64 (spanC n rows)) ∧ Below w.heap.size w w' := by
  have C := Lib.hid (validWeb_any n rows v RV w hG hrl)
  cases ht : webB n rows with
  | false =>
    rw [spanC, if_neg (by rw [ht]; decide)]
    rw [ht] at C
    obtain ⟨av, cv, rfl, _, _, _, _⟩ := hG.out.1.slice
    clear hG ht
    go_enter Try.func20, Try.ntmps20
    go_wp2_with fail
    refine C.out.mono ?_
    rintro e w1 ⟨rfl, rfl⟩
    go_wp2
    go_ret
    exact ⟨rfl, Below.refl _ _⟩
  | true =>
    rw [spanC, if_pos ht]
    rw [ht] at C
    obtain ⟨N, rfl, h1, h5, hr, hE, h8, hlr⟩ := web_rows ht
    rw [Int.toNat_natCast]
    obtain ⟨E, hE0⟩ : ∃ E, E = edgesR rows := ⟨_, rfl⟩
    rw [← hE0] at hr hE h8 hlr ⊢
    subst hr
    have CD := Lib.hid (spanDet_any N E v RV w hG hH ⟨h1, h5⟩ (Lib.hid hE) h8)
    obtain ⟨av, cv, rfl, _, hcv, hcm, _⟩ := hG.out.1.slice
    obtain ⟨z, hz⟩ : ∃ z : Int, z = ((spansN N E).length : Int) := ⟨_, rfl⟩
    rw [← hz] at CD ⊢
    obtain ⟨m, hm⟩ : ∃ m, m = RV.length := ⟨_, rfl⟩
    rw [← hm] at C CD ⊢
    clear hG ht hE0 hE hlr h8 hcv hm hz
    go_enter Try.func20, Try.ntmps20
    go_wp2_with fail
    refine C.out.mono ?_
    rintro e w1 ⟨rfl, rfl⟩
    go_wp2_with fail
    refine CD.out.mono ?_
    rintro e w2 ⟨rfl, hb⟩
    have HB := Lib.hid hb
    clear hb CD
    go_wp2
    go_ret
    exact ⟨rfl, HB.out⟩
end Go.Proofs.Ytgboecnfghhooaa
