/-
  The program's count of the maps of a tree to itself, tried one by one.
-/
import Derived.Test.YtnepfbellbmgeaaCTryP
import Derived.Test.YtnepfbellbmgeaaZW
namespace Go.Proofs.Ytnepfbellbmgeaa
open Go.RowKit

theorem clone7_p (xs : List Int) (v : Value) (w : World) {B H : Nat} (hv : Hid (Own w B H 3 v (iv xs))) (hl : xs.length ≤ 64) :
    Calls Try.prog 78 #[v] w fun e w' => ∃ u, e = .returned u ∧ Own w' w.heap.size w'.heap.size 3 u (iv xs) ∧ Below w.heap.size w w' := by
  obtain ⟨av, cv, rfl, h0, _, _, h1⟩ := hv.out.slice
  rw [iv_length] at hv h0 ⊢
  cases av with
  | none =>
    obtain ⟨e0, rfl⟩ := h0 rfl
    have : xs = [] := List.eq_nil_of_length_eq_zero e0
    subst this
    refine (Try.slices_Clone_int_nil 0 0 w).mono ?_
    rintro e w' ⟨rfl, rfl⟩
    exact ⟨_, rfl, ⟨World.ownsRow_nil _ _ _ _, fun q hq => by simp [Value.ownBlock] at hq⟩, Below.refl _ _⟩
  | some a =>
    obtain ⟨g, rfl, _, _⟩ := h1 a rfl
    by_cases hx : xs.length = 0
    · have : xs = [] := List.eq_nil_of_length_eq_zero hx
      subst this
      refine (Try.slices_Clone_int_zero _ cv w).mono ?_
      rintro e w' ⟨u, rfl, h, _, hb⟩
      exact ⟨u, rfl, Own.of_own h, hb⟩
    · refine (Try.slices_Clone_int g 0 xs.length cv xs w (Nat.le_refl _) (by omega) (fun j hj => ?_)).mono ?_
      · obtain ⟨g', e, _, _, h, _⟩ := hv.out.at_ j (by rw [iv_length]; exact hj)
        cases e
        rw [Nat.zero_add]
        rw [h, iv_at xs j hj, List.getD_eq_getElem?_getD, List.getElem?_eq_getElem hj]; rfl
      · rintro e w' ⟨u, rfl, h, _, hb⟩
        rw [List.take_length] at h
        exact ⟨u, rfl, Own.of_own (by rw [iv_length]; exact h), hb⟩
set_option maxHeartbeats 800000 in
theorem indexI7_p (xs : List Nat) (x : Nat) (v : Value) (w : World) {B H : Nat} (hv : Hid (Own w B H 3 v (iv (intsT xs)))) (hl : xs.length ≤ 64) :
    Calls Try.prog 81 #[v, .int .i64 (x : Int)] w fun e w' => ∃ z : Int, e = .returned (.int .i64 z) ∧ decide (0 ≤ z) = decide (x ∈ xs) ∧ w = w' := by
  have hiL : (iv (intsT xs)).length = xs.length := by simp [iv, intsT]
  obtain ⟨ao, cap, rfl, _⟩ := hv.out.slice
  rw [hiL] at hv ⊢
  obtain ⟨m, hm⟩ : ∃ m, m = xs.length := ⟨_, rfl⟩
  have HM := Lib.hid hm
  rw [← hm] at hv hl ⊢
  have HI : Hid (∀ (j : Nat) (hj : j < xs.length), ∃ g, ao = some ⟨g, 0, none⟩ ∧ w.cell? ⟨g, j, none⟩ = some (.int .i64 (xs[j] : Int))) := fun j hj => by
    obtain ⟨g, e, _, _, c, _⟩ := hv.out.at_ j (by rw [hiL]; exact hj)
    exact ⟨g, e, by rw [c]; simp [iv, intsT, hj]⟩
  have K0 : Hid (x ∉ xs.take 0) := by show _ ∉ _; simp
  clear hv hm hiL
  go_enter Try.func81, Try.ntmps81
  go_wp2
  go_loop [8] (fun i => ∃ k : Nat, k ≤ m ∧ i = .int .i64 (k : Int) ∧ Hid (x ∉ xs.take k)) (fun i => m - (intOf i).toNat)
  case atStart => exact ⟨0, Nat.zero_le _, rfl, K0⟩
  case round =>
    clear K0
    obtain ⟨k, hk, rfl, HK⟩ := hrel
    by_cases hlt : k < m
    · have b1 : (k : Int) < (m : Int) := by omega
      have hkx : k < xs.length := by rw [← HM.out]; exact hlt
      obtain ⟨g, rfl, c1⟩ := HI.out k hkx
      have htk : xs.take (k + 1) = xs.take k ++ [xs[k]] := List.take_succ_eq_append_getElem hkx
      have hmem : xs[k] ∈ xs := List.getElem_mem hkx
      obtain ⟨y, hy⟩ : ∃ y, y = xs[k] := ⟨_, rfl⟩
      rw [← hy] at c1 htk hmem
      have HTK := Lib.hid htk
      have HME := Lib.hid hmem
      clear hy htk hmem hkx
      by_cases hxy : x = y
      · have q1 : ((x : Int) == (y : Int)) = true := by rw [hxy]; simp
        have HIN : Hid (x ∈ xs) := by show _ ∈ _; rw [hxy]; exact HME.out
        clear hxy
        go_wp2
        go_ret
        exact ⟨_, rfl, by simp [HIN.out], rfl⟩
      · have q1 : ((x : Int) == (y : Int)) = false := by rw [beq_eq_false_iff_ne]; omega
        have HK2 : Hid (x ∉ xs.take (k + 1)) := by
          show _ ∉ _
          rw [HTK.out]
          intro h
          rcases List.mem_append.1 h with h | h
          · exact HK.out h
          · simp only [List.mem_singleton] at h; exact hxy h
        clear hxy HK
        go_wp2
        go_round
        case rel => exact ⟨k + 1, by omega, by go_num, HK2⟩
        case measure => simp [intOf]; omega
    · obtain rfl : k = m := by omega
      have HNI : Hid (x ∉ xs) := by
        have := HK.out
        rwa [HM.out, List.take_length] at this
      clear HK
      go_wp2
      go_ret
      exact ⟨_, rfl, by simp [HNI.out], rfl⟩
theorem containsI7_p (xs : List Nat) (x : Nat) (v : Value) (w : World) {B H : Nat} (hv : Hid (Own w B H 3 v (iv (intsT xs)))) (hl : xs.length ≤ 64) :
    Calls Try.prog 77 #[v, .int .i64 (x : Int)] w fun e w' => e = .returned (.bool (decide (x ∈ xs))) ∧ w = w' := by
  have CI := Lib.hid (indexI7_p xs x v w hv hl)
  obtain ⟨ao, cap, rfl, _⟩ := hv.out.slice
  clear hv
  go_enter Try.func77, Try.ntmps77
  go_wp2_with fail
  refine CI.out.mono ?_
  rintro e w1 ⟨z, rfl, hz, rfl⟩
  have HZ := Lib.hid hz
  clear hz CI
  by_cases h0 : 0 ≤ z
  · go_wp2
    go_ret
    exact ⟨by rw [← HZ.out]; simp [h0], rfl⟩
  · go_wp2
    go_ret
    exact ⟨by rw [← HZ.out]; simp, rfl⟩
/-- the count over the first images -/
def sumP (E : Edges) (n k : Nat) (im : List Nat) (j : Nat) : Nat := ((List.range j).map fun x => if x ∈ im then 0 else tryP E n k (im ++ [x])).sum
theorem sumP_next (E : Edges) (n k : Nat) (im : List Nat) (j : Nat) : sumP E n k im (j + 1) = sumP E n k im j + (if j ∈ im then 0 else tryP E n k (im ++ [j])) := by
  unfold sumP; rw [List.range_succ, List.map_append, List.sum_append]; simp
theorem sumP_le (E : Edges) (n k : Nat) (im : List Nat) (j : Nat) : sumP E n k im j ≤ j * n ^ k := by
  have := sum_le_mul (L := List.range j) (f := fun x => if x ∈ im then 0 else tryP E n k (im ++ [x])) (b := n ^ k) (fun x _ => by
    split
    · exact Nat.zero_le _
    · exact tryP_le E n k _)
  rwa [List.length_range] at this
theorem intsT_snoc (im : List Nat) (x : Nat) : iv (intsT (im ++ [x])) = iv (intsT im) ++ [.int .i64 (x : Int)] := by simp [iv, intsT]
set_option maxHeartbeats 3200000 in
set_option maxRecDepth 100000 in
theorem tryMaps_p (n : Nat) (E : Edges) (hn : n ≤ 7) (ho : Hid (∀ e ∈ E, e.1 < e.2 ∧ e.2 < n)) (hel : E.length ≤ 64) : ∀ (k : Nat) (im : List Nat), im.length + k = n → ∀ (v u : Value) (w : World) (B0 H0 B1 H1 : Nat), Hid (ERow w B0 H0 v E) → H0 ≤ w.heap.size → Hid (Own w B1 H1 3 u (iv (intsT im))) → H1 ≤ w.heap.size →
    Calls Try.prog 52 #[.int .i64 (n : Int), v, u] w fun e w' => e = .returned (.int .i64 (tryP E n k im : Int)) ∧ Below w.heap.size w w' := by
  obtain ⟨i0, hi, hz0, hz1, hz2⟩ := info_parts Try.infoIntR
  intro k
  induction k with
  | zero =>
    intro im hl v u w B0 H0 B1 H1 hE hH hI hH1
    have CK := Lib.hid (keepsEdges_p n E ho hel im v u w hE hH hI hH1)
    obtain ⟨ao, cap, rfl, _⟩ := hE.out.slice
    have hiL : (iv (intsT im)).length = n := by simp [iv, intsT]; omega
    obtain ⟨au, cu, rfl, _⟩ := hI.out.slice
    rw [hiL] at CK ⊢
    have TR : Hid (tryP E n 0 im = if keepsB E im = true then 1 else 0) := rfl
    obtain ⟨t, ht⟩ : ∃ t, t = keepsB E im := ⟨_, rfl⟩
    rw [← ht] at CK TR
    clear hE hI hH hH1 hl hiL ht
    go_enter Try.func52, Try.ntmps52
    go_wp2_with fail
    refine CK.out.mono ?_
    rintro e w1 ⟨rfl, hb1⟩
    have HB := Lib.hid hb1
    clear hb1 CK
    cases t with
    | false =>
      go_wp2
      go_ret
      rw [TR.out]
      exact ⟨rfl, HB.out⟩
    | true =>
      go_wp2
      go_ret
      rw [TR.out]
      exact ⟨rfl, HB.out⟩
  | succ k ih =>
    intro im hl v u w B0 H0 B1 H1 hE hH hI hH1
    have CK := Lib.hid (keepsEdges_p n E ho hel im v u w hE hH hI hH1)
    have HE : Hid (∀ W, Below w.heap.size w W → ERow W B0 H0 v E) := fun W hW => hE.out.below (hW.mono hH)
    have HI : Hid (∀ W, Below w.heap.size w W → Own W B1 H1 3 u (iv (intsT im))) := fun W hW => hI.out.below (hW.mono hH1)
    have CC := Lib.hid (fun (x : Nat) (W : World) (hW : Below w.heap.size w W) => containsI7_p im x u W (Lib.hid (HI.out W hW)) (by omega))
    have CL := Lib.hid (fun (W : World) (hW : Below w.heap.size w W) => clone7_p (intsT im) u W (Lib.hid (HI.out W hW)) (by simp [intsT]; omega))
    have CT := Lib.hid (fun (x : Nat) (y : Value) (W : World) (B2 : Nat) (hW : Below w.heap.size w W) (hy : Hid (Own W B2 W.heap.size 3 y (iv (intsT (im ++ [x]))))) => ih (im ++ [x]) (by rw [List.length_append, List.length_singleton]; omega) v y W B0 H0 B2 W.heap.size (Lib.hid (HE.out W hW)) (Nat.le_trans hH hW.size) hy (Nat.le_refl _))
    obtain ⟨ao, cap, rfl, _⟩ := hE.out.slice
    have hiL : (iv (intsT im)).length = im.length := by simp [iv, intsT]
    obtain ⟨au, cu, rfl, _⟩ := hI.out.slice
    rw [hiL] at CK CC CL HI ⊢
    obtain ⟨l, hl'⟩ : ∃ l, l = im.length := ⟨_, rfl⟩
    have HL := Lib.hid hl'
    rw [← hl'] at CK CC CL HI hl ⊢
    have hln : ((l : Int) == (n : Int)) = false := by rw [beq_eq_false_iff_ne]; omega
    have TR : Hid (tryP E n (k + 1) im = if keepsB E im = true then sumP E n k im n else 0) := rfl
    have hk6 : k ≤ 6 := by omega
    have hp7 : n ^ k ≤ 7 ^ 6 := Nat.le_trans (Nat.pow_le_pow_left hn k) (Nat.pow_le_pow_right (by decide) hk6)
    obtain ⟨t, ht⟩ : ∃ t, t = keepsB E im := ⟨_, rfl⟩
    rw [← ht] at CK TR
    have S0 : Hid ((0 : Int) = (sumP E n k im 0 : Int)) := rfl
    clear hE hI hH hH1 hiL ht ih hl'
    go_enter Try.func52, Try.ntmps52
    go_wp2_with fail
    refine CK.out.mono ?_
    rintro e w1 ⟨rfl, hb1⟩
    have HB0 := Lib.hid hb1
    clear hb1 CK
    cases t with
    | false =>
      go_wp2
      go_ret
      rw [TR.out]
      exact ⟨rfl, HB0.out⟩
    | true =>
      go_wp2_with fail
      go_loopw [7, 8, 18] (fun e7 e8 ii wr => ∃ (j : Nat) (z : Int), j ≤ n ∧ ii = .int .i64 (j : Int) ∧ e7 = .int .i64 z ∧ Hid (z = (sumP E n k im j : Int)) ∧ Hid (Below w.heap.size w wr)) (fun _ _ ii _ => n - (intOf ii).toNat)
      case atStart => exact ⟨0, 0, Nat.zero_le _, rfl, rfl, S0, HB0⟩
      case round =>
        clear S0 HB0
        obtain ⟨j, z, hj, rfl, rfl, HZ, HB⟩ := hrel
        by_cases hlt : j < n
        · have b1 : (j : Int) < (n : Int) := by omega
          have SN := sumP_next E n k im j
          have CC1 := Lib.hid (CC.out j wr HB.out)
          by_cases hm : j ∈ im
          · have SN2 : Hid (z = (sumP E n k im (j + 1) : Int)) := by show _ = _; rw [HZ.out, SN, if_pos hm]; rfl
            rw [decide_eq_true hm] at CC1
            clear SN HZ CL CT
            go_wp2_with fail
            refine CC1.out.mono ?_
            rintro e w2 ⟨rfl, rfl⟩
            clear CC1
            go_wp2
            go_roundw
            case rel => exact ⟨j + 1, z, by omega, by go_num, rfl, SN2, HB⟩
            case measure => simp [intOf]; omega
          · rw [decide_eq_false hm] at CC1
            rw [if_neg hm] at SN
            have CL1 := Lib.hid (CL.out wr HB.out)
            have CT1 := CT.out j
            have hle1 := sumP_le E n k im j
            have hle2 := tryP_le E n k (im ++ [j])
            obtain ⟨y, hy⟩ : ∃ y, y = tryP E n k (im ++ [j]) := ⟨_, rfl⟩
            rw [← hy] at CT1 SN hle2
            have CT1 := Lib.hid CT1
            have hjn : j * n ^ k ≤ 7 * n ^ k := Nat.mul_le_mul_right _ (by omega)
            have SN2 : Hid (z + (y : Int) = (sumP E n k im (j + 1) : Int)) := by show _ = _; rw [HZ.out, SN]; omega
            have hzb : 0 ≤ z ∧ z ≤ 1000000 := by rw [HZ.out]; omega
            obtain ⟨hz0', hz1'⟩ := hzb
            have hyb : y ≤ 1000000 := by omega
            have ew : IntKind.i64.wrap (z + (y : Int)) = z + (y : Int) := by rw [IntKind.wrap_i64]; omega
            have ISN := Lib.hid (intsT_snoc im j)
            have z1 : l + 1 ≤ maxLen := by unfold maxLen; omega
            have z2 : (l + 1) * 8 ≤ 140737488355328 := by omega
            clear hy SN HZ hle1 hle2 hjn CL CT hm
            go_wp2_with fail
            refine CC1.out.mono ?_
            rintro e w2 ⟨rfl, rfl⟩
            clear CC1
            go_wp2_with fail
            refine CL1.out.mono ?_
            rintro e w3 ⟨q, rfl, hq, hb3⟩
            have hiL : (iv (intsT im)).length = l := by simp [iv, intsT]; exact HL.out.symm
            obtain ⟨aq, cq, rfl, _⟩ := hq.slice
            rw [hiL] at hq ⊢
            have OQ : Hid (w3.ownsRow wr.heap.size 3 1 (.slice aq l cq) l (iv (intsT im))) := by have := hq.1; rwa [hiL] at this
            have Y3 : Hid (∀ o : Obj, wr.heap.size ≤ (w3.alloc o).heap.size) := fun o => by have := hb3.size; rw [World.size_alloc]; omega
            have S3 : Hid (wr.heap.size ≤ w3.heap.size) := hb3.size
            have SR : Hid (w.heap.size ≤ wr.heap.size) := HB.out.size
            have B3 : Hid (Below wr.heap.size wr w3) := hb3
            clear hq hb3 CL1 hiL
            go_wp2_with (at_builtin; refine wpList_append_lies _ rfl (.tmp 29) (.tmp 31) 24 rfl wr.heap.size 3 i0 (.int .i64 0) 1 8 Try.underlying24 hi hz0 hz1 hz2 rfl (Nat.succ_pos 0) (.slice aq l cq) l (iv (intsT im)) rfl (OQ.out.alloc _) ⟨w3.heap.size, 0, none⟩ 1 1 [.int .i64 (j : Int)] rfl rfl (cell_one_new _ _ _) (one_intR _) (Nat.succ_pos 0) z1 z2 (Y3.out _) _ rfl ?_)
            intro g5 c5 w5 hv5 hg5 _ hgs5
            rw [← ISN.out] at hv5
            have B5 : Hid (Below wr.heap.size wr w5) := (B3.out.alloc S3.out _).grown hg5 (Y3.out _) (fun q hq => (OQ.out.lt q hq).1)
            have O5 : Hid (Own w5 wr.heap.size w5.heap.size 3 (.slice (some ⟨g5, 0, none⟩) (l + 1) c5) (iv (intsT (im ++ [j])))) := by
              refine Own.of_own ?_
              have e : (iv (intsT (im ++ [j]))).length = l + 1 := by simp [iv, intsT]; exact HL.out.symm
              rw [e]; exact hv5
            have BW5 : Hid (Below w.heap.size w w5) := HB.out.trans (B5.out.mono SR.out)
            clear hv5 hg5 hgs5 OQ Y3 S3 B3 B5 SR HB
            go_wp2_with fail
            refine (CT1.out _ _ _ BW5.out O5).mono ?_
            rintro e w6 ⟨rfl, hb6⟩
            have BW6 : Hid (Below w.heap.size w w6) := BW5.out.trans (hb6.mono BW5.out.size)
            clear hb6 CT1 O5 BW5
            go_wp2
            go_roundw
            case rel => exact ⟨j + 1, _, by omega, by go_num, rfl, SN2, BW6⟩
            case measure => simp [intOf]; omega
        · obtain rfl : j = n := by omega
          have HF : Hid (z = (tryP E j (k + 1) im : Int)) := by show _ = _; rw [HZ.out, TR.out]; rfl
          clear HZ CC CL CT
          go_wp2
          go_ret
          rw [HF.out]
          exact ⟨rfl, HB.out⟩
/-! ### of any rows -/
set_option maxHeartbeats 800000 in
theorem selfTried_any (n : Int) (rows : List (List Int)) (v : Value) (RV : List Value) (w : World) {B0 H0 : Nat} (hG : Hid (Grid w B0 H0 v RV rows)) (hH : H0 ≤ w.heap.size) (hrl : rows.length ≤ 1048576) (hrs : ∀ r ∈ rows, r.length ≤ 1048576) (hwf : (Lit.int .i64 n).wf = true) :
    Calls Try.prog 28 #[.int .i64 n, v] w fun e w' => e = .returned (.int .i64 (triedOut n rows)) ∧ Below w.heap.size w w' := by
  have CN := treeEdges_p n rows v RV w hG hH hrl hrs hwf
  obtain ⟨av, cv, rfl⟩ : ∃ a c, v = .slice a RV.length c := by
    obtain ⟨a, c, h, _⟩ := hG.out.1.slice; exact ⟨a, c, h⟩
  cases ht : treeB n rows with
  | true =>
    rw [triedOut, if_pos ht]
    rw [ht] at CN
    have CN := Lib.hid CN
    obtain ⟨hn, _, hv3⟩ := treeB_iff.1 ht
    obtain ⟨N, rfl⟩ : ∃ N : Nat, n = N := ⟨n.toNat, by omega⟩
    rw [Int.toNat_natCast] at hv3 ⊢
    have HV := Lib.hid hv3
    have hN7 : N ≤ 7 := by omega
    obtain ⟨E, hE⟩ : ∃ E, E = edgesR rows := ⟨_, rfl⟩
    rw [← hE] at CN HV ⊢
    clear hG hrs hrl hH ht hv3 hn hE
    go_enter Try.func28, Try.ntmps28
    go_wp2_with fail
    refine CN.out.mono ?_
    rintro e w1 ⟨x, rfl, hx, hb1⟩
    have HX := Lib.hid (hx (by first | exact rfl | trivial))
    have HB1 := Lib.hid hb1
    have hel : E.length ≤ 64 := by have := HV.out.len; omega
    have CT := Lib.hid (tryMaps_p N E hN7 HV.out.ord hel N [] (by simp) x (.slice none 0 0) w1 _ _ 0 0 HX (Nat.le_refl _) (Lib.hid ⟨World.ownsRow_nil _ _ _ _, fun g hg => by simp [Value.ownBlock] at hg⟩) (Nat.zero_le _))
    obtain ⟨ax, cx, rfl, _⟩ := HX.out.slice
    clear hx hb1 CN hel
    go_wp2_with fail
    refine CT.out.mono ?_
    rintro e w2 ⟨rfl, hb2⟩
    have HB2 : Hid (Below w.heap.size w w2) := HB1.out.trans (hb2.mono HB1.out.size)
    clear hb2 CT
    go_wp2
    go_ret
    exact ⟨rfl, HB2.out⟩
  | false =>
    rw [triedOut, if_neg (by rw [ht]; decide)]
    rw [ht] at CN
    have CN := Lib.hid CN
    clear hG hrs hrl hH ht
    go_enter Try.func28, Try.ntmps28
    go_wp2_with fail
    refine CN.out.mono ?_
    rintro e w1 ⟨x, rfl, _, hb1⟩
    have HB1 := Lib.hid hb1
    clear hb1 CN
    go_wp2
    go_ret
    exact ⟨rfl, HB1.out⟩
end Go.Proofs.Ytnepfbellbmgeaa
