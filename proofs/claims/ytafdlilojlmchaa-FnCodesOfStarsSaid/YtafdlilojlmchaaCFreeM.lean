/-
  In how many ways a tree goes to itself, as the program counts it; whether two trees have the same shape.
-/
import Derived.Test.YtafdlilojlmchaaZG
import Derived.Test.YtafdlilojlmchaaZ6
namespace Go.Proofs.Ytafdlilojlmchaa
open Go.RowKit

theorem sum_filter_le {p q : Nat → Bool} (h : ∀ x, p x = true → q x = true) (f : Nat → Nat) : ∀ L : List Nat, ((L.filter p).map f).sum ≤ ((L.filter q).map f).sum
  | [] => Nat.le_refl _
  | a :: r => by
    have ih := sum_filter_le h f r
    by_cases hp : p a = true
    · rw [List.filter_cons_of_pos hp, List.filter_cons_of_pos (h a hp), List.map_cons, List.map_cons, List.sum_cons, List.sum_cons]; omega
    · rw [List.filter_cons_of_neg hp]
      by_cases hq : q a = true
      · rw [List.filter_cons_of_pos hq, List.map_cons, List.sum_cons]; omega
      · rw [List.filter_cons_of_neg hq]; exact ih
theorem nds_from (E : Edges) (d v : Nat) (fr : Int) : (nds E d v fr).length ≤ (nds E d v (-1)).length := by
  cases d with
  | zero => exact Nat.le_refl _
  | succ d =>
    rw [nds, nds, List.length_cons, List.length_cons, List.length_flatMap, List.length_flatMap]
    refine Nat.succ_le_succ (sum_filter_le (fun x hx => ?_) _ _)
    simp
/-- the branches about the middle -/
def aroundL (E : Edges) (L : List Nat) : List (Nat × Int) := match L with
  | [a, b] => [(a, (b : Int)), (b, (a : Int))]
  | L => prt E (L.headD 0, -1)
def aroundD (L : List Nat) : Nat := match L with
  | [_, _] => 14
  | _ => 13
theorem around_maps {n : Nat} {E : Edges} (h : (∃ a, cents n E = [a] ∧ a < n) ∨ ∃ a b, cents n E = [a, b] ∧ a < b ∧ b < n ∧ (a, b) ∈ E) : cm E (aroundD (cents n E) + 1) (aroundL E (cents n E)) = mapsN n E := by
  unfold mapsN
  rcases h with ⟨a, h, _⟩ | ⟨a, b, h, _⟩ <;> (rw [h]; rfl)
theorem around_good {n : Nat} {E : Edges} (hv : ValidT n E) (h7 : n ≤ 7) : GoodB n E (aroundD (cents n E)) (aroundL E (cents n E)) := by
  have ho : ∀ e ∈ E, e.1 < n ∧ e.2 < n := fun e he => by have := hv.ord e he; omega
  have hE6 : E.length ≤ 6 := by have := hv.len; omega
  rcases cents_two hv h7 with ⟨a, h, ha⟩ | ⟨a, b, h, hab, hb, _⟩
  · rw [h]
    have h1 : GoodB n E 14 [(a, -1)] := ⟨by simp, fun c hc => by
      simp only [List.mem_singleton] at hc
      subst hc
      exact ⟨ha, valid_brn hv h7 a (-1), by have := nd_len hv h7 ha; simp only; omega⟩⟩
    exact h1.parts ho (by omega) (b := (a, -1)) (by simp)
  · rw [h]
    have ha : a < n := by omega
    refine ⟨by simp [aroundL], fun c hc => ?_⟩
    simp only [aroundL, List.mem_cons, List.not_mem_nil, or_false] at hc
    have l1 := nds_from E 14 a b
    have l2 := nds_from E 14 b a
    have l3 := nd_len hv h7 ha
    have l4 := nd_len hv h7 hb
    rcases hc with rfl | rfl
    · exact ⟨ha, valid_brn hv h7 _ _, by show (nds E 14 a b).length ≤ 64; omega⟩
    · exact ⟨hb, valid_brn hv h7 _ _, by show (nds E 14 b a).length ≤ 64; omega⟩
theorem assertN (a : Nat) (w : World) : (Instr.typeAssert (.iface 102 (.int .i64 (a : Int))) 56 102 true).run Try.prog w = .ok (.tuple #[.int .i64 (a : Int), .bool true]) w := by kernel_rfl
theorem assertNo (v : Value) (w : World) : (Instr.typeAssert (.iface 103 v) 56 102 true).run Try.prog w = .ok (.tuple #[.int .i64 0, .bool false]) w := by kernel_rfl
theorem assertE (a b : Nat) (w : World) : (Instr.typeAssert (.iface 103 (.agg #[.int .i64 (a : Int), .int .i64 (b : Int)])) 56 103 true).run Try.prog w = .ok (.tuple #[.agg #[.int .i64 (a : Int), .int .i64 (b : Int)], .bool true]) w := by kernel_rfl
set_option maxHeartbeats 1600000 in
set_option maxRecDepth 100000 in
theorem around_p (n : Nat) (E : Edges) (hv : Hid (ValidT n E)) (hn7 : n ≤ 7) (tv : Value) (RV : List Value) (w : World) (B0 H0 : Nat) (hG : Hid (Grid w B0 H0 tv RV (nbR n E))) (hH : H0 ≤ w.heap.size) :
    Calls Try.prog 36 #[tv, midV (cents n E)] w fun e w' => ∃ x, e = .returned x ∧ BRow w' w.heap.size w'.heap.size x (aroundL E (cents n E)) ∧ Below w.heap.size w w' := by
  have hE6 : E.length ≤ 6 := by have := hv.out.len; omega
  rcases cents_two hv.out hn7 with ⟨a, h, ha⟩ | ⟨a, b, h, hab, hb, _⟩
  · rw [h]
    have CP := Lib.hid (fun (W : World) (hW : Below w.heap.size w W) => parts_p n E tv RV W (Lib.hid (hG.out.below (hW.mono hH))) (Nat.le_trans hH hW.size) a (-1) ha (by omega))
    have HWF := Lib.hid (fun (W : World) => wholeFrom_p a W)
    obtain ⟨at_, ct, rfl⟩ : ∃ x c, tv = .slice x RV.length c := by
      obtain ⟨x, c, h, _⟩ := hG.out.1.slice; exact ⟨x, c, h⟩
    show Calls _ _ #[_, .iface 102 (.int .i64 (a : Int))] _ _
    have HL : Hid (aroundL E [a] = prt E (a, -1)) := rfl
    rw [HL.out]
    have ta := assertN a
    clear hG hH h hE6
    go_enter Try.func36, Try.ntmps36
    go_wp2_with fail
    refine (HWF.out _).mono ?_
    rintro e w1 ⟨rfl, hb1⟩
    have HB1 := Lib.hid hb1
    clear hb1
    go_wp2_with fail
    refine (CP.out _ HB1.out).mono ?_
    rintro e w2 ⟨x, rfl, hx, hb2⟩
    have HX := Lib.hid (hx.lo HB1.out.size)
    have HB2 : Hid (Below w.heap.size w w2) := HB1.out.trans (hb2.mono HB1.out.size)
    clear hx hb2 CP
    go_wp2
    go_ret
    exact ⟨_, rfl, HX.out, HB2.out⟩
  · rw [h]
    show Calls _ _ #[_, .iface 103 (.agg #[.int .i64 (a : Int), .int .i64 (b : Int)])] _ _
    have HL : Hid (aroundL E [a, b] = [(a, (b : Int)), (b, (a : Int))]) := rfl
    rw [HL.out]
    obtain ⟨at_, ct, rfl⟩ : ∃ x c, tv = .slice x RV.length c := by
      obtain ⟨x, c, h, _⟩ := hG.out.1.slice; exact ⟨x, c, h⟩
    have ta := assertNo (.agg #[.int .i64 (a : Int), .int .i64 (b : Int)])
    have tb := assertE a b
    clear hG hH h hE6
    go_enter Try.func36, Try.ntmps36
    go_wp2_with fail
    go_ret
    have h := World.ownsRow_lit (base := w.heap.size) (e := 92) (size := 2) (w.alloc (.cells #[.int .i64 (a : Int), .int .i64 (b : Int)] 103)) #[.int .i64 (a : Int), .int .i64 (b : Int), .int .i64 (b : Int), .int .i64 (a : Int)] 2 (by simp) (by unfold maxLen; omega) rfl
    rw [World.size_alloc] at h
    exact ⟨.slice (some ⟨w.heap.size + 1, 0, none⟩) 2 2, rfl, BRow.of (L := [(a, (b : Int)), (b, (a : Int))]) h, ((Below.refl _ _).alloc (Nat.le_refl _) _).alloc (by simp) _⟩
set_option maxHeartbeats 1600000 in
set_option maxRecDepth 100000 in
theorem selfMaps_yes (n : Nat) (rows : List (List Int)) (v : Value) (RV : List Value) (w : World) {B0 H0 : Nat} (hG : Hid (Grid w B0 H0 v RV rows)) (hH : H0 ≤ w.heap.size) (hrl : rows.length ≤ 1048576) (hrs : ∀ r ∈ rows, r.length ≤ 1048576) (ht : Hid (treeB (n : Int) rows = true)) :
    Calls Try.prog 10 #[.int .i64 (n : Int), v] w fun e w' => e = .returned (.int .i64 (IntKind.i64.wrap (mapsN n (edgesR rows) : Int))) ∧ Below w.heap.size w w' := by
  have CN := Lib.hid (treeNb_yes n rows v RV w hG hH hrl hrs ht)
  obtain ⟨hn, _, hv3⟩ := treeB_iff.1 ht.out
  rw [Int.toNat_natCast] at hv3
  have HV := Lib.hid hv3
  have hn7 : n ≤ 7 := by omega
  obtain ⟨av, cv, rfl⟩ : ∃ a c, v = .slice a RV.length c := by
    obtain ⟨a, c, h, _⟩ := hG.out.1.slice; exact ⟨a, c, h⟩
  obtain ⟨E, hE⟩ : ∃ E, E = edgesR rows := ⟨_, rfl⟩
  rw [← hE] at CN HV ⊢
  have hc2 := cents_two HV.out hn7
  have AM := Lib.hid (around_maps hc2)
  have AG := Lib.hid (around_good HV.out hn7)
  clear hG hrs hE ht hv3 hn hrl hH hc2
  go_enter Try.func10, Try.ntmps10
  go_wp2_with fail
  refine CN.out.mono ?_
  rintro e w1 ⟨x, RV1, rfl, hx, hb1⟩
  have HX := Lib.hid hx
  have CM := Lib.hid (middle_p n E HV hn7 x RV1 w1 _ _ HX (Nat.le_refl _))
  have CA := Lib.hid (fun (W : World) (hW : Below w1.heap.size w1 W) => around_p n E HV hn7 x RV1 W _ _ (Lib.hid (HX.out.below hW)) hW.size)
  have ho : Hid (∀ e ∈ E, e.1 < n ∧ e.2 < n) := fun e he => by have := HV.out.ord e he; omega
  have hE6 : E.length ≤ 6 := by have := HV.out.len; omega
  have hd : aroundD (cents n E) ≤ 64 := by unfold aroundD; split <;> omega
  have CC := Lib.hid (fun (W : World) (hW : Below w1.heap.size w1 W) (y : Value) (B1 : Nat) (hy : Hid (BRow W B1 W.heap.size y (aroundL E (cents n E)))) => maps_p n E ho (by omega) (aroundD (cents n E)) hd (aroundL E (cents n E)) AG.out x RV1 y W _ _ B1 W.heap.size (Lib.hid (HX.out.below hW)) hW.size hy (Nat.le_refl _))
  rw [AM.out] at CC
  obtain ⟨ax, cx, rfl⟩ : ∃ a c, x = .slice a RV1.length c := by
    obtain ⟨a, c, h, _⟩ := hx.1.slice; exact ⟨a, c, h⟩
  have HB1 := Lib.hid hb1
  obtain ⟨V, hV⟩ : ∃ V, V = midV (cents n E) := ⟨_, rfl⟩
  rw [← hV] at CM CA
  obtain ⟨Z, hZ⟩ : ∃ Z, Z = IntKind.i64.wrap (mapsN n E : Int) := ⟨_, rfl⟩
  rw [← hZ] at CC
  have HZ := Lib.hid hZ
  clear hx hb1 CN hE6 hd AM AG hV hZ
  go_wp2_with fail
  refine CM.out.mono ?_
  rintro e w2 ⟨rfl, hb2⟩
  have HB2 := Lib.hid hb2
  clear hb2 CM
  go_wp2_with fail
  refine (CA.out _ HB2.out).mono ?_
  rintro e w3 ⟨y, rfl, hy, hb3⟩
  have HY := Lib.hid hy
  have HB3 : Hid (Below w1.heap.size w1 w3) := HB2.out.trans (hb3.mono HB2.out.size)
  clear hy hb3 CA HB2
  go_wp2_with fail
  refine (CC.out _ HB3.out _ _ HY).mono ?_
  rintro e w4 ⟨rfl, hb4⟩
  have HB4 : Hid (Below w.heap.size w w4) := HB1.out.trans ((HB3.out.trans (hb4.mono HB3.out.size)).mono HB1.out.size)
  clear hb4 CC HB3
  go_wp2
  go_ret
  exact ⟨by rw [← HZ.out]; rfl, HB4.out⟩
set_option maxHeartbeats 800000 in
theorem selfMaps_any (n : Int) (rows : List (List Int)) (v : Value) (RV : List Value) (w : World) {B0 H0 : Nat} (hG : Hid (Grid w B0 H0 v RV rows)) (hH : H0 ≤ w.heap.size) (hrl : rows.length ≤ 1048576) (hrs : ∀ r ∈ rows, r.length ≤ 1048576) (hwf : (Lit.int .i64 n).wf = true) :
    Calls Try.prog 10 #[.int .i64 n, v] w fun e w' => e = .returned (.int .i64 (mapsOut n rows)) ∧ Below w.heap.size w w' := by
  cases ht : treeB n rows with
  | true =>
    have h := (treeB_iff.1 ht).1
    obtain ⟨N, rfl⟩ : ∃ N : Nat, n = N := ⟨n.toNat, by omega⟩
    rw [mapsOut, if_pos ht, Int.toNat_natCast]
    exact selfMaps_yes N rows v RV w hG hH hrl hrs ht
  | false =>
    rw [mapsOut, if_neg (by rw [ht]; decide)]
    have CN := Lib.hid (treeNb_no n rows v RV w hG hH hrl hrs hwf ht)
    obtain ⟨av, cv, rfl⟩ : ∃ a c, v = .slice a RV.length c := by
      obtain ⟨a, c, h, _⟩ := hG.out.1.slice; exact ⟨a, c, h⟩
    clear hG hrs hrl hH ht
    go_enter Try.func10, Try.ntmps10
    go_wp2_with fail
    refine CN.out.mono ?_
    rintro e w1 ⟨rfl, hb1⟩
    have HB1 := Lib.hid hb1
    clear hb1 CN
    go_wp2
    go_ret
    exact ⟨rfl, HB1.out⟩

/-! ### the same shape -/
set_option maxHeartbeats 1600000 in
set_option maxRecDepth 100000 in
theorem sameShape_any (n : Int) (ra rb : List (List Int)) (va vb : Value) (RA RB : List Value) (w : World) {B0 H0 B1 H1 : Nat} (hG : Hid (Grid w B0 H0 va RA ra)) (hH : H0 ≤ w.heap.size) (hK : Hid (Grid w B1 H1 vb RB rb)) (hH1 : H1 ≤ w.heap.size) (hra : ra.length ≤ 1048576) (hrsa : ∀ r ∈ ra, r.length ≤ 1048576) (hrb : rb.length ≤ 1048576) (hrsb : ∀ r ∈ rb, r.length ≤ 1048576) (hwf : (Lit.int .i64 n).wf = true) :
    Calls Try.prog 7 #[.int .i64 n, va, vb] w fun e w' => e = .returned (.bool (sameOut n ra rb)) ∧ Below w.heap.size w w' := by
  have CV := Lib.hid (validTree_p n ra va RA w B0 H0 hG hH hra hrsa hwf)
  have CA := Lib.hid (fun (W : World) (hW : Below w.heap.size w W) => freeText_any n ra va RA W (Lib.hid (hG.out.below (hW.mono hH))) (Nat.le_trans hH hW.size) hra hrsa hwf)
  have CB := Lib.hid (fun (W : World) (hW : Below w.heap.size w W) => freeText_any n rb vb RB W (Lib.hid (hK.out.below (hW.mono hH1))) (Nat.le_trans hH1 hW.size) hrb hrsb hwf)
  obtain ⟨aa, ca, rfl⟩ : ∃ a c, va = .slice a RA.length c := by
    obtain ⟨a, c, h, _⟩ := hG.out.1.slice; exact ⟨a, c, h⟩
  obtain ⟨ab, cb, rfl⟩ : ∃ a c, vb = .slice a RB.length c := by
    obtain ⟨a, c, h, _⟩ := hK.out.1.slice; exact ⟨a, c, h⟩
  have SF : Hid (treeB n ra = true → sameOut n ra rb = decide (freeOut n ra = freeOut n rb)) := same_free
  have SN : Hid (treeB n ra = false → sameOut n ra rb = false) := fun h => by unfold sameOut; rw [h]; rfl
  obtain ⟨fa, hfa⟩ : ∃ fa, fa = freeOut n ra := ⟨_, rfl⟩
  obtain ⟨fb, hfb⟩ : ∃ fb, fb = freeOut n rb := ⟨_, rfl⟩
  rw [← hfa] at CA SF
  rw [← hfb] at CB SF
  obtain ⟨t, ht⟩ : ∃ t, t = treeB n ra := ⟨_, rfl⟩
  rw [← ht] at CV SF SN
  clear hG hK hH hH1 hrsa hrsb hra hrb hfa hfb ht
  cases t with
  | false =>
    have SN := SN.out rfl
    rw [SN]
    clear SF CA CB
    go_enter Try.func7, Try.ntmps7
    go_wp2_with fail
    refine CV.out.mono ?_
    rintro e w1 ⟨rfl, hb1⟩
    have HB1 := Lib.hid hb1
    clear hb1 CV
    go_wp2
    go_ret
    exact ⟨rfl, HB1.out⟩
  | true =>
    have SF := SF.out rfl
    rw [SF]
    clear SN
    go_enter Try.func7, Try.ntmps7
    go_wp2_with fail
    refine CV.out.mono ?_
    rintro e w1 ⟨rfl, hb1⟩
    have HB1 := Lib.hid hb1
    clear hb1 CV
    go_wp2_with fail
    refine (CA.out _ HB1.out).mono ?_
    rintro e w2 ⟨rfl, hb2⟩
    have HB2 : Hid (Below w.heap.size w w2) := HB1.out.trans (hb2.mono HB1.out.size)
    clear hb2 CA
    go_wp2_with fail
    refine (CB.out _ HB2.out).mono ?_
    rintro e w3 ⟨rfl, hb3⟩
    have HB3 : Hid (Below w.heap.size w w3) := HB2.out.trans (hb3.mono HB2.out.size)
    clear hb3 CB
    go_wp2
    go_ret
    refine ⟨?_, HB3.out⟩
    by_cases h : fa = fb
    · subst h; simp
    · simp [h]
end Go.Proofs.Ytafdlilojlmchaa
