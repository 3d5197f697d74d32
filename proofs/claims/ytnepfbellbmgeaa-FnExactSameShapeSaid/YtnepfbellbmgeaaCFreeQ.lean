/-
  The program's texts of trees, whether they have the same shape, and in how many ways they go to themselves.
-/
import Derived.Test.YtnepfbellbmgeaaCFreeP
import Derived.Test.YtnepfbellbmgeaaCFreeO
import Derived.Lib.MinMaxS
namespace Go.Proofs.Ytnepfbellbmgeaa
open Go.RowKit

theorem wf_nat {n : Nat} {w : World} (_ : w = w) (h : n ≤ 7) : (Lit.int .i64 (n : Int)).wf = true := wf_smallC2 n (by omega)

/-! ### not a tree -/
set_option maxHeartbeats 800000 in
theorem centersOf_any (n : Int) (rows : List (List Int)) (v : Value) (RV : List Value) (w : World) {B0 H0 : Nat} (hG : Hid (Grid w B0 H0 v RV rows)) (hH : H0 ≤ w.heap.size) (hrl : rows.length ≤ 1048576) (hrs : ∀ r ∈ rows, r.length ≤ 1048576) (hwf : (Lit.int .i64 n).wf = true) :
    Calls Try.prog 13 #[.int .i64 n, v] w fun e w' => ∃ v, e = .returned v ∧ Own w' w.heap.size w'.heap.size 3 v (iv (centsOut n rows)) ∧ Below w.heap.size w w' := by
  cases ht : treeB n rows with
  | true =>
    have h := (treeB_iff.1 ht).1
    obtain ⟨N, rfl⟩ : ∃ N : Nat, n = N := ⟨n.toNat, by omega⟩
    rw [centsOut, if_pos ht, Int.toNat_natCast]
    exact centersOf_p N rows v RV w hG hH hrl hrs ht
  | false =>
    rw [centsOut, if_neg (by rw [ht]; decide)]
    have CN := Lib.hid (treeNb_no n rows v RV w hG hH hrl hrs hwf ht)
    obtain ⟨av, cv, rfl⟩ : ∃ a c, v = .slice a RV.length c := by
      obtain ⟨a, c, h, _⟩ := hG.out.1.slice; exact ⟨a, c, h⟩
    clear hG hrs hrl hH ht
    go_enter Try.func13, Try.ntmps13
    go_wp2_with fail
    refine CN.out.mono ?_
    rintro e w1 ⟨rfl, hb1⟩
    have HB1 := Lib.hid hb1
    clear hb1 CN
    go_wp2
    go_ret
    exact ⟨_, rfl, ⟨World.ownsRow_nil _ _ _ _, fun g hg => by simp [Value.ownBlock] at hg⟩, HB1.out⟩

/-! ### texts -/
set_option maxHeartbeats 800000 in
set_option maxRecDepth 100000 in
theorem rootText_yes (n : Nat) (r : Int) (rows : List (List Int)) (v : Value) (RV : List Value) (w : World) {B0 H0 : Nat} (hG : Hid (Grid w B0 H0 v RV rows)) (hH : H0 ≤ w.heap.size) (hrl : rows.length ≤ 1048576) (hrs : ∀ r ∈ rows, r.length ≤ 1048576) (ht : Hid (treeB (n : Int) rows = true)) :
    Calls Try.prog 20 #[.int .i64 (n : Int), v, .int .i64 r] w fun e w' => e = .returned (.string ⟨(rootOut n rows r).toArray⟩) ∧ Below w.heap.size w w' := by
  have CN := Lib.hid (treeNb_yes n rows v RV w hG hH hrl hrs ht)
  obtain ⟨hn, _, hv3⟩ := treeB_iff.1 ht.out
  rw [Int.toNat_natCast] at hv3
  have HV := Lib.hid hv3
  have hn7 : n ≤ 7 := by omega
  obtain ⟨av, cv, rfl⟩ : ∃ a c, v = .slice a RV.length c := by
    obtain ⟨a, c, h, _⟩ := hG.out.1.slice; exact ⟨a, c, h⟩
  have RO : Hid (rootOut n rows r = if 0 ≤ r ∧ r < (n : Int) then txt (edgesR rows) 14 r.toNat (-1) else []) := by
    show _ = _
    unfold rootOut
    by_cases h : 0 ≤ r ∧ r < (n : Int)
    · rw [if_pos ⟨ht.out, h⟩, if_pos h]
    · rw [if_neg (fun q => h q.2), if_neg h]
  obtain ⟨E, hE⟩ : ∃ E, E = edgesR rows := ⟨_, rfl⟩
  rw [← hE] at CN HV RO
  clear hG hrs hE ht hv3 hn hrl hH
  go_enter Try.func20, Try.ntmps20
  go_wp2_with fail
  refine CN.out.mono ?_
  rintro e w1 ⟨x, RV1, rfl, hx, hb1⟩
  have HX := Lib.hid hx
  obtain ⟨ax, cx, rfl⟩ : ∃ a c, x = .slice a RV1.length c := by
    obtain ⟨a, c, h, _⟩ := hx.1.slice; exact ⟨a, c, h⟩
  have HB1 := Lib.hid hb1
  clear hx hb1 CN
  by_cases h0 : r < 0
  · have RE : Hid (rootOut n rows r = []) := by show _ = _; rw [RO.out, if_neg (by omega)]
    go_wp2
    go_ret
    rw [RE.out]
    exact ⟨rfl, HB1.out⟩
  · by_cases h1 : (n : Int) ≤ r
    · have RE : Hid (rootOut n rows r = []) := by show _ = _; rw [RO.out, if_neg (by omega)]
      have d1 : decide (r < 0) = false := decide_eq_false h0
      have d2 : decide ((n : Int) ≤ r) = true := decide_eq_true h1
      go_wp2
      go_ret
      rw [RE.out]
      exact ⟨rfl, HB1.out⟩
    · obtain ⟨u, rfl⟩ : ∃ u : Nat, r = u := ⟨r.toNat, by omega⟩
      have RE : Hid (rootOut n rows u = txt E 14 u (-1)) := by show _ = _; rw [RO.out, if_pos (by omega), Int.toNat_natCast]
      have hu : u < n := by omega
      have ho : Hid (∀ e ∈ E, e.1 < n ∧ e.2 < n) := fun e he => by have := HV.out.ord e he; omega
      have hnd := nd_len HV.out hn7 hu
      have hE6 : E.length ≤ 6 := by have := HV.out.len; omega
      have CT := Lib.hid (fun (W : World) (hW : Below w1.heap.size w1 W) => text_p n E ho (by omega) 14 u (-1) hu (by omega) (Lib.hid (valid_brn HV.out hn7 u (-1))) (by omega) (.slice ax RV1.length cx) RV1 W w.heap.size w1.heap.size (Lib.hid (HX.out.below hW)) hW.size)
      have HWF := Lib.hid (fun (W : World) => wholeFrom_p u W)
      have d1 : decide ((u : Int) < 0) = false := decide_eq_false h0
      have d2 : decide ((n : Int) ≤ (u : Int)) = false := decide_eq_false h1
      have d3 : ¬ (n ≤ u) := by omega
      clear hnd hE6 RO
      go_wp2_with fail
      refine (HWF.out _).mono ?_
      rintro e w2 ⟨rfl, hb2⟩
      have HB2 := Lib.hid hb2
      clear hb2
      go_wp2_with fail
      refine (CT.out _ HB2.out).mono ?_
      rintro e w3 ⟨rfl, hb3⟩
      have HB3 : Hid (Below w.heap.size w w3) := HB1.out.trans ((HB2.out.trans (hb3.mono HB2.out.size)).mono HB1.out.size)
      clear hb3 CT HB2
      go_wp2
      go_ret
      rw [RE.out]
      exact ⟨rfl, HB3.out⟩
set_option maxHeartbeats 800000 in
theorem rootText_any (n r : Int) (rows : List (List Int)) (v : Value) (RV : List Value) (w : World) {B0 H0 : Nat} (hG : Hid (Grid w B0 H0 v RV rows)) (hH : H0 ≤ w.heap.size) (hrl : rows.length ≤ 1048576) (hrs : ∀ r ∈ rows, r.length ≤ 1048576) (hwf : (Lit.int .i64 n).wf = true) :
    Calls Try.prog 20 #[.int .i64 n, v, .int .i64 r] w fun e w' => e = .returned (.string ⟨(rootOut n rows r).toArray⟩) ∧ Below w.heap.size w w' := by
  cases ht : treeB n rows with
  | true =>
    have h := (treeB_iff.1 ht).1
    obtain ⟨N, rfl⟩ : ∃ N : Nat, n = N := ⟨n.toNat, by omega⟩
    exact rootText_yes N r rows v RV w hG hH hrl hrs ht
  | false =>
    rw [rootOut, if_neg (fun h => by rw [ht] at h; cases h.1)]
    have CN := Lib.hid (treeNb_no n rows v RV w hG hH hrl hrs hwf ht)
    obtain ⟨av, cv, rfl⟩ : ∃ a c, v = .slice a RV.length c := by
      obtain ⟨a, c, h, _⟩ := hG.out.1.slice; exact ⟨a, c, h⟩
    clear hG hrs hrl hH ht
    go_enter Try.func20, Try.ntmps20
    go_wp2_with fail
    refine CN.out.mono ?_
    rintro e w1 ⟨rfl, hb1⟩
    have HB1 := Lib.hid hb1
    clear hb1 CN
    go_wp2
    go_ret
    exact ⟨rfl, HB1.out⟩
end Go.Proofs.Ytnepfbellbmgeaa
