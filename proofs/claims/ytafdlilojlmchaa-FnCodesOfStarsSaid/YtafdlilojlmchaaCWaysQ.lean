/-
  The contract of the program's WaysOf, of any rows.
-/
import Derived.Test.YtafdlilojlmchaaCWaysP
import Derived.Test.YtafdlilojlmchaaCNbrs
import Derived.Test.YtafdlilojlmchaaZ4
namespace Go.Proofs.Ytafdlilojlmchaa
open Go.RowKit

theorem int_inv10 {P : Program} {e : TypeId} (he : P.underlying e = some (.int .i64)) {v : Value} {z : DataW Unit × List MemPlace} (h : plainElem P e v = some z) : ∃ c : Int, v = .int .i64 c := by
  obtain ⟨a, h1, _⟩ := plainElem_int_inv he h
  exact ⟨a, h1⟩
/-- the sum of the ways that are still to come -/
def sumL (E : Edges) (S : List (Nat × Nat)) (left : Lit → Bool) : Nat := ((S.filter fun p => left (keyE p)).map (dsP E)).sum
theorem sumL_none {E : Edges} {S : List (Nat × Nat)} {left : Lit → Bool} (h : ∀ kl, left kl = false) : sumL E S left = 0 := by
  unfold sumL
  rw [List.filter_eq_nil_iff.2 fun p _ => by rw [h]; decide]; rfl
theorem sumL_all {E : Edges} {D : DataW Unit} {S : List (Nat × Nat)} (h : MapIs E D S) : sumL E S (Maps.has D) = (S.map (dsP E)).sum := by
  unfold sumL
  rw [List.filter_eq_self.2 fun p hp => (h.2.1 _).2 ⟨p, hp, rfl⟩]
theorem sumL_step {E : Edges} {S : List (Nat × Nat)} (hS : Small10 S) (hn : S.Nodup) {left : Lit → Bool} {p : Nat × Nat} (hp : p ∈ S) (hl : left (keyE p) = true) : sumL E S left = dsP E p + sumL E S (fun z => left z && !z.sameKey (keyE p)) := by
  unfold sumL
  induction S with
  | nil => cases hp
  | cons q r ih =>
    rw [List.nodup_cons] at hn
    have hSr : Small10 r := fun x hx => hS x (List.mem_cons_of_mem _ hx)
    by_cases e : q = p
    · subst e
      have h1 : ((r.filter fun x => left (keyE x) && !(keyE x).sameKey (keyE q))) = r.filter fun x => left (keyE x) := by
        refine List.filter_congr fun x hx => ?_
        have hne : keyE x ≠ keyE q := fun e => hn.1 (keyE_inj (hSr x hx) (hS q (List.mem_cons_self ..)) e ▸ hx)
        rw [Maps.sameKey_ne hne]; simp
      rw [List.filter_cons_of_pos (by simpa using hl), List.filter_cons_of_neg (by show ¬ (left (keyE q) && !(keyE q).sameKey (keyE q)) = true; rw [WideAt.sameKey_self (keyE_lit q)]; simp), h1, List.map_cons, List.sum_cons]
    · have hpr : p ∈ r := (List.mem_cons.1 hp).resolve_left fun h => e h.symm
      have hne : keyE q ≠ keyE p := fun h => e (keyE_inj (hS q (List.mem_cons_self ..)) (hS p hp) h)
      have ih2 := ih hSr hn.2 hpr
      cases hq : left (keyE q) with
      | true =>
        rw [List.filter_cons_of_pos (by simpa using hq), List.filter_cons_of_pos (by show (left (keyE q) && !(keyE q).sameKey (keyE p)) = true; rw [hq, Maps.sameKey_ne hne]; rfl), List.map_cons, List.sum_cons, List.map_cons, List.sum_cons, ih2]
        omega
      | false =>
        rw [List.filter_cons_of_neg (by rw [hq]; decide), List.filter_cons_of_neg (by show ¬ (left (keyE q) && !(keyE q).sameKey (keyE p)) = true; rw [hq]; simp), ih2]
theorem ways_few {n : Nat} {E : Edges} (h : ValidT n E) (h7 : n ≤ 7) {S : List (Nat × Nat)} {k : Nat} (hW : WI n E S k) : (S.map (dsP E)).sum ≤ 6 * 49 := by
  have h1 : (S.map (dsP E)).sum ≤ (S.map fun _ => 6).sum := sum_le2 fun p hp => dst_le h h7 (hW.lt p hp).1 (hW.lt p hp).2
  have h2 : (S.map fun _ => 6).sum = 6 * S.length := by
    clear h1 hW
    induction S with
    | nil => rfl
    | cons a r ih => rw [List.map_cons, List.sum_cons, ih, List.length_cons]; omega
  have h3 := hW.len
  have h4 := Nat.mul_le_mul h7 h7
  omega
set_option maxHeartbeats 3200000 in
set_option maxRecDepth 100000 in
theorem implWaysOf_any : TreeFn 11 (treeV waysN) := by
  intro n rows v RV w B0 H0 hG hH hrl hrs hwf
  obtain ⟨av, cv, hv⟩ : ∃ a c, v = .slice a RV.length c := by
    obtain ⟨a, c, h, _⟩ := hG.out.1.slice; exact ⟨a, c, h⟩
  cases ht : treeB n rows with
  | true =>
    rw [treeV, if_pos ht]
    obtain ⟨h1, h2⟩ := rowsE_tree ht
    obtain ⟨N, hN⟩ : ∃ N : Nat, n = N := ⟨n.toNat, by have := (treeB_iff.1 ht).1; omega⟩
    have CN := Lib.hid (treeNb_yes N rows v RV w hG hH hrl hrs (Lib.hid (by rw [← hN]; exact ht)))
    rw [← hN] at CN
    have hnat : n.toNat = N := by omega
    rw [hnat] at h2 ⊢
    obtain ⟨E, hE⟩ : ∃ E, E = edgesR rows := ⟨_, rfl⟩
    rw [← hE] at h2 CN ⊢
    have HT := Lib.hid h2
    have CW := Lib.hid (fun (tv : Value) (RV : List Value) (W : World) (B0 H0 : Nat) => ways_p N E h2.v h2.h7 tv RV W (B0 := B0) (H0 := H0))
    clear hG hH hrl hrs ht h1 h2 hnat hE hwf hN
    subst hv
    go_enter Try.func11, Try.ntmps11
    go_wp2_with fail
    refine CN.out.mono ?_
    rintro e w1 ⟨x, RW, rfl, hg, hb1⟩
    have HG1 := Lib.hid hg
    have HB1 := Lib.hid hb1
    obtain ⟨ax, cx, hx, _⟩ := hg.1.slice
    subst hx
    have CW1 := Lib.hid (CW.out _ _ w1 _ _ HG1 (Nat.le_refl _))
    clear hg hb1 CN CW HG1
    go_wp2_with (first
      | (go_at_call 38; refine CW1.out.mono ?_; rintro e w2 ⟨g, S, D, rfl, hge, hWI, hown, hmi, hb2⟩)
      | (at_range; refine wpList_range_own _ rfl _ 58 rfl 61 3 lawE10 Try.underlying58 _ g S.length D rfl hown ?_; intro w3 hrg3 hg3 hs3)
      | fail)
    go_frame
    obtain ⟨r, hr⟩ : ∃ r, r = w2.heap.size := ⟨_, rfl⟩
    rw [← hr] at hrg3 ⊢
    have HR3 := Lib.hid hrg3
    have HB3 : Hid (Below w.heap.size w w3) := (HB1.out.trans (hb2.mono HB1.out.size)).grown hg3 (Nat.le_trans HB1.out.size hb2.size) (fun j hj => by cases hj)
    have T1 := Lib.hid (hWI.sum HT.out.v HT.out.h7)
    have T2 := Lib.hid (ways_few HT.out.v HT.out.h7 hWI)
    have SM : Hid (Small10 S) := fun p hp => by have h1 := hWI.lt p hp; have h2 := HT.out.h7; omega
    have ND := Lib.hid hWI.nd
    have MI := Lib.hid hmi
    have HF : Hid (w.heap.size ≤ r) := by show _ ≤ _; rw [hr]; exact Nat.le_trans HB1.out.size hb2.size
    have Z0 : Hid (0 + sumL E S (Maps.has D) = (S.map (dsP E)).sum) := by show _ = _; rw [sumL_all hmi, Nat.zero_add]
    clear hrg3 hg3 hs3 hb2 hown hmi hWI hge hr CW1
    go_loopw [7] (fun e7 wi => ∃ (left : Lit → Bool) (cnt z : Nat), e7 = .int .i64 (z : Int) ∧ Hid (wi.ranges Try.prog 61 (plainElem (H := Unit) Try.prog 3) g r S.length D left cnt) ∧ Hid (z + sumL E S left = (S.map (dsP E)).sum) ∧ Hid (Below w.heap.size w wi))
      (fun _ wi => wi.rangeLeft g r)
    case atStart => exact ⟨_, _, 0, rfl, HR3, Z0, HB3⟩
    case round =>
      clear HR3 Z0 HB3
      obtain ⟨left, cnt, z, rfl, HRG, HZ, HB⟩ := hrel
      have hrg := HRG.out
      go_wp2_with (first
        | (at_next; refine wpList_next_ranges _ rfl _ rfl 61 lawE10 (plainElem (H := Unit) Try.prog 3) (fun v : Value => v) (Value.int .i64) (fun key _ _ => ⟨key, rfl⟩) (fun v y hv => int_inv10 Try.underlying3 hv) g r S.length _ _ _ rfl hrg ?_ ?_)
        | fail)
      · intro hc0 hl0
        have hz : z = 2 * waysN N E := by have h1 := HZ.out; have h2 := T1.out; rw [sumL_none hl0] at h1; omega
        have hz5 : z ≤ 294 := by have h1 := HZ.out; have h2 := T2.out; omega
        have e2 : IntKind.i64.wrap ((z : Int) / 2) = ((waysN N E : Nat) : Int) := by rw [IntKind.wrap_i64]; omega
        have e3 := e2
        rw [Go.IntWalk.i64_left] at e3
        have E2 := Lib.hid e2
        have E3 := Lib.hid e3
        clear hc0 hl0 hrg hz e2 e3 hz5
        go_wp2
        go_ret
        exact ⟨by first | (show Ending.returned (.int .i64 _) = Ending.returned (.int .i64 _); first | rw [← E3.out] | rw [← E2.out]), HB.out⟩
      · intro key c kl yd yp w4 cnt4 hkey hlk hv hat hrg4 hlt hg4 hs4 hen
        obtain ⟨p, hp, rfl⟩ := (MI.out.2.1 kl).1 (Maps.has_true_of_atKey hat)
        have hd := MI.out.2.2 p hp (.lit (.int .i64 0))
        rw [hat] at hd
        obtain ⟨c', ec, hc1, _⟩ := plainElem_int_inv Try.underlying3 hv
        cases ec
        have hcd : (c : Int) = (dsP E p : Int) := by
          have h1 := congrArg Prod.fst hc1
          simp only at h1
          rw [hd] at h1
          simpa using h1.symm
        have hst := sumL_step (E := E) SM.out ND.out hp hlk
        obtain ⟨dd, hdd⟩ : ∃ dd, dd = dsP E p := ⟨_, rfl⟩
        rw [← hdd] at hcd hst
        subst hcd
        have hsum := HZ.out
        have ht2 := T2.out
        have e1 : IntKind.i64.wrap ((z : Int) + (dd : Int)) = ((z + dd : Nat) : Int) := by rw [IntKind.wrap_i64]; omega
        obtain ⟨z2, hz2⟩ : ∃ z2, z2 = z + dd := ⟨_, rfl⟩
        have HZ2 : Hid (z2 + sumL E S (fun x => left x && !x.sameKey (keyE p)) = (S.map (dsP E)).sum) := by show _ = _; omega
        rw [← hz2] at e1
        have hle0 := hrg.left_eq
        have HLE := Lib.hid hle0
        have HB4 : Hid (Below w.heap.size w w4) := HB.out.grown hg4 HB.out.size (fun j hj => by cases hj; exact HF.out)
        have HR4 := Lib.hid hrg4
        have HLT := Lib.hid hlt
        clear hz2 hsum ht2 hst hdd hd hc1 hv hat hkey hp hrg hrg4 hg4 hs4 hle0 hlt HRG HZ HB
        go_wp2
        go_roundw
        case rel => exact ⟨_, cnt4, z2, by first | rfl | rw [e1], HR4, HZ2, HB4⟩
        case measure => rw [HR4.out.left_eq, HLE.out]; exact HLT.out
  | false =>
    rw [treeV, if_neg (by rw [ht]; decide)]
    have CN := Lib.hid (treeNb_no n rows v RV w hG hH hrl hrs hwf ht)
    clear hG hH hrl hrs ht
    subst hv
    go_enter Try.func11, Try.ntmps11
    go_wp2_with fail
    refine CN.out.mono ?_
    rintro e w1 ⟨rfl, hb1⟩
    have HB1 := Lib.hid hb1
    clear hb1 CN
    go_wp2
    go_ret
    exact ⟨rfl, HB1.out⟩
end Go.Proofs.Ytafdlilojlmchaa
