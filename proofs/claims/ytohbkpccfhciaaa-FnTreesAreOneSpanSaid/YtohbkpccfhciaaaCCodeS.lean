/-
  The contracts of the model's functions ValidTree, DegreesOf and CodeOf, of any rows.
-/
import Derived.Test.YtohbkpccfhciaaaZN
import Derived.Test.YtohbkpccfhciaaaCVTree
import Derived.Test.YtohbkpccfhciaaaCDepths
namespace Go.Proofs.Ytohbkpccfhciaaa
open Go.RowKit

theorem own_baseR {w : World} {B B' n : Nat} {t : TypeId} {v : Value} {xs : List Value} (h : w.ownsRow B' t 1 v n xs) (hB : B ≤ B') : w.ownsRow B t 1 v n xs :=
  ⟨h.1, h.2.imp id (fun ⟨g, cap, cur, a, b, c⟩ => ⟨g, cap, cur, a, by omega, c⟩)⟩
set_option maxHeartbeats 800000 in
theorem codeOf_one (v : Value) (w : World) {B0 H0 : Nat} {RV : List Value} (hG : Hid (Grid w B0 H0 v RV (rowsE []))) :
    Calls Try.prog 33 #[.int .i64 ((1 : Nat) : Int), v] w fun e w' => ∃ g m c, e = .returned (.slice (some ⟨g, 0, none⟩) m c) ∧ Ils w w' w.heap.size g m c [] := by
  obtain ⟨av, cv, rfl, h0, hcv, hcm, _⟩ := hG.out.1.slice
  have hgl : RV.length = 0 := by rw [hG.out.2.1]; rfl
  rw [hgl] at h0 hcv ⊢
  obtain ⟨w1, hw1⟩ : ∃ w1, w1 = w.alloc (.cells #[] 32) := ⟨_, rfl⟩
  have hb1 : Below w.heap.size w w1 := by rw [hw1]; exact (Below.refl _ _).alloc (Nat.le_refl _) _
  have hst : ∀ W : World, Below w.heap.size w W → Hid (Ils w (W.alloc (.cells #[] 3)) w.heap.size W.heap.size 0 0 []) := fun W hW => by
    have := World.ownsRow_lit (base := w.heap.size) (e := 3) (size := 1) W #[] 0 hW.size (by decide) rfl
    exact ⟨rfl, this, hW.alloc hW.size _⟩
  have HS := Lib.hid hst
  have ew : IntKind.i64.wrap ((1 : Int) - 2) = -1 := by decide
  clear hst hw1 hb1 hG
  cases av with
  | none =>
    obtain ⟨_, rfl⟩ := h0 rfl
    go_enter Try.func33, Try.ntmps33
    go_wp2
    refine wp_loop_rounds 1 ?_
    rw [rounds_succ]
    go_wp2
    go_ret
    refine ⟨_, 0, 0, rfl, ?_⟩
    have := HS.out _ ((Below.refl w.heap.size w).alloc (Nat.le_refl _) (.cells #[] 32))
    simpa using this.out
  | some a =>
    obtain ⟨b, off, spot⟩ := a
    go_enter Try.func33, Try.ntmps33
    go_wp2
    refine wp_loop_rounds 1 ?_
    rw [rounds_succ]
    go_wp2
    go_ret
    refine ⟨_, 0, 0, rfl, ?_⟩
    have := HS.out _ ((Below.refl w.heap.size w).alloc (Nat.le_refl _) (.cells #[] 32))
    simpa using this.out

/-! ### what both answer, of any rows -/
def codeOut (n : Int) (rows : List (List Int)) : List Int := if treeB n rows = true then (codeN n.toNat (edgesR rows)).map fun (k : Nat) => (k : Int) else []
def degOut (n : Int) (rows : List (List Int)) : List Int := if treeB n rows = true then ((List.range n.toNat).map (deg (edgesR rows))).map fun (k : Nat) => (k : Int) else []
theorem valid_one {E : Edges} (h : ValidT 1 E) : E = [] := List.eq_nil_of_length_eq_zero (by have := h.len; omega)
theorem specCode_any (n : Int) (rows : List (List Int)) (v : Value) (RV : List Value) (w : World) {B0 H0 : Nat} (hG : Hid (Grid w B0 H0 v RV rows)) (hH : H0 ≤ w.heap.size) (hrl : rows.length ≤ 1048576) :
    Calls Try.prog 13 #[.int .i64 n, v] w (IntsOut (codeOut n rows) w) := by
  have C := Lib.hid (validTree_any n rows v RV w hG hH hrl)
  cases ht : treeB n rows with
  | false =>
    rw [codeOut, if_neg (by rw [ht]; decide)]
    rw [ht] at C
    obtain ⟨av, cv, rfl, _, _, _, _⟩ := hG.out.1.slice
    clear hG
    go_enter Try.func13, Try.ntmps13
    go_wp2_with fail
    refine C.out.mono ?_
    rintro e w1 ⟨rfl, hb⟩
    have HB := Lib.hid hb
    clear hb
    go_wp2_with fail
    go_ret
    exact nilOut _ _ HB.out
  | true =>
    rw [codeOut, if_pos ht]
    rw [ht] at C
    obtain ⟨h1, h2, h3⟩ := treeB_iff.1 ht
    obtain ⟨N, rfl⟩ : ∃ N : Nat, n = N := ⟨n.toNat, by omega⟩
    rw [Int.toNat_natCast] at h3 ⊢
    obtain ⟨E, hE⟩ : ∃ E, E = edgesR rows := ⟨_, rfl⟩
    rw [← hE] at h2 h3 ⊢
    subst h2
    have GW : Hid (∀ w1, Below w.heap.size w w1 → Grid w1 B0 H0 v RV (rowsE E)) := fun w1 hb => hG.out.below (hb.mono hH)
    have CD : Hid (∀ w1, Below w.heap.size w w1 → Calls Try.prog 33 #[.int .i64 (N : Int), v] w1 fun e w' => ∃ g m c, e = .returned (.slice (some ⟨g, 0, none⟩) m c) ∧ Ils w1 w' w1.heap.size g m c (codeN N E)) := fun w1 hb => by
      by_cases h2 : 2 ≤ N
      · exact codeOf_any N E v RV w1 (Lib.hid (GW.out w1 hb)) (Nat.le_trans hH hb.size) (Lib.hid h3) ⟨h2, by omega⟩
      · obtain rfl : N = 1 := by omega
        have := valid_one h3
        subst this
        exact codeOf_one v w1 (Lib.hid (GW.out w1 hb))
    obtain ⟨av, cv, rfl, _, _, _, _⟩ := hG.out.1.slice
    clear hG GW hE h3 ht
    go_enter Try.func13, Try.ntmps13
    go_wp2_with fail
    refine C.out.mono ?_
    rintro e w1 ⟨rfl, hb⟩
    have HB := Lib.hid hb
    clear hb
    go_wp2_with fail
    refine (CD.out w1 HB.out).mono ?_
    rintro e w2 ⟨g, m, c, rfl, hD⟩
    have HD := Lib.hid hD
    clear hD
    go_wp2
    go_ret
    have hb2 := HB.out.trans (HD.out.below.mono HB.out.size)
    refine ⟨_, rfl, ?_, hb2⟩
    rw [← ints_iv2]
    have ho := HD.out.own
    refine Own.of_own ?_
    rw [ints_length, HD.out.len]
    exact own_baseR ho HB.out.size
end Go.Proofs.Ytohbkpccfhciaaa
