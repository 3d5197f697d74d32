/-
  The longest way into a branch, as the program finds it.
-/
import Derived.Test.YtmoelhaobnloaaaCBrn
namespace Go.Proofs.Ytmoelhaobnloaaa
open Go.RowKit

/-- the longest way, as far as k parts tell -/
def farK (E : Edges) (d u : Nat) (fr : Int) (k : Nat) : Nat := ((away E u fr).take k).foldl (fun m x => max m (1 + far E d x u)) 0
theorem farK_next {E : Edges} {d u k : Nat} {fr : Int} (hk : k < (away E u fr).length) : farK E d u fr (k + 1) = max (farK E d u fr k) (1 + far E d (away E u fr)[k] u) := by
  unfold farK
  rw [List.take_succ_eq_append_getElem hk, List.foldl_append]; rfl
theorem farK_all (E : Edges) (d u : Nat) (fr : Int) : farK E d u fr (away E u fr).length = far E (d + 1) u fr := by unfold farK; rw [List.take_length]; rfl
theorem far_fuel (E : Edges) : ∀ (d u : Nat) (fr : Int), far E d u fr ≤ d := by
  intro d
  induction d with
  | zero => intro u fr; exact Nat.le_refl _
  | succ d ih =>
    intro u fr
    rw [far, fold_max]
    exact ⟨by omega, fun x _ => by have := ih x u; omega⟩
theorem farK_le (E : Edges) (d u : Nat) (fr : Int) (k : Nat) : farK E d u fr k ≤ d + 1 := by
  unfold farK
  rw [fold_max]
  exact ⟨by omega, fun x _ => by have := far_fuel E d x u; omega⟩
theorem prt_length (E : Edges) (u : Nat) (fr : Int) : (prt E (u, fr)).length = (away E u fr).length := by simp [prt]
theorem prt_at {E : Edges} {u k : Nat} {fr : Int} (h : k < (prt E (u, fr)).length) : (prt E (u, fr))[k] = ((away E u fr)[k]'(by rw [prt_length] at h; exact h), (u : Int)) := by simp [prt]
theorem away_len (E : Edges) (u : Nat) (fr : Int) : (away E u fr).length ≤ 2 * E.length := Nat.le_trans (List.length_filter_le _ _) (nb_len_le E u)
theorem away_lt {n : Nat} {E : Edges} (ho : ∀ e ∈ E, e.1 < n ∧ e.2 < n) {u x : Nat} {fr : Int} (h : x ∈ away E u fr) : x < n ∧ u < n := nb_mem_lt ho (List.mem_filter.1 h).1

theorem wholeFrom_p (u : Nat) (w : World) : Calls Try.prog 45 #[.int .i64 (u : Int)] w fun e w' => e = .returned (.agg #[.int .i64 (u : Int), .int .i64 (-1)]) ∧ Below w.heap.size w w' := by
  go_enter Try.func45, Try.ntmps45
  go_wp2
  refine bodyPost_ret (results_cell_row rfl _ _ w.heap.size _ _ _ _ rfl (heap_alloc_new w _) Try.underlying55 rfl (by kernel_rfl)) rfl ?_
  exact ⟨rfl, (Below.refl _ _).alloc (Nat.le_refl _) _⟩

set_option maxHeartbeats 3200000 in
set_option maxRecDepth 100000 in
theorem longest_p (n : Nat) (E : Edges) (ho : Hid (∀ e ∈ E, e.1 < n ∧ e.2 < n)) (hE : E.length ≤ 64) : ∀ (d u : Nat) (fr : Int), u < n → d ≤ 64 → Hid (Brn E d u fr) → ∀ (tv : Value) (RV : List Value) (w : World) (B0 H0 : Nat), Hid (Grid w B0 H0 tv RV (nbR n E)) → H0 ≤ w.heap.size →
    Calls Try.prog 69 #[tv, .agg #[.int .i64 (u : Int), .int .i64 fr]] w fun e w' => e = .returned (.int .i64 (far E d u fr : Int)) ∧ Below w.heap.size w w' := by
  intro d
  induction d with
  | zero => intro u fr _ _ h; exact h.out.elim
  | succ d ih =>
    intro u fr hu hd hB tv RV w B0 H0 hG hH
    have CP := Lib.hid (fun (W : World) (hW : Below w.heap.size w W) => parts_p n E tv RV W (Lib.hid (hG.out.below (hW.mono hH))) (Nat.le_trans hH hW.size) u fr hu hE)
    have CL := Lib.hid (fun (x : Nat) (hx : x < n) (hb : Hid (Brn E d x u)) (W : World) (hW : Below w.heap.size w W) => ih x u hx (by omega) hb tv RV W B0 H0 (Lib.hid (hG.out.below (hW.mono hH))) (Nat.le_trans hH hW.size))
    obtain ⟨ga, cv, au, cu, rfl, _⟩ := tree_row hG.out hu
    have FA := Lib.hid (farK_all E d u fr)
    have HBK : Hid (∀ x ∈ away E u fr, Brn E d x u ∧ x < n) := fun x hx => ⟨hB.out x hx, (away_lt ho.out hx).1⟩
    have hpl := prt_length E u fr
    have hal := away_len E u fr
    have h128 : (away E u fr).length ≤ 128 := by omega
    obtain ⟨m, hm⟩ : ∃ m, m = (away E u fr).length := ⟨_, rfl⟩
    have HM := Lib.hid hm
    rw [← hm] at FA hpl h128
    have HPL := Lib.hid hpl
    obtain ⟨SZ, hSZ⟩ : ∃ SZ, SZ = w.heap.size := ⟨_, rfl⟩
    have HSZ := Lib.hid hSZ
    rw [← hSZ] at CP CL
    clear hB hal hm hpl hSZ ih hG hH
    go_enter Try.func69, Try.ntmps69
    go_wp2_with fail
    have B1 : Hid (Below SZ w (w.alloc (.cells #[.int .i64 (u : Int), .int .i64 fr] 55))) := by
      show Below _ _ _; rw [HSZ.out]; exact (Below.refl _ _).alloc (Nat.le_refl _) _
    refine (CP.out _ B1.out).mono ?_
    rintro e w1 ⟨v, rfl, hr, hb1⟩
    have S1 : Hid (SZ ≤ (w.alloc (.cells #[.int .i64 (u : Int), .int .i64 fr] 55)).heap.size) := by show _ ≤ _; rw [HSZ.out, World.size_alloc]; omega
    have B2 : Hid (Below SZ w w1) := B1.out.trans (hb1.mono S1.out)
    have R2 := Lib.hid (hr.lo S1.out)
    obtain ⟨ao, c6, rfl, _⟩ := hr.slice
    rw [HPL.out] at R2 ⊢
    have S2 : Hid (SZ ≤ w1.heap.size) := Nat.le_trans S1.out hb1.size
    clear hr hb1 B1 S1 CP
    go_wp2_with fail
    go_loopw [5, 7, 12] (fun e5 e7 ii wr => ∃ (k : Nat) (z : Int), k ≤ m ∧ ii = .int .i64 k ∧ e5 = .int .i64 z ∧ Hid (z = (farK E d u fr k : Int)) ∧ Hid (Below w1.heap.size w1 wr)) (fun _ _ ii _ => m - (intOf ii).toNat)
    case atStart => exact ⟨0, 0, Nat.zero_le _, rfl, rfl, rfl, Below.refl _ _⟩
    case round =>
      obtain ⟨k, z, hk, rfl, rfl, HZ, HB⟩ := hrel
      by_cases hlt : k < m
      · have b1 : (k : Int) < (m : Int) := by omega
        have hka : k < (away E u fr).length := by rw [← HM.out]; exact hlt
        have hkp : k < (prt E (u, fr)).length := by rw [HPL.out]; exact hlt
        obtain ⟨g, c', e1, _, _, hg, c1, c2⟩ := (R2.out.below HB.out).at_ k hkp
        rw [HPL.out] at e1
        simp only [Value.slice.injEq] at e1
        obtain ⟨rfl, _, rfl⟩ := e1
        rw [prt_at hkp] at c1 c2
        have FN := farK_next (d := d) hka
        have FL := farK_le E d u fr k
        have hx1 := HBK.out _ (List.getElem_mem hka)
        obtain ⟨x, hx⟩ : ∃ x, x = (away E u fr)[k] := ⟨_, rfl⟩
        rw [← hx] at c1 FN hx1
        replace c1 : wr.cell? ⟨g, k * 2, none⟩ = some (.int .i64 (x : Int)) := c1
        replace c2 : wr.cell? ⟨g, k * 2 + 1, none⟩ = some (.int .i64 (u : Int)) := c2
        have F2 := far_fuel E d x u
        obtain ⟨f, hf⟩ : ∃ f, f = far E d x u := ⟨_, rfl⟩
        have CX := CL.out x hx1.2 (Lib.hid hx1.1)
        rw [← hf] at FN F2 CX
        have CX := Lib.hid CX
        have FN : Hid ((farK E d u fr (k + 1) : Int) = max z (1 + (f : Int))) := by show _ = _; rw [FN, HZ.out]; omega
        have hz1 : 0 ≤ z ∧ z ≤ 65 := by rw [HZ.out]; omega
        obtain ⟨hz0, hz2⟩ := hz1
        have ew : IntKind.i64.wrap (1 + (f : Int)) = 1 + (f : Int) := by rw [IntKind.wrap_i64]; omega
        have hsr : Hid (w1.heap.size ≤ wr.heap.size) := HB.out.size
        have BW : Hid (Below SZ w (wr.alloc (.cells #[.int .i64 (x : Int), .int .i64 (u : Int)] 55))) := (B2.out.trans (HB.out.mono S2.out)).alloc (by have := S2.out; have := hsr.out; omega) _
        have BX : Hid (Below w1.heap.size w1 (wr.alloc (.cells #[.int .i64 (x : Int), .int .i64 (u : Int)] 55))) := HB.out.alloc hsr.out _
        have sX : Hid (w1.heap.size ≤ (wr.alloc (.cells #[.int .i64 (x : Int), .int .i64 (u : Int)] 55)).heap.size) := BX.out.size
        clear hx hf hx1 hka hkp FL HZ CL HB
        go_wp2_with fail
        refine (CX.out _ BW.out).mono ?_
        rintro e w2 ⟨rfl, hb2⟩
        have B3 : Hid (Below w1.heap.size w1 w2) := BX.out.trans (hb2.mono sX.out)
        clear hb2 BX sX BW CX c1 c2
        rcases Int.lt_trichotomy z (1 + (f : Int)) with hz | hz | hz
        · go_wp2
          go_roundw
          case rel => exact ⟨k + 1, _, by omega, by go_num, rfl, by show _ = _; rw [FN.out]; omega, B3⟩
          case measure => simp [intOf]; omega
        · subst hz
          go_wp2
          go_roundw
          case rel => exact ⟨k + 1, _, by omega, by go_num, rfl, by show _ = _; rw [FN.out]; omega, B3⟩
          case measure => simp [intOf]; omega
        · go_wp2
          go_roundw
          case rel => exact ⟨k + 1, _, by omega, by go_num, rfl, by show _ = _; rw [FN.out]; omega, B3⟩
          case measure => simp [intOf]; omega
      · obtain rfl : k = m := by omega
        have HZ2 : Hid (z = (far E (d + 1) u fr : Int)) := by show _ = _; rw [HZ.out, FA.out]
        have BF : Hid (Below SZ w wr) := B2.out.trans (HB.out.mono S2.out)
        clear HZ HB CL
        go_wp2
        go_ret
        rw [HZ2.out]
        exact ⟨rfl, by rw [← HSZ.out]; exact BF.out⟩
end Go.Proofs.Ytmoelhaobnloaaa
