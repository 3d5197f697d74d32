/-
  The contract of the program's JoinCost, of numbers that can be read.
-/
import Derived.Test.YtakpbnkncjddeaaZLP
import Derived.Test.YtakpbnkncjddeaaShelfT
import Derived.Sort.OwnSortedInts
namespace Go.Proofs.Ytakpbnkncjddeaa
open Go.RowKit Go.Sort

theorem msort_ldI (M : List Nat) : (ldI M).mergeSort (fun x y => decide (x ≤ y)) = ldI (srtL M) := by
  obtain ⟨R, hR⟩ : ∃ R, R = (ldI M).mergeSort (fun x y => decide (x ≤ y)) := ⟨_, rfl⟩
  have hp : R.Perm (ldI M) := by rw [hR]; exact List.mergeSort_perm _ _
  have hs : R.Pairwise (fun x y => decide (x ≤ y) = true) := by
    rw [hR]
    exact List.pairwise_mergeSort (fun a b c h1 h2 => by simp only [decide_eq_true_eq] at *; omega) (fun a b => by simp only [Bool.or_eq_true, decide_eq_true_eq]; omega) _
  have h0 : ∀ x ∈ R, 0 ≤ x := fun x hx => by
    obtain ⟨y, _, rfl⟩ := List.mem_map.1 (hp.mem_iff.1 hx)
    omega
  have e : ldI (natsL R) = R := ldI_nats h0
  have pN : (natsL R).Perm M := by
    have := hp.map Int.toNat
    have e2 : (ldI M).map Int.toNat = M := natsL_ldI M
    rw [e2] at this
    exact this
  have aN : AscL (natsL R) := List.pairwise_map.2 (hs.imp fun h => by simp only [decide_eq_true_eq] at h; omega)
  rw [← hR, ← e, asc_same aN (srtL_asc M) (pN.trans (srtL_perm M).symm)]

/-- numbers in a block from B on, wherever they begin in it -/
def PRow (w : World) (B : Nat) (a : Option Addr) (n c : Nat) (M : List Nat) : Prop :=
  M.length = n ∧ n ≤ c ∧ (n = 0 ∨ ∃ g off, a = some ⟨g, off, none⟩ ∧ B ≤ g ∧ g < w.heap.size ∧ Holds (Value.int .i64) w g off (ldI M).toArray)
theorem PRow.of_own {w : World} {B : Nat} {a : Option Addr} {n c : Nat} {M : List Nat} (h : w.ownsRow B 3 1 (.slice a n c) n (iv (ldI M))) : PRow w B a n c M := by
  have hl := h.1
  rw [iv_length, ldI_len, Nat.mul_one] at hl
  rcases h.2 with ⟨e, h0⟩ | ⟨g, cap, cur, e, hb, hg, h1, h2, h3, h4⟩
  · cases e
    exact ⟨hl, Nat.le_refl _, .inl rfl⟩
  · cases e
    refine ⟨hl, h1, .inr ⟨g, 0, rfl, hb, (Array.getElem?_eq_some_iff.1 hg).1, ?_⟩⟩
    have := holds_of_blockI (ss := ldI M) hg (by rw [Nat.mul_one] at h4; rw [ldI_len, hl]; exact h4)
    exact this
theorem PRow.cell {w : World} {B g off n c : Nat} {M : List Nat} (h : PRow w B (some ⟨g, off, none⟩) n c M) (j : Nat) (hj : j < n) : w.cell? ⟨g, off + j, none⟩ = some (.int .i64 ((M.getD j 0 : Nat) : Int)) ∧ w.frozen? ⟨g, off + j, none⟩ = false := by
  obtain ⟨hl, _, h0 | ⟨g', off', e, _, _, hH⟩⟩ := h
  · omega
  · simp only [Option.some.injEq, Addr.mk.injEq] at e
    obtain ⟨rfl, rfl, _⟩ := e
    have := hH j (by simp [ldI_len]; omega)
    refine ⟨this.1.trans ?_, this.2⟩
    have hj2 : j < M.length := by omega
    simp [ldI, hj2]
theorem sort_p (M : List Nat) (a : Option Addr) (n c B : Nat) (w : World) (h : PRow w B a n c M) (hn : 0 < n) (hn2 : n ≤ 1000) :
    Calls Try.prog 40 #[.slice a n c] w fun e w' => e = .returned (.tuple #[]) ∧ PRow w' B a n c (srtL M) ∧ Below B w w' := by
  obtain ⟨hl, hc, h0 | ⟨g, off, rfl, hB, hg, hH⟩⟩ := h
  · omega
  · have hS := Try.slices_Sort_int g off c (ldI M) w hH hg (by rw [ldI_len]; omega)
    rw [ldI_len, hl, msort_ldI] at hS
    refine hS.mono ?_
    rintro e w' ⟨rfl, k, os, rfl⟩
    have H1 : Holds (Value.int .i64) (putRow (Value.int .i64) (Sort.ahead w k) g off (ldI (srtL M)).toArray) g off (ldI (srtL M)).toArray := holds_putRow _ _ _ _ _ _ (holds_ahead _ _ _ _ _ _ hH) (by simp [ldI_len, srtL_len])
    refine ⟨rfl, ⟨by rw [srtL_len]; exact hl, hc, .inr ⟨g, off, rfl, hB, by simp; omega, holds_grow _ _ _ _ _ _ (by simpa using hg) H1⟩⟩, rfl, rfl, rfl, by simp, fun q hq => ?_⟩
    rw [heap_grow_old _ _ (by simp; omega)]
    have : g ≠ q := by omega
    simp [putRow, mapBlock, Sort.ahead, Array.getElem?_modify, this]
/-- the first of an ascending row is left out, and the second one written over -/
theorem PRow.joined {w : World} {B g off n c x y z : Nat} {r : List Nat} (h : PRow w B (some ⟨g, off, none⟩) (n + 1) c (x :: y :: r)) : PRow (w.setCell ⟨g, off + 1, none⟩ (.int .i64 (z : Int))) B (some ⟨g, off + 1, none⟩) n (c - 1) (z :: r) ∧ Below B w (w.setCell ⟨g, off + 1, none⟩ (.int .i64 (z : Int))) := by
  have hc := h.cell
  obtain ⟨hl, h1, h0 | ⟨g', off', e, hB, hg, hH⟩⟩ := h
  · omega
  · simp only [Option.some.injEq, Addr.mk.injEq] at e
    obtain ⟨rfl, rfl, _⟩ := e
    simp only [List.length_cons] at hl
    refine ⟨⟨by simp only [List.length_cons]; omega, by omega, .inr ⟨g, off + 1, rfl, hB, by simpa using hg, fun j hj => ?_⟩⟩, (Below.refl B w).setCell hB _⟩
    simp only [List.size_toArray, ldI_len, List.length_cons] at hj
    rw [World.frozen?_setCell]
    cases j with
    | zero => exact ⟨World.cell?_setCell_same _ _ _ (hc 1 (by omega)).1, (hc 1 (by omega)).2⟩
    | succ j =>
      have q := hc (j + 1 + 1) (by omega)
      have ea : off + 1 + (j + 1) = off + (j + 1 + 1) := by omega
      rw [ea, World.cell?_setCell_other _ _ _ _ (by simp)]
      refine ⟨q.1.trans ?_, q.2⟩
      have hj2 : j < r.length := by omega
      simp [ldI, hj2]
theorem clone_rd (L : List Nat) (a : Option Addr) (cv : Nat) (w : World) {H : Nat} (hR : RdI w H a (ldI L)) (hl : L.length ≤ 1000) :
    Calls Try.prog 39 #[.slice a L.length cv] w fun e w' => ∃ a1 c1, e = .returned (.slice a1 L.length c1) ∧ PRow w' w.heap.size a1 L.length c1 L ∧ Below w.heap.size w w' := by
  cases L with
  | nil =>
    cases a with
    | none =>
      refine (Try.slices_Clone_int_nil 0 cv w).mono ?_
      rintro e w' ⟨rfl, rfl⟩
      exact ⟨none, 0, rfl, ⟨rfl, Nat.le_refl _, .inl rfl⟩, Below.refl _ _⟩
    | some ad =>
      refine (Try.slices_Clone_int_zero ad cv w).mono ?_
      rintro e w' ⟨v', rfl, ho, _, hb⟩
      obtain ⟨a1, c1, rfl⟩ := own_formN ho
      exact ⟨a1, c1, rfl, PRow.of_own (M := []) ho, hb⟩
  | cons x r =>
    obtain ⟨b, off, rfl, _, _⟩ := hR 0 (by rw [ldI_len]; simp)
    refine (Try.slices_Clone_int b off (x :: r).length cv (ldI (x :: r)) w (by rw [ldI_len]; exact Nat.le_refl _) (by omega) (rd_cellsP hR)).mono ?_
    rintro e w' ⟨v', rfl, ho, _, hb⟩
    obtain ⟨a1, c1, rfl⟩ := own_formN ho
    rw [List.take_of_length_le (by rw [ldI_len]; exact Nat.le_refl _)] at ho
    exact ⟨a1, c1, rfl, PRow.of_own ho, hb⟩
theorem PRow.rd {w : World} {B n c : Nat} {a : Option Addr} {M : List Nat} (h : PRow w B a n c M) : RdI w w.heap.size a (ldI M) := fun j hj => by
  have hc := h
  obtain ⟨hl, h1, h0 | ⟨g, off, rfl, hB, hg, hH⟩⟩ := h
  · rw [ldI_len] at hj; omega
  · rw [ldI_len] at hj
    refine ⟨g, off, rfl, hg, ?_⟩
    rw [(hc.cell j (by omega)).1, ldI_get M j hj]
    simp [List.getElem?_eq_getElem hj]

set_option maxRecDepth 100000 in
set_option maxHeartbeats 3200000 in
theorem implJoinCost_any (l : List Int) (a : Option Addr) (cv : Nat) (w : World) {H : Nat} (hR : Hid (RdI w H a l)) (hl : l.length ≤ 1048576) :
    Calls Try.prog 17 #[.slice a l.length cv] w fun e w' => e = .returned (.int .i64 (jcI l)) ∧ Below w.heap.size w w' := by
  have CV := Lib.hid (implValidLoads_rd l a cv w hR hl)
  cases hw : loadB l
  · rw [hw] at CV
    have E := Lib.hid (show jcI l = -1 by rw [jcI, hw]; rfl)
    clear hw
    go_enter Try.func17, Try.ntmps17
    go_wp2_with fail
    refine CV.out.mono ?_
    rintro e w1 ⟨rfl, rfl⟩
    go_wp2
    go_ret
    exact ⟨by rw [E.out]; rfl, Below.refl _ _⟩
  · rw [hw] at CV
    obtain ⟨L, rfl, eL, h7, h20⟩ := loadB_nats hw
    have E := Lib.hid (show jcI (ldI L) = (joinC L : Int) by rw [jcI, hw, natsL_ldI]; rfl)
    have JM := joinC_most L.length L (Nat.le_refl _)
    have SB := sum_bd h20
    have J0 : Hid (joinC L ≤ 980) := Nat.le_trans JM (by
      have : L.length * L.sum ≤ 7 * (20 * 7) := Nat.mul_le_mul h7 (Nat.le_trans SB (Nat.mul_le_mul_left _ h7))
      omega)
    have CC := clone_rd L a cv w hR.out (by omega)
    rw [← ldI_len L] at CC
    have CC := Lib.hid CC
    have H7 := Lib.hid h7
    clear hw eL JM SB
    go_enter Try.func17, Try.ntmps17
    go_wp2_with fail
    refine CV.out.mono ?_
    rintro e w1 ⟨rfl, rfl⟩
    clear CV
    go_wp2_with fail
    refine CC.out.mono ?_
    rintro e w1 ⟨a1, c1, rfl, P1, b1⟩
    clear CC
    go_wp2
    obtain ⟨B, hB⟩ : ∃ B, B = w.heap.size := ⟨_, rfl⟩
    rw [← hB] at P1 b1
    have HB := Lib.hid hB
    have PP := Lib.hid P1
    have BB := Lib.hid b1
    clear hB P1 b1
    go_loopw [3, 4, 5] (fun cost list _ wr => ∃ (M : List Nat) (a : Option Addr) (n c t : Nat), list = .slice a n c ∧ cost = .int .i64 (t : Int) ∧ Hid (n ≤ 7 ∧ t + joinC M = joinC L) ∧ Hid (PRow wr B a n c M) ∧ Hid (Below B w wr)) (fun _ list _ _ => lenJ list)
    case atStart => exact ⟨L, a1, _, c1, 0, rfl, rfl, ⟨by rw [ldI_len]; exact H7.out, Nat.zero_add _⟩, by rw [ldI_len] at PP ⊢; exact PP, BB⟩
    case round =>
      clear PP BB
      obtain ⟨M, am, n, c, t, rfl, rfl, HT, PM, BM⟩ := hrel
      have J9 := J0.out
      by_cases h2 : 1 < n
      · have b1 : (1 : Int) < (n : Int) := by omega
        have CS := Lib.hid (sort_p M am n c B wr PM.out (by omega) (by have := HT.out.1; omega))
        go_wp2_with fail
        refine CS.out.mono ?_
        rintro e w2 ⟨rfl, P2, b2⟩
        have PL := P2.1
        obtain ⟨x, y, r, hr⟩ : ∃ x y r, srtL M = x :: y :: r := by
          match srtL M, PL with
          | [], h => simp at h; omega
          | [_], h => simp at h; omega
          | x :: y :: r, _ => exact ⟨x, y, r, rfl⟩
        have JA := joinC_asc (by rw [← hr]; exact srtL_asc M : AscL (x :: y :: r))
        rw [← hr, joinC_srt] at JA
        rw [hr] at P2 PL
        obtain ⟨m, rfl⟩ : ∃ m, n = m + 1 := ⟨n - 1, by omega⟩
        obtain ⟨g, off, rfl⟩ : ∃ g off, am = some ⟨g, off, none⟩ := by
          obtain ⟨_, _, h0 | ⟨g, off, h, _⟩⟩ := P2
          · omega
          · exact ⟨g, off, h⟩
        have hnc := P2.2.1
        have P3 := P2.joined (z := x + y)
        have XY : ((x + y : Nat) : Int) = (x : Int) + (y : Int) := by omega
        rw [XY] at P3
        have R2 : RdI w2 w2.heap.size (some ⟨g, off, none⟩) (ldI [x, y]) := by
          have := (PRow.rd P2).take 2
          rw [ldI_take] at this
          exact this
        have bs : x + y ≤ 980 := by have := HT.out.2; omega
        have CT := Lib.hid (together_rd [x, y] (some ⟨g, off, none⟩) 2 c w2 (Lib.hid R2) rfl (by omega) (Lib.hid fun q hq => by
          simp only [List.mem_cons, List.not_mem_nil, or_false] at hq
          rcases hq with rfl | rfl <;> omega))
        have es : (([x, y].sum : Nat) : Int) = (x : Int) + (y : Int) := by simp
        rw [es] at CT
        have c1 := P2.cell 1 (by omega)
        have c1a : w2.cell? ⟨g, off + 1, none⟩ = some (.int .i64 (y : Int)) := c1.1
        have c1b := c1.2
        have eT : IntKind.i64.wrap ((t : Int) + ((x : Int) + (y : Int))) = (t : Int) + ((x : Int) + (y : Int)) := by
          have := HT.out.2
          rw [IntKind.wrap_i64]; omega
        have HJ : Hid (t + (x + y) + joinC ((x + y) :: r) = joinC L) := by have := HT.out.2; show _ = _; omega
        have P4 := Lib.hid P3.1
        have B4 : Hid (Below B w (w2.setCell ⟨g, off + 1, none⟩ (.int .i64 ((x : Int) + (y : Int))))) := BM.out.trans (b2.trans P3.2)
        have b3 : (2 : Int) ≤ (c : Int) := by omega
        have b4 : 2 ≤ c := by omega
        have b5 : (0 : Int) < (m : Int) := by omega
        have b6 : ¬ c = 1 := by omega
        have H6 : Hid (m ≤ 7 ∧ 0 < m) := ⟨by have := HT.out.1; omega, by omega⟩
        clear P3 c1 R2 PL hr JA P2 b2 PM BM CS HT XY bs es hnc
        go_wp2_with fail
        refine CT.out.mono ?_
        rintro e w3 ⟨rfl, rfl⟩
        go_wp2
        go_roundw
        case rel => exact ⟨(x + y) :: r, _, m, c - 1, t + (x + y), rfl, by go_num, ⟨H6.out.1, HJ.out⟩, P4, B4⟩
        case measure => simp [lenJ]
      · have b1 : ¬ (1 : Int) < (n : Int) := by omega
        have J : t = joinC L := by
          have := HT.out.2
          rw [joinC_small (by have := PM.out.1; omega)] at this; omega
        subst J
        go_wp2
        go_ret
        exact ⟨by rw [E.out]; rfl, by rw [← HB.out]; exact BM.out⟩
end Go.Proofs.Ytakpbnkncjddeaa
