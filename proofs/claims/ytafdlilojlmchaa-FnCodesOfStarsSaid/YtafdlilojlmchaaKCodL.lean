/-
  The walks of the laws of codes of rows and of stars, with the program's functions as premises.
-/
import Derived.Test.YtafdlilojlmchaaKCodF
import Derived.Test.YtafdlilojlmchaaZ9
import Derived.Test.YtafdlilojlmchaaZU
import Derived.Test.YtafdlilojlmchaaZWF
import Derived.Test.YtafdlilojlmchaaCRowsI
import Derived.Test.YtafdlilojlmchaaZE
import Derived.Test.YtafdlilojlmchaaCGridA
import Derived.Test.YtafdlilojlmchaaZSH
import Derived.Test.YtafdlilojlmchaaZPD
import Derived.Deep.RegionLaw
import Derived.Deep.RegionHeld3
namespace Go.Proofs.Ytafdlilojlmchaa
open Go.RowKit

/-- a function from codes to trees, by its answer -/
def CodeFn (f : FuncId) : Prop :=
  ∀ (n : Int) (code : List Int) (v : Value) (w : World) (B0 H0 : Nat), Hid (Own w B0 H0 3 v (iv code)) → H0 ≤ w.heap.size → code.length ≤ 1048576 → (Lit.int .i64 n).wf = true →
    Calls Try.prog f #[.int .i64 n, v] w (GridRet w.heap.size (treeOut n code) w)
/-- a function from trees to numbers in a row, by its answer -/
def TreesFn (f : FuncId) (val : Int → List (List Int) → List Int) : Prop :=
  ∀ (n : Int) (rows : List (List Int)) (v : Value) (RV : List Value) (w : World) (B0 H0 : Nat), Hid (Grid w B0 H0 v RV rows) → H0 ≤ w.heap.size → rows.length ≤ 1048576 → (∀ r ∈ rows, r.length ≤ 1048576) → (Lit.int .i64 n).wf = true →
    Calls Try.prog f #[.int .i64 n, v] w (IntsOut (val n rows) w)
theorem treeOut_two {n : Int} {l : List Int} (h : 2 ≤ (treeOut n l).length) : ∃ k : Nat, k < 5 ∧ n = ((k + 3 : Nat) : Int) ∧ (∀ x ∈ l, 0 ≤ x ∧ x ≤ n - 1) ∧ l.length = k + 1 := by
  have hc : codeB n l = true := by
    cases hh : codeB n l with
    | true => rfl
    | false => rw [treeOut, if_neg (by rw [hh]; decide)] at h; simp at h
  obtain ⟨h1, h2, h3⟩ := codeB_iff.1 hc
  by_cases h4 : 3 ≤ n
  · exact ⟨(n - 3).toNat, by omega, by omega, h1, by omega⟩
  · have hl : l = [] := List.eq_nil_of_length_eq_zero (by omega)
    subst hl
    rcases (show n = 1 ∨ n = 2 by omega) with rfl | rfl
    · exact absurd h (by decide +kernel)
    · exact absurd h (by decide +kernel)
def rowL (v : Nat) : List Nat := (List.range (v - 1)).map fun i => i + 1
theorem rowL_snoc {v : Nat} (h : 1 ≤ v) : rowL (v + 1) = rowL v ++ [v] := by
  unfold rowL
  obtain ⟨k, rfl⟩ : ∃ k, v = k + 1 := ⟨v - 1, by omega⟩
  rw [Nat.add_sub_cancel, Nat.add_sub_cancel, List.range_succ, List.map_append]; rfl
theorem rowL_len (v : Nat) : (rowL v).length = v - 1 := by simp [rowL]
theorem rowL_row (n : Nat) : iv (rowC n) = ints (rowL (n - 1)) := by
  unfold rowC rowL ints iv
  rw [List.map_map, List.map_map, Nat.sub_sub]; rfl
set_option maxHeartbeats 3200000 in
set_option maxRecDepth 100000 in
theorem fnCodesOfRows_law (HS : Hid (CodeFn 17)) (PM : TreeFn 22 (treeV pairsN)) (PW : TreeFn 11 (treeV waysN)) (PS : TreeFn 10 mapsOut) (PC : TreesFn 19 centsOut) (a : Option Addr) (len cap : Nat) (zs : List Int) (w : World) (hr0 : IsRow .u8 w a len cap zs) :
    Calls Try.prog 5 #[.slice a len cap] w fun e w' => e = .returned (.bool true) ∧ Below w.heap.size w w' := by
  have hr := Lib.hid hr0
  clear hr0
  obtain ⟨i0, hI0, hz0, hz1, hz2⟩ := info_parts Try.infoIntR
  by_cases hbig : (1048576 : Int) < (len : Int)
  · go_enter Try.func5, Try.ntmps5
    go_wp2
    go_ret
    exact ⟨rfl, Below.refl _ _⟩
  · go_enter Try.func5, Try.ntmps5
    go_wp2_with fail
    refine (drawTreeOf a len cap zs w hr (by omega)).mono ?_
    rintro e w1 ⟨n, l, v, rfl, o1, hn, hl, b1⟩
    have hwf : (Lit.int .i64 n).wf = true := wf_smallC n (by omega)
    have O1 := Lib.hid o1
    have B1 := Lib.hid b1
    have CT := Lib.hid (fun (v : Value) (w : World) (B0 H0 : Nat) (hv : Hid (Own w B0 H0 3 v (iv l))) hH => HS.out n l v w B0 H0 hv hH (by omega) hwf)
    have CS := Lib.hid (fun (v : Value) (w : World) (B0 H0 : Nat) (hv : Hid (Own w B0 H0 3 v (iv l))) hH => specTreeOf_any n l v w hv hH (by omega))
    obtain ⟨hrl, hrs⟩ := treeOut_le n l
    have HRS := Lib.hid hrs
    have HTW := Lib.hid (treeOut_two (n := n) (l := l))
    obtain ⟨rows, hle⟩ : ∃ rows, rows = treeOut n l := ⟨_, rfl⟩
    rw [← hle] at hrl HRS HTW
    simp only [← hle] at CT CS
    obtain ⟨av, cv, rfl, _, _, _, _⟩ := o1.slice
    have HLL : Hid ((iv l).length = l.length) := iv_length l
    obtain ⟨m, hm⟩ : ∃ m, m = (iv l).length := ⟨_, rfl⟩
    rw [← hm] at O1 HLL ⊢
    have s01 := b1.size
    clear o1 b1 hr hrs hle hm
    go_wp2_with fail
    refine (CT.out _ w1 _ _ O1 (Nat.le_refl _)).mono ?_
    rintro e w2 ⟨v2, RV2, rfl, g2, b2⟩
    have O2 := Lib.hid (O1.out.below b2)
    have B2 := Lib.hid (B1.out.trans (b2.mono s01))
    have G2 := Lib.hid g2.grid
    have s12 := b2.size
    clear b2 g2
    go_wp2_with fail
    refine (CS.out _ w2 _ _ O2 s12).mono ?_
    rintro e w3 ⟨v3, RV3, rfl, g3, b3⟩
    have O3 := Lib.hid (O2.out.below (b3.mono s12))
    have B3 := Lib.hid (B2.out.trans (b3.mono (by omega)))
    have G23 := Lib.hid (G2.out.below b3)
    have G3 := Lib.hid g3
    have s23 := b3.size
    clear b3 g3 O2 B2 G2
    go_wp2_with fail
    refine (equalRows_yes rows v2 v3 w3 G23 G3 (by omega) HRS.out).mono ?_
    rintro e w4 ⟨rfl, t4⟩
    have z4 : w4.heap.size = w3.heap.size := by rw [t4.1]
    have B4 := Lib.hid (B3.out.trans (t4.below _))
    have O4 := Lib.hid (O3.out.same t4.1)
    have s14 : w1.heap.size ≤ w4.heap.size := by omega
    clear t4 z4 G3 B3 O3 G23 s23
    go_wp2_with fail
    refine (CT.out _ w4 _ _ O4 s14).mono ?_
    rintro e w5 ⟨v5, RV5, rfl, g5, b5⟩
    have O5 := Lib.hid (O4.out.below (b5.mono s14))
    have B5 := Lib.hid (B4.out.trans (b5.mono (by omega)))
    have s15 : w1.heap.size ≤ w5.heap.size := by have := b5.size; omega
    obtain ⟨a5, c5, rfl, h5⟩ := g5.shape
    obtain ⟨k5, hk5⟩ : ∃ k5, k5 = rows.length := ⟨_, rfl⟩
    rw [← hk5] at HTW hrl ⊢
    clear b5 g5 B4 O4 CS CT hk5 h5 RV5
    by_cases h2 : k5 < 2
    · have q0 : (k5 : Int) < 2 := by omega
      clear HTW
      go_wp2
      go_ret
      exact ⟨rfl, B5.out⟩
    · have q0 : ¬ (k5 : Int) < 2 := by omega
      obtain ⟨k, hk, hnk, hmem, hlen⟩ := HTW.out (by omega)
      obtain ⟨N, hN⟩ : ∃ N : Nat, N = k + 3 := ⟨_, rfl⟩
      rw [← hN] at hnk
      subst hnk
      have HN := Lib.hid hN
      have W0 : Hid (w1.heap.size ≤ w5.heap.size ∧ w.heap.size ≤ w5.heap.size) := ⟨s15, by omega⟩
      have HM : Hid (m = k + 1) := by show _ = _; rw [HLL.out, hlen]
      have HWF := Lib.hid hwf
      clear HTW h2 hmem hlen HLL O5 O1 HRS hrl hwf hn hl hN
      obtain ⟨B, hB⟩ : ∃ B, B = w5.heap.size := ⟨_, rfl⟩
      have I0 : Hid (Ils w5 (w5.alloc (.cells #[] 3)) B w5.heap.size 0 0 (rowL 1)) := ⟨rfl, by rw [hB]; exact World.ownsRow_lit (base := w5.heap.size) (e := 3) (size := 1) w5 #[] 0 (Nat.le_refl _) (by unfold maxLen; omega) rfl, (Below.refl _ _).alloc (by omega) _⟩
      rw [← hB] at I0
      have SB : Hid (B = w5.heap.size) := hB
      go_wp2_with fail
      rw [← hB]
      clear hB
      go_loopw [5, 6] (fun rr ii wr => ∃ (i g c : Nat), i ≤ k + 1 ∧ ii = .int .i64 ((i + 1 : Nat) : Int) ∧ rr = .slice (some ⟨g, 0, none⟩) i c ∧ Hid (Ils w5 wr B g i c (rowL (i + 1)))) (fun _ ii _ => k + 2 - (intOf ii).toNat)
      case atStart => exact ⟨0, B, 0, Nat.zero_le _, rfl, rfl, I0⟩
      case round =>
        clear I0
        obtain ⟨i, g, c, hi, rfl, rfl, HI⟩ := hrel
        have SI : Hid (B ≤ wr.heap.size) := by have := HI.out.below.size; show B ≤ _; rw [SB.out]; exact this
        have hN3 := HN.out
        have e0 : IntKind.i64.wrap ((N : Int) - 1) = ((k + 2 : Nat) : Int) := by rw [IntKind.wrap_i64]; omega
        clear hN3
        by_cases hlt : i < k + 1
        · have b1 : ((i + 1 : Nat) : Int) < ((k + 2 : Nat) : Int) := by omega
          have y1 : i + 1 ≤ maxLen := by unfold maxLen; omega
          have y2 : (i + 1) * 8 ≤ 140737488355328 := by omega
          have OW := Lib.hid (HI.out.own.alloc (.cells #[.int .i64 ((i + 1 : Nat) : Int)] 3))
          have Y3 := Lib.hid (show B ≤ (wr.alloc (.cells #[.int .i64 ((i + 1 : Nat) : Int)] 3)).heap.size by have := SI.out; rw [World.size_alloc]; omega)
          have RS : Hid (rowL (i + 1 + 1) = rowL (i + 1) ++ [i + 1]) := rowL_snoc (by omega)
          go_wp2_with (at_builtin; refine wpList_append_lies _ rfl _ _ 30 rfl B 3 i0 (.int .i64 0) 1 8 Try.underlying30 hI0 hz0 hz1 hz2 rfl (Nat.succ_pos 0) (.slice (some ⟨g, 0, none⟩) i c) i (ints (rowL (i + 1))) rfl OW.out ⟨wr.heap.size, 0, none⟩ 1 1 [.int .i64 ((i + 1 : Nat) : Int)] rfl rfl (cell_one_new _ _ _) (one_intR _) (Nat.succ_pos 0) y1 y2 Y3.out _ rfl ?_)
          intro g7 c7 w7 hv7 hg7 _ _
          have I7 := HI.out.app SI.out hv7 hg7
          rw [← RS.out] at I7
          have I7 := Lib.hid I7
          clear hv7 hg7 OW Y3 HI SI RS
          go_wp2
          go_roundw
          case rel => exact ⟨i + 1, g7, c7, by omega, by go_num, rfl, I7⟩
          case measure => simp [intOf]; omega
        · obtain rfl : i = k + 1 := by omega
          have hWF := HWF.out
          have hle := treeOut_le ((k + 3 : Nat) : Int) (rowC (k + 3))
          obtain ⟨f1, f2, f3⟩ := rowC_tree k hk
          have f4 := rowC_ways k hk
          obtain ⟨R, hR⟩ : ∃ R, R = rowsC k := ⟨_, rfl⟩
          have hR2 : R = treeOut ((k + 3 : Nat) : Int) (rowC (k + 3)) := hR
          rw [← hR2] at hle
          rw [← hR] at f1 f2 f3 f4
          have hk2 : k = N - 3 := by have := HN.out; omega
          have hN3 : k + 3 = N := HN.out.symm
          rw [hN3] at hR2 f1 f2 f3 f4
          have OR : Hid (Own wr B wr.heap.size 3 (.slice (some ⟨g, 0, none⟩) (k + 1) c) (iv (rowC N))) := by
            refine Own.of_own ?_
            rw [← hN3, rowL_row, show (ints (rowL (k + 3 - 1))).length = k + 1 by simp [ints, rowL]]
            exact HI.out.own
          have CR := Lib.hid (HS.out (N : Int) (rowC N) _ wr _ _ OR (Nat.le_refl _) (by simp [rowC]; omega) hWF)
          rw [← hR2] at CR
          have CP := PM.at_ (n := (N : Int)) (rows := R) (Nat.le_trans hle.1 (by decide)) hle.2 hWF
          have CW := PW.at_ (n := (N : Int)) (rows := R) (Nat.le_trans hle.1 (by decide)) hle.2 hWF
          have CM := PS.at_ (n := (N : Int)) (rows := R) (Nat.le_trans hle.1 (by decide)) hle.2 hWF
          have CC := Lib.hid (fun (v : Value) (RV : List Value) (w : World) (B0 H0 : Nat) (hG : Hid (Grid w B0 H0 v RV R)) hH => PC (N : Int) R v RV w B0 H0 hG hH (Nat.le_trans hle.1 (by decide)) hle.2 hWF)
          rw [f1] at CP
          rw [f4] at CW
          rw [f2] at CM
          obtain ⟨p, hp⟩ : ∃ p, p = N / 2 := ⟨_, rfl⟩
          obtain ⟨q, hq⟩ : ∃ q, q = (N * N * N - N) / 6 := ⟨_, rfl⟩
          obtain ⟨L, hL⟩ : ∃ L, L = centsOut (N : Int) R := ⟨_, rfl⟩
          rw [← hp] at CP
          rw [← hq] at CW
          rw [← hL] at f3
          simp only [← hL] at CC
          have h37 : N = 3 ∨ N = 4 ∨ N = 5 ∨ N = 6 ∨ N = 7 := by omega
          obtain ⟨s2, hs2⟩ : ∃ s, s = N * N := ⟨_, rfl⟩
          obtain ⟨s3, hs3⟩ : ∃ s, s = N * N * N := ⟨_, rfl⟩
          obtain ⟨s4, hs4⟩ : ∃ s, s = N * N * N - N := ⟨_, rfl⟩
          have e1 : IntKind.i64.wrap ((N : Int) / 2) = (p : Int) := by rcases h37 with h | h | h | h | h <;> (rw [hp, h]; decide)
          have e2 : IntKind.i64.wrap ((N : Int) * (N : Int)) = (s2 : Int) := by rcases h37 with h | h | h | h | h <;> (rw [hs2, h]; decide)
          have e3 : IntKind.i64.wrap ((s2 : Int) * (N : Int)) = (s3 : Int) := by rcases h37 with h | h | h | h | h <;> (rw [hs2, hs3, h]; decide)
          have e4 : IntKind.i64.wrap ((s3 : Int) - (N : Int)) = (s4 : Int) := by rcases h37 with h | h | h | h | h <;> (rw [hs3, hs4, h]; decide)
          have e5 : IntKind.i64.wrap ((s4 : Int) / 6) = (q : Int) := by rcases h37 with h | h | h | h | h <;> (rw [hs4, hq, h]; decide)
          have e6 : IntKind.i64.wrap (2 - (N : Int) % 2) = (L.length : Int) := by rcases h37 with h | h | h | h | h <;> (rw [f3, h]; decide)
          clear h37 hs2 hs3 hs4 f3
          have BW : Hid (Below w.heap.size w wr) := B5.out.trans (HI.out.below.mono (by have := W0.out.2; show w.heap.size ≤ B; rw [SB.out]; exact this))
          have SW : Hid (w.heap.size ≤ wr.heap.size) := by have := W0.out.2; have := SI.out; have := SB.out; show _ ≤ _; omega
          clear HI SI SB OR f1 f2 f4 hle hR hR2 hk2 hN3 hk HN HM HWF hWF hp hq hL B5 W0 HS PM PW PS PC
          go_wp2_with fail
          refine CR.out.mono ?_
          rintro e w6 ⟨v6, RV6, rfl, g6, b6⟩
          have G6 := Lib.hid g6.grid
          have B6 := Lib.hid (BW.out.trans (b6.mono SW.out))
          have S6 : Hid (w.heap.size ≤ w6.heap.size) := Nat.le_trans SW.out b6.size
          clear g6 b6 CR BW SW
          go_wp2_with fail
          refine (CP.out _ RV6 w6 _ _ G6 (Nat.le_refl _)).mono ?_
          rintro e w7 ⟨rfl, b7⟩
          have G7 := Lib.hid (G6.out.below b7)
          have B7 := Lib.hid (B6.out.trans (b7.mono S6.out))
          have S67 := Lib.hid b7.size
          clear b7 CP B6
          go_wp2_with fail
          refine (CW.out _ RV6 w7 _ _ G7 S67.out).mono ?_
          rintro e w8 ⟨rfl, b8⟩
          have G8 := Lib.hid (G7.out.below (b8.mono S67.out))
          have B8 := Lib.hid (B7.out.trans (b8.mono (Nat.le_trans S6.out S67.out)))
          have S68 := Lib.hid (Nat.le_trans S67.out b8.size)
          clear b8 CW B7 G7 S67
          go_wp2_with fail
          refine (CM.out _ RV6 w8 _ _ G8 S68.out).mono ?_
          rintro e w9 ⟨rfl, b9⟩
          have G9 := Lib.hid (G8.out.below (b9.mono S68.out))
          have B9 := Lib.hid (B8.out.trans (b9.mono (Nat.le_trans S6.out S68.out)))
          have S69 := Lib.hid (Nat.le_trans S68.out b9.size)
          clear b9 CM B8 G8 S68
          go_wp2_with fail
          refine (CC.out _ RV6 w9 _ _ G9 S69.out).mono ?_
          rintro e w10 ⟨v10, rfl, o10, b10⟩
          have B10 := Lib.hid (B9.out.trans (b10.mono (Nat.le_trans S6.out S69.out)))
          have hL10 := iv_length L
          obtain ⟨a10, c10, rfl, _, _, _, _⟩ := o10.slice
          rw [hL10]
          clear b10 CC B9 G9 S69 o10 hL10
          go_wp2
          go_ret
          exact ⟨rfl, B10.out⟩
end Go.Proofs.Ytafdlilojlmchaa
