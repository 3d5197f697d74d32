/-
  The draw of two trees that may have the same shape.
-/
import Derived.Test.YtafdlilojlmchaaKSamL
import Derived.Test.YtafdlilojlmchaaZAS
import Derived.Test.YtafdlilojlmchaaZHP
import Derived.Test.YtafdlilojlmchaaCSortE
import Derived.Test.YtafdlilojlmchaaZU
import Derived.Deep.RegionLaw
import Derived.Deep.RegionHeld3
import Derived.Deep.AppendLies
namespace Go.Proofs.Ytafdlilojlmchaa
open Go.RowKit

theorem keep_row {w w2 : World} {o : Obj} {B n : Nat} {t : TypeId} {v : Value} {xs : List Value} {r : Option Nat} (h : w.ownsRow B t 1 v n xs) (hg : (w.alloc o).grownBy w2 r) (hne : ∀ q, v.ownBlock = some q → r ≠ some q) : w2.ownsRow B t 1 v n xs :=
  own_of_blocks h fun q hq => by
    have h1 := (h.lt q hq).2
    rw [hg.block q (by rw [World.size_alloc]; omega) (fun e => hne q hq e.symm)]
    exact Below.heap_alloc _ _ _ h1
theorem keep_own {w w2 : World} {o : Obj} {B H : Nat} {t : TypeId} {v : Value} {xs : List Value} {r : Option Nat} (h : Own w B H t v xs) (hg : (w.alloc o).grownBy w2 r) (hne : ∀ q, v.ownBlock = some q → r ≠ some q) : Own w2 B H t v xs :=
  ⟨keep_row h.1 hg hne, h.2⟩
theorem grid_lo {w : World} {B B1 H : Nat} {v : Value} {RV : List Value} {rows : List (List Int)} (h : Grid w B1 H v RV rows) (hB : B ≤ B1) : Grid w B H v RV rows :=
  ⟨own_lo h.1 hB, h.2.1, fun i v r a b => own_lo (h.2.2 i v r a b) hB⟩
theorem gridA_lit2 {w : World} {B : Nat} (hB : B ≤ w.heap.size) : GridA (w.alloc (.cells #[] 30)) B (.slice (some ⟨w.heap.size, 0, none⟩) 0 0) [] [] := by
  refine ⟨⟨Own.of_own ?_, RowsI.nil⟩, fun i j u v _ h => by simp at h⟩
  exact World.ownsRow_lit (base := B) (e := 30) (size := 1) w #[] 0 hB (by unfold maxLen; omega) rfl
theorem tr_facts {N : Nat} {c : List Nat} (h1 : 1 ≤ N) (hN : N ≤ 7) (hl : c.length = N - 2) (hc : ∀ x ∈ c, x < N) : (treeN N c).length ≤ 6 ∧ ∀ e ∈ treeN N c, e.1 ≠ e.2 ∧ e.1 < N ∧ e.2 < N := by
  by_cases h2 : 2 ≤ N
  · have hv := (code_tree (n := N) (c := c) (by omega) hc).1
    have := hv.len
    exact ⟨by omega, fun e he => by have := hv.ord e he; omega⟩
  · obtain rfl : N = 1 := by omega
    obtain rfl : c = [] := List.eq_nil_of_length_eq_zero (by omega)
    have e : treeN 1 [] = [] := by decide
    rw [e]
    exact ⟨by decide, fun e he => by simp at he⟩
set_option maxHeartbeats 6400000 in
set_option maxRecDepth 100000 in
theorem drawSameShape (a : Option Addr) (len cap : Nat) (zs : List Int) (w0 : World) (hr : Hid (IsRow .u8 w0 a len cap zs)) (hl : len ≤ 1048576) :
    Calls Try.prog 6 #[.slice a len cap] w0 (TwoDrawn w0.heap.size w0) := by
  obtain ⟨i0, hi, hz0, hz1, hz2⟩ := info_parts Try.infoIntR
  go_enter Try.func6, Try.ntmps6
  go_wp2_with fail
  refine (newReader_any a len cap zs w0 hr.out hl).mono ?_
  rintro e w ⟨n, R, rfl, h, hb0⟩
  have hlow := h.low
  have hRlt := h.lt
  obtain ⟨B, hB⟩ : ∃ B, B = w0.heap.size := ⟨_, rfl⟩
  have HBB := Lib.hid hB
  have HB0 := Lib.hid hb0
  rw [← hB] at h hlow HB0
  clear hB hb0 hr
  have l9 := lit_own w #[.int .i64 5, .int .i64 4, .int .i64 6, .int .i64 3, .int .i64 7, .int .i64 2, .int .i64 1] 3 (by decide)
  have L9 : Hid (Own (w.alloc (.cells #[.int .i64 5, .int .i64 4, .int .i64 6, .int .i64 3, .int .i64 7, .int .i64 2, .int .i64 1] 3)) w.heap.size (w.heap.size + 1) 3 (.slice (some ⟨w.heap.size, 0, none⟩) 7 7) (iv [5, 4, 6, 3, 7, 2, 1])) := l9
  have hbW : Below w.heap.size w (w.alloc (.cells #[.int .i64 5, .int .i64 4, .int .i64 6, .int .i64 3, .int .i64 7, .int .i64 2, .int .i64 1] 3)) := (Below.refl _ _).alloc (Nat.le_refl _) _
  have R1 := Lib.hid (h.grow hbW)
  have B1 := Lib.hid (HB0.out.trans (hbW.mono (by omega)))
  have NE := Lib.hid (rd_ne l9 R1.out (by decide))
  have OA := Lib.hid (one_any [5, 4, 6, 3, 7, 2, 1] _ B R a n cap 0 _ R1 (by omega) L9 NE.out (by decide) (by decide))
  clear l9 hbW h HB0
  go_wp2_with fail
  refine OA.out.mono ?_
  rintro e w2 ⟨y, hy, rfl, hrd, honly⟩
  obtain ⟨N, rfl, hN1, hN7⟩ : ∃ N : Nat, y = N ∧ 1 ≤ N ∧ N ≤ 7 := by
    simp only [List.mem_cons, List.not_mem_nil, or_false] at hy
    exact ⟨y.toNat, by omega, by omega, by omega⟩
  have R2 := Lib.hid hrd
  have B2 := Lib.hid (B1.out.trans (honly.below hlow))
  have hR2 := hrd.lt
  have hbA : Below w2.heap.size w2 ((w2.alloc (.cells #[] 3)).alloc (.cells #[] 3)) := ((Below.refl _ _).alloc (Nat.le_refl _) _).alloc (by simp) _
  have oa : ((w2.alloc (.cells #[] 3)).alloc (.cells #[] 3)).ownsRow w2.heap.size 3 1 (.slice (some ⟨w2.heap.size, 0, none⟩) 0 0) 0 (ints []) :=
    (World.ownsRow_lit (base := w2.heap.size) (e := 3) (size := 1) w2 #[] 0 (Nat.le_refl _) (by decide) rfl).alloc _
  have ob : ((w2.alloc (.cells #[] 3)).alloc (.cells #[] 3)).ownsRow w2.heap.size 3 1 (.slice (some ⟨w2.heap.size + 1, 0, none⟩) 0 0) 0 (ints []) := by
    have := World.ownsRow_lit (base := w2.heap.size) (e := 3) (size := 1) (w2.alloc (.cells #[] 3)) #[] 0 (by simp) (by decide) rfl
    rwa [World.size_alloc] at this
  have R3 := Lib.hid (R2.out.grow hbA)
  have B3 := Lib.hid (B2.out.trans (hbA.mono (by omega)))
  have s3 : ((w2.alloc (.cells #[] 3)).alloc (.cells #[] 3)).heap.size = w2.heap.size + 2 := by simp
  obtain ⟨w3, hw3⟩ : ∃ w3, w3 = (w2.alloc (.cells #[] 3)).alloc (.cells #[] 3) := ⟨_, rfl⟩
  rw [← hw3] at oa ob R3 B3 s3
  have CR := Lib.hid (rowOfR_any B R a n cap (0 + 1) N w3 R3 (by omega) (by omega))
  have OAH := Lib.hid oa
  have OBH := Lib.hid ob
  have S3 := Lib.hid s3
  have W3 := Lib.hid hw3
  clear hy hrd honly OA NE L9 R1 B1 R2 hbA oa ob s3 hw3
  obtain ⟨HA, hHA⟩ : ∃ HA, HA = w2.heap.size := ⟨_, rfl⟩
  rw [← hHA] at OAH OBH S3 hR2
  have HHA := Lib.hid hHA
  clear hHA
  go_wp2_with (rw [← W3.out])
  refine CR.out.mono ?_
  rintro e w4 ⟨v, l, p4, rfl, o4, hl4, hrd, hp4, hbf⟩
  obtain ⟨am, cm4, rfl, _, hcm, _, _⟩ := o4.slice
  rw [iv_length, hl4] at o4 hcm ⊢
  have s3 := S3.out
  have hs4 := hbf.below.size
  have A4 : Hid (w4.ownsRow HA 3 1 (.slice (some ⟨HA, 0, none⟩) 0 0) 0 (ints [])) := own_of_blocks OAH.out fun q hq => by
    simp only [Value.ownBlock, Option.some.injEq] at hq
    exact hbf.fr q (by omega) (by omega)
  have C4 : Hid (w4.ownsRow HA 3 1 (.slice (some ⟨HA + 1, 0, none⟩) 0 0) 0 (ints [])) := own_of_blocks OBH.out fun q hq => by
    simp only [Value.ownBlock, Option.some.injEq] at hq
    exact hbf.fr q (by omega) (by omega)
  have M4 : Hid (Own w4 w3.heap.size w4.heap.size 3 (.slice am N cm4) (iv l)) := o4
  have R4 := Lib.hid hrd
  have B4 := Lib.hid (B3.out.trans hbf.below)
  obtain ⟨HM, hHM⟩ : ∃ HM, HM = w3.heap.size := ⟨_, rfl⟩
  obtain ⟨HE, hHE⟩ : ∃ HE, HE = w4.heap.size := ⟨_, rfl⟩
  have hME : HM ≤ HE := by omega
  have hAM : HA + 2 = HM := by omega
  have HHE := Lib.hid hHE
  rw [← hHM] at M4
  have M4b : Hid (Own w4 HM HE 3 (.slice am N cm4) (iv l)) := by show Own _ _ _ _ _ _; rw [hHE]; exact M4.out
  have LL := Lib.hid hl4
  have hRA : R < HA := hR2
  have hBA : B ≤ HA := by omega
  rw [← HHA.out]
  clear o4 hl4 hrd hbf OAH OBH S3 s3 hs4 CR M4 hHM hHE B3 R3 W3 B2 hR2
  have ewN : IntKind.i64.wrap ((N : Int) - 2) = (N : Int) - 2 := by rw [IntKind.wrap_i64]; omega
  have hp46 : p4 ≤ 13 := by omega
  go_wp2_with fail
  go_loopw [7, 8] (fun va vb wr => ∃ (la lb : List Nat) (k ga ca gb cb p : Nat), va = .slice (some ⟨ga, 0, none⟩) k ca ∧ vb = .slice (some ⟨gb, 0, none⟩) k cb ∧ k ≤ N - 2 ∧ ga ≠ gb ∧ (ga < HM ∨ HE ≤ ga) ∧ (gb < HM ∨ HE ≤ gb) ∧ p ≤ 13 + 2 * k ∧ Hid (la.length = k) ∧ Hid (lb.length = k) ∧ Hid (∀ x ∈ la, x < N) ∧ Hid (∀ x ∈ lb, x < N) ∧ Hid (wr.ownsRow HA 3 1 (.slice (some ⟨ga, 0, none⟩) k ca) k (ints la)) ∧ Hid (wr.ownsRow HA 3 1 (.slice (some ⟨gb, 0, none⟩) k cb) k (ints lb)) ∧ Hid (Own wr HM HE 3 (.slice am N cm4) (iv l)) ∧ Hid (HE ≤ wr.heap.size) ∧ Hid (Rd wr B R a n cap p) ∧ Hid (Below B w0 wr)) (fun v _ _ => N - 2 - lenOfD v)
  case atStart => exact ⟨[], [], 0, HA, 0, HA + 1, 0, p4, rfl, rfl, Nat.zero_le _, by omega, by omega, by omega, by omega, rfl, rfl, fun x h => by simp at h, fun x h => by simp at h, A4, C4, M4b, (by show HE ≤ _; rw [HHE.out]; exact Nat.le_refl _), R4, B4⟩
  case round =>
    clear A4 C4 M4b R4 B4 HHE
    obtain ⟨la, lb, k, ga, ca, gb, cb, p, rfl, rfl, hk, hne, hga, hgb, hp, KA, KB, XA, XB, OA, OB, OM, SE, HR, HB⟩ := hrel
    by_cases hlt : k < N - 2
    · have i1 : (k : Int) < (N : Int) - 2 := by omega
      go_wp2_with fail
      refine (pick_any B R a n cap p _ _ HR.out (by omega) (by omega) (by omega)).mono ?_
      rintro e w7 ⟨x, rfl, hx, _, hrd, honly⟩
      have N7a := Lib.hid (own_onlyD OA.out honly hRA)
      have N7b := Lib.hid (own_onlyD OB.out honly hRA)
      have M7 : Hid (Own w7 HM HE 3 (.slice am N cm4) (iv l)) := ⟨own_onlyD OM.out.1 honly (by omega), OM.out.2⟩
      have R7 := Lib.hid hrd
      have B7 := Lib.hid (HB.out.trans (honly.below hlow))
      have s7 : HE ≤ w7.heap.size := by have := SE.out; rw [honly.size]; exact this
      have y1 : k + 1 ≤ maxLen := by unfold maxLen; omega
      have y2 : (k + 1) * 8 ≤ 140737488355328 := by omega
      have Y3 := Lib.hid (show ∀ o : Obj, HA ≤ (w7.alloc o).heap.size by intro o; simp; omega)
      have HX1 := Lib.hid hx
      clear hx hrd honly OA OB OM SE HR HB
      go_wp2_with (at_builtin; refine wpList_append_lies _ rfl _ _ 30 rfl HA 3 i0 (.int .i64 0) 1 8 Try.underlying30 hi hz0 hz1 hz2 rfl (Nat.succ_pos 0) (.slice (some ⟨ga, 0, none⟩) k ca) k (ints la) rfl (N7a.out.alloc _) ⟨w7.heap.size, 0, none⟩ 1 1 [_] rfl rfl (cell_one_new _ _ _) (one_intR _) (Nat.succ_pos 0) y1 y2 (Y3.out _) _ rfl ?_)
      intro g8 c8 w8 hv8 hg8 hat8 _
      have hb8 : Below HA w7 w8 := ((Below.refl _ _).alloc (by omega) _).grown hg8 (Y3.out _) (fun q hq => (N7a.out.lt q hq).1)
      have hbk : ga < w7.heap.size ∧ gb < w7.heap.size := ⟨(N7a.out.lt ga rfl).2, (N7b.out.lt gb rfl).2⟩
      have h8 : g8 = ga ∨ w7.heap.size < g8 := by
        rcases hat8 with e | e
        · simp only [Value.ownBlock, Option.some.injEq] at e; exact .inl e.symm
        · omega
      have N8b := Lib.hid (keep_row N7b.out hg8 fun q hq e => by
        simp only [Value.ownBlock, Option.some.injEq] at hq e; omega)
      have M8 := Lib.hid (keep_own M7.out hg8 fun q hq e => by
        have h1 := (M7.out.1.lt q hq).1
        have h2 := M7.out.2 q hq
        simp only [Value.ownBlock, Option.some.injEq] at e; omega)
      have R8 := Lib.hid (R7.out.below hb8 hRA)
      have B8 := Lib.hid (B7.out.trans (hb8.mono hBA))
      have s8 : HE ≤ w8.heap.size := by have := hb8.size; omega
      have hv8' : w8.ownsRow HA 3 1 (.slice (some ⟨g8, 0, none⟩) (k + 1) c8) (k + 1) (ints (la ++ [x])) := by
        rw [← ints_snoc]; exact hv8
      have N8a := Lib.hid hv8'
      have hg8' : g8 < HM ∨ HE ≤ g8 := by omega
      have hne8 : g8 ≠ gb := by omega
      clear hv8 hv8' hg8 hat8 hb8 hbk h8 N7a N7b M7 R7 B7 Y3 s7
      go_wp2_with fail
      refine (pick_any B R a n cap (p + 1) _ _ R8.out (by omega) (by omega) (by omega)).mono ?_
      rintro e w9 ⟨x2, rfl, hx2, _, hrd, honly⟩
      have N9a := Lib.hid (own_onlyD N8a.out honly hRA)
      have N9b := Lib.hid (own_onlyD N8b.out honly hRA)
      have M9 : Hid (Own w9 HM HE 3 (.slice am N cm4) (iv l)) := ⟨own_onlyD M8.out.1 honly (by omega), M8.out.2⟩
      have R9 := Lib.hid hrd
      have B9 := Lib.hid (B8.out.trans (honly.below hlow))
      have s9 : HE ≤ w9.heap.size := by rw [honly.size]; exact s8
      have Y9 := Lib.hid (show ∀ o : Obj, HA ≤ (w9.alloc o).heap.size by intro o; simp; omega)
      have HX2 := Lib.hid hx2
      clear hx2 hrd honly N8a N8b M8 R8 B8 s8
      go_wp2_with (at_builtin; refine wpList_append_lies _ rfl _ _ 30 rfl HA 3 i0 (.int .i64 0) 1 8 Try.underlying30 hi hz0 hz1 hz2 rfl (Nat.succ_pos 0) (.slice (some ⟨gb, 0, none⟩) k cb) k (ints lb) rfl (N9b.out.alloc _) ⟨w9.heap.size, 0, none⟩ 1 1 [_] rfl rfl (cell_one_new _ _ _) (one_intR _) (Nat.succ_pos 0) y1 y2 (Y9.out _) _ rfl ?_)
      intro g10 c10 w10 hv10 hg10 hat10 _
      have hb10 : Below HA w9 w10 := ((Below.refl _ _).alloc (by omega) _).grown hg10 (Y9.out _) (fun q hq => (N9b.out.lt q hq).1)
      have hbk : g8 < w9.heap.size ∧ gb < w9.heap.size := ⟨(N9a.out.lt g8 rfl).2, (N9b.out.lt gb rfl).2⟩
      have h10 : g10 = gb ∨ w9.heap.size < g10 := by
        rcases hat10 with e | e
        · simp only [Value.ownBlock, Option.some.injEq] at e; exact .inl e.symm
        · omega
      have N10a := Lib.hid (keep_row N9a.out hg10 fun q hq e => by
        simp only [Value.ownBlock, Option.some.injEq] at hq e; omega)
      have M10 := Lib.hid (keep_own M9.out hg10 fun q hq e => by
        have h1 := (M9.out.1.lt q hq).1
        have h2 := M9.out.2 q hq
        simp only [Value.ownBlock, Option.some.injEq] at e; omega)
      have R10 := Lib.hid (R9.out.below hb10 hRA)
      have B10 := Lib.hid (B9.out.trans (hb10.mono hBA))
      have S10 : Hid (HE ≤ w10.heap.size) := by have := hb10.size; show HE ≤ _; omega
      have hv10' : w10.ownsRow HA 3 1 (.slice (some ⟨g10, 0, none⟩) (k + 1) c10) (k + 1) (ints (lb ++ [x2])) := by
        rw [← ints_snoc]; exact hv10
      have N10b := Lib.hid hv10'
      have hg10' : g10 < HM ∨ HE ≤ g10 := by omega
      have hne10 : g8 ≠ g10 := by omega
      have KA2 : Hid ((la ++ [x]).length = k + 1) := by show _ = _; rw [List.length_append, KA.out]; rfl
      have KB2 : Hid ((lb ++ [x2]).length = k + 1) := by show _ = _; rw [List.length_append, KB.out]; rfl
      have XA2 : Hid (∀ z ∈ la ++ [x], z < N) := fun z hz => by
        rcases List.mem_append.1 hz with q | q
        · exact XA.out z q
        · rw [List.mem_singleton.1 q]; have := HX1.out; omega
      have XB2 : Hid (∀ z ∈ lb ++ [x2], z < N) := fun z hz => by
        rcases List.mem_append.1 hz with q | q
        · exact XB.out z q
        · rw [List.mem_singleton.1 q]; have := HX2.out; omega
      clear hv10 hv10' hg10 hat10 hb10 hbk h10 N9a N9b M9 R9 B9 Y9 s9 KA KB XA XB HX1 HX2
      go_wp2
      go_roundw
      case rel => exact ⟨la ++ [x], lb ++ [x2], k + 1, g8, c8, g10, c10, p + 1 + 1, rfl, rfl, by omega, hne10, hg8', hg10', by omega, KA2, KB2, XA2, XB2, N10a, N10b, M10, S10, R10, B10⟩
      case measure => simp only [lenOfD]; omega
    · have i1 : ¬ ((k : Int) < (N : Int) - 2) := by omega
      obtain rfl : k = N - 2 := by omega
      clear hlt
      have hla := KA.out
      have hlb := KB.out
      have PA : Hid (Own wr HA wr.heap.size 3 (.slice (some ⟨ga, 0, none⟩) (N - 2) ca) (ints la)) := by
        refine Own.of_own ?_
        rw [show (ints la).length = N - 2 by simp [ints, hla]]
        exact OA.out
      have PB : Hid (Own wr HA wr.heap.size 3 (.slice (some ⟨gb, 0, none⟩) (N - 2) cb) (ints lb)) := by
        refine Own.of_own ?_
        rw [show (ints lb).length = N - 2 by simp [ints, hlb]]
        exact OB.out
      have CA := Lib.hid (treeOf_any N la _ wr PA (Nat.le_refl _) ⟨hN1, by omega, hla⟩ XA)
      have CB := Lib.hid (fun (W : World) (hW : Below wr.heap.size wr W) => treeOf_any N lb _ W (Lib.hid (PB.out.below hW)) hW.size ⟨hN1, by omega, hlb⟩ XB)
      obtain ⟨e1l, e1⟩ := tr_facts hN1 hN7 hla XA.out
      obtain ⟨e2l, e2⟩ := tr_facts hN1 hN7 hlb XB.out
      obtain ⟨E1, hE1⟩ : ∃ E, E = treeN N la := ⟨_, rfl⟩
      obtain ⟨E2, hE2⟩ : ∃ E, E = treeN N lb := ⟨_, rfl⟩
      rw [← hE1] at CA e1l e1
      simp only [← hE2] at CB
      rw [← hE2] at e2l e2
      have F1 := Lib.hid e1
      have HBr : Hid (B ≤ wr.heap.size) := by have := (OA.out.lt ga rfl); show B ≤ _; omega
      have hRr : Hid (R < wr.heap.size) := by have := (OA.out.lt ga rfl); show R < _; omega
      clear hla hlb PA PB hE1 hE2 e1 e2 OA OB KA KB XA XB hne hga hgb
      go_wp2_with fail
      refine CA.out.mono ?_
      rintro e w5 ⟨u1, RV1, rfl, g1, b5⟩
      have G1 := Lib.hid g1
      have R5 := Lib.hid (HR.out.grow b5)
      have B5 := Lib.hid (HB.out.trans (b5.mono HBr.out))
      have M5 := Lib.hid (OM.out.below (b5.mono SE.out))
      have S5 : Hid (HE ≤ w5.heap.size ∧ wr.heap.size ≤ w5.heap.size) := ⟨Nat.le_trans SE.out b5.size, b5.size⟩
      have CB5 := Lib.hid (CB.out w5 b5)
      clear g1 b5 CA CB HR HB OM
      go_wp2_with fail
      refine CB5.out.mono ?_
      rintro e w6 ⟨u2, RV2, rfl, g2, b6⟩
      have G1b := Lib.hid (G1.out.below b6)
      have G2 := Lib.hid g2
      have R6 := Lib.hid (R5.out.grow b6)
      have B6 := Lib.hid (B5.out.trans (b6.mono (by have := S5.out.2; have := HBr.out; omega)))
      have M6 := Lib.hid (M5.out.below (b6.mono S5.out.1))
      have S6 : Hid (HE ≤ w6.heap.size ∧ w5.heap.size ≤ w6.heap.size) := ⟨Nat.le_trans S5.out.1 b6.size, b6.size⟩
      clear g2 b6 CB5 G1 R5 B5 M5
      have hp27 : p ≤ 100 := by omega
      go_wp2_with fail
      refine (pick_any B R a n cap p 2 _ R6.out (by omega) (by omega) (by omega)).mono ?_
      rintro e w7 ⟨z, rfl, _, _, hrd, honly⟩
      have G1x7 := Lib.hid (G1b.out.only R6.out honly)
      have G2x7 := Lib.hid (G2.out.only R6.out honly)
      have M7 := Lib.hid (M6.out.only honly (rd_ne M6.out R6.out (by decide)))
      have R7 := Lib.hid hrd
      have B7 := Lib.hid (B6.out.trans (honly.below hlow))
      have H17 : Hid (w5.heap.size ≤ w7.heap.size) := by have := S6.out.2; show _ ≤ _; rw [honly.size]; exact this
      have H27 : Hid (B ≤ w5.heap.size ∧ w6.heap.size ≤ w7.heap.size) := ⟨Nat.le_trans HBr.out S5.out.2, by rw [honly.size]; exact Nat.le_refl _⟩
      have H37 : Hid (HE ≤ w7.heap.size) := by have := S6.out.1; show _ ≤ _; rw [honly.size]; exact this
      clear hrd honly G1b G2 M6 R6 B6
      by_cases hz : z = 0
      · subst hz
        have CV := validRowM_any l am cm4 w7 (Lib.hid (own_rd (by rw [LL.out]; exact M7.out))) (by rw [LL.out]; omega) (by rw [LL.out]; exact hcm)
        rw [LL.out] at CV
        have CVH := Lib.hid CV
        clear CV
        go_wp2_with fail
        refine CVH.out.mono ?_
        rintro e w8 ⟨rfl, q, rfl⟩
        obtain ⟨w8, hw8⟩ : ∃ w8, w8 = w7.drewN q := ⟨_, rfl⟩
        have ew8 : w8.heap = w7.heap := by rw [hw8]; rfl
        have G1x8 : Hid (Grid w8 wr.heap.size w5.heap.size u1 RV1 (rowsE E1)) := G1x7.out.same ew8
        have G2x8 : Hid (Grid w8 w5.heap.size w6.heap.size u2 RV2 (rowsE E2)) := G2x7.out.same ew8
        have M8 := Lib.hid (M7.out.same ew8)
        have R8 : Hid (Rd w8 B R a n cap (p + 1)) := by show Rd _ _ _ _ _ _ _; rw [hw8]; exact R7.out.drewN q
        have B8 : Hid (Below B w0 w8) := by show Below _ _ _; rw [hw8]; exact B7.out.trans ⟨rfl, rfl, rfl, Nat.le_refl _, fun _ _ => rfl⟩
        have H18 : Hid (w5.heap.size ≤ w8.heap.size) := by show _ ≤ _; rw [ew8]; exact H17.out
        have H28 : Hid (B ≤ w5.heap.size ∧ w6.heap.size ≤ w8.heap.size) := by show _ ∧ _; rw [ew8]; exact H27.out
        have H38 : Hid (HE ≤ w8.heap.size) := by show _ ≤ _; rw [ew8]; exact H37.out
        rw [← hw8]
        clear hw8 ew8 G1x7 G2x7 M7 R7 B7 H17 H27 H37 CVH
        cases hv : rowB l with
        | false =>
          go_wp2_with fail
          refine (pick_any B R a n cap (p + 1) 30 _ R8.out (by omega) (by omega) (by omega)).mono ?_
          rintro e wf ⟨zz, rfl, _, _, hrd, honly⟩
          have GF1 := Lib.hid (grid_lo ((G1x8.out.only R8.out honly).more (H' := wf.heap.size) (by have := H18.out; rw [honly.size]; exact this)) HBr.out)
          have GF2 := Lib.hid (grid_lo ((G2x8.out.only R8.out honly).more (H' := wf.heap.size) (by have := H28.out.2; rw [honly.size]; exact this)) H28.out.1)
          have BFF := Lib.hid (B8.out.trans (honly.below hlow))
          have ewn : IntKind.i64.wrap ((N : Int) + 1) = ((N + 1 : Nat) : Int) := by rw [IntKind.wrap_i64]; omega
          have L1f : (rowsE E1).length ≤ 64 := by rw [rowsE_len]; omega
          have L2f : (rowsE E2).length ≤ 64 := by rw [rowsE_len]; omega
          have T2f := rowsE_two E2
          clear hrd honly
          by_cases hzz : zz = 0
          · subst hzz
            go_wp2
            go_ret3
            rw [← HBB.out]
            exact ⟨_, rowsE E1, rowsE E2, _, _, _, _, rfl, GF1.out, GF2.out, by omega, ⟨L1f, rowsE_two E1⟩, ⟨L2f, T2f⟩, BFF.out⟩
          · have jz : ((zz : Int) == 0) = false := beq_false_of_ne (by omega)
            go_wp2
            go_ret3
            rw [← HBB.out]
            exact ⟨_, rowsE E1, rowsE E2, _, _, _, _, rfl, GF1.out, GF2.out, by omega, ⟨L1f, rowsE_two E1⟩, ⟨L2f, T2f⟩, BFF.out⟩
        | true =>
          have HV := Lib.hid hv
          clear hv
          obtain ⟨mv, hmv⟩ : ∃ mv : Nat → Nat, mv = fun j => (l.getD j 0).toNat := ⟨_, rfl⟩
          have LV : Hid (∀ j, j < N → ∃ b off, am = some ⟨b, off, none⟩ ∧ b < HE ∧ w8.cell? ⟨b, off + j, none⟩ = some (.int .i64 (mv j : Int)) ∧ mv j < N) := fun j hj => by
            have hln := LL.out
            obtain ⟨b, off, q1, q2, q3⟩ := own_rd (l := l) (by rw [hln]; exact M8.out) j (by omega)
            have hb := ((rowB_iff l).1 HV.out).2.1 _ (List.getElem_mem (show j < l.length by omega))
            have hg : l.getD j 0 = l[j]'(by omega) := by rw [List.getD_eq_getElem?_getD, List.getElem?_eq_getElem (by omega)]; rfl
            have hm : (mv j : Int) = l[j]'(by omega) := by rw [hmv]; simp only; rw [hg]; omega
            exact ⟨b, off, q1, q2, by rw [hm]; exact q3, by omega⟩
          have NV : Hid (∀ j k, j < N → k < N → j ≠ k → mv j ≠ mv k) := fun j k hj hk hne e => by
            have hln := LL.out
            have h3 := ((rowB_iff l).1 HV.out)
            have gj : l.getD j 0 = l[j]'(by omega) := by rw [List.getD_eq_getElem?_getD, List.getElem?_eq_getElem (by omega)]; rfl
            have gk : l.getD k 0 = l[k]'(by omega) := by rw [List.getD_eq_getElem?_getD, List.getElem?_eq_getElem (by omega)]; rfl
            have h1 := (h3.2.1 _ (List.getElem_mem (show j < l.length by omega))).1
            have h2 := (h3.2.1 _ (List.getElem_mem (show k < l.length by omega))).1
            rw [hmv] at e
            simp only [gj, gk] at e
            have e2 : l[j]'(by omega) = l[k]'(by omega) := by omega
            have hpw := List.pairwise_iff_getElem.1 h3.2.2
            rcases Nat.lt_or_gt_of_ne hne with q | q
            · exact hpw j k (by omega) (by omega) q e2
            · exact hpw k j (by omega) (by omega) q e2.symm
          obtain ⟨HT, hHT⟩ : ∃ HT, HT = w8.heap.size := ⟨_, rfl⟩
          have HHT := Lib.hid hHT
          have GA0 : Hid (GridA (w8.alloc (.cells #[] 30)) HT (.slice (some ⟨HT, 0, none⟩) 0 0) [] (rowsE ((E1.take 0).map fun e => (mv e.1, mv e.2)))) := by
            show GridA _ _ _ _ _
            rw [hHT]; exact gridA_lit2 (Nat.le_refl _)
          have GB0 : Hid (Below HT w8 (w8.alloc (.cells #[] 30))) := by
            show Below _ _ _
            rw [hHT]; exact (Below.refl _ _).alloc (Nat.le_refl _) _
          obtain ⟨a1, c1, rfl, _, _, _, _⟩ := G1x8.out.1.slice
          have hgl : RV1.length = E1.length := by rw [G1x8.out.2.1, rowsE_len]
          rw [hgl] at G1x8 ⊢
          clear hmv hgl
          obtain ⟨j0, hj0, hy0, hy1, hy2⟩ := info_parts Try.infoRowR
          go_wp2_with fail
          rw [← hHT]
          clear hHT
          go_loopw [11, 12] (fun tt ii wr => ∃ (k : Nat) (RW : List Value), k ≤ E1.length ∧ ii = .int .i64 (k : Int) ∧ Hid (GridA wr HT tt RW (rowsE ((E1.take k).map fun e => (mv e.1, mv e.2)))) ∧ Hid (Below HT w8 wr)) (fun _ ii _ => E1.length - (intOf ii).toNat)
          case atStart => exact ⟨0, [], Nat.zero_le _, rfl, GA0, GB0⟩
          case round =>
            clear GA0 GB0
            obtain ⟨k, RW, hk, rfl, HU, HB⟩ := hrel
            have hGr : Hid (HT ≤ wr.heap.size) := by have := HB.out.size; show HT ≤ _; rw [HHT.out]; exact this
            have hlen : (rowsE ((E1.take k).map fun e => (mv e.1, mv e.2))).length = k := by rw [rowsE_len, List.length_map, List.length_take]; omega
            obtain ⟨au, cu, rfl, hOW⟩ := HU.out.shape
            rw [hlen] at hOW HU ⊢
            by_cases hlt : k < E1.length
            · have b1 : (k : Int) < (E1.length : Int) := by omega
              obtain ⟨gp, c', gr, cr, e1, hgp, hgr, _, _, _, d0, d1, d2⟩ := edge_at (G1x8.out.below (HB.out.mono (by have := HHT.out; have := H18.out; omega))) hlt
              simp only [Value.slice.injEq] at e1
              obtain ⟨rfl, _, rfl⟩ := e1
              obtain ⟨f1, f2, f3⟩ := F1.out E1[k] (List.getElem_mem hlt)
              have RT : Hid ((E1.take (k + 1)).map (fun e => (mv e.1, mv e.2)) = (E1.take k).map (fun e => (mv e.1, mv e.2)) ++ [(mv E1[k].1, mv E1[k].2)]) := by show _ = _; rw [List.take_succ_eq_append_getElem hlt, List.map_append]; rfl
              obtain ⟨y, hy⟩ : ∃ y, y = E1[k] := ⟨_, rfl⟩
              rw [← hy] at d1 d2 f2 f3 RT
              obtain ⟨bm, off, rfl, hbm, m1, _⟩ := LV.out y.1 f2
              obtain ⟨bm', off', e2, _, m2, _⟩ := LV.out y.2 f3
              simp only [Option.some.injEq, Addr.mk.injEq] at e2
              obtain ⟨rfl, rfl, _⟩ := e2
              have sHE : HE ≤ HT := by have := HHT.out; have := H38.out; omega
              replace m1 := (HB.out.cell (p := ⟨bm, off + y.1, none⟩) (by show bm < HT; omega)).trans m1
              replace m2 := (HB.out.cell (p := ⟨bm, off + y.2, none⟩) (by show bm < HT; omega)).trans m2
              have x1 : (0 : Int) ≤ (y.1 : Int) ∧ (y.1 : Int) < (N : Int) := by omega
              have x2 : (0 : Int) ≤ (y.2 : Int) ∧ (y.2 : Int) < (N : Int) := by omega
              have h5T : w5.heap.size ≤ HT := by have := HHT.out; have := H18.out; omega
              have KS : Hid (∀ W, Below HT wr W → (Below HT wr W ∧ W.cell? ⟨gp, k, none⟩ = some (.slice (some ⟨gr, 0, none⟩) 2 cr) ∧ W.cell? ⟨gr, 0, none⟩ = some (.int .i64 (y.1 : Int)) ∧ W.cell? ⟨gr, 1, none⟩ = some (.int .i64 (y.2 : Int)) ∧ W.cell? ⟨bm, off + y.1, none⟩ = some (.int .i64 (mv y.1 : Int)) ∧ W.cell? ⟨bm, off + y.2, none⟩ = some (.int .i64 (mv y.2 : Int)))) := fun W hW =>
                ⟨hW, (hW.cell (p := ⟨gp, k, none⟩) (by show gp < HT; omega)).trans d0, (hW.cell (p := ⟨gr, 0, none⟩) (by show gr < HT; omega)).trans d1, (hW.cell (p := ⟨gr, 1, none⟩) (by show gr < HT; omega)).trans d2, (hW.cell (p := ⟨bm, off + y.1, none⟩) (by show bm < HT; omega)).trans m1, (hW.cell (p := ⟨bm, off + y.2, none⟩) (by show bm < HT; omega)).trans m2⟩
              obtain ⟨X1, hX1⟩ : ∃ X1, X1 = mv y.1 := ⟨_, rfl⟩
              obtain ⟨X2, hX2⟩ : ∃ X2, X2 = mv y.2 := ⟨_, rfl⟩
              rw [← hX1] at KS m1 RT
              rw [← hX2] at KS m2 RT
              have z1 : k + 1 ≤ maxLen := by unfold maxLen; omega
              have z2 : (k + 1) * 24 ≤ 140737488355328 := by omega
              have Y3 := Lib.hid (show HT ≤ ((wr.alloc (.cells #[.int .i64 (X1 : Int), .int .i64 (X2 : Int)] 3)).alloc (.cells #[.slice (some ⟨wr.heap.size, 0, none⟩) 2 2] 30)).heap.size by have := hGr.out; simp; omega)
              have OW3 := Lib.hid ((hOW.alloc (.cells #[.int .i64 (X1 : Int), .int .i64 (X2 : Int)] 3)).alloc (.cells #[.slice (some ⟨wr.heap.size, 0, none⟩) 2 2] 30))
              have CN := cell_one_new (wr.alloc (.cells #[.int .i64 (X1 : Int), .int .i64 (X2 : Int)] 3)) (.slice (some ⟨wr.heap.size, 0, none⟩) 2 2) 30
              rw [World.size_alloc] at CN
              have CN := Lib.hid CN
              have HLEN := Lib.hid hlen
              have hB0 : Below HT wr wr := Below.refl _ _
              have HUN := Lib.hid (show GridA wr.drew HT (.slice au k cu) RW (rowsE ((E1.take k).map fun e => (mv e.1, mv e.2))) from ⟨HU.out.grid.same rfl, HU.out.dist⟩)
              have hrr : HT ≤ wr.heap.size := hGr.out
              clear hy f1 hbm hOW hlen hX1 hX2 HU d0 d1 d2 m1 m2
              go_wp2_with fail
              go_region_held3 (fun w' => Below HT wr w' ∧ w'.cell? ⟨gp, k, none⟩ = some (.slice (some ⟨gr, 0, none⟩) 2 cr) ∧ w'.cell? ⟨gr, 0, none⟩ = some (.int .i64 (y.1 : Int)) ∧ w'.cell? ⟨gr, 1, none⟩ = some (.int .i64 (y.2 : Int)) ∧ w'.cell? ⟨bm, off + y.1, none⟩ = some (.int .i64 (X1 : Int)) ∧ w'.cell? ⟨bm, off + y.2, none⟩ = some (.int .i64 (X2 : Int)))
                (first
                  | exact KS.out _ (by assumption)
                  | exact KS.out _ (Below.drew (by assumption))
                  | exact KS.out _ (Below.alloc (Below.drew hB0) hrr _)
                  | exact KS.out _ (Below.alloc hB0 hrr _)
                  | exact KS.out _ (Below.drew (Below.alloc hB0 hrr _))
                  | exact KS.out _ (Below.alloc (Below.alloc (Below.drew hB0) hrr _) (by rw [World.size_alloc]; exact Nat.le_succ_of_le hrr) _)
                  | exact KS.out _ (Below.alloc (Below.alloc hB0 hrr _) (by rw [World.size_alloc]; exact Nat.le_succ_of_le hrr) _)
                  | exact KS.out _ (Below.drew (Below.alloc (Below.alloc hB0 hrr _) (by rw [World.size_alloc]; exact Nat.le_succ_of_le hrr) _)))
                (first
                  | (refine step_append_lies _ ?gd (.tmp 60) (.tmp 80) 23 ?ho HT 30 j0 (.slice none 0 0) 1 24 Try.underlying23 hj0 hy0 hy1 hy2 rfl (Nat.lt_succ_self 0) (.slice au k cu) k RW ?hs ?own ⟨wr.heap.size + 1, 0, none⟩ 1 1 [.slice (some ⟨wr.heap.size, 0, none⟩) 2 2] ?hx rfl ?news (one_rowR _ _ _ _ rfl) (Nat.lt_succ_self 0) z1 z2 ?base (wr.heap.size + 1 + 1) ?hh ?_
                     case ho => rfl
                     case gd => rfl
                     case hs => rfl
                     case hx => rfl
                     case own => exact own_of_blocks OW3.out (fun _ _ => rfl)
                     case news => exact CN.out
                     case base => exact Y3.out
                     case hh => (first | rfl | (show ((wr.alloc _).alloc _).heap.size = _; rw [World.size_alloc, World.size_alloc]))
                     intro g7 c7 w7 hv7 hg7 _ _
                     obtain ⟨G7, B7⟩ := HUN.out.push (cs := #[.int .i64 (X1 : Int), .int .i64 (X2 : Int)]) (n := 2) (row := [(X1 : Int), (X2 : Int)]) HLEN.out rfl rfl (by omega) hrr hv7 hg7
                     have hB7 : Below HT wr w7 := Below.trans (Below.drew hB0) B7))
              all_goals
                have G8 : Hid (GridA w7 HT (.slice (some ⟨g7, 0, none⟩) (k + 1) c7) (RW ++ [.slice (some ⟨wr.heap.size, 0, none⟩) 2 2]) (rowsE ((E1.take (k + 1)).map fun e => (mv e.1, mv e.2)))) := by
                  show GridA _ _ _ _ _
                  rw [RT.out, show rowsE (((E1.take k).map fun e => (mv e.1, mv e.2)) ++ [(X1, X2)]) = rowsE ((E1.take k).map fun e => (mv e.1, mv e.2)) ++ [[(X1 : Int), (X2 : Int)]] by simp [rowsE]]
                  exact G7
                have B8r := Lib.hid (HB.out.trans hB7)
                clear G7 B7 hB7 hv7 hg7 HUN OW3 CN Y3 KS RT
                go_wp2
                go_roundw
                case rel => exact ⟨k + 1, _, by omega, by go_num, G8, B8r⟩
                case measure => simp [intOf]; omega
            · obtain rfl : k = E1.length := by omega
              have hF : E1.take E1.length = E1 := List.take_length
              rw [hF] at HU hlen
              obtain ⟨F, hFF⟩ : ∃ F, F = E1.map fun e => (mv e.1, mv e.2) := ⟨_, rfl⟩
              have hFl : F.length ≤ 6 := by rw [hFF, List.length_map]; exact e1l
              have hne : Hid (∀ e ∈ F, e.1 ≠ e.2) := fun e he => by
                rw [hFF] at he
                obtain ⟨x, hx, rfl⟩ := List.mem_map.1 he
                obtain ⟨q1, q2, q3⟩ := F1.out x hx
                exact NV.out x.1 x.2 q2 q3 q1
              rw [← hFF] at HU
              have GU := Lib.hid HU.out.grid
              have CSO := Lib.hid (sortedEdges_any F _ RW wr GU (Nat.le_refl _) (by omega) hne)
              have RHT : R < HT := by have := R8.out.lt; have := HHT.out; omega
              have Rr := Lib.hid (R8.out.below HB.out RHT)
              have Br := Lib.hid (B8.out.trans (HB.out.mono (by omega)))
              have G1r := Lib.hid (G1x8.out.below (HB.out.mono (by have := HHT.out; have := H18.out; omega)))
              have s8r : w8.heap.size ≤ wr.heap.size := by have := HB.out.size; exact this
              have H1r : Hid (w5.heap.size ≤ wr.heap.size) := Nat.le_trans H18.out s8r
              have hBr2 : Hid (B ≤ wr.heap.size) := by have := R8.out.lt; show B ≤ _; omega
              obtain ⟨F2, hF2⟩ : ∃ F2, F2 = sortP (F.map norm) := ⟨_, rfl⟩
              have hF2l : F2.length ≤ 6 := by rw [hF2, sortP_len, List.length_map]; exact hFl
              rw [← hF2] at CSO
              clear HU HB hF hFF hne GU hOW hlen LV NV G1x8 G2x8 M8 R8 B8 H18 H28 H38 HHT hF2 hGr
              go_wp2_with fail
              refine CSO.out.mono ?_
              rintro e w9 ⟨gs, ms, cs, LVs, rfl, hs⟩
              have G1x9 := Lib.hid (G1r.out.below (hs.below.mono H1r.out))
              have G2x9 := Lib.hid hs.grid
              have R9 := Lib.hid (Rr.out.grow hs.below)
              have B9 := Lib.hid (Br.out.trans (hs.below.mono hBr2.out))
              have H19 : Hid (w5.heap.size ≤ w9.heap.size) := Nat.le_trans H1r.out hs.below.size
              have H29 : Hid (B ≤ wr.heap.size ∧ w9.heap.size ≤ w9.heap.size) := ⟨hBr2.out, Nat.le_refl _⟩
              clear hs CSO Rr Br G1r H1r
              go_wp2_with fail
              refine (pick_any B R a n cap (p + 1) 30 _ R9.out (by omega) (by omega) (by omega)).mono ?_
              rintro e wf ⟨zz, rfl, _, _, hrd, honly⟩
              have GF1 := Lib.hid (grid_lo ((G1x9.out.only R9.out honly).more (H' := wf.heap.size) (by have := H19.out; rw [honly.size]; exact this)) HBr.out)
              have GF2 := Lib.hid (grid_lo ((G2x9.out.only R9.out honly).more (H' := wf.heap.size) (by have := H29.out.2; rw [honly.size]; exact this)) H29.out.1)
              have BFF := Lib.hid (B9.out.trans (honly.below hlow))
              have ewn : IntKind.i64.wrap ((N : Int) + 1) = ((N + 1 : Nat) : Int) := by rw [IntKind.wrap_i64]; omega
              have L1f : (rowsE E1).length ≤ 64 := by rw [rowsE_len]; omega
              have L2f : (rowsE F2).length ≤ 64 := by rw [rowsE_len]; omega
              have T2f := rowsE_two F2
              clear hrd honly
              by_cases hzz : zz = 0
              · subst hzz
                go_wp2
                go_ret3
                rw [← HBB.out]
                exact ⟨_, rowsE E1, rowsE F2, _, _, _, _, rfl, GF1.out, GF2.out, by omega, ⟨L1f, rowsE_two E1⟩, ⟨L2f, T2f⟩, BFF.out⟩
              · have jz : ((zz : Int) == 0) = false := beq_false_of_ne (by omega)
                go_wp2
                go_ret3
                rw [← HBB.out]
                exact ⟨_, rowsE E1, rowsE F2, _, _, _, _, rfl, GF1.out, GF2.out, by omega, ⟨L1f, rowsE_two E1⟩, ⟨L2f, T2f⟩, BFF.out⟩
      · have j0 : ((z : Int) == 0) = false := beq_false_of_ne (by omega)
        clear M7 H37
        go_wp2_with fail
        refine (pick_any B R a n cap (p + 1) 30 _ R7.out (by omega) (by omega) (by omega)).mono ?_
        rintro e wf ⟨zz, rfl, _, _, hrd, honly⟩
        have GF1 := Lib.hid (grid_lo ((G1x7.out.only R7.out honly).more (H' := wf.heap.size) (by have := H17.out; rw [honly.size]; exact this)) HBr.out)
        have GF2 := Lib.hid (grid_lo ((G2x7.out.only R7.out honly).more (H' := wf.heap.size) (by have := H27.out.2; rw [honly.size]; exact this)) H27.out.1)
        have BFF := Lib.hid (B7.out.trans (honly.below hlow))
        have ewn : IntKind.i64.wrap ((N : Int) + 1) = ((N + 1 : Nat) : Int) := by rw [IntKind.wrap_i64]; omega
        have L1f : (rowsE E1).length ≤ 64 := by rw [rowsE_len]; omega
        have L2f : (rowsE E2).length ≤ 64 := by rw [rowsE_len]; omega
        have T2f := rowsE_two E2
        clear hrd honly
        by_cases hzz : zz = 0
        · subst hzz
          go_wp2
          go_ret3
          rw [← HBB.out]
          exact ⟨_, rowsE E1, rowsE E2, _, _, _, _, rfl, GF1.out, GF2.out, by omega, ⟨L1f, rowsE_two E1⟩, ⟨L2f, T2f⟩, BFF.out⟩
        · have jz : ((zz : Int) == 0) = false := beq_false_of_ne (by omega)
          go_wp2
          go_ret3
          rw [← HBB.out]
          exact ⟨_, rowsE E1, rowsE E2, _, _, _, _, rfl, GF1.out, GF2.out, by omega, ⟨L1f, rowsE_two E1⟩, ⟨L2f, T2f⟩, BFF.out⟩
end Go.Proofs.Ytafdlilojlmchaa
