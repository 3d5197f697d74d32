/-
  The contracts of the functions that draw a tree, or a code.
  The draws of chapter 10's laws: a tree, most often.
-/
import Derived.Test.YtmpppocmbdainaaZD
import Derived.Test.YtmpppocmbdainaaZT
namespace Go.Proofs.Ytmpppocmbdainaa
open Go.RowKit

theorem treeE_leD (n : Nat) : ∀ (c : List Nat) (d : Nat → Nat), (treeE n c d).length ≤ c.length + 1 := by
  intro c
  induction c with
  | nil => intro d; rw [treeE]; split <;> simp
  | cons x r ih =>
    intro d
    rw [treeE]
    split
    · simp
    · simp only [List.length_cons]; have := ih (down d ‹_› x); omega
theorem rowsE_two (E : Edges) : ∀ r ∈ rowsE E, r.length = 2 := by
  intro r hr
  obtain ⟨e, _, rfl⟩ := List.mem_map.1 hr
  rfl
/-- a slice's length, for a loop's measure -/
def lenOfD : Value → Nat | .slice _ n _ => n | _ => 0
theorem own_onlyD {w w' : World} {B n R : Nat} {t : TypeId} {v : Value} {xs : List Value} (h : w.ownsRow B t 1 v n xs) (ho : Only R w w') (hR : R < B) : w'.ownsRow B t 1 v n xs :=
  own_of_blocks h fun g hg => ho.block g (by have := (h.lt g hg).1; omega)
theorem own_someD {w : World} {B n : Nat} {t : TypeId} {v : Value} {xs : List Value} (h : w.ownsRow B t 1 v n xs) (hv : v ≠ .slice none 0 0) : ∃ g cap, v = .slice (some ⟨g, 0, none⟩) n cap := by
  rcases h.2 with ⟨h0, _⟩ | ⟨g, cap, cur, h1, _⟩
  · exact absurd h0 hv
  · exact ⟨g, cap, h1⟩
/-- a number of nodes and some rows of two numbers -/
def TreeDrawn (B : Nat) (w : World) (e : Ending) (w' : World) : Prop :=
  ∃ (m : Int) (rows : List (List Int)) (v : Value) (RV : List Value), e = .returned (.tuple #[.int .i64 m, v]) ∧ Grid w' B w'.heap.size v RV rows ∧ (1 ≤ m ∧ m ≤ 8) ∧ rows.length ≤ 9 ∧ (∀ r ∈ rows, r.length = 2) ∧ Below B w w'

set_option maxHeartbeats 3200000 in
set_option maxRecDepth 100000 in
theorem someTree_any (B R : Nat) (a : Option Addr) (n c : Nat) (w : World) (h : Hid (Rd w B R a n c 0)) :
    Calls Try.prog 34 #[.pointer (some ⟨R, 0, none⟩), .int .i64 7] w (TreeDrawn B w) := by
  obtain ⟨i0, hi, hz0, hz1, hz2⟩ := info_parts Try.infoIntR
  have hlow := h.out.low
  have hRlt := h.out.lt
  have l9 := lit_own w #[.int .i64 5, .int .i64 4, .int .i64 6, .int .i64 3, .int .i64 2, .int .i64 1, .int .i64 7] 3 (by decide)
  have L9 : Hid (Own (w.alloc (.cells #[.int .i64 5, .int .i64 4, .int .i64 6, .int .i64 3, .int .i64 2, .int .i64 1, .int .i64 7] 3)) w.heap.size (w.heap.size + 1) 3 (.slice (some ⟨w.heap.size, 0, none⟩) 7 7) (iv [5, 4, 6, 3, 2, 1, 7])) := l9
  have hbW : Below w.heap.size w (w.alloc (.cells #[.int .i64 5, .int .i64 4, .int .i64 6, .int .i64 3, .int .i64 2, .int .i64 1, .int .i64 7] 3)) := (Below.refl _ _).alloc (Nat.le_refl _) _
  have R1 := Lib.hid (h.out.grow hbW)
  have B1 := Lib.hid (show Below B w (w.alloc (.cells #[.int .i64 5, .int .i64 4, .int .i64 6, .int .i64 3, .int .i64 2, .int .i64 1, .int .i64 7] 3)) from hbW.mono (by omega))
  have NE := Lib.hid (rd_ne l9 R1.out (by decide))
  have OA := Lib.hid (one_any [5, 4, 6, 3, 2, 1, 7] _ B R a n c 0 _ R1 (by omega) L9 NE.out (by decide) (by decide))
  clear l9 hbW h
  go_enter Try.func34, Try.ntmps34
  go_wp2_with fail
  refine OA.out.mono ?_
  rintro e w2 ⟨y, hy, rfl, hrd, honly⟩
  obtain ⟨N, rfl, hN1, hN7⟩ : ∃ N : Nat, y = N ∧ 1 ≤ N ∧ N ≤ 7 := by
    simp only [List.mem_cons, List.not_mem_nil, or_false] at hy
    exact ⟨y.toNat, by omega, by omega, by omega⟩
  have R2 := Lib.hid hrd
  have B2 := Lib.hid (B1.out.trans (honly.below hlow))
  have hR2 := hrd.lt
  obtain ⟨H1, hH1⟩ : ∃ H1, H1 = w2.heap.size := ⟨_, rfl⟩
  have ho : Hid ((w2.alloc (.cells #[] 3)).ownsRow H1 3 1 (.slice (some ⟨w2.heap.size, 0, none⟩) 0 0) 0 (ints [])) := by
    rw [hH1]; exact World.ownsRow_lit (base := w2.heap.size) (e := 3) (size := 1) w2 #[] 0 (Nat.le_refl _) (by decide) rfl
  have hbW : Below w2.heap.size w2 (w2.alloc (.cells #[] 3)) := (Below.refl _ _).alloc (Nat.le_refl _) _
  have R3 := Lib.hid (R2.out.grow hbW)
  have B3 := Lib.hid (B2.out.trans (hbW.mono (by omega)))
  have hRH : R < H1 := by omega
  clear hy hrd honly OA NE L9 R1 B1 R2 B2 hbW hR2
  go_wp2_with fail
  obtain ⟨w3, hw3⟩ : ∃ w3, w3 = w2.alloc (.cells #[] 3) := ⟨_, rfl⟩
  rw [← hw3] at ho R3 B3 ⊢
  rw [← hH1] at ho ⊢
  clear hw3 hH1
  have ewN : IntKind.i64.wrap ((N : Int) - 2) = (N : Int) - 2 := by rw [IntKind.wrap_i64]; omega
  go_loopw [7] (fun v wr => ∃ (l : List Nat) (k : Nat), v ≠ .slice none 0 0 ∧ k ≤ N - 2 ∧ Hid (k = l.length) ∧ Hid (wr.ownsRow H1 3 1 v k (ints l)) ∧ Hid (∀ x ∈ l, x < N) ∧ Hid (Rd wr B R a n c (0 + 1 + 3 * k)) ∧ Hid (Below B w wr)) (fun v _ => N - 2 - lenOfD v)
  case atStart => exact ⟨[], 0, by simp, Nat.zero_le _, rfl, ho, (show ∀ x ∈ ([] : List Nat), x < N by intro x hx; simp at hx), R3, B3⟩
  case round =>
    clear ho R3 B3
    obtain ⟨l, k, hnil, hk, HK, O, HX, HR, HB⟩ := hrel
    obtain ⟨g, cp, rfl⟩ := own_someD O.out hnil
    by_cases hlt : k < N - 2
    · have i1 : (k : Int) < (N : Int) - 2 := by omega
      go_wp2_with fail
      refine (pick_any B R a n c (0 + 1 + 3 * k) _ _ HR.out (by omega) (by omega) (by omega)).mono ?_
      rintro e w4 ⟨y1, rfl, hy1, _, hrd, honly⟩
      have hy1 := hy1 (by omega)
      have O4 := Lib.hid (own_onlyD O.out honly hRH)
      have R4 := Lib.hid hrd
      have B4 := Lib.hid (HB.out.trans (honly.below hlow))
      clear hrd honly O HR HB
      go_wp2_with fail
      refine (pick_any B R a n c (0 + 1 + 3 * k + 1) _ _ R4.out (by omega) (by omega) (by omega)).mono ?_
      rintro e w5 ⟨y2, rfl, hy2, _, hrd, honly⟩
      have hy2 := hy2 (by omega)
      have O5 := own_onlyD O4.out honly hRH
      have B5 := B4.out.trans (honly.below hlow)
      have l3 := lit_own w5 #[.int .i64 y1, .int .i64 y2, .int .i64 0] 3 (by show (3 : Nat) ≤ maxLen; unfold maxLen; omega)
      have L3 : Hid (Own (w5.alloc (.cells #[.int .i64 y1, .int .i64 y2, .int .i64 0] 3)) w5.heap.size (w5.heap.size + 1) 3 (.slice (some ⟨w5.heap.size, 0, none⟩) 3 3) (iv [(y1 : Int), (y2 : Int), 0])) := l3
      have hbW : Below w5.heap.size w5 (w5.alloc (.cells #[.int .i64 y1, .int .i64 y2, .int .i64 0] 3)) := (Below.refl _ _).alloc (Nat.le_refl _) _
      have hR5 := hrd.lt
      have R6 := Lib.hid (hrd.grow hbW)
      have O6 := Lib.hid (O5.alloc (.cells #[.int .i64 y1, .int .i64 y2, .int .i64 0] 3))
      have B6 := Lib.hid (B5.trans (hbW.mono (by omega)))
      have NE := Lib.hid (rd_ne l3 R6.out (by decide))
      have OA := Lib.hid (one_any [(y1 : Int), (y2 : Int), 0] _ B R a n c (0 + 1 + 3 * k + 1 + 1) _ R6 (by omega) L3 NE.out (by show 0 < 3; omega) (by show 3 ≤ 1000; omega))
      clear hrd honly l3 hbW O5 B5 R4 O4 B4
      go_wp2_with fail
      refine OA.out.mono ?_
      rintro e w7 ⟨y3, hy3, rfl, hrd, honly⟩
      obtain ⟨x, rfl, hx⟩ : ∃ x : Nat, y3 = x ∧ x < N := by
        simp only [List.mem_cons, List.not_mem_nil, or_false] at hy3
        exact ⟨y3.toNat, by omega, by omega⟩
      have O7 := Lib.hid (own_onlyD O6.out honly hRH)
      have R7 := Lib.hid hrd
      have B7 := Lib.hid (B6.out.trans (honly.below hlow))
      have s7 : H1 ≤ w7.heap.size := by have := (O7.out.lt g rfl); omega
      have y1 : k + 1 ≤ maxLen := by unfold maxLen; omega
      have y2 : (k + 1) * 8 ≤ 140737488355328 := by omega
      have Y3 := Lib.hid (show ∀ o : Obj, H1 ≤ (w7.alloc o).heap.size by intro o; simp; omega)
      clear hy3 hrd honly O6 R6 B6 NE OA L3
      go_wp2_with (at_builtin; refine wpList_append_lies _ rfl (.tmp 19) (.tmp 29) 29 rfl H1 3 i0 (.int .i64 0) 1 8 Try.underlying29 hi hz0 hz1 hz2 rfl (Nat.succ_pos 0) _ k (ints l) rfl (O7.out.alloc _) ⟨w7.heap.size, 0, none⟩ 1 1 [_] rfl rfl (cell_one_new _ _ _) (one_intR _) (Nat.succ_pos 0) y1 y2 (Y3.out _) _ rfl ?_)
      intro g8 c8 w8 hv8 hg8 _ _
      have hb8 : Below H1 w7 w8 := ((Below.refl _ _).alloc s7 _).grown hg8 (Y3.out _) (fun q hq => (O7.out.lt q hq).1)
      have R8 := Lib.hid (R7.out.below hb8 hRH)
      have B8 := Lib.hid (B7.out.trans (hb8.mono (by omega)))
      have O8 : Hid (w8.ownsRow H1 3 1 (.slice (some ⟨g8, 0, none⟩) (k + 1) c8) (k + 1) (ints (l ++ [x]))) := by
        have e9 : ints (l ++ [x]) = ints l ++ [.int .i64 (x : Int)] := by simp [ints]
        rw [e9]; exact hv8
      have HX8 : Hid (∀ z ∈ l ++ [x], z < N) := fun z hz => by
        rcases List.mem_append.1 hz with h | h
        · exact HX.out z h
        · simp at h; omega
      have HK8 : Hid (k + 1 = (l ++ [x]).length) := by show _ = _; rw [List.length_append, ← HK.out]; rfl
      clear hv8 hg8 hb8 O7 R7 B7 Y3 HX HK
      go_wp2
      go_roundw
      case rel => exact ⟨l ++ [x], k + 1, by simp, by omega, HK8, O8, HX8, by rw [show 0 + 1 + 3 * (k + 1) = 0 + 1 + 3 * k + 1 + 1 + 1 by omega]; exact R8, B8⟩
      case measure => simp only [lenOfD]; omega
    · have i1 : ¬ ((k : Int) < (N : Int) - 2) := by omega
      have hkN : k = N - 2 := by omega
      have O5 : Hid (Own wr H1 wr.heap.size 3 (.slice (some ⟨g, 0, none⟩) k cp) (ints l)) := ⟨by rw [ints_length, ← HK.out]; exact O.out, fun q hq => (O.out.lt q hq).2⟩
      have CT := Lib.hid (treeOf_any N l (.slice (some ⟨g, 0, none⟩) k cp) wr O5 (Nat.le_refl _) ⟨hN1, by omega, by rw [← HK.out]; exact hkN⟩ HX)
      have hEl : (treeN N l).length ≤ 9 := by
        rw [treeN, sortP_len, List.length_map]
        have := treeE_leD N l (degC N l)
        have := HK.out
        omega
      have hrl : (rowsE (treeN N l)).length ≤ 9 := by rw [rowsE_length]; exact hEl
      have H2 := Lib.hid (rowsE_two (treeN N l))
      obtain ⟨rows, hrows⟩ : ∃ rows, rows = rowsE (treeN N l) := ⟨_, rfl⟩
      rw [← hrows] at hrl H2
      simp only [← hrows] at CT
      have hRw := HR.out.lt
      have hBw := HB.out.size
      clear hrows hEl O5 O HX hkN hlt
      go_wp2_with fail
      refine CT.out.mono ?_
      rintro e w5 ⟨u, RV, rfl, g5, b5⟩
      obtain ⟨au, cu, rfl, _, hcu, _, hsome⟩ := g5.1.slice
      have hul : RV.length = rows.length := g5.2.1
      rw [hul] at g5 hcu ⊢
      have R5 := Lib.hid (HR.out.below b5 hRw)
      have B5 := Lib.hid (HB.out.trans (b5.mono (by omega)))
      have G5 := Lib.hid g5
      obtain ⟨H5, hH5⟩ : ∃ H5, H5 = wr.heap.size := ⟨_, rfl⟩
      rw [← hH5] at G5
      have hRH5 : R < H5 := by omega
      have hBH5 : B ≤ H5 := by omega
      clear g5 b5 CT HR HB hsome hul hRw hBw hH5
      go_wp2_with fail
      refine (pick_any B R a n c _ 30 _ R5.out (by omega) (by omega) (by omega)).mono ?_
      rintro e w6 ⟨x, rfl, _, _, hrd, honly⟩
      have G6 := Lib.hid ((G5.out.only R5.out honly).more (show _ ≤ w6.heap.size from Nat.le_of_eq honly.size.symm))
      have R6 := Lib.hid hrd
      have B6 := Lib.hid (B5.out.trans (honly.below hlow))
      clear hrd honly G5 R5 B5
      by_cases hx0 : x = 0
      · subst hx0
        by_cases hrz : rows.length = 0
        · have j1 : ¬ ((0 : Int) < (rows.length : Int)) := by omega
          clear hrz
          go_wp2_with fail
          refine (pick_any B R a n c _ 40 _ R6.out (by omega) (by omega) (by omega)).mono ?_
          rintro e w9 ⟨z, rfl, _, _, hrd, honly⟩
          have G9 := Lib.hid ((G6.out.only R6.out honly).more (show _ ≤ w9.heap.size from Nat.le_of_eq honly.size.symm))
          have B9 := Lib.hid (B6.out.trans (honly.below hlow))
          clear hrd honly
          by_cases hz : z = 0
          · subst hz
            go_wp2
            go_ret2
            exact ⟨_, _, _, _, rfl, G9.out.lo hBH5, by omega, hrl, H2.out, B9.out⟩
          · have j0 : ((z : Int) == 0) = false := beq_false_of_ne (by omega)
            go_wp2
            go_ret2
            exact ⟨_, _, _, _, rfl, G9.out.lo hBH5, by omega, hrl, H2.out, B9.out⟩
        · have j1 : (0 : Int) < (rows.length : Int) := by omega
          have hB6 := B6.out.size
          have hR6 := R6.out.lt
          obtain ⟨g1, e1, _, _, _, _⟩ := G6.out.1.at_ 0 (by rw [G6.out.2.1]; omega)
          cases e1
          have l3 := lit_own w6 #[.int .i64 0, .int .i64 1, .int .i64 (N : Int)] 3 (by show (3 : Nat) ≤ maxLen; unfold maxLen; omega)
          have L3 : Hid (Own (w6.alloc (.cells #[.int .i64 0, .int .i64 1, .int .i64 (N : Int)] 3)) w6.heap.size (w6.heap.size + 1) 3 (.slice (some ⟨w6.heap.size, 0, none⟩) 3 3) (iv [0, 1, (N : Int)])) := l3
          have hbW : Below w6.heap.size w6 (w6.alloc (.cells #[.int .i64 0, .int .i64 1, .int .i64 (N : Int)] 3)) := (Below.refl _ _).alloc (Nat.le_refl _) _
          have R7 := Lib.hid (R6.out.grow hbW)
          have G7 := Lib.hid (G6.out.below hbW)
          have B7 := Lib.hid (B6.out.trans (hbW.mono (by omega)))
          have NE := Lib.hid (rd_ne l3 R7.out (by decide))
          have OA := Lib.hid (one_any [0, 1, (N : Int)] _ B R a n c _ _ R7 (by omega) L3 NE.out (by show 0 < 3; omega) (by show 3 ≤ 1000; omega))
          have s6 : Hid ((w6.alloc (.cells #[.int .i64 0, .int .i64 1, .int .i64 (N : Int)] 3)).heap.size = w6.heap.size + 1) := by show _ = _; simp
          clear l3 hbW G6 B6 R6
          go_wp2_with fail
          refine OA.out.mono ?_
          rintro e w8 ⟨y3, _, rfl, hrd, honly⟩
          have s8 : w8.heap.size = w6.heap.size + 1 := by rw [honly.size]; exact s6.out
          have R8 := Lib.hid hrd
          have G8 := Lib.hid ((G7.out.only R7.out honly).more (show w6.heap.size ≤ w8.heap.size by omega))
          have B8 := Lib.hid (B7.out.trans (honly.below hlow))
          have l4 := lit_own w8 #[.int .i64 y3, .int .i64 1] 3 (by show (2 : Nat) ≤ maxLen; unfold maxLen; omega)
          have L4 : Hid (Own (w8.alloc (.cells #[.int .i64 y3, .int .i64 1] 3)) w8.heap.size (w8.heap.size + 1) 3 (.slice (some ⟨w8.heap.size, 0, none⟩) 2 2) (iv [y3, 1])) := l4
          have hb4 : Below w8.heap.size w8 (w8.alloc (.cells #[.int .i64 y3, .int .i64 1] 3)) := (Below.refl _ _).alloc (Nat.le_refl _) _
          have G9 := Lib.hid ((G8.out.below hb4).more (show w8.heap.size ≤ w8.heap.size + 1 by omega))
          have hk0 : 0 < rows.length := by omega
          have h59 : H5 ≤ w8.heap.size := by have := (G8.out.1.1.lt g1 rfl); omega
          have GP := Lib.hid (G9.out.put hk0 (own_lo L4.out h59))
          obtain ⟨g1', e1, hg1, _, c1, f1⟩ := G9.out.1.at_ 0 (by rw [G9.out.2.1]; omega)
          cases e1
          obtain ⟨v7, hv7, o7⟩ := G9.out.2.at_ 0 hk0
          obtain ⟨a7, c7, rfl, _⟩ := o7.slice
          rw [hv7] at c1
          have R9 := Lib.hid ((R8.out.grow hb4).below ((Below.refl (R + 1) _).setCell (p := ⟨g1, 0, none⟩) (by show R + 1 ≤ g1; omega) (.slice (some ⟨w8.heap.size, 0, none⟩) 2 2)) (Nat.lt_succ_self R))
          have B9 := Lib.hid ((B8.out.trans (hb4.mono (by omega))).setCell (p := ⟨g1, 0, none⟩) (by show B ≤ g1; omega) (.slice (some ⟨w8.heap.size, 0, none⟩) 2 2))
          have H29 : Hid (∀ r ∈ rows.set 0 [y3, 1], r.length = 2) := fun r hr => by
            rcases List.mem_or_eq_of_mem_set hr with hr | rfl
            · exact H2.out r hr
            · rfl
          have hrl9 : (rows.set 0 [y3, 1]).length ≤ 9 := by rw [List.length_set]; exact hrl
          have SZ9 : Hid (((w8.alloc (.cells #[.int .i64 y3, .int .i64 1] 3)).setCell ⟨g1, 0, none⟩ (.slice (some ⟨w8.heap.size, 0, none⟩) 2 2)).heap.size = w8.heap.size + 1) := by show _ = _; simp [World.setCell]
          have S8 := Lib.hid s8
          clear l4 hb4 G7 B7 R7 hrd honly NE OA L3 G8 R8 B8 hv7 o7 s8
          go_wp2_with fail
          refine (pick_any B R a n c _ 40 _ R9.out (by omega) (by omega) (by omega)).mono ?_
          rintro e w9 ⟨z, rfl, _, _, hrd, honly⟩
          have hz9 := honly.size
          rw [SZ9.out] at hz9
          have G10 := Lib.hid ((GP.out.only R9.out honly).more (show w8.heap.size + 1 ≤ w9.heap.size by omega))
          have B10 := Lib.hid (B9.out.trans (honly.below hlow))
          clear hrd honly hz9 GP B9 R9
          by_cases hz : z = 0
          · subst hz
            go_wp2
            go_ret2
            exact ⟨_, rows.set 0 [y3, 1], _, _, rfl, G10.out.lo hBH5, by omega, hrl9, H29.out, B10.out⟩
          · have j0 : ((z : Int) == 0) = false := beq_false_of_ne (by omega)
            go_wp2
            go_ret2
            exact ⟨_, rows.set 0 [y3, 1], _, _, rfl, G10.out.lo hBH5, by omega, hrl9, H29.out, B10.out⟩
      · have j0 : ((x : Int) == 0) = false := beq_false_of_ne (by omega)
        go_wp2_with fail
        refine (pick_any B R a n c _ 40 _ R6.out (by omega) (by omega) (by omega)).mono ?_
        rintro e w9 ⟨z, rfl, _, _, hrd, honly⟩
        have G9 := Lib.hid ((G6.out.only R6.out honly).more (show _ ≤ w9.heap.size from Nat.le_of_eq honly.size.symm))
        have B9 := Lib.hid (B6.out.trans (honly.below hlow))
        clear hrd honly
        by_cases hz : z = 0
        · subst hz
          go_wp2
          go_ret2
          exact ⟨_, _, _, _, rfl, G9.out.lo hBH5, by omega, hrl, H2.out, B9.out⟩
        · have j0 : ((z : Int) == 0) = false := beq_false_of_ne (by omega)
          go_wp2
          go_ret2
          exact ⟨_, _, _, _, rfl, G9.out.lo hBH5, by omega, hrl, H2.out, B9.out⟩

/-- a number of nodes and some numbers -/
def CodeDrawn (B : Nat) (w : World) (e : Ending) (w' : World) : Prop :=
  ∃ (m : Int) (l : List Int) (v : Value), e = .returned (.tuple #[.int .i64 m, v]) ∧ Own w' B w'.heap.size 3 v (iv l) ∧ (0 ≤ m ∧ m ≤ 8) ∧ l.length ≤ 9 ∧ Below B w w'

end Go.Proofs.Ytmpppocmbdainaa

namespace Go.Proofs.Ytmpppocmbdainaa
open Go.RowKit

set_option maxHeartbeats 800000 in
theorem drawMostAlone (a : Option Addr) (len cap : Nat) (zs : List Int) (w : World) (hr : Hid (IsRow .u8 w a len cap zs)) (hl : len ≤ 1048576) :
    Calls Try.prog 10 #[.slice a len cap] w (TreeDrawn w.heap.size w) := by
  go_enter Try.func10, Try.ntmps10
  go_wp2_with fail
  refine (newReader_any a len cap zs w hr.out hl).mono ?_
  rintro e w1 ⟨n, R, rfl, h, hb⟩
  have H := Lib.hid h
  have HB := Lib.hid hb
  clear h hb hr
  go_wp2_with fail
  refine (someTree_any w.heap.size R a n cap w1 H).mono ?_
  rintro e w2 ⟨m, rows, v, RV, rfl, hG, h1, h2, h3, hb⟩
  have HG := Lib.hid hG
  have HB2 := Lib.hid (HB.out.trans hb)
  have H3 := Lib.hid h3
  clear hG hb h3
  go_wp2
  go_ret2
  exact ⟨m, rows, v, RV, rfl, HG.out, h1, h2, H3.out, HB2.out⟩
set_option maxHeartbeats 800000 in
theorem drawCountAlone (a : Option Addr) (len cap : Nat) (zs : List Int) (w : World) (hr : Hid (IsRow .u8 w a len cap zs)) (hl : len ≤ 1048576) :
    Calls Try.prog 14 #[.slice a len cap] w (TreeDrawn w.heap.size w) := by
  go_enter Try.func14, Try.ntmps14
  go_wp2_with fail
  refine (newReader_any a len cap zs w hr.out hl).mono ?_
  rintro e w1 ⟨n, R, rfl, h, hb⟩
  have H := Lib.hid h
  have HB := Lib.hid hb
  clear h hb hr
  go_wp2_with fail
  refine (someTree_any w.heap.size R a n cap w1 H).mono ?_
  rintro e w2 ⟨m, rows, v, RV, rfl, hG, h1, h2, h3, hb⟩
  have HG := Lib.hid hG
  have HB2 := Lib.hid (HB.out.trans hb)
  have H3 := Lib.hid h3
  clear hG hb h3
  go_wp2
  go_ret2
  exact ⟨m, rows, v, RV, rfl, HG.out, h1, h2, H3.out, HB2.out⟩
set_option maxHeartbeats 800000 in
theorem drawMostPairs (a : Option Addr) (len cap : Nat) (zs : List Int) (w : World) (hr : Hid (IsRow .u8 w a len cap zs)) (hl : len ≤ 1048576) :
    Calls Try.prog 19 #[.slice a len cap] w (TreeDrawn w.heap.size w) := by
  go_enter Try.func19, Try.ntmps19
  go_wp2_with fail
  refine (newReader_any a len cap zs w hr.out hl).mono ?_
  rintro e w1 ⟨n, R, rfl, h, hb⟩
  have H := Lib.hid h
  have HB := Lib.hid hb
  clear h hb hr
  go_wp2_with fail
  refine (someTree_any w.heap.size R a n cap w1 H).mono ?_
  rintro e w2 ⟨m, rows, v, RV, rfl, hG, h1, h2, h3, hb⟩
  have HG := Lib.hid hG
  have HB2 := Lib.hid (HB.out.trans hb)
  have H3 := Lib.hid h3
  clear hG hb h3
  go_wp2
  go_ret2
  exact ⟨m, rows, v, RV, rfl, HG.out, h1, h2, H3.out, HB2.out⟩
set_option maxHeartbeats 800000 in
theorem drawLeastWatch (a : Option Addr) (len cap : Nat) (zs : List Int) (w : World) (hr : Hid (IsRow .u8 w a len cap zs)) (hl : len ≤ 1048576) :
    Calls Try.prog 22 #[.slice a len cap] w (TreeDrawn w.heap.size w) := by
  go_enter Try.func22, Try.ntmps22
  go_wp2_with fail
  refine (newReader_any a len cap zs w hr.out hl).mono ?_
  rintro e w1 ⟨n, R, rfl, h, hb⟩
  have H := Lib.hid h
  have HB := Lib.hid hb
  clear h hb hr
  go_wp2_with fail
  refine (someTree_any w.heap.size R a n cap w1 H).mono ?_
  rintro e w2 ⟨m, rows, v, RV, rfl, hG, h1, h2, h3, hb⟩
  have HG := Lib.hid hG
  have HB2 := Lib.hid (HB.out.trans hb)
  have H3 := Lib.hid h3
  clear hG hb h3
  go_wp2
  go_ret2
  exact ⟨m, rows, v, RV, rfl, HG.out, h1, h2, H3.out, HB2.out⟩
set_option maxHeartbeats 800000 in
theorem drawWaysOf (a : Option Addr) (len cap : Nat) (zs : List Int) (w : World) (hr : Hid (IsRow .u8 w a len cap zs)) (hl : len ≤ 1048576) :
    Calls Try.prog 27 #[.slice a len cap] w (TreeDrawn w.heap.size w) := by
  go_enter Try.func27, Try.ntmps27
  go_wp2_with fail
  refine (newReader_any a len cap zs w hr.out hl).mono ?_
  rintro e w1 ⟨n, R, rfl, h, hb⟩
  have H := Lib.hid h
  have HB := Lib.hid hb
  clear h hb hr
  go_wp2_with fail
  refine (someTree_any w.heap.size R a n cap w1 H).mono ?_
  rintro e w2 ⟨m, rows, v, RV, rfl, hG, h1, h2, h3, hb⟩
  have HG := Lib.hid hG
  have HB2 := Lib.hid (HB.out.trans hb)
  have H3 := Lib.hid h3
  clear hG hb h3
  go_wp2
  go_ret2
  exact ⟨m, rows, v, RV, rfl, HG.out, h1, h2, H3.out, HB2.out⟩
set_option maxHeartbeats 800000 in
theorem drawWaysByEdges (a : Option Addr) (len cap : Nat) (zs : List Int) (w : World) (hr : Hid (IsRow .u8 w a len cap zs)) (hl : len ≤ 1048576) :
    Calls Try.prog 31 #[.slice a len cap] w (TreeDrawn w.heap.size w) := by
  go_enter Try.func31, Try.ntmps31
  go_wp2_with fail
  refine (newReader_any a len cap zs w hr.out hl).mono ?_
  rintro e w1 ⟨n, R, rfl, h, hb⟩
  have H := Lib.hid h
  have HB := Lib.hid hb
  clear h hb hr
  go_wp2_with fail
  refine (someTree_any w.heap.size R a n cap w1 H).mono ?_
  rintro e w2 ⟨m, rows, v, RV, rfl, hG, h1, h2, h3, hb⟩
  have HG := Lib.hid hG
  have HB2 := Lib.hid (HB.out.trans hb)
  have H3 := Lib.hid h3
  clear hG hb h3
  go_wp2
  go_ret2
  exact ⟨m, rows, v, RV, rfl, HG.out, h1, h2, H3.out, HB2.out⟩
end Go.Proofs.Ytmpppocmbdainaa
