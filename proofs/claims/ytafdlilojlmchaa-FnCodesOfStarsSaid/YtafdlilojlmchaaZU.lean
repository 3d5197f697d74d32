/-
  The contracts of the functions that draw a tree, or a code.
  The draws of chapter 10's laws: a tree, most often.
-/
import Derived.Test.YtafdlilojlmchaaZD
import Derived.Test.YtafdlilojlmchaaZT
namespace Go.Proofs.Ytafdlilojlmchaa
open Go.RowKit

theorem treeE_leD (n : Nat) : ∀ (c : List Nat) (d : Nat → Nat), (treeE n c d).length ≤ c.length + 1 := by
  intro c
  induction c with
  | nil => intro d; rw [treeE]; split <;> simp
  | cons x r ih =>
    intro d
    rw [treeE]
    split
    · simp
    · simp only [List.length_cons]; have := ih (down d ‹_› x); omega
theorem rowsE_two (E : Edges) : ∀ r ∈ rowsE E, r.length = 2 := by
  intro r hr
  obtain ⟨e, _, rfl⟩ := List.mem_map.1 hr
  rfl
/-- a slice's length, for a loop's measure -/
def lenOfD : Value → Nat | .slice _ n _ => n | _ => 0
theorem own_onlyD {w w' : World} {B n R : Nat} {t : TypeId} {v : Value} {xs : List Value} (h : w.ownsRow B t 1 v n xs) (ho : Only R w w') (hR : R < B) : w'.ownsRow B t 1 v n xs :=
  own_of_blocks h fun g hg => ho.block g (by have := (h.lt g hg).1; omega)
theorem own_someD {w : World} {B n : Nat} {t : TypeId} {v : Value} {xs : List Value} (h : w.ownsRow B t 1 v n xs) (hv : v ≠ .slice none 0 0) : ∃ g cap, v = .slice (some ⟨g, 0, none⟩) n cap := by
  rcases h.2 with ⟨h0, _⟩ | ⟨g, cap, cur, h1, _⟩
  · exact absurd h0 hv
  · exact ⟨g, cap, h1⟩
/-- a number of nodes and some rows of two numbers -/
def TreeDrawn (B : Nat) (w : World) (e : Ending) (w' : World) : Prop :=
  ∃ (m : Int) (rows : List (List Int)) (v : Value) (RV : List Value), e = .returned (.tuple #[.int .i64 m, v]) ∧ Grid w' B w'.heap.size v RV rows ∧ (1 ≤ m ∧ m ≤ 8) ∧ rows.length ≤ 9 ∧ (∀ r ∈ rows, r.length = 2) ∧ Below B w w'

/-- a number of nodes and some numbers -/
def CodeDrawn (B : Nat) (w : World) (e : Ending) (w' : World) : Prop :=
  ∃ (m : Int) (l : List Int) (v : Value), e = .returned (.tuple #[.int .i64 m, v]) ∧ Own w' B w'.heap.size 3 v (iv l) ∧ (0 ≤ m ∧ m ≤ 8) ∧ l.length ≤ 9 ∧ Below B w w'

set_option maxHeartbeats 3200000 in
set_option maxRecDepth 100000 in
theorem drawTreeOf (a : Option Addr) (len cap : Nat) (zs : List Int) (w0 : World) (hr : Hid (IsRow .u8 w0 a len cap zs)) (hl : len ≤ 1048576) :
    Calls Try.prog 15 #[.slice a len cap] w0 (CodeDrawn w0.heap.size w0) := by
  obtain ⟨i0, hi, hz0, hz1, hz2⟩ := info_parts Try.infoIntR
  go_enter Try.func15, Try.ntmps15
  go_wp2_with fail
  refine (newReader_any a len cap zs w0 hr.out hl).mono ?_
  rintro e w ⟨n, R, rfl, h, hb0⟩
  have hlow := h.low
  have hRlt := h.lt
  obtain ⟨B, hB⟩ : ∃ B, B = w0.heap.size := ⟨_, rfl⟩
  have HBB := Lib.hid hB
  have HB0 := Lib.hid hb0
  rw [← hB] at h hlow HB0
  clear hB hb0 hr
  have l9 := lit_own w #[.int .i64 5, .int .i64 4, .int .i64 6, .int .i64 7, .int .i64 3, .int .i64 2, .int .i64 1, .int .i64 0, .int .i64 8] 3 (by decide)
  have L9 : Hid (Own (w.alloc (.cells #[.int .i64 5, .int .i64 4, .int .i64 6, .int .i64 7, .int .i64 3, .int .i64 2, .int .i64 1, .int .i64 0, .int .i64 8] 3)) w.heap.size (w.heap.size + 1) 3 (.slice (some ⟨w.heap.size, 0, none⟩) 9 9) (iv [5, 4, 6, 7, 3, 2, 1, 0, 8])) := l9
  have hbW : Below w.heap.size w (w.alloc (.cells #[.int .i64 5, .int .i64 4, .int .i64 6, .int .i64 7, .int .i64 3, .int .i64 2, .int .i64 1, .int .i64 0, .int .i64 8] 3)) := (Below.refl _ _).alloc (Nat.le_refl _) _
  have R1 := Lib.hid (h.grow hbW)
  have B1 := Lib.hid (HB0.out.trans (hbW.mono (by omega)))
  have NE := Lib.hid (rd_ne l9 R1.out (by decide))
  have OA := Lib.hid (one_any [5, 4, 6, 7, 3, 2, 1, 0, 8] _ B R a n cap 0 _ R1 (by omega) L9 NE.out (by decide) (by decide))
  clear l9 hbW h HB0
  go_wp2_with fail
  refine OA.out.mono ?_
  rintro e w2 ⟨y, hy, rfl, hrd, honly⟩
  obtain ⟨N, rfl, hN7⟩ : ∃ N : Nat, y = N ∧ N ≤ 8 := by
    simp only [List.mem_cons, List.not_mem_nil, or_false] at hy
    exact ⟨y.toNat, by omega, by omega⟩
  have R2 := Lib.hid hrd
  have B2 := Lib.hid (B1.out.trans (honly.below hlow))
  have hR2 := hrd.lt
  obtain ⟨H1, hH1⟩ : ∃ H1, H1 = w2.heap.size := ⟨_, rfl⟩
  have ho : Hid ((w2.alloc (.cells #[] 3)).ownsRow H1 3 1 (.slice (some ⟨w2.heap.size, 0, none⟩) 0 0) 0 (iv [])) := by
    rw [hH1]; exact World.ownsRow_lit (base := w2.heap.size) (e := 3) (size := 1) w2 #[] 0 (Nat.le_refl _) (by decide) rfl
  have hbW : Below w2.heap.size w2 (w2.alloc (.cells #[] 3)) := (Below.refl _ _).alloc (Nat.le_refl _) _
  have R3 := Lib.hid (R2.out.grow hbW)
  have B3 := Lib.hid (B2.out.trans (hbW.mono (by omega)))
  have hRH : R < H1 := by omega
  clear hy hrd honly OA NE L9 R1 B1 R2 B2 hbW hR2
  go_wp2_with fail
  obtain ⟨w3, hw3⟩ : ∃ w3, w3 = w2.alloc (.cells #[] 3) := ⟨_, rfl⟩
  rw [← hw3] at ho R3 B3 ⊢
  rw [← hH1] at ho ⊢
  clear hw3 hH1
  have ewN : IntKind.i64.wrap ((N : Int) - 2) = (N : Int) - 2 := by rw [IntKind.wrap_i64]; omega
  go_loopw [6] (fun v wr => ∃ (l : List Int) (k : Nat), v ≠ .slice none 0 0 ∧ k ≤ N - 2 ∧ Hid (k = l.length) ∧ Hid (wr.ownsRow H1 3 1 v k (iv l)) ∧ Hid (Rd wr B R a n cap (0 + 1 + k)) ∧ Hid (Below B w0 wr)) (fun v _ => N - 2 - lenOfD v)
  case atStart => exact ⟨[], 0, by simp, Nat.zero_le _, rfl, ho, R3, B3⟩
  case round =>
    clear ho R3 B3
    obtain ⟨l, k, hnil, hk, HK, O, HR, HB⟩ := hrel
    obtain ⟨g, cp, rfl⟩ := own_someD O.out hnil
    by_cases hlt : k < N - 2
    · have i1 : (k : Int) < (N : Int) - 2 := by omega
      go_wp2_with fail
      refine (pick_any B R a n cap (0 + 1 + k) _ _ HR.out (by omega) (by omega) (by omega)).mono ?_
      rintro e w7 ⟨x, rfl, hx, _, hrd, honly⟩
      have O7 := Lib.hid (own_onlyD O.out honly hRH)
      have R7 := Lib.hid hrd
      have B7 := Lib.hid (HB.out.trans (honly.below hlow))
      have s7 : H1 ≤ w7.heap.size := by have := (O7.out.lt g rfl); omega
      have y1 : k + 1 ≤ maxLen := by unfold maxLen; omega
      have y2 : (k + 1) * 8 ≤ 140737488355328 := by omega
      have Y3 := Lib.hid (show ∀ o : Obj, H1 ≤ (w7.alloc o).heap.size by intro o; simp; omega)
      clear hx hrd honly O HR HB
      go_wp2_with (at_builtin; refine wpList_append_lies _ rfl (.tmp 18) (.tmp 22) 30 rfl H1 3 i0 (.int .i64 0) 1 8 Try.underlying30 hi hz0 hz1 hz2 rfl (Nat.succ_pos 0) _ k (iv l) rfl (O7.out.alloc _) ⟨w7.heap.size, 0, none⟩ 1 1 [_] rfl rfl (cell_one_new _ _ _) (one_intR _) (Nat.succ_pos 0) y1 y2 (Y3.out _) _ rfl ?_)
      intro g8 c8 w8 hv8 hg8 _ _
      have hb8 : Below H1 w7 w8 := ((Below.refl _ _).alloc s7 _).grown hg8 (Y3.out _) (fun q hq => (O7.out.lt q hq).1)
      have R8 := Lib.hid (R7.out.below hb8 hRH)
      have B8 := Lib.hid (B7.out.trans (hb8.mono (by omega)))
      rw [iv_snoc] at hv8
      have O8 := Lib.hid hv8
      have HK8 : Hid (k + 1 = (l ++ [(x : Int)]).length) := by show _ = _; rw [List.length_append, ← HK.out]; rfl
      clear hv8 hg8 hb8 O7 R7 B7 Y3 HK
      go_wp2
      go_roundw
      case rel => exact ⟨l ++ [(x : Int)], k + 1, by simp, by omega, HK8, O8, R8, B8⟩
      case measure => simp only [lenOfD]; omega
    · have i1 : ¬ ((k : Int) < (N : Int) - 2) := by omega
      have hk7 : k ≤ 7 := by omega
      have hBH : B ≤ H1 := by omega
      clear hlt hnil
      go_wp2_with fail
      refine (pick_any B R a n cap (0 + 1 + k) 20 _ HR.out (by omega) (by omega) (by omega)).mono ?_
      rintro e w4 ⟨z, rfl, _, _, hrd, honly⟩
      have O4 := own_onlyD O.out honly hRH
      have B4 := HB.out.trans (honly.below hlow)
      have hR4 := hrd.lt
      by_cases hz : z = 0
      · subst hz
        have l3 := lit_own w4 #[.int .i64 0, .int .i64 (-1), .int .i64 (N : Int)] 3 (by show (3 : Nat) ≤ maxLen; unfold maxLen; omega)
        have L3 : Hid (Own (w4.alloc (.cells #[.int .i64 0, .int .i64 (-1), .int .i64 (N : Int)] 3)) w4.heap.size (w4.heap.size + 1) 3 (.slice (some ⟨w4.heap.size, 0, none⟩) 3 3) (iv [0, -1, (N : Int)])) := l3
        have hbW : Below w4.heap.size w4 (w4.alloc (.cells #[.int .i64 0, .int .i64 (-1), .int .i64 (N : Int)] 3)) := (Below.refl _ _).alloc (Nat.le_refl _) _
        have R6 := Lib.hid (hrd.grow hbW)
        have O6 := Lib.hid (O4.alloc (.cells #[.int .i64 0, .int .i64 (-1), .int .i64 (N : Int)] 3))
        have B6 := Lib.hid (B4.trans (hbW.mono (by omega)))
        have NE := Lib.hid (rd_ne l3 R6.out (by decide))
        have OA := Lib.hid (one_any [0, -1, (N : Int)] _ B R a n cap _ _ R6 (by omega) L3 NE.out (by show 0 < 3; omega) (by show 3 ≤ 1000; omega))
        clear hrd honly l3 hbW O4 B4 O HR HB
        go_wp2_with fail
        refine OA.out.mono ?_
        rintro e w7 ⟨x, _, rfl, hrd, honly⟩
        have O7 := Lib.hid (own_onlyD O6.out honly hRH)
        have B7 := Lib.hid (B6.out.trans (honly.below hlow))
        have s7 : H1 ≤ w7.heap.size := by have := (O7.out.lt g rfl); omega
        have y1 : k + 1 ≤ maxLen := by unfold maxLen; omega
        have y2 : (k + 1) * 8 ≤ 140737488355328 := by omega
        have Y3 := Lib.hid (show ∀ o : Obj, H1 ≤ (w7.alloc o).heap.size by intro o; simp; omega)
        clear hrd honly O6 B6 R6 NE OA L3
        go_wp2_with (at_builtin; refine wpList_append_lies _ rfl (.tmp 27) (.tmp 32) 30 rfl H1 3 i0 (.int .i64 0) 1 8 Try.underlying30 hi hz0 hz1 hz2 rfl (Nat.succ_pos 0) _ k (iv l) rfl (O7.out.alloc _) ⟨w7.heap.size, 0, none⟩ 1 1 [_] rfl rfl (cell_one_new _ _ _) (one_intR _) (Nat.succ_pos 0) y1 y2 (Y3.out _) _ rfl ?_)
        intro g8 c8 w8 hv8 hg8 _ _
        have hb8 : Below H1 w7 w8 := ((Below.refl _ _).alloc s7 _).grown hg8 (Y3.out _) (fun q hq => (O7.out.lt q hq).1)
        have B8 := Lib.hid (B7.out.trans (hb8.mono hBH))
        rw [iv_snoc] at hv8
        have O8 := Lib.hid hv8
        have HK8 : Hid ((l ++ [x]).length = k + 1) := by show _ = _; rw [List.length_append, ← HK.out]; rfl
        clear hv8 hg8 hb8 O7 B7 Y3
        go_wp2
        go_ret2
        rw [← HBB.out]
        exact ⟨_, l ++ [x], _, rfl, own_lo (Own.of_own (by rw [iv_length, HK8.out]; exact O8.out)) hBH, by omega, by rw [HK8.out]; omega, B8.out⟩
      · have j0 : ((z : Int) == 0) = false := beq_false_of_ne (by omega)
        have O5 := Lib.hid O4
        have B5 := Lib.hid B4
        clear hrd honly O4 B4 O HR HB hR4
        go_wp2
        go_ret2
        rw [← HBB.out]
        exact ⟨_, l, _, rfl, own_lo (Own.of_own (by rw [iv_length, ← HK.out]; exact O5.out)) hBH, by omega, by rw [← HK.out]; omega, B5.out⟩
end Go.Proofs.Ytafdlilojlmchaa

namespace Go.Proofs.Ytafdlilojlmchaa
open Go.RowKit

end Go.Proofs.Ytafdlilojlmchaa
