/-
  What the laws of ranks draw: a text, a number, two numbers.
-/
import Derived.Test.YthalkkbchghmpaaCDrawF
namespace Go.Proofs.Ythalkkbchghmpaa
open Go.RowKit

theorem wf_small (x : Int) (h : -1000 ≤ x ∧ x ≤ 100000) : (Lit.int .i64 x).wf = true := by
  have h1 : IntKind.i64.min = -9223372036854775808 := rfl
  have h2 : IntKind.i64.max = 9223372036854775807 := rfl
  simp [Lit.wf]; omega

theorem of_list (l : List Int) (lo hi : Int) (h : l.all (fun x => decide (lo ≤ x ∧ x ≤ hi)) = true) (x : Int) (hx : x ∈ l) : lo ≤ x ∧ x ≤ hi := of_decide_eq_true (List.all_eq_true.1 h x hx)

theorem drawRankOf (a : Option Addr) (len cap : Nat) (zs : List Int) (w : World) (hr : Hid (IsRow .u8 w a len cap zs)) (hl : len ≤ 1048576) :
    Calls Try.prog 23 #[.slice a len cap] w (Drawn w.heap.size w) := by
  go_enter Try.func23, Try.ntmps23
  go_wp2_with fail
  refine (newReader_any a len cap zs w hr.out hl).mono ?_
  rintro e w1 ⟨n, R, rfl, hrd, hb⟩
  have R1 := Lib.hid hrd
  have B1 := Lib.hid hb
  clear hrd hb
  go_wp2_with fail
  refine (someWord_any _ _ _ _ _ _ R1).mono ?_
  rintro e w2 ⟨s, rfl, hs, hb⟩
  go_wp2
  go_ret
  exact ⟨s, rfl, hs, B1.out.trans hb⟩

theorem drawNextWord (a : Option Addr) (len cap : Nat) (zs : List Int) (w : World) (hr : Hid (IsRow .u8 w a len cap zs)) (hl : len ≤ 1048576) :
    Calls Try.prog 28 #[.slice a len cap] w (Drawn w.heap.size w) := by
  go_enter Try.func28, Try.ntmps28
  go_wp2_with fail
  refine (newReader_any a len cap zs w hr.out hl).mono ?_
  rintro e w1 ⟨n, R, rfl, hrd, hb⟩
  have R1 := Lib.hid hrd
  have B1 := Lib.hid hb
  clear hrd hb
  go_wp2_with fail
  refine (someWord_any _ _ _ _ _ _ R1).mono ?_
  rintro e w2 ⟨s, rfl, hs, hb⟩
  go_wp2
  go_ret
  exact ⟨s, rfl, hs, B1.out.trans hb⟩

set_option maxHeartbeats 800000 in
theorem drawWordsOf (a : Option Addr) (len cap : Nat) (zs : List Int) (w : World) (hr : Hid (IsRow .u8 w a len cap zs)) (hl : len ≤ 1048576) :
    Calls Try.prog 12 #[.slice a len cap] w fun e w' => ∃ x : Int, (-1 ≤ x ∧ x ≤ 10) ∧ e = .returned (.int .i64 x) ∧ Below w.heap.size w w' := by
  go_enter Try.func12, Try.ntmps12
  go_wp2_with fail
  refine (newReader_any a len cap zs w hr.out hl).mono ?_
  rintro e w1 ⟨n, R, rfl, hrd, hb⟩
  have hlow := hrd.low
  have hRlt := hrd.lt
  have hsz1 := hb.size
  have R1 := Lib.hid (show Rd (w1.alloc (.cells #[.int .i64 4, .int .i64 3, .int .i64 5, .int .i64 2, .int .i64 6, .int .i64 1, .int .i64 0, .int .i64 7, .int .i64 (-1)] 3)) w.heap.size R a n cap 0 from (hrd).grow ((Below.refl _ _).alloc (Nat.le_refl _) _))
  have B1 := Lib.hid ((hb).alloc (show w.heap.size ≤ w1.heap.size by omega) (.cells #[.int .i64 4, .int .i64 3, .int .i64 5, .int .i64 2, .int .i64 6, .int .i64 1, .int .i64 0, .int .i64 7, .int .i64 (-1)] 3))
  have L1 := Lib.hid (show Own (w1.alloc (.cells #[.int .i64 4, .int .i64 3, .int .i64 5, .int .i64 2, .int .i64 6, .int .i64 1, .int .i64 0, .int .i64 7, .int .i64 (-1)] 3)) w1.heap.size (w1.heap.size + 1) 3 (.slice (some ⟨w1.heap.size, 0, none⟩) 9 9) (iv [4, 3, 5, 2, 6, 1, 0, 7, -1]) from lit_own w1 _ 3 (by decide))
  have N1 := Lib.hid (show (Value.slice (some ⟨w1.heap.size, 0, none⟩) 9 9).ownBlock ≠ some R by simp [Value.ownBlock]; omega)
  clear hrd hb
  go_wp2_with fail
  refine (one_any _ _ w.heap.size R a n cap 0 _ R1 (by omega) L1 N1.out (by decide) (by decide)).mono ?_
  rintro e w2 ⟨x, hx, rfl, hrd, honly⟩
  have B2 := Lib.hid (B1.out.trans (honly.below hlow))
  have HX := Lib.hid (of_list _ (-1) 10 (by decide) x hx)
  clear hrd honly hx
  go_wp2
  go_ret
  exact ⟨x, HX.out, rfl, B2.out⟩

set_option maxHeartbeats 800000 in
theorem drawEndsOf (a : Option Addr) (len cap : Nat) (zs : List Int) (w : World) (hr : Hid (IsRow .u8 w a len cap zs)) (hl : len ≤ 1048576) :
    Calls Try.prog 20 #[.slice a len cap] w fun e w' => ∃ x y : Int, (-1 ≤ x ∧ x ≤ 10) ∧ (-1 ≤ y ∧ y ≤ 10) ∧ e = .returned (.tuple #[.int .i64 x, .int .i64 y]) ∧ Below w.heap.size w w' := by
  go_enter Try.func20, Try.ntmps20
  go_wp2_with fail
  refine (newReader_any a len cap zs w hr.out hl).mono ?_
  rintro e w1 ⟨n, R, rfl, hrd, hb⟩
  have hlow := hrd.low
  have hRlt := hrd.lt
  have hsz1 := hb.size
  have R1 := Lib.hid (show Rd (w1.alloc (.cells #[.int .i64 2, .int .i64 0, .int .i64 1, .int .i64 3, .int .i64 5, .int .i64 (-1), .int .i64 10] 3)) w.heap.size R a n cap 0 from (hrd).grow ((Below.refl _ _).alloc (Nat.le_refl _) _))
  have B1 := Lib.hid ((hb).alloc (show w.heap.size ≤ w1.heap.size by omega) (.cells #[.int .i64 2, .int .i64 0, .int .i64 1, .int .i64 3, .int .i64 5, .int .i64 (-1), .int .i64 10] 3))
  have L1 := Lib.hid (show Own (w1.alloc (.cells #[.int .i64 2, .int .i64 0, .int .i64 1, .int .i64 3, .int .i64 5, .int .i64 (-1), .int .i64 10] 3)) w1.heap.size (w1.heap.size + 1) 3 (.slice (some ⟨w1.heap.size, 0, none⟩) 7 7) (iv [2, 0, 1, 3, 5, -1, 10]) from lit_own w1 _ 3 (by decide))
  have N1 := Lib.hid (show (Value.slice (some ⟨w1.heap.size, 0, none⟩) 7 7).ownBlock ≠ some R by simp [Value.ownBlock]; omega)
  clear hrd hb
  go_wp2_with fail
  refine (one_any _ _ w.heap.size R a n cap 0 _ R1 (by omega) L1 N1.out (by decide) (by decide)).mono ?_
  rintro e w2 ⟨x, hx, rfl, hrd, honly⟩
  have B2 := Lib.hid (B1.out.trans (honly.below hlow))
  have HX := Lib.hid (of_list _ (-1) 10 (by decide) x hx)
  have hsz2 := B2.out.size
  have hRlt2 := hrd.lt
  clear honly hx hRlt
  have R3 := Lib.hid (show Rd (w2.alloc (.cells #[.int .i64 3, .int .i64 2, .int .i64 4, .int .i64 1, .int .i64 0, .int .i64 6, .int .i64 (-1), .int .i64 10] 3)) w.heap.size R a n cap (0 + 1) from (hrd).grow ((Below.refl _ _).alloc (Nat.le_refl _) _))
  have B3 := Lib.hid ((B2.out).alloc (show w.heap.size ≤ w2.heap.size by omega) (.cells #[.int .i64 3, .int .i64 2, .int .i64 4, .int .i64 1, .int .i64 0, .int .i64 6, .int .i64 (-1), .int .i64 10] 3))
  have L3 := Lib.hid (show Own (w2.alloc (.cells #[.int .i64 3, .int .i64 2, .int .i64 4, .int .i64 1, .int .i64 0, .int .i64 6, .int .i64 (-1), .int .i64 10] 3)) w2.heap.size (w2.heap.size + 1) 3 (.slice (some ⟨w2.heap.size, 0, none⟩) 8 8) (iv [3, 2, 4, 1, 0, 6, -1, 10]) from lit_own w2 _ 3 (by decide))
  have N3 := Lib.hid (show (Value.slice (some ⟨w2.heap.size, 0, none⟩) 8 8).ownBlock ≠ some R by simp [Value.ownBlock]; omega)
  clear hrd
  go_wp2_with fail
  refine (one_any _ _ w.heap.size R a n cap (0 + 1) _ R3 (by omega) L3 N3.out (by decide) (by decide)).mono ?_
  rintro e w3 ⟨y, hy, rfl, hrd, honly⟩
  have B4 := Lib.hid (B3.out.trans (honly.below hlow))
  have HY := Lib.hid (of_list _ (-1) 10 (by decide) y hy)
  clear hrd honly hy
  go_wp2
  go_ret2
  exact ⟨x, y, HX.out, HY.out, rfl, B4.out⟩

set_option maxHeartbeats 800000 in
theorem drawCountLeaves (a : Option Addr) (len cap : Nat) (zs : List Int) (w : World) (hr : Hid (IsRow .u8 w a len cap zs)) (hl : len ≤ 1048576) :
    Calls Try.prog 31 #[.slice a len cap] w fun e w' => ∃ x y : Int, (-1 ≤ x ∧ x ≤ 10) ∧ (-1 ≤ y ∧ y ≤ 10) ∧ e = .returned (.tuple #[.int .i64 x, .int .i64 y]) ∧ Below w.heap.size w w' := by
  go_enter Try.func31, Try.ntmps31
  go_wp2_with fail
  refine (newReader_any a len cap zs w hr.out hl).mono ?_
  rintro e w1 ⟨n, R, rfl, hrd, hb⟩
  have hlow := hrd.low
  have hRlt := hrd.lt
  have hsz1 := hb.size
  have R1 := Lib.hid (show Rd (w1.alloc (.cells #[.int .i64 4, .int .i64 5, .int .i64 3, .int .i64 6, .int .i64 2, .int .i64 1, .int .i64 0, .int .i64 7] 3)) w.heap.size R a n cap 0 from (hrd).grow ((Below.refl _ _).alloc (Nat.le_refl _) _))
  have B1 := Lib.hid ((hb).alloc (show w.heap.size ≤ w1.heap.size by omega) (.cells #[.int .i64 4, .int .i64 5, .int .i64 3, .int .i64 6, .int .i64 2, .int .i64 1, .int .i64 0, .int .i64 7] 3))
  have L1 := Lib.hid (show Own (w1.alloc (.cells #[.int .i64 4, .int .i64 5, .int .i64 3, .int .i64 6, .int .i64 2, .int .i64 1, .int .i64 0, .int .i64 7] 3)) w1.heap.size (w1.heap.size + 1) 3 (.slice (some ⟨w1.heap.size, 0, none⟩) 8 8) (iv [4, 5, 3, 6, 2, 1, 0, 7]) from lit_own w1 _ 3 (by decide))
  have N1 := Lib.hid (show (Value.slice (some ⟨w1.heap.size, 0, none⟩) 8 8).ownBlock ≠ some R by simp [Value.ownBlock]; omega)
  clear hrd hb
  go_wp2_with fail
  refine (one_any _ _ w.heap.size R a n cap 0 _ R1 (by omega) L1 N1.out (by decide) (by decide)).mono ?_
  rintro e w2 ⟨x, hx, rfl, hrd, honly⟩
  have B2 := Lib.hid (B1.out.trans (honly.below hlow))
  have HX := Lib.hid (of_list _ (-1) 10 (by decide) x hx)
  have hsz2 := B2.out.size
  have hRlt2 := hrd.lt
  clear honly hx hRlt
  have R3 := Lib.hid (show Rd (w2.alloc (.cells #[.int .i64 2, .int .i64 3, .int .i64 1, .int .i64 4, .int .i64 0, .int .i64 5, .int .i64 6, .int .i64 (-1)] 3)) w.heap.size R a n cap (0 + 1) from (hrd).grow ((Below.refl _ _).alloc (Nat.le_refl _) _))
  have B3 := Lib.hid ((B2.out).alloc (show w.heap.size ≤ w2.heap.size by omega) (.cells #[.int .i64 2, .int .i64 3, .int .i64 1, .int .i64 4, .int .i64 0, .int .i64 5, .int .i64 6, .int .i64 (-1)] 3))
  have L3 := Lib.hid (show Own (w2.alloc (.cells #[.int .i64 2, .int .i64 3, .int .i64 1, .int .i64 4, .int .i64 0, .int .i64 5, .int .i64 6, .int .i64 (-1)] 3)) w2.heap.size (w2.heap.size + 1) 3 (.slice (some ⟨w2.heap.size, 0, none⟩) 8 8) (iv [2, 3, 1, 4, 0, 5, 6, -1]) from lit_own w2 _ 3 (by decide))
  have N3 := Lib.hid (show (Value.slice (some ⟨w2.heap.size, 0, none⟩) 8 8).ownBlock ≠ some R by simp [Value.ownBlock]; omega)
  clear hrd
  go_wp2_with fail
  refine (one_any _ _ w.heap.size R a n cap (0 + 1) _ R3 (by omega) L3 N3.out (by decide) (by decide)).mono ?_
  rintro e w3 ⟨y, hy, rfl, hrd, honly⟩
  have B4 := Lib.hid (B3.out.trans (honly.below hlow))
  have HY := Lib.hid (of_list _ (-1) 10 (by decide) y hy)
  clear hrd honly hy
  go_wp2
  go_ret2
  exact ⟨x, y, HX.out, HY.out, rfl, B4.out⟩

set_option maxHeartbeats 1600000 in
theorem drawWordAt (a : Option Addr) (len cap : Nat) (zs : List Int) (w : World) (hr : Hid (IsRow .u8 w a len cap zs)) (hl : len ≤ 1048576) :
    Calls Try.prog 26 #[.slice a len cap] w fun e w' => ∃ x y : Int, (-1 ≤ x ∧ x ≤ 10) ∧ (-1 ≤ y ∧ y ≤ 250) ∧ e = .returned (.tuple #[.int .i64 x, .int .i64 y]) ∧ Below w.heap.size w w' := by
  go_enter Try.func26, Try.ntmps26
  go_wp2_with fail
  refine (newReader_any a len cap zs w hr.out hl).mono ?_
  rintro e w1 ⟨n, R, rfl, hrd, hb⟩
  have hlow := hrd.low
  have hRlt := hrd.lt
  have hsz1 := hb.size
  have R1 := Lib.hid (show Rd (w1.alloc (.cells #[.int .i64 4, .int .i64 5, .int .i64 3, .int .i64 6, .int .i64 2, .int .i64 1, .int .i64 0, .int .i64 9, .int .i64 10, .int .i64 (-1)] 3)) w.heap.size R a n cap 0 from (hrd).grow ((Below.refl _ _).alloc (Nat.le_refl _) _))
  have B1 := Lib.hid ((hb).alloc (show w.heap.size ≤ w1.heap.size by omega) (.cells #[.int .i64 4, .int .i64 5, .int .i64 3, .int .i64 6, .int .i64 2, .int .i64 1, .int .i64 0, .int .i64 9, .int .i64 10, .int .i64 (-1)] 3))
  have L1 := Lib.hid (show Own (w1.alloc (.cells #[.int .i64 4, .int .i64 5, .int .i64 3, .int .i64 6, .int .i64 2, .int .i64 1, .int .i64 0, .int .i64 9, .int .i64 10, .int .i64 (-1)] 3)) w1.heap.size (w1.heap.size + 1) 3 (.slice (some ⟨w1.heap.size, 0, none⟩) 10 10) (iv [4, 5, 3, 6, 2, 1, 0, 9, 10, -1]) from lit_own w1 _ 3 (by decide))
  have N1 := Lib.hid (show (Value.slice (some ⟨w1.heap.size, 0, none⟩) 10 10).ownBlock ≠ some R by simp [Value.ownBlock]; omega)
  clear hrd hb
  go_wp2_with fail
  refine (one_any _ _ w.heap.size R a n cap 0 _ R1 (by omega) L1 N1.out (by decide) (by decide)).mono ?_
  rintro e w2 ⟨x, hx, rfl, hrd, honly⟩
  have B2 := Lib.hid (B1.out.trans (honly.below hlow))
  have HX := Lib.hid (of_list _ (-1) 10 (by decide) x hx)
  have R2 := Lib.hid hrd
  clear hrd honly hx hRlt
  go_wp2_with fail
  refine (pick_any w.heap.size R a n cap (0 + 1) 14 _ R2.out (by omega) (by omega) (by omega)).mono ?_
  rintro e w3 ⟨k1, rfl, hk1, _, hrd3, ho3⟩
  have B3 := Lib.hid (B2.out.trans (ho3.below hlow))
  have R3 := Lib.hid hrd3
  have K1 := hk1 (by omega)
  clear hrd3 ho3 hk1
  go_wp2_with fail
  refine (pick_any w.heap.size R a n cap (0 + 1 + 1) 42 _ R3.out (by omega) (by omega) (by omega)).mono ?_
  rintro e w4 ⟨k2, rfl, hk2, _, hrd4, ho4⟩
  have B4 := Lib.hid (B3.out.trans (ho4.below hlow))
  have K2 := hk2 (by omega)
  have hsz4 := B4.out.size
  have hRlt4 := hrd4.lt
  clear ho4 hk2
  have R5 := Lib.hid (show Rd (w4.alloc (.cells #[.int .i64 (k1 : Int), .int .i64 (k2 : Int), .int .i64 0, .int .i64 131, .int .i64 250, .int .i64 (-1)] 3)) w.heap.size R a n cap (0 + 1 + 1 + 1) from (hrd4).grow ((Below.refl _ _).alloc (Nat.le_refl _) _))
  have B5 := Lib.hid ((B4.out).alloc (show w.heap.size ≤ w4.heap.size by omega) (.cells #[.int .i64 (k1 : Int), .int .i64 (k2 : Int), .int .i64 0, .int .i64 131, .int .i64 250, .int .i64 (-1)] 3))
  have L5 := Lib.hid (show Own (w4.alloc (.cells #[.int .i64 (k1 : Int), .int .i64 (k2 : Int), .int .i64 0, .int .i64 131, .int .i64 250, .int .i64 (-1)] 3)) w4.heap.size (w4.heap.size + 1) 3 (.slice (some ⟨w4.heap.size, 0, none⟩) 6 6) (iv [(k1 : Int), (k2 : Int), 0, 131, 250, -1]) from lit_own w4 _ 3 (by show (6 : Nat) ≤ maxLen; unfold maxLen; omega))
  have N5 := Lib.hid (show (Value.slice (some ⟨w4.heap.size, 0, none⟩) 6 6).ownBlock ≠ some R by simp [Value.ownBlock]; omega)
  clear hrd4
  go_wp2_with fail
  refine (one_any _ _ w.heap.size R a n cap (0 + 1 + 1 + 1) _ R5 (by omega) L5 N5.out (by simp) (by simp)).mono ?_
  rintro e w5 ⟨y, hy, rfl, hrd, honly⟩
  have B6 := Lib.hid (B5.out.trans (honly.below hlow))
  have hyb : -1 ≤ y ∧ y ≤ 250 := by
    simp only [List.mem_cons, List.not_mem_nil, or_false] at hy
    omega
  have HY := Lib.hid hyb
  clear hrd honly hy hyb
  go_wp2
  go_ret2
  exact ⟨x, y, HX.out, HY.out, rfl, B6.out⟩

end Go.Proofs.Ythalkkbchghmpaa
