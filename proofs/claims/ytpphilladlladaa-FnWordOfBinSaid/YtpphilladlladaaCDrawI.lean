/-
  The contract of the model's function that draws rows for WordOfBin: it draws at most nine rows of two numbers.
-/
import Derived.Test.YtpphilladlladaaCBad
import Derived.Test.YtpphilladlladaaCDrawD
namespace Go.Proofs.Ytpphilladlladaa
open Go.RowKit

theorem binL_two : ∀ (f : Nat) (s : List UInt8) (n : Nat), ∀ r ∈ binL f s n, r.length = 2 := by
  intro f
  induction f with
  | zero => intro s n r hr; simp [binL] at hr
  | succ f ih =>
    intro s n r hr
    by_cases hs : s = []
    · rw [hs, binL_nil] at hr; simp at hr
    · rw [binL_cons _ _ _ hs] at hr
      rcases List.mem_cons.1 hr with rfl | hr
      · rfl
      · rcases List.mem_append.1 hr with hr | hr
        · exact ih _ _ r hr
        · exact ih _ _ r hr

set_option maxHeartbeats 1600000 in
theorem drawWordOfBin (a : Option Addr) (len cap : Nat) (zs : List Int) (w : World) (hr : Hid (IsRow .u8 w a len cap zs)) (hl : len ≤ 1048576) :
    Calls Try.prog 16 #[.slice a len cap] w (RowsDrawn w.heap.size w) := by
  go_enter Try.func16, Try.ntmps16
  go_wp2_with fail
  refine (newReader_any a len cap zs w hr.out hl).mono ?_
  rintro e w1 ⟨n, R, rfl, r1, b1⟩
  have R1 := Lib.hid r1
  have B1 := Lib.hid b1
  have HLT := Lib.hid r1.lt
  have HLOW := Lib.hid r1.low
  have l1 := lit_own2 w1 #[.int .i64 4, .int .i64 5, .int .i64 3, .int .i64 6, .int .i64 2, .int .i64 1, .int .i64 0] 3 (by show (7 : Nat) ≤ maxLen; unfold maxLen; omega)
  have a1 : Below w1.heap.size w1 (w1.alloc (.cells #[.int .i64 4, .int .i64 5, .int .i64 3, .int .i64 6, .int .i64 2, .int .i64 1, .int .i64 0] 3)) := (Below.refl _ _).alloc (Nat.le_refl _) _
  have R2 := Lib.hid (R1.out.below a1 HLT.out)
  have B2 := Lib.hid (B1.out.trans (a1.mono B1.out.size))
  have L1 : Hid (Own (w1.alloc (.cells #[.int .i64 4, .int .i64 5, .int .i64 3, .int .i64 6, .int .i64 2, .int .i64 1, .int .i64 0] 3)) w1.heap.size (w1.heap.size + 1) 3 (.slice (some ⟨w1.heap.size, 0, none⟩) 7 7) (iv [4, 5, 3, 6, 2, 1, 0])) := l1
  have NE := Lib.hid (rd_ne l1 R2.out (by decide))
  have OA := Lib.hid (one_any [4, 5, 3, 6, 2, 1, 0] _ w.heap.size R a n cap 0 _ R2 (by omega) L1 NE.out (by show 0 < 7; omega) (by show 7 ≤ 1000; omega))
  clear l1 a1 r1 b1
  go_wp2_with fail
  refine OA.out.mono ?_
  rintro e w3 ⟨y, hy, rfl, r3, o3⟩
  have R3 := Lib.hid r3
  have B3 := Lib.hid (B2.out.trans (o3.below HLOW.out))
  obtain ⟨m, hm, rfl⟩ : ∃ m : Nat, m ≤ 9 ∧ y = m := by
    simp only [List.mem_cons, List.not_mem_nil, or_false] at hy
    exact ⟨y.toNat, by omega, by omega⟩
  clear hy r3 o3 OA NE L1 R2 B2
  go_wp2_with fail
  refine (goodWord_ok m hm w.heap.size R a n cap _ w3 R3 (by omega)).mono ?_
  rintro e w4 ⟨s, rfl, hv, hsz, r4, b4⟩
  have R4 := Lib.hid r4
  have B4 := Lib.hid (B3.out.trans b4)
  have HV := Lib.hid hv
  have hsz18 : s.size ≤ 18 := by omega
  have HLT4 := Lib.hid r4.lt
  have HW4 := Lib.hid B4.out.size
  have HBF := Lib.hid (fun g c RV (rows : List (List Int)) (w' : World) => binFrom_any w.heap.size 18 s 0 g c RV rows w' hsz18 HV.out)
  clear hv r4 b4
  go_wp2_with fail
  have hl := lit_own2 w4 #[] 29 (by decide)
  refine (HBF.out _ _ [] [] _ (by simp; omega) (by omega) (by simp; have := HW4.out; omega) (Lib.hid ⟨own_lo (hl.more (by simp)) HW4.out, RowsI.nil⟩)).mono ?_
  rintro e w5 ⟨g5, c5, RV5, rfl, hG5, hb5⟩
  rw [List.nil_append] at hG5 ⊢
  have hb5' : Below w4.heap.size w4 w5 := ((Below.refl _ _).alloc (Nat.le_refl _) _).trans (hb5.mono (by simp))
  have R5 := Lib.hid (R4.out.below hb5' HLT4.out)
  have B5 := Lib.hid (B4.out.trans (hb5'.mono HW4.out))
  have hlen : (binL 18 s.data.toList 0).length ≤ 9 := by
    rw [binL_length 18 _ _ (valid_scan HV.out).1 (by rw [size_list]; exact hsz18), size_list]; omega
  have H2 := binL_two 18 s.data.toList 0
  obtain ⟨rows, hrows⟩ : ∃ rows, rows = binL 18 s.data.toList 0 := ⟨_, rfl⟩
  rw [← hrows] at hlen H2 hG5 ⊢
  have HG5 := Lib.hid hG5
  have H2' := Lib.hid H2
  clear hG5 hb5 hb5' hrows H2 hl
  go_wp2_with fail
  refine (badRows_any rows hlen H2'.out g5 c5 RV5 w.heap.size R a n cap _ w5 R5 (by omega) HG5).mono ?_
  rintro e w6 ⟨rows', g6, c6, RV6, rfl, hG6, h9, h2, hb6⟩
  go_wp2
  go_ret
  exact ⟨rows', g6, c6, RV6, rfl, hG6, h9, h2, B5.out.trans hb6⟩
end Go.Proofs.Ytpphilladlladaa
