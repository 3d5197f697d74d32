/-
  What the laws of ranks draw: a text, a number, two numbers.
-/
import Derived.Test.YtooplolalbcmjaaCDrawF
namespace Go.Proofs.Ytooplolalbcmjaa
open Go.RowKit

theorem wf_small (x : Int) (h : -1000 ≤ x ∧ x ≤ 100000) : (Lit.int .i64 x).wf = true := by
  have h1 : IntKind.i64.min = -9223372036854775808 := rfl
  have h2 : IntKind.i64.max = 9223372036854775807 := rfl
  simp [Lit.wf]; omega

theorem of_list (l : List Int) (lo hi : Int) (h : l.all (fun x => decide (lo ≤ x ∧ x ≤ hi)) = true) (x : Int) (hx : x ∈ l) : lo ≤ x ∧ x ≤ hi := of_decide_eq_true (List.all_eq_true.1 h x hx)

set_option maxHeartbeats 800000 in
theorem drawWordsOf (a : Option Addr) (len cap : Nat) (zs : List Int) (w : World) (hr : Hid (IsRow .u8 w a len cap zs)) (hl : len ≤ 1048576) :
    Calls Try.prog 42 #[.slice a len cap] w fun e w' => ∃ x : Int, (-1 ≤ x ∧ x ≤ 10) ∧ e = .returned (.int .i64 x) ∧ Below w.heap.size w w' := by
  go_enter Try.func42, Try.ntmps42
  go_wp2_with fail
  refine (newReader_any a len cap zs w hr.out hl).mono ?_
  rintro e w1 ⟨n, R, rfl, hrd, hb⟩
  have hlow := hrd.low
  have hRlt := hrd.lt
  have hsz1 := hb.size
  have R1 := Lib.hid (show Rd (w1.alloc (.cells #[.int .i64 4, .int .i64 3, .int .i64 5, .int .i64 2, .int .i64 6, .int .i64 1, .int .i64 0, .int .i64 7, .int .i64 (-1)] 3)) w.heap.size R a n cap 0 from (hrd).grow ((Below.refl _ _).alloc (Nat.le_refl _) _))
  have B1 := Lib.hid ((hb).alloc (show w.heap.size ≤ w1.heap.size by omega) (.cells #[.int .i64 4, .int .i64 3, .int .i64 5, .int .i64 2, .int .i64 6, .int .i64 1, .int .i64 0, .int .i64 7, .int .i64 (-1)] 3))
  have L1 := Lib.hid (show Own (w1.alloc (.cells #[.int .i64 4, .int .i64 3, .int .i64 5, .int .i64 2, .int .i64 6, .int .i64 1, .int .i64 0, .int .i64 7, .int .i64 (-1)] 3)) w1.heap.size (w1.heap.size + 1) 3 (.slice (some ⟨w1.heap.size, 0, none⟩) 9 9) (iv [4, 3, 5, 2, 6, 1, 0, 7, -1]) from lit_own w1 _ 3 (by decide))
  have N1 := Lib.hid (show (Value.slice (some ⟨w1.heap.size, 0, none⟩) 9 9).ownBlock ≠ some R by simp [Value.ownBlock]; omega)
  clear hrd hb
  go_wp2_with fail
  refine (one_any _ _ w.heap.size R a n cap 0 _ R1 (by omega) L1 N1.out (by decide) (by decide)).mono ?_
  rintro e w2 ⟨x, hx, rfl, hrd, honly⟩
  have B2 := Lib.hid (B1.out.trans (honly.below hlow))
  have HX := Lib.hid (of_list _ (-1) 10 (by decide) x hx)
  clear hrd honly hx
  go_wp2
  go_ret
  exact ⟨x, HX.out, rfl, B2.out⟩

end Go.Proofs.Ytooplolalbcmjaa
