/-
  How many ones the library's count tells of a small number, and whether a place is in a set.
-/
import Derived.Test.YtohbkpccfhciaaaCSpans
import Derived.Test.YtohbkpccfhciaaaZW
import Derived.Laws.Bits64b
import Derived.Laws.Bits128
namespace Go.Proofs.Ytohbkpccfhciaaa
open Go.RowKit

def ones1 (y : Nat) : Nat := (y / 2 &&& 6148914691236517205) + (y &&& 6148914691236517205)
def ones2 (y : Nat) : Nat := (y / 4 &&& 3689348814741910323) + (y &&& 3689348814741910323)
def ones3 (y : Nat) : Nat := (y / 16 + y) &&& 1085102592571150095
def ones4 (d y : Nat) : Nat := y + y / d
theorem ones_table : ((List.range 256).all fun x => decide ((ones4 4294967296 (ones4 65536 (ones4 256 (ones3 (ones2 (ones1 x)))))) % 128 = sumTo (bitD x) 8)) = true := by decide +kernel
theorem ones_small (x : Nat) (hx : x < 256) : ones1 x ≤ 512 ∧ ones2 (ones1 x) ≤ 1024 ∧ ones3 (ones2 (ones1 x)) ≤ 2048 := by
  have h1 : ones1 x ≤ 512 := by
    unfold ones1
    have := Nat.and_le_left (n := x / 2) (m := 6148914691236517205)
    have := Nat.and_le_left (n := x) (m := 6148914691236517205)
    omega
  have h2 : ones2 (ones1 x) ≤ 1024 := by
    obtain ⟨y, hy⟩ : ∃ y, y = ones1 x := ⟨_, rfl⟩
    rw [← hy] at h1 ⊢
    unfold ones2
    have := Nat.and_le_left (n := y / 4) (m := 3689348814741910323)
    have := Nat.and_le_left (n := y) (m := 3689348814741910323)
    omega
  refine ⟨h1, h2, ?_⟩
  obtain ⟨y, hy⟩ : ∃ y, y = ones2 (ones1 x) := ⟨_, rfl⟩
  rw [← hy] at h2 ⊢
  unfold ones3
  have := Nat.and_le_left (n := y / 16 + y) (m := 1085102592571150095)
  omega
theorem u64_and (a m : Nat) (ha : a < 18446744073709551616) (hm : m < 18446744073709551616) (b : Int) (hb : b = (m : Int)) : bits .and .u64 (a : Int) b = ((a &&& m : Nat) : Int) := by
  rw [hb]; exact bits_and_u64_nat a m ha hm
theorem ones_e1 (x y1 : Nat) (hx : x < 256) (s1 : y1 ≤ 512) (hy1 : y1 = ones1 x) : IntKind.u64.wrap (bits .and .u64 ((x : Int) / 2) 6148914691236517205 + bits .and .u64 (x : Int) 6148914691236517205) = (y1 : Int) := by
  rw [show (x : Int) / 2 = ((x / 2 : Nat) : Int) by omega, u64_and (x / 2) 6148914691236517205 (by omega) (by omega) _ (by omega), u64_and x 6148914691236517205 (by omega) (by omega) _ (by omega), IntKind.wrap_u64]
  unfold ones1 at hy1
  rw [hy1] at s1 ⊢
  generalize (x / 2 &&& 6148914691236517205) = a at *
  generalize (x &&& 6148914691236517205) = b at *
  omega
theorem ones_e2 (x y1 : Nat) (hx : x ≤ 512) (s1 : y1 ≤ 1024) (hy1 : y1 = ones2 x) : IntKind.u64.wrap (bits .and .u64 ((x : Int) / 4) 3689348814741910323 + bits .and .u64 (x : Int) 3689348814741910323) = (y1 : Int) := by
  rw [show (x : Int) / 4 = ((x / 4 : Nat) : Int) by omega, u64_and (x / 4) 3689348814741910323 (by omega) (by omega) _ (by omega), u64_and x 3689348814741910323 (by omega) (by omega) _ (by omega), IntKind.wrap_u64]
  unfold ones2 at hy1
  rw [hy1] at s1 ⊢
  generalize (x / 4 &&& 3689348814741910323) = a at *
  generalize (x &&& 3689348814741910323) = b at *
  omega
theorem ones_e3 (x y1 : Nat) (hx : x ≤ 1024) (hy1 : y1 = ones3 x) : bits .and .u64 (IntKind.u64.wrap ((x : Int) / 16 + (x : Int))) 1085102592571150095 = (y1 : Int) := by
  rw [show IntKind.u64.wrap ((x : Int) / 16 + (x : Int)) = ((x / 16 + x : Nat) : Int) by rw [IntKind.wrap_u64]; omega, u64_and (x / 16 + x) 1085102592571150095 (by omega) (by omega) _ (by omega), hy1]
  unfold ones3
  with_reducible rfl
theorem ones_e4 (y3 y4 y5 y6 : Nat) (s3 : y3 ≤ 2048) (hy4 : y4 = ones4 256 y3) (hy5 : y5 = ones4 65536 y4) (hy6 : y6 = ones4 4294967296 y5) : IntKind.u64.wrap ((y3 : Int) + (y3 : Int) / 256) = (y4 : Int) ∧ IntKind.u64.wrap ((y4 : Int) + (y4 : Int) / 65536) = (y5 : Int) ∧ IntKind.u64.wrap ((y5 : Int) + (y5 : Int) / 4294967296) = (y6 : Int) ∧ y6 ≤ 100000 := by
  unfold ones4 at hy4 hy5 hy6
  have h4 : y4 ≤ 4096 := by omega
  have h5 : y5 ≤ 8192 := by omega
  have h6 : y6 ≤ 100000 := by omega
  refine ⟨?_, ?_, ?_, h6⟩
  · rw [IntKind.wrap_u64]; omega
  · rw [IntKind.wrap_u64]; omega
  · rw [IntKind.wrap_u64]; omega
set_option maxHeartbeats 1600000 in
theorem ones64_p (x : Nat) (w : World) (hx : x < 256) :
    Calls Try.prog 51 #[.int .u64 (x : Int)] w fun e w' => e = .returned (.int .i64 (sumTo (bitD x) 8 : Int)) ∧ w = w' := by
  have ht := of_decide_eq_true (List.all_eq_true.1 ones_table x (List.mem_range.2 hx))
  obtain ⟨s1, s2, s3⟩ := ones_small x hx
  obtain ⟨y1, hy1⟩ : ∃ y1, y1 = ones1 x := ⟨_, rfl⟩
  obtain ⟨y2, hy2⟩ : ∃ y2, y2 = ones2 y1 := ⟨_, rfl⟩
  obtain ⟨y3, hy3⟩ : ∃ y3, y3 = ones3 y2 := ⟨_, rfl⟩
  obtain ⟨y4, hy4⟩ : ∃ y4, y4 = ones4 256 y3 := ⟨_, rfl⟩
  obtain ⟨y5, hy5⟩ : ∃ y5, y5 = ones4 65536 y4 := ⟨_, rfl⟩
  obtain ⟨y6, hy6⟩ : ∃ y6, y6 = ones4 4294967296 y5 := ⟨_, rfl⟩
  rw [← hy1, ← hy2, ← hy3, ← hy4, ← hy5, ← hy6] at ht
  rw [← hy1] at s1
  rw [← hy1, ← hy2] at s2
  rw [← hy1, ← hy2, ← hy3] at s3
  rw [← ht]
  have e1 := ones_e1 x y1 hx s1 hy1
  have e2 := ones_e2 y1 y2 s1 s2 hy2
  have e3 := ones_e3 y2 y3 s2 hy3
  obtain ⟨e4, e5, e6, h6⟩ := ones_e4 y3 y4 y5 y6 s3 hy4 hy5 hy6
  have e7 : wrap64 (y6 : Int) = (y6 : Int) := by unfold wrap64; omega
  have e8 : bits .and .i64 (y6 : Int) 127 = ((y6 % 128 : Nat) : Int) := by rw [i64_and127]; omega
  have E1 := Lib.hid e1
  have E2 := Lib.hid e2
  have E3 := Lib.hid e3
  have E4 := Lib.hid e4
  have E5 := Lib.hid e5
  have E6 := Lib.hid e6
  have E7 := Lib.hid e7
  have E8 := Lib.hid e8
  clear hy1 hy2 hy3 hy4 hy5 hy6 ht e1 e2 e3 e4 e5 e6 e7 e8 s1 s2 s3 h6 hx
  go_enter Try.func51, Try.ntmps51
  go_wp2
  simp only [E1.out, E2.out, E3.out, E4.out, E5.out, E6.out, E7.out, E8.out]
  go_ret
  exact ⟨rfl, rfl⟩
set_option maxHeartbeats 400000 in
theorem ones_p (x : Nat) (w : World) (hx : x < 256) :
    Calls Try.prog 34 #[.int .u64 (x : Int)] w fun e w' => e = .returned (.int .i64 (sumTo (bitD x) 8 : Int)) ∧ w = w' := by
  have C := Lib.hid (ones64_p x w hx)
  obtain ⟨z, hz⟩ : ∃ z, z = sumTo (bitD x) 8 := ⟨_, rfl⟩
  rw [← hz] at C ⊢
  clear hz hx
  go_enter Try.func34, Try.ntmps34
  go_wp2_with fail
  refine C.out.mono ?_
  rintro e w1 ⟨rfl, rfl⟩
  go_wp2
  go_ret
  exact ⟨rfl, rfl⟩
theorem i64_and_one (n : Nat) (h : n < 1000) : bits .and .i64 (n : Int) 1 = ((n % 2 : Nat) : Int) := by
  have h1 : (BitVec.ofInt 64 (n : Int)).toNat = n := by
    rw [BitVec.ofInt_natCast, BitVec.toNat_ofNat]; exact Nat.mod_eq_of_lt (by omega)
  have h2 : (BitVec.ofInt 64 (1 : Int)).toNat = 1 := rfl
  show IntKind.i64.wrap ((BitVec.ofInt 64 (n : Int) &&& BitVec.ofInt 64 (1 : Int)).toNat : Int) = _
  rw [BitVec.toNat_and, h1, h2, Nat.and_one_is_mod, IntKind.wrap_i64]
  omega
set_option maxHeartbeats 800000 in
theorem inSet_p (k s : Nat) (w : World) (hk : k ≤ 8) (hs : s < 256) :
    Calls Try.prog 36 #[.int .i64 (k : Int), .int .i64 (s : Int)] w fun e w' => e = .returned (.bool (decide (s / 2 ^ k % 2 = 1))) ∧ w = w' := by
  have hd : (s : Int) / 2 ^ k = ((s / 2 ^ k : Nat) : Int) := by rw [Int.natCast_ediv]; push_cast; rfl
  have hle : s / 2 ^ k ≤ s := Nat.div_le_self _ _
  obtain ⟨d, hde⟩ : ∃ d, d = s / 2 ^ k := ⟨_, rfl⟩
  rw [← hde] at hd hle ⊢
  have h2 : bits .and .i64 (d : Int) 1 = ((d % 2 : Nat) : Int) := i64_and_one d (by omega)
  have h3 : (((d % 2 : Nat) : Int) == 1) = decide (d % 2 = 1) := by
    by_cases h : d % 2 = 1
    · rw [h]; rfl
    · rw [decide_eq_false h, beq_eq_false_iff_ne]; omega
  have HD := Lib.hid hd
  have H2 := Lib.hid h2
  have H3 := Lib.hid h3
  clear hd h2 h3 hde
  go_enter Try.func36, Try.ntmps36
  go_wp2
  simp only [HD.out, H2.out, H3.out]
  go_ret
  exact ⟨rfl, rfl⟩
end Go.Proofs.Ytohbkpccfhciaaa
