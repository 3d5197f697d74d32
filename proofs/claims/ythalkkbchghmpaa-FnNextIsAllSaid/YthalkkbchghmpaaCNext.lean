/-
  The contracts of the functions that give the word behind one.
-/
import Derived.Test.YthalkkbchghmpaaCRank
import Derived.Test.YthalkkbchghmpaaCFirst
import Derived.Test.YthalkkbchghmpaaWNextG
namespace Go.Proofs.Ythalkkbchghmpaa
open Go.RowKit

/-- the word stands in its box -/
def SBox (B n₀ : Nat) (w0 : World) (s : ByteArray) (W : World) : Prop := W.heap[B]? = some (.cells #[.string s] 9 (0, 0)) ∧ (Below n₀ w0 W ∧ n₀ ≤ W.heap.size) ∧ n₀ ≤ B
theorem firm_sbox (B n₀ : Nat) (w0 : World) (S : Nat) (hS : B < S) (hn : n₀ ≤ S) (s : ByteArray) : Firm S (SBox B n₀ w0 s) := fun W W' row hs hg hr =>
  ⟨Firm.blk hS W W' row hs.1 hg hr, Firm.below hn W W' row hs.2.1 hg hr, hs.2.2⟩
theorem SBox.drew {B n₀ : Nat} {w0 : World} {s : ByteArray} {W : World} (h : SBox B n₀ w0 s W) : SBox B n₀ w0 s W.drew := ⟨h.1, ⟨h.2.1.1.drew, h.2.1.2⟩, h.2.2⟩

theorem extract_head (s : ByteArray) (k : Nat) : (s.extract 0 k).data.toList = s.data.toList.take k := by
  rw [ByteArray.data_extract]; simp
theorem toList_take (s h : ByteArray) : (s.extract 0 h.size).toList = s.data.toList.take h.data.toList.length := by
  rw [ByteArray.toList_eq, extract_head]; rfl

set_option maxHeartbeats 800000 in
theorem cutNext_any (B n₀ B1 : Nat) (w0 : World) (s : ByteArray) (h : ByteArray) (o l : Nat) (W : World) (hle : h.size ≤ s.size) (hA : SBox B n₀ w0 s W) :
    Calls Try.prog 52 #[Beg h o l, .pointer (some ⟨B, 0, none⟩)] W fun e W' =>
      e = .returned (.bool (notBehind s.data.toList h.data.toList)) ∧ SBox B n₀ w0 s W' ∧ KT 45 W W' ∧ Keep B1 W W' := by
  obtain ⟨hb, hbl, hnB⟩ := hA
  have hBW : B < W.heap.size := (Array.getElem?_eq_some_iff.1 hb).1
  have hA1 : SBox B n₀ w0 s (W.alloc (.cells #[.string h, .int .i64 o, .int .i64 l] 45)) :=
    ⟨(Below.heap_alloc _ _ _ hBW).trans hb, ⟨hbl.1.alloc hbl.2 _, by simp; omega⟩, hnB⟩
  have hk1 : KT 45 W (W.alloc (.cells #[.string h, .int .i64 o, .int .i64 l] 45)).drew := (KT.refl W).alloc _
  have hp1 : Keep B1 W (W.alloc (.cells #[.string h, .int .i64 o, .int .i64 l] 45)).drew := (Keep.refl B1 W).alloc _
  have cB := cell_blk hA1.1 0
  simp at cB
  have z1 : (h.size : Int) ≤ (s.size : Int) := by omega
  have e1 : (h.toList == s.toList) = eqL h.data.toList s.data.toList := by rw [ByteArray.toList_eq, ByteArray.toList_eq, eqL_eq]
  have e2 : Op.bytesLess h.toList (s.extract 0 h.size).toList = lessL h.data.toList (s.data.toList.take h.data.toList.length) := by rw [less_eq, toList_take, ByteArray.toList_eq]
  have E2 := Lib.hid e2
  have HA1 := Lib.hid hA1
  clear e2 hA1 hbl hb
  unfold notBehind
  by_cases hq : (h.toList == s.toList) = true
  · rw [hq] at e1
    rw [← e1, Bool.true_or]
    clear e1
    go_enter Try.func52, Try.ntmps52
    simp only [Beg]
    go_wp2_with fail
    go_region
    all_goals
      go_wp2
      go_ret
      exact ⟨rfl, HA1.out.drew, hk1, hp1⟩
  · have hq' : (h.toList == s.toList) = false := by simpa using hq
    rw [hq'] at e1
    rw [← e1, Bool.false_or]
    clear hq e1
    go_enter Try.func52, Try.ntmps52
    simp only [Beg]
    go_wp2_with fail
    go_region
    all_goals
      go_wp2
      go_ret
      exact ⟨by rw [← E2.out]; rfl, HA1.out.drew, hk1, hp1⟩

/-- what both answer -/
def optV : Option (List UInt8) → Value
  | none => .tuple #[.string ⟨#[]⟩, .bool false]
  | some x => .tuple #[.string ⟨x.toArray⟩, .bool true]
theorem firstV_opt (L : List (List UInt8)) : firstV L = optV L.head? := by cases L <;> rfl
def nextOut (s : List UInt8) : Value := if valid s = true then optV (nextAt s s.length) else optV none

set_option maxHeartbeats 800000 in
theorem implNext_in (s : ByteArray) (hv : valid s.data.toList = true) (w : World) :
    Calls Try.prog 29 #[.string s] w fun e w' => e = .returned (optV (nextAt s.data.toList s.size)) ∧ Below w.heap.size w w' := by
  have h18 : s.size ≤ 18 := (valid_scan hv).2
  have hmx : s.size ≤ maxLen := by unfold maxLen; omega
  have hev := fold_even s.data.toList 0 0 (valid_scan hv).1
  rw [size_list] at hev
  obtain ⟨M, hM⟩ : ∃ M, M = s.size / 2 := ⟨_, rfl⟩
  have hfv : firstV (gw (cutOf (notBehind s.data.toList)) (2 * M) () [] 0 M).1 = optV (nextAt s.data.toList s.size) := by
    rw [firstV_opt]
    have := next_first hv
    rw [size_list, ← hM] at this
    rw [this]
  obtain ⟨x, b, hxb⟩ : ∃ x b, optV (nextAt s.data.toList s.size) = .tuple #[.string x, .bool b] := by
    cases nextAt s.data.toList s.size <;> exact ⟨_, _, rfl⟩
  rw [hxb] at hfv ⊢
  have HFV := Lib.hid hfv
  clear hfv hxb
  have q2 : (s.size : Int) / 2 = (M : Int) := by omega
  have q3 : Int.tdiv (s.size : Int) 2 = (M : Int) := by rw [Int.tdiv_eq_ediv_of_nonneg (by omega)]; omega
  have hM2 : s.size = 2 * M := by omega
  have HM2 := Lib.hid hM2
  have hM9 : M ≤ 9 := by omega
  obtain ⟨W1, hW1⟩ : ∃ W1, W1 = w.alloc (.cells #[.string s] 9) := ⟨_, rfl⟩
  have hbx : Boxed W1 w.heap.size 9 (.string s) := by rw [hW1]; exact Boxed.new w 9 (.string s)
  have hbl : Below w.heap.size w W1 := by rw [hW1]; exact (Below.refl _ w).alloc (Nat.le_refl _) _
  have hs1 : w.heap.size + 1 = W1.heap.size := by rw [hW1]; simp
  have c0 := implValid_any s W1 hmx
  rw [hv] at c0
  have C0 := Lib.hid c0
  have BX := Lib.hid hbx
  have BL := Lib.hid hbl
  have hs1' : w.heap.size < W1.heap.size := by omega
  clear c0 hM hM2 hmx hev hbx hbl hs1
  go_enter Try.func29, Try.ntmps29
  go_wp2_with fail
  rw [← hW1]
  clear hW1
  refine C0.out.mono ?_
  rintro e W2 ⟨rfl, hb2⟩
  have hbx2 : Boxed W2 w.heap.size 9 (.string s) := (hb2.block _ hs1').trans BX.out
  have cB := hbx2.cell
  have hs2 : w.heap.size < W2.heap.size := by have := hb2.size; omega
  have BL2 := Lib.hid (BL.out.trans (hb2.mono (by omega)))
  have BX2 := Lib.hid hbx2
  clear hb2 hbx2 C0 BX BL
  go_wp2_with fail
  refine (callsIn_wide.1 (wordsBut_any Fence.wide 100 trivial rfl _ _ _ _)).mono ?_
  rintro e W3 ⟨rfl, rfl⟩
  go_wp2_with fail
  have hq : SBox w.heap.size w.heap.size w s ((W2.alloc (.cells #[.int .i64 M] 3)).alloc (.cells #[.func (.func 52) #[] #[.pointer (some ⟨w.heap.size, 0, none⟩)]] 46)) :=
    (firm_sbox _ _ _ (w.heap.size + 1) (by omega) (by omega) s).alloc _ ((firm_sbox _ _ _ (w.heap.size + 1) (by omega) (by omega) s).alloc _ ⟨BX2.out, ⟨BL2.out, by omega⟩, Nat.le_refl _⟩)
  have z3 : w.heap.size < ((W2.alloc (.cells #[.int .i64 M] 3)).alloc (.cells #[.func (.func 52) #[] #[.pointer (some ⟨w.heap.size, 0, none⟩)]] 46)).heap.size := by simp; omega
  refine (callsIn_wide.1 (firstOf_any (cutOf (notBehind s.data.toList)) Fence.wide rfl rfl trivial trivial trivial 52 #[.pointer (some ⟨w.heap.size, 0, none⟩)] trivial (enters_of Try.func52 (by kernel_rfl) rfl) M hM9
    (fun _ => SBox w.heap.size w.heap.size w s) w.heap.size w _ (fun _ => firm_sbox _ _ _ _ z3 (by omega) s) (fun _ W' h => h.2.1)
    (fun m _ h o l W hsz hol hA => callsIn_wide.2 (cutNext_any w.heap.size w.heap.size _ w s h o l W (by have := HM2.out; omega) hA)) (by omega) 100 () _ _ ?hBn ?hBc hq)).mono ?_
  case hBn => exact ((Boxed.new W2 3 (.int .i64 M)).alloc _).cell
  case hBc =>
    have := (Boxed.new (W2.alloc (.cells #[.int .i64 M] 3)) 46 (.func (.func 52) #[] #[.pointer (some ⟨w.heap.size, 0, none⟩)])).cell
    rw [World.size_alloc] at this
    exact this
  rintro e w3 ⟨he, hb⟩
  rw [HFV.out] at he
  subst he
  clear HFV hq z3 cB
  go_wp2
  go_ret2
  exact ⟨rfl, hb⟩

theorem implNext_any (s : ByteArray) (w : World) (hs : s.size ≤ maxLen) :
    Calls Try.prog 29 #[.string s] w fun e w' => e = .returned (nextOut s.data.toList) ∧ Below w.heap.size w w' := by
  cases hv : valid s.data.toList with
  | true => rw [nextOut, if_pos hv]; exact implNext_in s hv w
  | false =>
    rw [nextOut, if_neg (by rw [hv]; decide)]
    obtain ⟨W1, hW1⟩ : ∃ W1, W1 = w.alloc (.cells #[.string s] 9) := ⟨_, rfl⟩
    have c0 := implValid_any s W1 hs
    rw [hv] at c0
    have C0 := Lib.hid c0
    have BL := Lib.hid (show Below w.heap.size w W1 by rw [hW1]; exact (Below.refl _ w).alloc (Nat.le_refl _) _)
    have hsz : w.heap.size ≤ W1.heap.size := by rw [hW1]; simp
    clear c0 hv
    go_enter Try.func29, Try.ntmps29
    go_wp2_with fail
    rw [← hW1]
    clear hW1
    refine C0.out.mono ?_
    rintro e w1 ⟨rfl, hb1⟩
    go_wp2
    go_ret2
    exact ⟨rfl, BL.out.trans (hb1.mono hsz)⟩
end Go.Proofs.Ythalkkbchghmpaa
