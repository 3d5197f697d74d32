/-
  The program's code of a tree by its number.
  The contracts of the laws' power and of their code of a number.
-/
import Derived.Test.YthlboikljibohaaGreatZK
import Derived.Test.YthlboikljibohaaGreatZM
import Derived.Test.YthlboikljibohaaGreatZH
import Derived.Deep.AppendLies
import Derived.Test.YthlboikljibohaaGreatCGridPut
namespace Go.Proofs.YthlboikljibohaaGreat
open Go.RowKit

theorem ivN_snoc (L : List Nat) (x : Nat) : iv (intsB (L ++ [x])) = iv (intsB L) ++ [.int .i64 (x : Int)] := intsB_snoc L x
set_option maxHeartbeats 1600000 in
set_option maxRecDepth 100000 in
theorem codeAt_p (n W : Nat) (hn : 1 ≤ n) (hn2 : n ≤ 64) (hW : W ≤ 1000000) (w : World) :
    Calls Tryz.prog 18 #[.int .i64 (n : Int), .int .i64 (W : Int)] w fun e w' => ∃ y, e = .returned y ∧ Own w' w.heap.size w'.heap.size 3 y (iv (intsB (codeD n W))) ∧ Below w.heap.size w w' := by
  obtain ⟨i0, hi, hz0, hz1, hz2⟩ := info_parts Tryz.infoIntR
  have ew : IntKind.i64.wrap ((n : Int) - 2) = (n : Int) - 2 := by rw [IntKind.wrap_i64]; omega
  obtain ⟨C, hC⟩ : ∃ C, C = w.heap.size := ⟨_, rfl⟩
  have HC := Lib.hid hC
  have O0 : Hid (w.ownsRow C 3 1 (.slice none 0 0) 0 (iv (intsB (codeK n W 0)))) := ⟨rfl, .inl ⟨rfl, rfl⟩⟩
  have B0 : Hid (Below C w w) := Below.refl _ _
  have N0 : Hid (W = W / n ^ 0) := by show _ = _; simp
  have hn0 : ((n : Int) == 0) = false := by rw [beq_eq_false_iff_ne]; omega
  clear hC
  go_enter Tryz.func18, Tryz.ntmps18
  go_wp2_with fail
  go_loopw [1, 5, 8] (fun e1 e5 e8 wr => ∃ (k m : Nat) (v : Value), k ≤ n - 2 ∧ e8 = .int .i64 (k : Int) ∧ e1 = .int .i64 (m : Int) ∧ m ≤ 1000000 ∧ Hid (m = W / n ^ k) ∧ e5 = v ∧ Hid (wr.ownsRow C 3 1 v k (iv (intsB (codeK n W k)))) ∧ Hid (Below C w wr)) (fun _ _ e8 _ => n - 2 - (intOf e8).toNat)
  case atStart => exact ⟨0, W, _, Nat.zero_le _, rfl, rfl, hW, N0, rfl, O0, B0⟩
  case round =>
    clear O0 B0 N0
    obtain ⟨k, m, vv, hk, rfl, rfl, hm, HN, hvv, HO, HB⟩ := hrel
    subst hvv
    by_cases hlt : k < n - 2
    · have b1 : (k : Int) < (n : Int) - 2 := by omega
      have z1 : k + 1 ≤ maxLen := by unfold maxLen; omega
      have z2 : (k + 1) * 8 ≤ 140737488355328 := by omega
      have sC : Hid (C ≤ wr.heap.size) := by have := HB.out.size; show _ ≤ _; rw [HC.out]; rw [HC.out] at *; exact this
      have Y3 : Hid (∀ o : Obj, C ≤ (wr.alloc o).heap.size) := fun o => by have := sC.out; rw [World.size_alloc]; omega
      have CN : Hid (iv (intsB (codeK n W (k + 1))) = iv (intsB (codeK n W k)) ++ [.int .i64 ((m : Int) % (n : Int))]) := by
        show _ = _
        rw [codeK_next, intsB_snoc, ← HN.out, Int.natCast_emod]
      have DN : Hid (m / n = W / n ^ (k + 1)) := by show _ = _; rw [← div_next, ← HN.out]
      have dm : m / n ≤ 1000000 := Nat.le_trans (Nat.div_le_self _ _) hm
      have t2 : Int.tdiv (m : Int) (n : Int) = ((m / n : Nat) : Int) := rfl
      have t4 : IntKind.i64.wrap ((m / n : Nat) : Int) = ((m / n : Nat) : Int) := by
        obtain ⟨D, hD⟩ : ∃ D, D = m / n := ⟨_, rfl⟩
        rw [← hD] at dm ⊢
        rw [IntKind.wrap_i64]; omega
      have t5 : IntKind.i64.wrap ((m : Int) / (n : Int)) = (m : Int) / (n : Int) := t4
      have hnn : ¬ n = 0 := by omega
      have HQ : Hid (∀ W : World, (Op.intDiv .quo .i64 (m : Int) (n : Int)).run Tryz.prog W = .ok (.int .i64 ((m : Int) / (n : Int))) W) := fun W => by
        simp [Op.intDiv, hnn, t5]
      go_wp2_with (at_builtin; refine wpList_append_lies _ rfl (.tmp 10) (.tmp 14) 30 rfl C 3 i0 (.int .i64 0) 1 8 Tryz.underlying30 hi hz0 hz1 hz2 rfl (Nat.succ_pos 0) _ k (iv (intsB (codeK n W k))) rfl (HO.out.alloc _) ⟨wr.heap.size, 0, none⟩ 1 1 [.int .i64 ((m : Int) % (n : Int))] rfl rfl (cell_one_new _ _ _) (one_intR _) (Nat.succ_pos 0) z1 z2 (Y3.out _) _ rfl ?_)
      intro g5 c5 w5 hv5 hg5 _ _
      have B5 : Hid (Below C w w5) := (HB.out.alloc sC.out _).grown hg5 (Y3.out _) (fun q hq => (HO.out.lt q hq).1)
      have O5 : Hid (w5.ownsRow C 3 1 (.slice (some ⟨g5, 0, none⟩) (k + 1) c5) (k + 1) (iv (intsB (codeK n W (k + 1))))) := by
        show World.ownsRow _ _ _ _ _ _ _
        rw [CN.out]; exact hv5
      clear hv5 hg5 HB HO sC Y3 CN HN
      have hq := fun W => HQ.out W
      go_wp2
      go_roundw
      case rel => exact ⟨k + 1, m / n, _, by omega, by go_num, rfl, dm, DN, rfl, O5, B5⟩
      case measure => simp [intOf]; omega
    · have hkn : k = n - 2 := by omega
      have OF : Hid (Own wr C wr.heap.size 3 u5 (iv (intsB (codeD n W)))) := by
        refine Own.of_own ?_
        have e : (iv (intsB (codeD n W))).length = k := by rw [intsB_len, codeD, codeK_len, hkn]
        rw [e, codeD, ← hkn]; exact HO.out
      have b2 : ¬ ((k : Int) < (n : Int) - 2) := by omega
      clear HO hkn HN
      go_wp2
      go_ret
      exact ⟨_, rfl, by rw [← HC.out]; exact OF.out, by rw [← HC.out]; exact HB.out⟩
end Go.Proofs.YthlboikljibohaaGreat

namespace Go.Proofs.YthlboikljibohaaGreat
open Go.RowKit

theorem Tryz.infoIntL : (Tryz.prog.info? 3).map (fun i => (i.zero, i.size, i.bytes)) = some (some (.int .i64 0), 1, 8) := by kernel_rfl
theorem pow_leL (x : Nat) (hx : x ≤ 8) : ∀ k, k ≤ 8 → x ^ k ≤ 16777216 := by
  intro k hk
  have h1 : x ^ k ≤ 8 ^ k := Nat.pow_le_pow_left hx k
  have h2 : 8 ^ k ≤ 8 ^ 8 := Nat.pow_le_pow_right (by omega) hk
  have h3 : (8 : Nat) ^ 8 = 16777216 := by decide
  omega
set_option maxHeartbeats 800000 in
theorem lawPower_any (x n : Nat) (w : World) (hx : x ≤ 8) (hn : n ≤ 8) :
    Calls Tryz.prog 34 #[.int .i64 (x : Int), .int .i64 (n : Int)] w fun e w' => e = .returned (.int .i64 ((x ^ n : Nat) : Int)) ∧ w = w' := by
  obtain ⟨r, hr⟩ : ∃ r : Nat, r = x ^ n := ⟨_, rfl⟩
  rw [← hr]
  have HR := Lib.hid hr
  clear hr
  go_enter Tryz.func34, Tryz.ntmps34
  go_wp2
  go_loop [1, 5] (fun i out => ∃ k p : Nat, k ≤ n ∧ i = .int .i64 ((n - k : Nat) : Int) ∧ out = .int .i64 (p : Int) ∧ Hid (p = x ^ k)) (fun i _ => (intOf i).toNat)
  case atStart => exact ⟨0, 1, Nat.zero_le _, rfl, rfl, rfl⟩
  case round =>
    obtain ⟨k, p, hk, rfl, rfl, HP⟩ := hrel
    by_cases hlt : k < n
    · have b1 : (0 : Int) < ((n - k : Nat) : Int) := by omega
      have hp := pow_leL x hx k (by omega)
      rw [← HP.out] at hp
      have hm : p * x ≤ 16777216 * 8 := Nat.mul_le_mul hp hx
      have hmc : (p : Int) * (x : Int) = ((p * x : Nat) : Int) := by push_cast; rfl
      have e1 : IntKind.i64.wrap ((p : Int) * (x : Int)) = ((p * x : Nat) : Int) := by rw [hmc, IntKind.wrap_i64]; omega
      have e2 : IntKind.i64.wrap (((n - k : Nat) : Int) - 1) = ((n - (k + 1) : Nat) : Int) := by rw [IntKind.wrap_i64]; omega
      have HP2 : Hid (p * x = x ^ (k + 1)) := by show _ = _; rw [Nat.pow_succ, ← HP.out]
      clear hp hm hmc HP
      go_wp2
      go_round
      case rel => exact ⟨k + 1, p * x, by omega, by first | rfl | rw [e2], by first | rfl | rw [e1], HP2⟩
      case measure => first | (rw [e2]; simp [intOf]; omega) | (simp [intOf]; omega)
    · obtain rfl : k = n := by omega
      have b1 : ¬ (0 : Int) < ((k - k : Nat) : Int) := by omega
      go_wp2
      go_ret
      exact ⟨by rw [HR.out, HP.out]; rfl, rfl⟩
theorem one_intL (v : Value) (h : v.oneCell' = true) : ∀ u ∈ [v], u.oneCell' = true := by intro u hu; simp at hu; subst hu; exact h
set_option maxHeartbeats 1600000 in
theorem lawCodeAt_any (n W : Nat) (hn : 1 ≤ n) (hn2 : n ≤ 7) (hW : W ≤ 1000000) (w : World) :
    Calls Tryz.prog 10 #[.int .i64 (n : Int), .int .i64 (W : Int)] w fun e w' => ∃ y, e = .returned y ∧ Own w' w.heap.size w'.heap.size 3 y (iv (intsB (codeD n W))) ∧ Below w.heap.size w w' := by
  obtain ⟨i0, hi, hz0, hz1, hz2⟩ := info_parts Tryz.infoIntL
  have ew : IntKind.i64.wrap ((n : Int) - 2) = (n : Int) - 2 := by rw [IntKind.wrap_i64]; omega
  obtain ⟨C, hC⟩ : ∃ C, C = w.heap.size := ⟨_, rfl⟩
  have HC := Lib.hid hC
  have O0 : Hid ((w.alloc (.cells #[] 3)).ownsRow C 3 1 (.slice (some ⟨w.heap.size, 0, none⟩) 0 0) 0 (iv (intsB (codeK n W 0)))) := World.ownsRow_lit (base := C) (e := 3) (size := 1) w #[] 0 (by omega) (by decide) rfl
  have B0 : Hid (Below C w (w.alloc (.cells #[] 3))) := by show Below _ _ _; rw [hC]; exact (Below.refl _ w).alloc (Nat.le_refl _) _
  have hn0 : ((n : Int) == 0) = false := by rw [beq_eq_false_iff_ne]; omega
  clear hC
  go_enter Tryz.func10, Tryz.ntmps10
  go_wp2_with fail
  go_loopw [5, 6] (fun e5 e6 wr => ∃ (k : Nat) (v : Value), k ≤ n - 2 ∧ e6 = .int .i64 (k : Int) ∧ e5 = v ∧ Hid (wr.ownsRow C 3 1 v k (iv (intsB (codeK n W k)))) ∧ Hid (Below C w wr)) (fun _ e6 _ => n - 2 - (intOf e6).toNat)
  case atStart => exact ⟨0, _, Nat.zero_le _, rfl, rfl, O0, B0⟩
  case round =>
    clear O0 B0
    obtain ⟨k, vv, hk, rfl, hvv, HO, HB⟩ := hrel
    subst hvv
    by_cases hlt : k < n - 2
    · have b1 : (k : Int) < (n : Int) - 2 := by omega
      have z1 : k + 1 ≤ maxLen := by unfold maxLen; omega
      have z2 : (k + 1) * 8 ≤ 140737488355328 := by omega
      have sC : Hid (C ≤ wr.heap.size) := by have := HB.out.size; show _ ≤ _; rw [HC.out]; rw [HC.out] at *; exact this
      have Y3 : Hid (∀ o : Obj, C ≤ (wr.alloc o).heap.size) := fun o => by have := sC.out; rw [World.size_alloc]; omega
      have CP := Lib.hid (lawPower_any n k wr (by omega) (by omega))
      obtain ⟨P, hP⟩ : ∃ P, P = n ^ k := ⟨_, rfl⟩
      have hP0 : 0 < P := by rw [hP]; exact Nat.pow_pos (by omega)
      rw [← hP] at CP
      have hmd : W / P ≤ 1000000 := Nat.le_trans (Nat.div_le_self _ _) hW
      obtain ⟨m, hm⟩ : ∃ m, m = W / P := ⟨_, rfl⟩
      rw [← hm] at hmd
      have CN : Hid (iv (intsB (codeK n W (k + 1))) = iv (intsB (codeK n W k)) ++ [.int .i64 ((m : Int) % (n : Int))]) := by
        show _ = _
        rw [codeK_next, intsB_snoc, ← hP, ← hm, Int.natCast_emod]
      have t5 : IntKind.i64.wrap ((W : Int) / (P : Int)) = (m : Int) := by
        rw [show (W : Int) / (P : Int) = ((W / P : Nat) : Int) from rfl, ← hm, IntKind.wrap_i64]; omega
      have p0 : ((P : Int) == 0) = false := by rw [beq_eq_false_iff_ne]; omega
      clear hP hm
      go_wp2_with fail
      refine CP.out.mono ?_
      rintro e w4 ⟨rfl, rfl⟩
      clear CP
      go_wp2_with (at_builtin; refine wpList_append_lies _ rfl (.tmp 14) (.tmp 22) 30 rfl C 3 i0 (.int .i64 0) 1 8 Tryz.underlying30 hi hz0 hz1 hz2 rfl (Nat.succ_pos 0) _ k (iv (intsB (codeK n W k))) rfl (HO.out.alloc _) ⟨wr.heap.size, 0, none⟩ 1 1 [.int .i64 ((m : Int) % (n : Int))] rfl rfl (cell_one_new _ _ _) (one_intL _ rfl) (Nat.succ_pos 0) z1 z2 (Y3.out _) _ rfl ?_)
      intro g5 c5 w5 hv5 hg5 _ _
      have B5 : Hid (Below C w w5) := (HB.out.alloc sC.out _).grown hg5 (Y3.out _) (fun q hq => (HO.out.lt q hq).1)
      have O5 : Hid (w5.ownsRow C 3 1 (.slice (some ⟨g5, 0, none⟩) (k + 1) c5) (k + 1) (iv (intsB (codeK n W (k + 1))))) := by
        show World.ownsRow _ _ _ _ _ _ _
        rw [CN.out]; exact hv5
      clear hv5 hg5 HB HO sC Y3 CN
      go_wp2
      go_roundw
      case rel => exact ⟨k + 1, _, by omega, by go_num, rfl, O5, B5⟩
      case measure => simp [intOf]; omega
    · have hkn : k = n - 2 := by omega
      have OF : Hid (Own wr C wr.heap.size 3 u5 (iv (intsB (codeD n W)))) := by
        refine Own.of_own ?_
        have e : (iv (intsB (codeD n W))).length = k := by rw [intsB_len, codeD, codeK_len, hkn]
        rw [e, codeD, ← hkn]; exact HO.out
      have b2 : ¬ ((k : Int) < (n : Int) - 2) := by omega
      clear HO hkn
      go_wp2
      go_ret
      exact ⟨_, rfl, by rw [← HC.out]; exact OF.out, by rw [← HC.out]; exact HB.out⟩
end Go.Proofs.YthlboikljibohaaGreat
