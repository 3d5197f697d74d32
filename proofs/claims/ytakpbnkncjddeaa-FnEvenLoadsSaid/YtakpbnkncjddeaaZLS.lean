/-
  The contracts of the model's ValidLoads and of its sum.
  The contracts of the program's ValidLoads and together, of numbers that can be read.
-/
import Derived.Test.YtakpbnkncjddeaaZR
import Derived.Test.YtakpbnkncjddeaaZL
import Derived.Deep.QuietTactic
import Derived.BigQuiet
namespace Go.Proofs.Ytakpbnkncjddeaa
open Go.RowKit

set_option maxRecDepth 100000 in
set_option maxHeartbeats 1600000 in
theorem validLoadsM_any (l : List Int) (a : Option Addr) (cv : Nat) (w : World) {H : Nat} (hR : Hid (RdI w H a l)) (hl : l.length ≤ 1048576) :
    Calls Try.prog 38 #[.slice a l.length cv] w fun e w' => e = .returned (.bool (loadB l)) ∧ w = w' := by
  go_enter Try.func38, Try.ntmps38
  go_wp2
  go_loop [3] (fun i => ∃ k : Nat, k ≤ l.length ∧ i = .int .i64 k ∧ Hid (loadUp l k = true)) (fun i => l.length - (intOf i).toNat)
  case atStart => exact ⟨0, Nat.zero_le _, rfl, rfl⟩
  case round =>
    obtain ⟨k, hk, rfl, HU⟩ := hrel
    by_cases hlt : k < l.length
    · obtain ⟨b, off, rfl, _, h1⟩ := hR.out k hlt
      have b1 : (k : Int) < (l.length : Int) := by omega
      have HAT := Lib.hid (loadUp_step hlt)
      have HNO := Lib.hid (fun h => loadB_no (l := l) hlt h)
      obtain ⟨y, hy⟩ : ∃ y, y = l[k] := ⟨_, rfl⟩
      rw [← hy] at h1 HAT HNO
      clear hy
      by_cases hy0 : 0 ≤ y ∧ y ≤ 20
      · have C := Lib.hid (inRange_yes y 0 20 w hy0.1 hy0.2)
        have HU2 : Hid (loadUp l (k + 1) = true) := by show _ = _; rw [HAT.out, HU.out, Bool.true_and]; exact decide_eq_true hy0
        clear HAT HNO hy0
        go_wp2_with fail
        refine C.out.mono ?_
        rintro e w1 ⟨rfl, rfl⟩
        go_wp2
        go_round
        case rel => exact ⟨k + 1, by omega, by go_num, HU2⟩
        case measure => simp [intOf]; omega
      · have C := Lib.hid (inRange_no y 0 20 w (by omega))
        have hn := Lib.hid (HNO.out (decide_eq_false hy0))
        clear HAT HNO hy0
        go_wp2_with fail
        refine C.out.mono ?_
        rintro e w1 ⟨rfl, rfl⟩
        go_wp2
        go_ret
        exact ⟨by rw [hn.out]; rfl, rfl⟩
    · obtain rfl : k = l.length := by omega
      have hy := Lib.hid (loadB_full HU.out)
      have hd : decide (l.length ≤ 7) = decide ((l.length : Int) ≤ 7) := by rw [decide_eq_decide]; omega
      rw [hd] at hy
      go_wp2
      go_ret
      exact ⟨by rw [hy.out]; rfl, rfl⟩

set_option maxHeartbeats 800000 in
theorem specValidLoads_any (l : List Int) (a : Option Addr) (cv : Nat) (w : World) {H : Nat} (hR : Hid (RdI w H a l)) (hl : l.length ≤ 1048576) :
    Calls Try.prog 14 #[.slice a l.length cv] w fun e w' => e = .returned (.bool (loadB l)) ∧ w = w' := by
  have CV := Lib.hid (validLoadsM_any l a cv w hR hl)
  go_enter Try.func14, Try.ntmps14
  go_wp2_with fail
  refine CV.out.mono ?_
  rintro e w1 ⟨rfl, rfl⟩
  go_wp2
  go_ret
  exact ⟨rfl, rfl⟩

theorem sum_snoc (L : List Nat) (k : Nat) (h : k < L.length) : (L.take (k + 1)).sum = (L.take k).sum + L[k] := by
  rw [List.take_succ_eq_append_getElem h, List.sum_append]; simp

set_option maxRecDepth 100000 in
set_option maxHeartbeats 1600000 in
theorem sumM_any (L : List Nat) (a : Option Addr) (cv : Nat) (w : World) {H : Nat} (hR : Hid (RdI w H a (ldI L))) (hl : L.length ≤ 1000) (hb : Hid (∀ x ∈ L, x ≤ 1000)) :
    Calls Try.prog 66 #[.slice a L.length cv] w fun e w' => e = .returned (.int .i64 (L.sum : Int)) ∧ w = w' := by
  go_enter Try.func66, Try.ntmps66
  go_wp2
  go_loop [3, 4] (fun n i => ∃ k : Nat, k ≤ L.length ∧ i = .int .i64 k ∧ n = .int .i64 ((L.take k).sum : Int)) (fun _ i => L.length - (intOf i).toNat)
  case atStart => exact ⟨0, Nat.zero_le _, rfl, rfl⟩
  case round =>
    obtain ⟨k, hk, rfl, rfl⟩ := hrel
    by_cases hlt : k < L.length
    · obtain ⟨b, off, rfl, _, h1⟩ := hR.out k (by rw [ldI_len]; exact hlt)
      rw [ldI_get L k hlt] at h1
      have b1 : (k : Int) < (L.length : Int) := by omega
      have h2 : (L.take k).sum ≤ 1000 * (L.take k).length := sum_bd fun x hx => hb.out x (List.mem_of_mem_take hx)
      have h3 : L[k] ≤ 1000 := hb.out _ (List.getElem_mem hlt)
      rw [List.length_take, Nat.min_eq_left hk] at h2
      have E := Lib.hid (sum_snoc L k hlt)
      obtain ⟨y, hy⟩ : ∃ y, y = L[k] := ⟨_, rfl⟩
      obtain ⟨S, hS⟩ : ∃ S, S = (L.take k).sum := ⟨_, rfl⟩
      rw [← hy] at h1 h3 E
      rw [← hS] at h2 E ⊢
      clear hy hS
      have e1 : IntKind.i64.wrap ((S : Int) + (y : Int)) = (S : Int) + (y : Int) := by rw [IntKind.wrap_i64]; omega
      go_wp2
      go_round
      case rel => exact ⟨k + 1, by omega, by go_num, by rw [E.out]; go_num⟩
      case measure => simp [intOf]; omega
    · obtain rfl : k = L.length := by omega
      go_wp2
      go_ret
      exact ⟨rfl, rfl⟩
end Go.Proofs.Ytakpbnkncjddeaa

namespace Go.Proofs.Ytakpbnkncjddeaa
open Go.RowKit

theorem loadB_long {l : List Int} (h : ¬ l.length ≤ 7) : loadB l = false := by rw [loadB, decide_eq_false h, Bool.and_false]
set_option maxRecDepth 100000 in
set_option maxHeartbeats 1600000 in
theorem implValidLoads_rd (l : List Int) (a : Option Addr) (cv : Nat) (w : World) {H : Nat} (hR : Hid (RdI w H a l)) (hl : l.length ≤ 1048576) :
    Calls Try.prog 13 #[.slice a l.length cv] w fun e w' => e = .returned (.bool (loadB l)) ∧ w = w' := by
  by_cases h7 : l.length ≤ 7
  · have b0 : ¬ (7 : Int) < (l.length : Int) := by omega
    have HF := Lib.hid (fun h => (loadB_full (l := l) h).trans (decide_eq_true h7))
    go_enter Try.func13, Try.ntmps13
    go_wp2
    go_loop [4, 10] (fun _ i => ∃ k : Nat, k ≤ l.length ∧ i = .int .i64 k ∧ Hid (loadUp l k = true)) (fun _ i => l.length - (intOf i).toNat)
    case atStart => exact ⟨0, Nat.zero_le _, rfl, rfl⟩
    case round =>
      obtain ⟨k, hk, rfl, HU⟩ := hrel
      by_cases hlt : k < l.length
      · obtain ⟨b, off, rfl, _, h1⟩ := hR.out k hlt
        have b1 : (k : Int) < (l.length : Int) := by omega
        have HAT := Lib.hid (loadUp_step hlt)
        have HNO := Lib.hid (fun h => loadB_no (l := l) hlt h)
        obtain ⟨y, hy⟩ : ∃ y, y = l[k] := ⟨_, rfl⟩
        rw [← hy] at h1 HAT HNO
        clear hy
        by_cases hy1 : y < 0
        · have hn := Lib.hid (HNO.out (decide_eq_false (by omega)))
          clear HAT HNO
          go_wp2
          go_ret
          exact ⟨by rw [hn.out]; rfl, rfl⟩
        · by_cases hy2 : 20 < y
          · have hn := Lib.hid (HNO.out (decide_eq_false (by omega)))
            clear HAT HNO
            go_wp2
            go_ret
            exact ⟨by rw [hn.out]; rfl, rfl⟩
          · have HU2 : Hid (loadUp l (k + 1) = true) := by show _ = _; rw [HAT.out, HU.out, Bool.true_and]; exact decide_eq_true (by omega)
            clear HAT HNO
            go_wp2
            go_round
            case rel => exact ⟨k + 1, by omega, by go_num, HU2⟩
            case measure => simp [intOf]; omega
      · obtain rfl : k = l.length := by omega
        have hy := Lib.hid (HF.out HU.out)
        go_wp2
        go_ret
        exact ⟨by rw [hy.out]; rfl, rfl⟩
  · have b0 : (7 : Int) < (l.length : Int) := by omega
    rw [loadB_long h7]
    go_enter Try.func13, Try.ntmps13
    go_wp2
    go_ret
    exact ⟨rfl, rfl⟩

set_option maxRecDepth 100000 in
set_option maxHeartbeats 1600000 in
theorem together_rd (L : List Nat) (a : Option Addr) (n cv : Nat) (w : World) {H : Nat} (hR : Hid (RdI w H a (ldI L))) (hn : L.length = n) (hl : n ≤ 1000) (hb : Hid (∀ x ∈ L, x ≤ 1000)) :
    Calls Try.prog 41 #[.slice a n cv] w fun e w' => e = .returned (.int .i64 (L.sum : Int)) ∧ w = w' := by
  subst hn
  go_enter Try.func41, Try.ntmps41
  go_wp2
  go_loop [3, 5, 8] (fun n _ i => ∃ k : Nat, k ≤ L.length ∧ i = .int .i64 k ∧ n = .int .i64 ((L.take k).sum : Int)) (fun _ _ i => L.length - (intOf i).toNat)
  case atStart => exact ⟨0, Nat.zero_le _, rfl, rfl⟩
  case round =>
    obtain ⟨k, hk, rfl, rfl⟩ := hrel
    by_cases hlt : k < L.length
    · obtain ⟨b, off, rfl, _, h1⟩ := hR.out k (by rw [ldI_len]; exact hlt)
      rw [ldI_get L k hlt] at h1
      have b1 : (k : Int) < (L.length : Int) := by omega
      have h2 : (L.take k).sum ≤ 1000 * (L.take k).length := sum_bd fun x hx => hb.out x (List.mem_of_mem_take hx)
      have h3 : L[k] ≤ 1000 := hb.out _ (List.getElem_mem hlt)
      rw [List.length_take, Nat.min_eq_left hk] at h2
      have E := Lib.hid (sum_snoc L k hlt)
      obtain ⟨y, hy⟩ : ∃ y, y = L[k] := ⟨_, rfl⟩
      obtain ⟨S, hS⟩ : ∃ S, S = (L.take k).sum := ⟨_, rfl⟩
      rw [← hy] at h1 h3 E
      rw [← hS] at h2 E ⊢
      clear hy hS
      have e1 : IntKind.i64.wrap ((S : Int) + (y : Int)) = (S : Int) + (y : Int) := by rw [IntKind.wrap_i64]; omega
      go_wp2
      go_round
      case rel => exact ⟨k + 1, by omega, by go_num, by rw [E.out]; go_num⟩
      case measure => simp [intOf]; omega
    · obtain rfl : k = L.length := by omega
      go_wp2
      go_ret
      exact ⟨rfl, rfl⟩
end Go.Proofs.Ytakpbnkncjddeaa
