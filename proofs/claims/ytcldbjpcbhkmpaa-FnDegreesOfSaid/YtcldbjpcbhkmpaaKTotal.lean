/-
  The contract of the laws' own sum of a list; what the degrees of a tree are.
-/
import Derived.Test.YtcldbjpcbhkmpaaZE
import Derived.Test.YtcldbjpcbhkmpaaCCodeS
namespace Go.Proofs.Ytcldbjpcbhkmpaa
open Go.RowKit

theorem cnt_takeK (c : List Nat) (k : Nat) (h : k < c.length) (v : Nat) : (c.take (k + 1)).count v = (c.take k).count v + (if c[k] = v then 1 else 0) := by
  rw [List.take_succ_eq_append_getElem h, List.count_append, List.count_singleton]
  congr 1
  by_cases e : c[k] = v <;> simp [e]
def sumT (l : List Int) : Nat → Int
  | 0 => 0
  | k + 1 => sumT l k + l.getD k 0
theorem sumT_bd (l : List Int) (h : ∀ x ∈ l, 0 ≤ x ∧ x ≤ 1000) : ∀ k, k ≤ l.length → 0 ≤ sumT l k ∧ sumT l k ≤ 1000 * k
  | 0, _ => by simp [sumT]
  | k + 1, hk => by
    have ih := sumT_bd l h k (by omega)
    have hx := h (l[k]'(by omega)) (List.getElem_mem _)
    have e : l.getD k 0 = l[k]'(by omega) := by simp [List.getElem?_eq_getElem (show k < l.length by omega)]
    rw [sumT, e]; omega
theorem sumT_nat (L : List Nat) : ∀ k, k ≤ L.length → sumT (L.map fun (x : Nat) => (x : Int)) k = ((L.take k).sum : Nat)
  | 0, _ => by simp [sumT]
  | k + 1, hk => by
    have ih := sumT_nat L k (by omega)
    have hk' : k < L.length := by omega
    have e : (L.map fun (x : Nat) => (x : Int)).getD k 0 = (L[k] : Int) := by simp [List.getElem?_eq_getElem hk']
    have e2 : (L.take (k + 1)).sum = (L.take k).sum + L[k] := by
      rw [List.take_succ_eq_append_getElem hk', List.sum_append]
      simp only [List.sum_cons, List.sum_nil, Nat.add_zero]
    rw [sumT, e, ih, e2]
    omega
set_option maxHeartbeats 800000 in
theorem totalT_any (l : List Int) (v : Value) (w : World) {B H : Nat} (hv : Hid (Own w B H 3 v (iv l))) (hl : l.length ≤ 1000) (hb : Hid (∀ x ∈ l, 0 ≤ x ∧ x ≤ 1000)) :
    Calls Try.prog 20 #[v] w fun e w' => e = .returned (.int .i64 (sumT l l.length)) ∧ w = w' := by
  obtain ⟨av, cv, rfl, _, hcv, _, _⟩ := hv.out.slice
  rw [iv_length] at hv hcv ⊢
  go_enter Try.func20, Try.ntmps20
  go_wp2
  go_loop [3, 4] (fun n i => ∃ k : Nat, k ≤ l.length ∧ i = .int .i64 k ∧ n = .int .i64 (sumT l k)) (fun _ i => l.length - (intOf i).toNat)
  case atStart => exact ⟨0, Nat.zero_le _, rfl, rfl⟩
  case round =>
    obtain ⟨k, hk, rfl, rfl⟩ := hrel
    by_cases hlt : k < l.length
    · obtain ⟨g1, rfl, _, _, h1, _⟩ := hv.out.at_ k (by rw [iv_length]; exact hlt)
      rw [iv_at l k hlt] at h1
      have b1 : (k : Int) < (l.length : Int) := by omega
      have h2 := sumT_bd l hb.out k hk
      have h3 := sumT_bd l hb.out (k + 1) hlt
      have e : sumT l (k + 1) = sumT l k + l[k] := by rw [sumT]; congr 1; simp [List.getElem?_eq_getElem hlt]
      rw [e] at h3
      have E := Lib.hid e
      obtain ⟨y, hy⟩ : ∃ y, y = l[k] := ⟨_, rfl⟩
      obtain ⟨S, hS⟩ : ∃ S, S = sumT l k := ⟨_, rfl⟩
      rw [← hy] at h1 h3 E
      rw [← hS] at h2 h3 E ⊢
      clear hy hS e
      go_wp2
      go_round
      case rel => exact ⟨k + 1, by omega, by go_num, by rw [E.out]⟩
      case measure => simp [intOf]; omega
    · obtain rfl : k = l.length := by omega
      go_wp2
      go_ret
      exact ⟨rfl, rfl⟩
theorem deg_facts {n : Int} {rows : List (List Int)} (h : 0 < (degOut n rows).length) : ∃ (N : Nat) (c : List Nat) (d : Nat → Nat), n = N ∧ 1 ≤ N ∧ N ≤ 7 ∧ degOut n rows = ((List.range N).map d).map (fun (k : Nat) => (k : Int)) ∧
    codeOut n rows = c.map (fun (k : Nat) => (k : Int)) ∧ c.length ≤ 64 ∧ (∀ v, d v ≤ 100) ∧ (2 ≤ N → ∀ v, v < N → d v = 1 + c.count v) ∧ ((List.range N).map d).sum = 2 * (N - 1) := by
  by_cases ht : treeB n rows = true
  · obtain ⟨h1, h2, h3⟩ := treeB_iff.1 ht
    obtain ⟨N, rfl⟩ : ∃ N : Nat, n = N := ⟨n.toNat, by omega⟩
    rw [Int.toNat_natCast] at h3
    refine ⟨N, codeN N (edgesR rows), deg (edgesR rows), rfl, by omega, by omega, by rw [degOut, if_pos ht, Int.toNat_natCast], by rw [codeOut, if_pos ht, Int.toNat_natCast], by rw [code_len h3]; omega, fun v => ?_, fun hN v hv => valid_deg h3 hN v hv, valid_sum h3⟩
    have h4 := deg_small (edgesR rows) (edgesR rows).length v
    rw [List.take_length] at h4
    have := h3.len
    omega
  · rw [degOut, if_neg ht] at h
    simp at h
end Go.Proofs.Ytcldbjpcbhkmpaa
