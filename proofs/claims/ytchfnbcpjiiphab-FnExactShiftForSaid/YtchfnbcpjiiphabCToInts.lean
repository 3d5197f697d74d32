/-
  The contract of the law's own helper that copies a list of numbers.
-/
import Derived.Test.YtchfnbcpjiiphabCInts
import Derived.Test.YtchfnbcpjiiphabZW
namespace Go.Proofs.Ytchfnbcpjiiphab
open Go.RowKit

theorem Try.infoIntT : (Try.prog.info? 3).map (fun i => (i.zero, i.size, i.bytes)) = some (some (.int .i64 0), 1, 8) := by kernel_rfl

/-- j numbers copied -/
def cp (zs : List Int) (n j : Nat) : List Int := zs.take j ++ List.replicate (n - j) 0
theorem cp_zero (zs : List Int) (n : Nat) : cp zs n 0 = List.replicate n 0 := by simp [cp]
theorem cp_full (zs : List Int) (n : Nat) : cp zs n n = zs.take n := by simp [cp]
theorem cp_length (zs : List Int) (n j : Nat) (hn : n ≤ zs.length) (h : j ≤ n) : (cp zs n j).length = n := by simp [cp]; omega
theorem cp_set (zs : List Int) (n j : Nat) (hn : n ≤ zs.length) (h : j < n) : (cp zs n j).set j (zs.getD j 0) = cp zs n (j + 1) := by
  have e : zs.take (j + 1) = zs.take j ++ [zs.getD j 0] := by
    rw [List.take_succ_eq_append_getElem (by omega)]; simp [List.getElem?_eq_getElem (show j < zs.length by omega)]
  rw [cp, cp, e, show n - j = (n - (j + 1)) + 1 by omega, List.replicate_succ, List.set_append_right _ _ (by simp; omega), List.length_take, Nat.min_eq_left (by omega), Nat.sub_self, List.set_cons_zero, List.append_assoc]
  rfl

set_option maxHeartbeats 1600000 in
theorem toInts_any (a : Option Addr) (len cap : Nat) (zs : List Int) (w : World) (hr : Hid (IsRow .i64 w a len cap zs)) (hl : len ≤ 1048576) :
    Calls Try.prog 9 #[.slice a len cap] w fun e w' => ∃ v, e = .returned v ∧ Own w' w.heap.size w'.heap.size 3 v (iv (zs.take len)) ∧ Below w.heap.size w w' := by
  have hlen := hr.out.len
  obtain ⟨i0, hi, hz0, hz1, hz2⟩ := info_parts Try.infoIntT
  obtain ⟨G, hG⟩ : ∃ G, G = w.heap.size := ⟨_, rfl⟩
  go_enter Try.func9, Try.ntmps9
  go_wp2_with (at_make; refine wpList_make_full _ rfl _ _ 22 rfl w.heap.size 3 i0 (.int .i64 0) 1 Try.underlying22 hi hz0 hz1 _ _ _ _ len rfl rfl rfl rfl ?b2 ?b3 (Nat.le_refl _) ?_)
  case b2 => rw [hz2]; omega
  case b3 => unfold maxLen; omega
  intro w1 hown hgrow
  have hb1 : Below w.heap.size w w1 := (Below.refl _ _).grown hgrow (Nat.le_refl _) (fun k hk => by cases hk)
  rw [show (madeCells #[Value.int .i64 0] len).toList = iv (cp zs len 0) by rw [cp_zero, toList_madeCells_one]; simp [iv], ← hG] at hown
  rw [← hG]
  have HG := Lib.hid hG
  have hGB : w.heap.size ≤ G := by omega
  clear hG hgrow
  go_wp2
  go_loopw [4] (fun i wr => ∃ k : Nat, k ≤ len ∧ i = .int .i64 k ∧ wr.ownsRow G 3 1 (.slice (some ⟨G, 0, none⟩) len len) len (iv (cp zs len k)) ∧ Below w.heap.size w wr) (fun i _ => len - (intOf i).toNat)
  case atStart => exact ⟨0, Nat.zero_le _, rfl, hown, hb1⟩
  case round =>
    clear hown hb1
    obtain ⟨k, hk, rfl, hown, hb⟩ := hrel
    by_cases hlt : k < len
    · obtain ⟨b, off, rfl, hc⟩ := (hr.out.below hb).at_ k hlt
      have hcl : (iv (cp zs len k)).length = len := by rw [iv_length, cp_length zs len k hlen.1 hk]
      obtain ⟨d, hd⟩ : ∃ d, wr.cell? ⟨G, k, none⟩ = some d := ⟨_, (hown.cellAt k (by omega)).trans (List.getElem?_eq_getElem (by rw [hcl]; exact hlt))⟩
      have hf := hown.frozenAt k
      have h1 := (hown.stored k (.int .i64 (zs.getD k 0))).1
      rw [iv_set, cp_set zs len k hlen.1 hlt] at h1
      have h2 := hb.setCell (p := ⟨G, k, none⟩) hGB (.int .i64 (zs.getD k 0))
      have b1 : (k : Int) < (len : Int) := by omega
      obtain ⟨x, hx⟩ : ∃ x, x = zs.getD k 0 := ⟨_, rfl⟩
      rw [← hx] at hc h1 h2
      clear hown hb hx hcl
      go_wp2
      go_roundw
      case rel => exact ⟨k + 1, by omega, by go_num, h1, h2⟩
      case measure => simp [intOf]; omega
    · obtain rfl : k = len := by omega
      go_wp2
      go_ret
      rw [cp_full] at hown
      have hl2 : (iv (zs.take k)).length = k := by rw [iv_length, List.length_take]; omega
      refine ⟨_, rfl, Own.of_own ?_, hb⟩
      rw [hl2, ← HG.out]
      exact hown
end Go.Proofs.Ytchfnbcpjiiphab
