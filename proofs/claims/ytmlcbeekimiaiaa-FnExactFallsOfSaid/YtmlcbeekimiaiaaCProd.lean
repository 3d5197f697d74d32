/-
  The contracts of the program's numbersBetween, product and choices.
-/
import Derived.Test.YtmlcbeekimiaiaaCHeapS
import Derived.Test.YtmlcbeekimiaiaaCWrap
import Derived.Test.YtmlcbeekimiaiaaWRowP
namespace Go.Proofs.Ytmlcbeekimiaiaa
open Go.RowKit

def natI (l : List Nat) : List Int := l.map fun (x : Nat) => (x : Int)
theorem natI_length (l : List Nat) : (natI l).length = l.length := by simp [natI]
theorem natI_at (l : List Nat) (j : Nat) (h : j < (natI l).length) : (natI l)[j] = ((l[j]'(by rwa [natI_length] at h) : Nat) : Int) := by simp [natI]
theorem natI_snoc (l : List Nat) (x : Nat) : iv (natI (l ++ [x])) = iv (natI l) ++ [.int .i64 (x : Int)] := by simp [iv, natI]

set_option maxRecDepth 100000 in
set_option maxHeartbeats 1600000 in
theorem numbersBetween_any (lo n : Nat) (hi_ : Int) (w : World) (hlo : lo ≤ 20) (hn : n ≤ 20) (hh : hi_ + 1 = (lo : Int) + (n : Int)) :
    Calls Try.prog 37 #[.int .i64 (lo : Int), .int .i64 hi_] w fun e w' => ∃ u, e = .returned u ∧ Own w' w.heap.size w'.heap.size 3 u (iv (natI (betN lo n))) ∧ Below w.heap.size w w' := by
  obtain ⟨i0, hi, hz0, hz1, hz2⟩ := info_parts Try.infoIntR
  have S0 : Hid (Own w w.heap.size w.heap.size 3 (.slice none 0 0) (iv (natI (betN lo 0))) ∧ Below w.heap.size w w) := ⟨⟨World.ownsRow_nil _ _ _ _, fun q hq => by simp [Value.ownBlock] at hq⟩, Below.refl _ _⟩
  go_enter Try.func37, Try.ntmps37
  go_wp2
  go_loopw [5, 6] (fun v x wr => ∃ (k : Nat) (a : Option Addr) (m c : Nat), k ≤ n ∧ x = .int .i64 ((lo : Int) + (k : Int)) ∧ v = .slice a m c ∧ m = k ∧ Hid (Own wr w.heap.size wr.heap.size 3 (.slice a m c) (iv (natI (betN lo k))) ∧ Below w.heap.size w wr)) (fun _ x _ => lo + n - (intOf x).toNat)
  case atStart => exact ⟨0, none, 0, 0, Nat.zero_le _, by simp, rfl, rfl, S0⟩
  case round =>
    clear S0
    obtain ⟨k, a, m, c, hk, rfl, rfl, rfl, HS⟩ := hrel
    by_cases hlt : m < n
    · have b1 : (lo : Int) + (m : Int) ≤ hi_ := by omega
      have hlen : (iv (natI (betN lo m))).length = m := by rw [iv_length, natI_length, betN_length]
      have OQ : Hid (wr.ownsRow w.heap.size 3 1 (.slice a m c) m (iv (natI (betN lo m)))) := by have := HS.out.1.1; rwa [hlen] at this
      have IS : Hid (iv (natI (betN lo (m + 1))) = iv (natI (betN lo m)) ++ [.int .i64 ((lo : Int) + (m : Int))]) := by show _ = _; rw [betN_next, natI_snoc]; simp
      have HB : Hid (Below w.heap.size w wr) := HS.out.2
      have Y3 : Hid (∀ o : Obj, w.heap.size ≤ (wr.alloc o).heap.size) := fun o => by have := HB.out.size; rw [World.size_alloc]; omega
      have S3 : Hid (w.heap.size ≤ wr.heap.size) := HB.out.size
      have z1 : m + 1 ≤ maxLen := by unfold maxLen; omega
      have z2 : (m + 1) * 8 ≤ 140737488355328 := by omega
      clear HS hlen
      go_wp2_with (at_builtin; refine wpList_append_lies _ rfl (.tmp 13) (.tmp 15) 22 rfl w.heap.size 3 i0 (.int .i64 0) 1 8 Try.underlying22 hi hz0 hz1 hz2 rfl (Nat.succ_pos 0) (.slice a m c) m (iv (natI (betN lo m))) rfl (OQ.out.alloc _) ⟨wr.heap.size, 0, none⟩ 1 1 [.int .i64 ((lo : Int) + (m : Int))] rfl rfl (cell_one_new _ _ _) (one_intR _) (Nat.succ_pos 0) z1 z2 (Y3.out _) _ rfl ?_)
      intro g5 c5 w5 hv5 hg5 _ hgs5
      rw [← IS.out] at hv5
      have B5 : Hid (Below w.heap.size w w5) := (HB.out.alloc S3.out _).grown hg5 (Y3.out _) (fun q hq => (OQ.out.lt q hq).1)
      have O5 : Hid (Own w5 w.heap.size w5.heap.size 3 (.slice (some ⟨g5, 0, none⟩) (m + 1) c5) (iv (natI (betN lo (m + 1))))) := by
        refine Own.of_own ?_
        have e : (iv (natI (betN lo (m + 1)))).length = m + 1 := by rw [iv_length, natI_length, betN_length]
        rw [e]; exact hv5
      clear hv5 hg5 hgs5 OQ Y3 S3 HB
      go_wp2
      go_roundw
      case rel => exact ⟨m + 1, _, _, _, by omega, by go_num, rfl, rfl, O5.out, B5.out⟩
      case measure => simp [intOf]; omega
    · obtain rfl : m = n := by omega
      have b1 : ¬ (lo : Int) + (m : Int) ≤ hi_ := by omega
      go_wp2
      go_ret
      exact ⟨_, rfl, HS.out⟩

theorem wrap_mulR (a b : Int) (hb : IntKind.i64.wrap b = b) : IntKind.i64.wrap (IntKind.i64.wrap a * b) = IntKind.i64.wrap (a * b) := by
  have := wrap_mul a b
  rwa [hb] at this
set_option maxRecDepth 100000 in
set_option maxHeartbeats 1600000 in
theorem product_any (l : List Nat) (a : Option Addr) (n cv : Nat) (w : World) {H : Nat} (hR : Hid (RdI w H a (natI l))) (hn : l.length = n) (hl : n ≤ 1000) (hb : ∀ x ∈ l, x ≤ 1000000) :
    Calls Try.prog 36 #[.slice a n cv] w fun e w' => e = .returned (.int .i64 (IntKind.i64.wrap (prodN l : Nat))) ∧ w' = w := by
  have HN := Lib.hid hn
  have HB := Lib.hid hb
  have S0 : Hid ((1 : Int) = IntKind.i64.wrap ((prodN (l.take 0) : Nat) : Int)) := rfl
  clear hn hb
  go_enter Try.func36, Try.ntmps36
  go_wp2
  go_loop [3, 5, 9] (fun z _ i => ∃ (k : Nat) (y : Int), k ≤ n ∧ i = .int .i64 k ∧ z = .int .i64 y ∧ Hid (y = IntKind.i64.wrap ((prodN (l.take k) : Nat) : Int))) (fun _ _ i => n - (intOf i).toNat)
  case atStart => exact ⟨0, 1, Nat.zero_le _, rfl, rfl, S0⟩
  case round =>
    clear S0
    obtain ⟨k, y, hk, rfl, rfl, HY⟩ := hrel
    by_cases hlt : k < n
    · have hkl : k < l.length := by rw [HN.out]; exact hlt
      obtain ⟨b, off, rfl, _, h1⟩ := hR.out k (by rw [natI_length]; exact hkl)
      rw [natI_at] at h1
      have hx := HB.out l[k] (List.getElem_mem hkl)
      have ht : prodN (l.take (k + 1)) = prodN (l.take k) * l[k] := by
        rw [List.take_succ_eq_append_getElem hkl, prodN_append, prodN, prodN, Nat.mul_one]
      have HT := Lib.hid ht
      obtain ⟨x, hxx⟩ : ∃ x, x = l[k] := ⟨_, rfl⟩
      rw [← hxx] at h1 hx HT
      have b1 : (k : Int) < (n : Int) := by omega
      have HY2 : Hid (IntKind.i64.wrap (y * (x : Int)) = IntKind.i64.wrap ((prodN (l.take (k + 1)) : Nat) : Int)) := by
        show _ = _
        rw [HY.out, HT.out, wrap_mulR _ _ (by rw [IntKind.wrap_i64]; omega)]
        push_cast
        rfl
      have HY3 : Hid (wrap64 (y * (x : Int)) = IntKind.i64.wrap ((prodN (l.take (k + 1)) : Nat) : Int)) := by show _ = _; rw [← HY2.out, Go.IntWalk.i64_left]
      clear hxx HT ht HY
      go_wp2
      go_round
      case rel => exact ⟨k + 1, _, by omega, by go_num, rfl, by first | exact HY2 | exact HY3⟩
      case measure => simp [intOf]; omega
    · obtain rfl : k = n := by omega
      have HF : Hid (y = IntKind.i64.wrap ((prodN l : Nat) : Int)) := by show _ = _; rw [HY.out, ← HN.out, List.take_length]
      clear HY
      go_wp2
      go_ret
      exact ⟨(by rw [HF.out]; rfl), rfl⟩

theorem betN_le (lo n : Nat) : ∀ x ∈ betN lo n, x ≤ lo + n := by
  intro x hx
  rw [betN, List.mem_map] at hx
  obtain ⟨i, hi, rfl⟩ := hx
  have := List.mem_range.mp hi
  omega
theorem product_own (l : List Nat) (u : Value) (w : World) {B H : Nat} (ho : Hid (Own w B H 3 u (iv (natI l)))) (hl : l.length ≤ 1000) (hb : ∀ x ∈ l, x ≤ 1000000) (hp : prodN l ≤ 1000000) :
    Calls Try.prog 36 #[u] w fun e w' => e = .returned (.int .i64 (prodN l : Nat)) ∧ w' = w := by
  obtain ⟨av, cv, rfl, _⟩ := ho.out.slice
  rw [iv_length, natI_length] at ho ⊢
  have hR := own_rd (l := natI l) (c := cv) (a := av) (by rw [natI_length]; exact ho.out)
  refine (product_any l av l.length cv w hR rfl hl hb).mono ?_
  rintro e w' ⟨rfl, rfl⟩
  have e : IntKind.i64.wrap ((prodN l : Nat) : Int) = ((prodN l : Nat) : Int) := by rw [IntKind.wrap_i64]; omega
  rw [e]
  exact ⟨rfl, rfl⟩

set_option maxRecDepth 100000 in
set_option maxHeartbeats 1600000 in
theorem choices_any (n k : Nat) (w : World) (hn : n ≤ 7) (hk : k ≤ n) :
    Calls Try.prog 49 #[.int .i64 (n : Int), .int .i64 (k : Int)] w fun e w' => e = .returned (.int .i64 ((chs n k : Nat) : Int)) ∧ Below w.heap.size w w' := by
  have C1 := Lib.hid (fun W => numbersBetween_any (n - k + 1) k (n : Int) W (by omega) (by omega) (by omega))
  have C2 := Lib.hid (fun W => numbersBetween_any 1 k (k : Int) W (by omega) (by omega) (by omega))
  have P1 := Lib.hid (fun u W B H (ho : Hid (Own W B H 3 u (iv (natI (betN (n - k + 1) k))))) => product_own (betN (n - k + 1) k) u W ho (by rw [betN_length]; omega) (fun x hx => by have := betN_le _ _ x hx; omega) (by have := prod_small n (by omega) k hk; omega))
  have P2 := Lib.hid (fun u W B H (ho : Hid (Own W B H 3 u (iv (natI (betN 1 k))))) => product_own (betN 1 k) u W ho (by rw [betN_length]; omega) (fun x hx => by have := betN_le _ _ x hx; omega) (by have := prod_pos k (by omega); omega))
  have hq := prod_chs n hn k hk
  have h1 := prod_small n (by omega) k hk
  have h2 := prod_pos k (by omega)
  obtain ⟨x, hx⟩ : ∃ x, x = prodN (betN (n - k + 1) k) := ⟨_, rfl⟩
  obtain ⟨y, hy⟩ : ∃ y, y = prodN (betN 1 k) := ⟨_, rfl⟩
  rw [← hx] at P1 hq h1
  rw [← hy] at P2 hq h2
  obtain ⟨h2, h3⟩ := h2
  have e1 : IntKind.i64.wrap ((n : Int) - (k : Int)) = (n : Int) - (k : Int) := by rw [IntKind.wrap_i64]; omega
  have e2 : IntKind.i64.wrap ((n : Int) - (k : Int) + 1) = ((n - k + 1 : Nat) : Int) := by rw [IntKind.wrap_i64]; omega
  have ne : ((y : Int) == 0) = false := beq_false_of_ne (by omega)
  have hq2 : Int.tdiv (x : Int) (y : Int) = ((chs n k : Nat) : Int) := by
    rw [Int.tdiv_eq_ediv_of_nonneg (by omega), ← hq]; rfl
  have hq3 : IntKind.i64.wrap (Int.tdiv (x : Int) (y : Int)) = ((chs n k : Nat) : Int) := by
    rw [hq2, IntKind.wrap_i64]
    have : chs n k ≤ x := by rw [← hq]; exact Nat.div_le_self _ _
    omega
  have hq4 : wrap64 ((x : Int) / (y : Int)) = ((chs n k : Nat) : Int) := by
    rw [← Int.tdiv_eq_ediv_of_nonneg (by omega), ← Go.IntWalk.i64_left]; exact hq3
  obtain ⟨R, hR⟩ : ∃ R, R = chs n k := ⟨_, rfl⟩
  rw [← hR] at hq4 ⊢
  obtain ⟨lo, hlo⟩ : ∃ lo, lo = n - k + 1 := ⟨_, rfl⟩
  rw [← hlo] at C1 P1 e2
  have HQ4 := Lib.hid hq4
  clear hx hy hq h1 hR hlo hq2 hq3 hq4
  go_enter Try.func49, Try.ntmps49
  go_wp2_with fail
  refine (C1.out _).mono ?_
  rintro e w1 ⟨u1, rfl, ho1, hb1⟩
  have O1 := Lib.hid ho1
  have B1 := Lib.hid hb1
  clear ho1 hb1
  go_wp2_with fail
  refine (P1.out _ _ _ _ O1).mono ?_
  rintro e w2 ⟨rfl, rfl⟩
  go_wp2_with fail
  refine (C2.out _).mono ?_
  rintro e w3 ⟨u2, rfl, ho2, hb2⟩
  have O2 := Lib.hid ho2
  have B2 := Lib.hid (B1.out.trans (hb2.mono B1.out.size))
  clear ho2 hb2 O1 C1 C2 P1
  go_wp2_with fail
  refine (P2.out _ _ _ _ O2).mono ?_
  rintro e w4 ⟨rfl, rfl⟩
  clear P2 O2 B1
  go_wp2
  go_ret
  exact ⟨(by rw [HQ4.out]; rfl), B2.out⟩
end Go.Proofs.Ytmlcbeekimiaiaa
