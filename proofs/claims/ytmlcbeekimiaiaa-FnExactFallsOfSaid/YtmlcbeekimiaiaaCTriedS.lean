/-
  The contract of the model's HeapsTried.
-/
import Derived.Test.YtmlcbeekimiaiaaCHeapS
import Derived.Test.YtmlcbeekimiaiaaCHeapsS
namespace Go.Proofs.Ytmlcbeekimiaiaa
open Go.RowKit

set_option maxRecDepth 100000 in
set_option maxHeartbeats 3200000 in
theorem rowsFrom_any (n : Nat) (hn : n ≤ 5) (s : ByteArray) : ∀ (m : Nat) (head : List Int) (v : Value) (w : World) {B H : Nat}, head.length + m = n → Hid (Own w B H 3 v (iv head)) → H ≤ w.heap.size →
    Calls Try.prog 38 #[.int .i64 (n : Int), v, .string s] w fun e w' => e = .returned (.int .i64 ((rowsN m n head s.data.toList : Nat) : Int)) ∧ Below w.heap.size w w' := by
  obtain ⟨i0, hi, hz0, hz1, hz2⟩ := info_parts Try.infoIntR
  intro m
  induction m with
  | zero =>
    intro head v w B H hm hv hH
    obtain ⟨av, cv, rfl, _, hcv, _, _⟩ := hv.out.slice
    rw [iv_length] at hv hcv ⊢
    have hR := own_rd hv.out
    have hl : head.length = n := by omega
    rw [hl] at hv hcv ⊢
    have CW := Lib.hid (heapWordM_any 10 (Nat.le_refl _) av head n cv w H (Lib.hid ⟨hR, hl, hcv, by omega⟩))
    have q1 : ((n : Int) == (n : Int)) = true := beq_self_eq_true _
    rw [rowsN_zero]
    by_cases he : (Tw.row head).lst = s.data.toList
    · rw [if_pos he]
      obtain rfl : hwS head = s := bytes_ext he
      clear he hR hl
      go_enter Try.func38, Try.ntmps38
      go_wp2_with fail
      refine CW.out.mono ?_
      rintro e w1 ⟨rfl, q, rfl⟩
      have q2 : ((hwS head).toList == (hwS head).toList) = true := beq_self_eq_true _
      go_wp2
      go_ret
      exact ⟨rfl, ⟨rfl, rfl, rfl, Nat.le_refl _, fun _ _ => rfl⟩⟩
    · rw [if_neg he]
      have hne : (hwS head).toList ≠ s.toList := fun e => he (by rw [ByteArray.toList_eq, ByteArray.toList_eq] at e; exact e)
      obtain ⟨T, hT⟩ : ∃ T, T = hwS head := ⟨_, rfl⟩
      rw [← hT] at CW hne
      have q2 : (T.toList == s.toList) = false := beq_false_of_ne hne
      clear he hR hl hT
      go_enter Try.func38, Try.ntmps38
      go_wp2_with fail
      refine CW.out.mono ?_
      rintro e w1 ⟨rfl, q, rfl⟩
      go_wp2
      go_ret
      exact ⟨rfl, ⟨rfl, rfl, rfl, Nat.le_refl _, fun _ _ => rfl⟩⟩
  | succ m ih =>
    intro head v w B H hm hv hH
    obtain ⟨av, cv, rfl, _, hcv, _, hav⟩ := hv.out.slice
    rw [iv_length] at hv hcv ⊢
    have hR := own_rd hv.out
    have HL := Lib.hid hm
    have hlt0 : head.length < n := by omega
    have q1 : ((head.length : Int) == (n : Int)) = false := beq_false_of_ne (by omega)
    have RD : Hid (∀ W, Below w.heap.size w W → RdI W w.heap.size av head) := fun W hW => (hR.below (hW.mono hH)).more hH
    have CH : Hid (∀ (x : Int) W, Below w.heap.size w W → Calls Try.prog 42 #[.slice av head.length cv, .int .i64 x] W fun e w' => e = .returned (.bool (head.contains x)) ∧ W = w') := fun x W hW => by
      have := hasIntR_any head av cv x W (Lib.hid (RD.out W hW)) (by omega)
      rw [show decide (x ∈ head) = head.contains x from by rw [Bool.eq_iff_iff, decide_eq_true_eq, List.contains_iff_mem]] at this
      exact this
    have CT : Hid (∀ (x : Nat) (v' : Value) (W : World) (B' H' : Nat), Hid (Own W B' H' 3 v' (iv (head ++ [(x : Int)]))) → H' ≤ W.heap.size → Calls Try.prog 38 #[.int .i64 (n : Int), v', .string s] W fun e w' => e = .returned (.int .i64 ((rowsN m n (head ++ [(x : Int)]) s.data.toList : Nat) : Int)) ∧ Below W.heap.size W w') :=
      fun x v' W B' H' ho hh => ih (head ++ [(x : Int)]) v' W (by rw [List.length_append, List.length_singleton]; omega) ho hh
    have HF : Hid (rowsN (m + 1) n head s.data.toList = rowsK m n head s.data.toList n) := rowsN_succ m n head _
    have hp : n ^ m ≤ 5 ^ 5 := Nat.le_trans (Nat.pow_le_pow_left hn m) (Nat.pow_le_pow_right (by decide) (by omega))
    have HKB : Hid (∀ x : Nat, rowsN m n (head ++ [(x : Int)]) s.data.toList ≤ 3125) := fun x => Nat.le_trans (rowsN_le n _ m _) hp
    have HKK : Hid (∀ k, k ≤ n → rowsK m n head s.data.toList k ≤ 5 * 3125) := fun k hk => Nat.le_trans (rowsK_le m n head _ 3125 HKB.out k) (Nat.mul_le_mul_right _ (by omega))
    have HSTEP : Hid (∀ k : Nat, rowsK m n head s.data.toList (k + 1) = rowsK m n head s.data.toList k + if head.contains (k : Int) then 0 else rowsN m n (head ++ [(k : Int)]) s.data.toList) := fun k => rfl
    rw [HF.out]
    obtain ⟨l, hl⟩ : ∃ l, l = head.length := ⟨_, rfl⟩
    have HLL := Lib.hid hl
    rw [← hl] at CH q1 hlt0 hcv ⊢
    have hl5 : l ≤ 5 := by omega
    clear hv hR hm hp hav ih hl
    go_enter Try.func38, Try.ntmps38
    go_wp2
    go_loopw [7, 8] (fun o x wr => ∃ k z : Nat, k ≤ n ∧ x = .int .i64 k ∧ o = .int .i64 z ∧ Hid (z = rowsK m n head s.data.toList k) ∧ Hid (Below w.heap.size w wr)) (fun _ x _ => n - (intOf x).toNat)
    case atStart => exact ⟨0, 0, Nat.zero_le _, rfl, rfl, rfl, Below.refl _ _⟩
    case round =>
      obtain ⟨k, z, hk, rfl, rfl, HZ, HB⟩ := hrel
      by_cases hlt : k < n
      · have b1 : (k : Int) < (n : Int) := by omega
        have CH1 := Lib.hid (CH.out k wr HB.out)
        have HS := Lib.hid (HSTEP.out k)
        obtain ⟨c, hc⟩ : ∃ c, c = head.contains (k : Int) := ⟨_, rfl⟩
        rw [← hc] at CH1 HS
        clear hc
        cases c with
        | true =>
          have HZ2 : Hid (z = rowsK m n head s.data.toList (k + 1)) := by show _ = _; rw [HS.out, HZ.out]; rfl
          clear HS HZ
          go_wp2_with fail
          refine CH1.out.mono ?_
          rintro e w1 ⟨rfl, rfl⟩
          go_wp2
          go_roundw
          case rel => exact ⟨k + 1, z, by omega, by go_num, rfl, HZ2, HB⟩
          case measure => simp [intOf]; omega
        | false =>
          have CT1 := fun v' W B' H' h1 h2 => CT.out k v' W B' H' h1 h2
          have hz := HKK.out k hk
          have hy := HKB.out k
          have HS2 := HS.out
          rw [← HZ.out] at hz
          obtain ⟨y, hyy⟩ : ∃ y, y = rowsN m n (head ++ [(k : Int)]) s.data.toList := ⟨_, rfl⟩
          rw [← hyy] at CT1 hy HS2
          have CT1 := Lib.hid CT1
          have HZ2 : Hid (z + y = rowsK m n head s.data.toList (k + 1)) := by show _ = _; rw [HS2, HZ.out]; rfl
          have ew : IntKind.i64.wrap ((z : Int) + (y : Int)) = ((z + y : Nat) : Int) := by rw [IntKind.wrap_i64]; omega
          have O0 : Hid ((wr.alloc (.cells #[] 3)).ownsRow w.heap.size 3 1 (.slice (some ⟨wr.heap.size, 0, none⟩) 0 0) 0 []) :=
            World.ownsRow_lit (base := w.heap.size) (e := 3) (size := 1) wr #[] 0 HB.out.size (by unfold maxLen; omega) rfl
          have B1 : Hid (Below w.heap.size w (wr.alloc (.cells #[] 3))) := HB.out.alloc HB.out.size _
          have z1 : l + 1 ≤ maxLen := by unfold maxLen; omega
          have z2 : (l + 1) * 8 ≤ 140737488355328 := by omega
          have IVL : Hid ((iv head).length = l) := by show _ = _; rw [iv_length]; exact HLL.out.symm
          have IVS : Hid (iv (head ++ [(k : Int)]) = iv head ++ [.int .i64 (k : Int)]) := iv_app _ _
          clear HS HZ HS2 hyy CT CH
          go_wp2_with fail
          refine CH1.out.mono ?_
          rintro e w1 ⟨rfl, rfl⟩
          clear CH1
          go_wp2_with (at_builtin; first
            | (refine wpList_append_rd rfl (.tmp 28) (.tmp 29) rfl w.heap.size _ 0 [] rfl O0.out av l cv rfl HLL.out.symm (RD.out _ B1.out) (by omega) (by omega) B1.out.size ?_
               intro v4 w4 hv4 hg4
               have B4 : Hid (Below w.heap.size w w4) := B1.out.grown hg4 B1.out.size (fun q hq => (O0.out.lt q hq).1)
               rw [Nat.zero_add, List.nil_append] at hv4
               have O4 := Lib.hid hv4
               have Y4 : Hid (∀ o : Obj, w.heap.size ≤ (w4.alloc o).heap.size) := fun o => by have := B4.out.size; rw [World.size_alloc]; omega
               clear hv4 hg4)
            | (refine wpList_append_lies _ rfl (.tmp 30) (.tmp 32) 22 rfl w.heap.size 3 i0 (.int .i64 0) 1 8 Try.underlying22 hi hz0 hz1 hz2 rfl (Nat.succ_pos 0) _ l (iv head) rfl (O4.out.alloc _) ⟨w4.heap.size, 0, none⟩ 1 1 [.int .i64 (k : Int)] rfl rfl (cell_one_new _ _ _) (one_intR _) (Nat.succ_pos 0) z1 z2 (Y4.out _) _ rfl ?_
               intro g5 c5 w5 hv5 hg5 _ hgs5)
            | fail)
          rw [← IVS.out] at hv5
          have B5 : Hid (Below w.heap.size w w5) := (B4.out.alloc B4.out.size _).grown hg5 (Y4.out _) (fun q hq => (O4.out.lt q hq).1)
          have O5 : Hid (Own w5 w.heap.size w5.heap.size 3 (.slice (some ⟨g5, 0, none⟩) (l + 1) c5) (iv (head ++ [(k : Int)]))) := by
            refine Own.of_own ?_
            have e : (iv (head ++ [(k : Int)])).length = l + 1 := by rw [iv_length, List.length_append, List.length_singleton, HLL.out]
            rw [e]; exact hv5
          clear hv5 hg5 hgs5 O4 Y4 B4 O0 B1 RD
          go_wp2_with fail
          refine (CT1.out _ _ _ _ O5 (Nat.le_refl _)).mono ?_
          rintro e w6 ⟨rfl, hb6⟩
          have BW6 : Hid (Below w.heap.size w w6) := B5.out.trans (hb6.mono B5.out.size)
          clear hb6 CT1 O5 B5 HB
          go_wp2
          go_roundw
          case rel => exact ⟨k + 1, z + y, by omega, by go_num, by first | rfl | rw [ew], HZ2, BW6⟩
          case measure => simp [intOf]; omega
      · obtain rfl : k = n := by omega
        go_wp2
        go_ret
        exact ⟨(by rw [HZ.out]; rfl), HB.out⟩
/-- what HeapsTried answers -/
def triedO (l : List UInt8) : Int := if valid l = true ∧ l.length ≤ 10 then ((Tw.heapsL 16 l : Nat) : Int) else -1
set_option maxHeartbeats 800000 in
theorem specHeapsTried_any (s : ByteArray) (w : World) (hs : s.size ≤ maxLen) :
    Calls Try.prog 19 #[.string s] w fun e w' => e = .returned (.int .i64 (triedO s.data.toList)) ∧ Below w.heap.size w w' := by
  cases hv : valid s.data.toList with
  | false =>
    rw [triedO, if_neg (fun h => by rw [hv] at h; exact absurd h.1 (by decide))]
    have HV := Lib.hid hv
    go_enter Try.func19, Try.ntmps19
    go_wp2_with (go_at_call 27; refine (specValid_is false _ _ hs HV).mono ?_; rintro e w1 ⟨rfl, rfl⟩)
    go_ret
    exact ⟨rfl, Below.refl _ _⟩
  | true =>
    have HV := Lib.hid hv
    by_cases h10 : s.size ≤ 10
    · obtain ⟨t, ht, ht8⟩ := tree_of hv (by rw [size_list]; omega)
      have hts : s.size = 2 * t.size := by rw [← size_list, ← ht, Tw.lst_length]
      have HT := Tw.tried_heaps t (by omega)
      have C := Lib.hid (fun v W B H (h1 : Hid (Own W B H 3 v (iv []))) h2 => rowsFrom_any t.size (by omega) s t.size [] v W (by simp) h1 h2)
      rw [triedO, if_pos ⟨hv, by rw [size_list]; exact h10⟩, ← ht, Tw.heapsL_lst 16 t (by omega), ← HT]
      rw [← ht] at C
      obtain ⟨R, hR⟩ : ∃ R, R = rowsN t.size t.size [] t.lst := ⟨_, rfl⟩
      rw [← hR] at C ⊢
      obtain ⟨n, hn⟩ : ∃ n, n = t.size := ⟨_, rfl⟩
      rw [← hn] at C hts
      have e3 : Int.tdiv (s.size : Int) 2 = (n : Int) := by rw [Int.tdiv_eq_ediv_of_nonneg (by omega)]; omega
      have b1 : ¬ (10 : Int) < (s.size : Int) := by omega
      clear hv ht hR HT hn ht8
      go_enter Try.func19, Try.ntmps19
      go_wp2_with (go_at_call 27; refine (specValid_is true _ _ hs HV).mono ?_; rintro e w1 ⟨rfl, rfl⟩)
      have O1 : Hid (Own (w.alloc (.cells #[] 3)) w.heap.size (w.alloc (.cells #[] 3)).heap.size 3 (.slice (some ⟨w.heap.size, 0, none⟩) 0 0) (iv [])) :=
        Own.of_own (World.ownsRow_lit (base := w.heap.size) (e := 3) (size := 1) w #[] 0 (Nat.le_refl _) (by unfold maxLen; omega) rfl)
      have B2 : Hid (Below w.heap.size w (w.alloc (.cells #[] 3))) := (Below.refl _ w).alloc (Nat.le_refl _) _
      refine (C.out _ _ _ _ O1 (Nat.le_refl _)).mono ?_
      rintro e w1 ⟨rfl, hb⟩
      have HB := Lib.hid (B2.out.trans (hb.mono B2.out.size))
      go_wp2
      go_ret
      exact ⟨rfl, HB.out⟩
    · rw [triedO, if_neg (fun h => h10 (by have := h.2; rw [size_list] at this; exact this))]
      have b1 : (10 : Int) < (s.size : Int) := by omega
      clear hv
      go_enter Try.func19, Try.ntmps19
      go_wp2_with (go_at_call 27; refine (specValid_is true _ _ hs HV).mono ?_; rintro e w1 ⟨rfl, rfl⟩)
      go_ret
      exact ⟨rfl, Below.refl _ _⟩
end Go.Proofs.Ytmlcbeekimiaiaa
