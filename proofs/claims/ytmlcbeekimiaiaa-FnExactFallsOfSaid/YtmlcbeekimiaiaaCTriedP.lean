/-
  The contract of the program's HeapsTried.
-/
import Derived.Test.YtmlcbeekimiaiaaCRowP
import Derived.Test.YtmlcbeekimiaiaaCHeapP
import Derived.Test.YtmlcbeekimiaiaaCTriedS
namespace Go.Proofs.Ytmlcbeekimiaiaa
open Go.RowKit

theorem clone9_p (xs : List Int) (v : Value) (w : World) {B H : Nat} (hv : Hid (Own w B H 3 v (iv xs))) (hl : xs.length ≤ 64) :
    Calls Try.prog 52 #[v] w fun e w' => ∃ u, e = .returned u ∧ Own w' w.heap.size w'.heap.size 3 u (iv xs) ∧ Below w.heap.size w w' := by
  obtain ⟨av, cv, rfl, h0, _, _, h1⟩ := hv.out.slice
  rw [iv_length] at hv h0 ⊢
  cases av with
  | none =>
    obtain ⟨e0, rfl⟩ := h0 rfl
    have : xs = [] := List.eq_nil_of_length_eq_zero e0
    subst this
    refine (Try.slices_Clone_int_nil 0 0 w).mono ?_
    rintro e w' ⟨rfl, rfl⟩
    exact ⟨_, rfl, ⟨World.ownsRow_nil _ _ _ _, fun q hq => by simp [Value.ownBlock] at hq⟩, Below.refl _ _⟩
  | some a =>
    obtain ⟨g, rfl, _, _⟩ := h1 a rfl
    by_cases hx : xs.length = 0
    · have : xs = [] := List.eq_nil_of_length_eq_zero hx
      subst this
      refine (Try.slices_Clone_int_zero _ cv w).mono ?_
      rintro e w' ⟨u, rfl, h, _, hb⟩
      exact ⟨u, rfl, Own.of_own h, hb⟩
    · refine (Try.slices_Clone_int g 0 xs.length cv xs w (Nat.le_refl _) (by omega) (fun j hj => ?_)).mono ?_
      · have hr := own_rd hv.out
        rw [rd_at hr j hj, getD_at xs j hj]
      · rintro e w' ⟨u, rfl, h, _, hb⟩
        rw [List.take_length] at h
        exact ⟨u, rfl, Own.of_own (by rw [iv_length]; exact h), hb⟩
/-- numbers that a row begins with -/
def Begun (n : Nat) (l : List Int) : Prop := (∀ x ∈ l, 0 ≤ x ∧ x < (n : Int)) ∧ l.Nodup
theorem begun_row {n : Nat} {l : List Int} (h : Begun n l) (hl : l.length = n) (h5 : n ≤ 5) : rowB l = true := (rowB_iff l).mpr ⟨by omega, fun x hx => by have := h.1 x hx; rw [hl]; exact this, h.2⟩
theorem begun_next {n : Nat} {l : List Int} (h : Begun n l) {k : Nat} (hk : k < n) (hc : (k : Int) ∉ l) : Begun n (l ++ [(k : Int)]) := by
  refine ⟨fun x hx => ?_, ?_⟩
  · rcases List.mem_append.mp hx with hx | hx
    · exact h.1 x hx
    · simp only [List.mem_singleton] at hx; omega
  · rw [List.nodup_append]
    refine ⟨h.2, by simp, fun a ha b hb => ?_⟩
    simp only [List.mem_singleton] at hb
    subst hb
    intro e
    subst e
    exact hc ha

set_option maxRecDepth 100000 in
set_option maxHeartbeats 3200000 in
theorem tryRows_any (n : Nat) (hn : n ≤ 5) (s : ByteArray) (hs : s.size = 2 * n) : ∀ (m : Nat) (head : List Int) (v : Value) (w : World) {B H : Nat}, head.length + m = n → Hid (Begun n head) → Hid (Own w B H 3 v (iv head)) → H ≤ w.heap.size →
    Calls Try.prog 39 #[.string s, v] w fun e w' => e = .returned (.int .i64 ((rowsN m n head s.data.toList : Nat) : Int)) ∧ Below w.heap.size w w' := by
  obtain ⟨i0, hi, hz0, hz1, hz2⟩ := info_parts Try.infoIntR
  have e2 : Int.tdiv (s.size : Int) 2 = (n : Int) := by rw [Int.tdiv_eq_ediv_of_nonneg (by omega)]; omega
  have e2w : IntKind.i64.wrap (Int.tdiv (s.size : Int) 2) = (n : Int) := by rw [e2, IntKind.wrap_i64]; omega
  have e3 : (s.size : Int) / 2 = (n : Int) := by omega
  have e3w : wrap64 ((s.size : Int) / 2) = (n : Int) := by rw [e3]; unfold wrap64; omega
  intro m
  induction m with
  | zero =>
    intro head v w B H hm hg hv hH
    obtain ⟨av, cv, rfl, _, hcv, _, _⟩ := hv.out.slice
    rw [iv_length] at hv hcv ⊢
    have hR := own_rd hv.out
    have hl : head.length = n := by omega
    have CW := implHeapWord_any head av cv w (Lib.hid hR) (by omega) hcv
    rw [hwO, if_pos (begun_row hg.out hl hn)] at CW
    rw [hl] at hv hcv CW ⊢
    have CW := Lib.hid CW
    have q1 : ((n : Int) == (n : Int)) = true := beq_self_eq_true _
    rw [rowsN_zero]
    by_cases he : (Tw.row head).lst = s.data.toList
    · rw [if_pos he]
      have hse : hwS head = s := bytes_ext he
      have q2 : ((hwS head).toList == s.toList) = true := by rw [hse]; exact beq_self_eq_true _
      obtain ⟨T, hT⟩ : ∃ T, T = hwS head := ⟨_, rfl⟩
      rw [← hT] at CW q2
      clear he hR hl hT hse hm hg
      go_enter Try.func39, Try.ntmps39
      go_wp2_with fail
      refine CW.out.mono ?_
      rintro e w1 ⟨rfl, q, rfl⟩
      go_wp2
      go_ret
      exact ⟨rfl, ⟨rfl, rfl, rfl, Nat.le_refl _, fun _ _ => rfl⟩⟩
    · rw [if_neg he]
      have hne : (hwS head).toList ≠ s.toList := fun e => he (by rw [ByteArray.toList_eq, ByteArray.toList_eq] at e; exact e)
      obtain ⟨T, hT⟩ : ∃ T, T = hwS head := ⟨_, rfl⟩
      rw [← hT] at CW hne
      have q2 : (T.toList == s.toList) = false := beq_false_of_ne hne
      clear he hR hl hT hm hg
      go_enter Try.func39, Try.ntmps39
      go_wp2_with fail
      refine CW.out.mono ?_
      rintro e w1 ⟨rfl, q, rfl⟩
      go_wp2
      go_ret
      exact ⟨rfl, ⟨rfl, rfl, rfl, Nat.le_refl _, fun _ _ => rfl⟩⟩
  | succ m ih =>
    intro head v w B H hm hg hv hH
    have HV : Hid (∀ W, Below w.heap.size w W → Own W B H 3 v (iv head)) := fun W hW => hv.out.below (hW.mono hH)
    have CL := Lib.hid (fun (W : World) (hW : Below w.heap.size w W) => clone9_p head v W (Lib.hid (HV.out W hW)) (by omega))
    obtain ⟨av, cv, rfl, _, hcv, _, hav⟩ := hv.out.slice
    rw [iv_length] at hv hcv CL ⊢
    have hR := own_rd hv.out
    have hlt0 : head.length < n := by omega
    have q1 : ((head.length : Int) == (n : Int)) = false := beq_false_of_ne (by omega)
    have CH : Hid (∀ (x : Int) W, Below w.heap.size w W → Calls Try.prog 24 #[.slice av head.length cv, .int .i64 x] W fun e w' => e = .returned (.bool (head.contains x)) ∧ w' = W) := fun x W hW => by
      have := containsR_p head av cv x W (Lib.hid ((hR.below (hW.mono hH)).more hH)) (by omega)
      rw [show decide (x ∈ head) = head.contains x from by rw [Bool.eq_iff_iff, decide_eq_true_eq, List.contains_iff_mem]] at this
      exact this
    have CT : Hid (∀ (x : Nat) (v' : Value) (W : World) (B' H' : Nat), x < n → (x : Int) ∉ head → Hid (Own W B' H' 3 v' (iv (head ++ [(x : Int)]))) → H' ≤ W.heap.size → Calls Try.prog 39 #[.string s, v'] W fun e w' => e = .returned (.int .i64 ((rowsN m n (head ++ [(x : Int)]) s.data.toList : Nat) : Int)) ∧ Below W.heap.size W w') :=
      fun x v' W B' H' hx hc ho hh => ih (head ++ [(x : Int)]) v' W (by rw [List.length_append, List.length_singleton]; omega) (Lib.hid (begun_next hg.out hx hc)) ho hh
    have HF : Hid (rowsN (m + 1) n head s.data.toList = rowsK m n head s.data.toList n) := rowsN_succ m n head _
    have hp : n ^ m ≤ 5 ^ 5 := Nat.le_trans (Nat.pow_le_pow_left hn m) (Nat.pow_le_pow_right (by decide) (by omega))
    have HKB : Hid (∀ x : Nat, rowsN m n (head ++ [(x : Int)]) s.data.toList ≤ 3125) := fun x => Nat.le_trans (rowsN_le n _ m _) hp
    have HKK : Hid (∀ k, k ≤ n → rowsK m n head s.data.toList k ≤ 5 * 3125) := fun k hk => Nat.le_trans (rowsK_le m n head _ 3125 HKB.out k) (Nat.mul_le_mul_right _ (by omega))
    have HSTEP : Hid (∀ k : Nat, rowsK m n head s.data.toList (k + 1) = rowsK m n head s.data.toList k + if head.contains (k : Int) then 0 else rowsN m n (head ++ [(k : Int)]) s.data.toList) := fun k => rfl
    rw [HF.out]
    have HNC : Hid (∀ x : Int, head.contains x = false → x ∉ head) := fun x h1 h2 => by rw [List.contains_iff_mem.mpr h2] at h1; cases h1
    obtain ⟨l, hl⟩ : ∃ l, l = head.length := ⟨_, rfl⟩
    have HLL := Lib.hid hl
    rw [← hl] at CH CL q1 hlt0 hcv ⊢
    have hl5 : l ≤ 5 := by omega
    clear hv hR hm hp hav ih hl hg HV
    go_enter Try.func39, Try.ntmps39
    go_wp2
    go_loopw [6, 7, 20] (fun o y x wr => ∃ k z : Nat, k ≤ n ∧ x = .int .i64 k ∧ o = .int .i64 z ∧ Hid (z = rowsK m n head s.data.toList k) ∧ Hid (Below w.heap.size w wr)) (fun _ _ x _ => n - (intOf x).toNat)
    case atStart => exact ⟨0, 0, Nat.zero_le _, rfl, rfl, rfl, Below.refl _ _⟩
    case round =>
      obtain ⟨k, z, hk, rfl, rfl, HZ, HB⟩ := hrel
      by_cases hlt : k < n
      · have b1 : (k : Int) < (n : Int) := by omega
        have CH1 := Lib.hid (CH.out k wr HB.out)
        have HS := Lib.hid (HSTEP.out k)
        have HNK := Lib.hid (HNC.out k)
        obtain ⟨c, hc⟩ : ∃ c, c = head.contains (k : Int) := ⟨_, rfl⟩
        rw [← hc] at CH1 HS HNK
        clear hc
        cases c with
        | true =>
          have HZ2 : Hid (z = rowsK m n head s.data.toList (k + 1)) := by show _ = _; rw [HS.out, HZ.out]; rfl
          clear HS HZ HNK
          go_wp2_with fail
          refine CH1.out.mono ?_
          rintro e w1 ⟨rfl, rfl⟩
          go_wp2
          go_roundw
          case rel => exact ⟨k + 1, z, by omega, by go_num, rfl, HZ2, HB⟩
          case measure => simp [intOf]; omega
        | false =>
          have CT1 := fun v' W B' H' h1 h2 => CT.out k v' W B' H' hlt (HNK.out rfl) h1 h2
          have CL1 := Lib.hid (CL.out wr HB.out)
          have hz := HKK.out k hk
          have hy := HKB.out k
          have HS2 := HS.out
          rw [← HZ.out] at hz
          obtain ⟨y, hyy⟩ : ∃ y, y = rowsN m n (head ++ [(k : Int)]) s.data.toList := ⟨_, rfl⟩
          rw [← hyy] at CT1 hy HS2
          have CT1 := Lib.hid CT1
          have HZ2 : Hid (z + y = rowsK m n head s.data.toList (k + 1)) := by show _ = _; rw [HS2, HZ.out]; rfl
          have ew : IntKind.i64.wrap ((z : Int) + (y : Int)) = ((z + y : Nat) : Int) := by rw [IntKind.wrap_i64]; omega
          have z1 : l + 1 ≤ maxLen := by unfold maxLen; omega
          have z2 : (l + 1) * 8 ≤ 140737488355328 := by omega
          have IVS : Hid (iv (head ++ [(k : Int)]) = iv head ++ [.int .i64 (k : Int)]) := iv_app _ _
          have HIL : Hid ((iv head).length = l) := by show _ = _; rw [iv_length]; exact HLL.out.symm
          clear HS HZ HS2 hyy CT CH CL HNK HNC
          go_wp2_with fail
          refine CH1.out.mono ?_
          rintro e w1 ⟨rfl, rfl⟩
          clear CH1
          go_wp2_with fail
          refine CL1.out.mono ?_
          rintro e w3 ⟨q, rfl, hq, hb3⟩
          obtain ⟨aq, cq, rfl, _⟩ := hq.slice
          rw [HIL.out] at hq ⊢
          have OQ : Hid (w3.ownsRow w1.heap.size 3 1 (.slice aq l cq) l (iv head)) := by have := hq.1; rwa [HIL.out] at this
          have Y3 : Hid (∀ o : Obj, w1.heap.size ≤ (w3.alloc o).heap.size) := fun o => by have := hb3.size; rw [World.size_alloc]; omega
          have S3 : Hid (w1.heap.size ≤ w3.heap.size) := hb3.size
          have SR : Hid (w.heap.size ≤ w1.heap.size) := HB.out.size
          have B3 : Hid (Below w1.heap.size w1 w3) := hb3
          clear hq hb3 CL1
          go_wp2_with (at_builtin; refine wpList_append_lies _ rfl (.tmp 30) (.tmp 32) 22 rfl w1.heap.size 3 i0 (.int .i64 0) 1 8 Try.underlying22 hi hz0 hz1 hz2 rfl (Nat.succ_pos 0) (.slice aq l cq) l (iv head) rfl (OQ.out.alloc _) ⟨w3.heap.size, 0, none⟩ 1 1 [.int .i64 (k : Int)] rfl rfl (cell_one_new _ _ _) (one_intR _) (Nat.succ_pos 0) z1 z2 (Y3.out _) _ rfl ?_)
          intro g5 c5 w5 hv5 hg5 _ hgs5
          rw [← IVS.out] at hv5
          have B5 : Hid (Below w1.heap.size w1 w5) := (B3.out.alloc S3.out _).grown hg5 (Y3.out _) (fun q hq => (OQ.out.lt q hq).1)
          have O5 : Hid (Own w5 w1.heap.size w5.heap.size 3 (.slice (some ⟨g5, 0, none⟩) (l + 1) c5) (iv (head ++ [(k : Int)]))) := by
            refine Own.of_own ?_
            have e : (iv (head ++ [(k : Int)])).length = l + 1 := by rw [iv_length, List.length_append, List.length_singleton, HLL.out]
            rw [e]; exact hv5
          have BW5 : Hid (Below w.heap.size w w5) := HB.out.trans (B5.out.mono SR.out)
          clear hv5 hg5 hgs5 OQ Y3 S3 B3 B5 SR HB
          go_wp2_with fail
          refine (CT1.out _ _ _ _ O5 (Nat.le_refl _)).mono ?_
          rintro e w6 ⟨rfl, hb6⟩
          have BW6 : Hid (Below w.heap.size w w6) := BW5.out.trans (hb6.mono BW5.out.size)
          clear hb6 CT1 O5 BW5
          go_wp2
          go_roundw
          case rel => exact ⟨k + 1, z + y, by omega, by go_num, by first | rfl | rw [ew], HZ2, BW6⟩
          case measure => simp [intOf]; omega
      · obtain rfl : k = n := by omega
        go_wp2
        go_ret
        exact ⟨(by rw [HZ.out]; rfl), HB.out⟩

set_option maxRecDepth 100000 in
set_option maxHeartbeats 800000 in
theorem implHeapsTried_any (s : ByteArray) (w : World) (hs : s.size ≤ maxLen) :
    Calls Try.prog 20 #[.string s] w fun e w' => e = .returned (.int .i64 (triedO s.data.toList)) ∧ Below w.heap.size w w' := by
  have CV := Lib.hid (implWordUp_any 5 s w hs (by omega))
  by_cases h : valid s.data.toList = true ∧ s.data.toList.length ≤ 2 * 5
  · rw [decide_eq_true h] at CV
    obtain ⟨t, ht, ht8⟩ := tree_of h.1 (by omega)
    have hts : s.size = 2 * t.size := by rw [← size_list, ← ht, Tw.lst_length]
    have ht5 : t.size ≤ 5 := by have := h.2; rw [size_list] at this; omega
    have HT := Tw.tried_heaps t ht5
    have CT := Lib.hid (fun W => tryRows_any t.size ht5 s hts t.size [] (.slice none 0 0) W (B := 0) (H := 0) (by simp) (show Hid (Begun t.size []) from ⟨fun x hx => absurd hx (by simp), List.nodup_nil⟩) (show Hid (Own W 0 0 3 (.slice none 0 0) (iv [])) from ⟨World.ownsRow_nil _ _ _ _, fun g hg => by simp [Value.ownBlock] at hg⟩) (Nat.zero_le _))
    rw [triedO, if_pos ⟨h.1, by have := h.2; omega⟩, ← ht, Tw.heapsL_lst 16 t (by omega), ← HT]
    rw [← ht] at CT
    obtain ⟨R, hR⟩ : ∃ R, R = rowsN t.size t.size [] t.lst := ⟨_, rfl⟩
    rw [← hR] at CT ⊢
    clear h hR ht ht8 ht5 hts HT
    go_enter Try.func20, Try.ntmps20
    go_wp2_with fail
    refine CV.out.mono ?_
    rintro e w1 ⟨rfl, hb1⟩
    have B1 := Lib.hid hb1
    clear hb1 CV
    go_wp2_with fail
    refine (CT.out w1).mono ?_
    rintro e w2 ⟨rfl, hb2⟩
    have B2 := Lib.hid (B1.out.trans (hb2.mono B1.out.size))
    clear hb2 CT
    go_wp2
    go_ret
    exact ⟨rfl, B2.out⟩
  · rw [decide_eq_false h] at CV
    rw [triedO, if_neg (fun hh => h ⟨hh.1, by omega⟩)]
    clear h
    go_enter Try.func20, Try.ntmps20
    go_wp2_with fail
    refine CV.out.mono ?_
    rintro e w1 ⟨rfl, hb1⟩
    have B1 := Lib.hid hb1
    clear hb1 CV
    go_wp2
    go_ret
    exact ⟨rfl, B1.out⟩
end Go.Proofs.Ytmlcbeekimiaiaa
