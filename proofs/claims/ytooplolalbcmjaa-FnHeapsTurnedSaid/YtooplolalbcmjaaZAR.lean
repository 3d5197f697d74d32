/-
  Numbers that can be read are appended to a row of the call's own, none of them too.
  The contracts of the model's ValidRow and FallsOf, of numbers that can be read.
-/
import Derived.Test.YtooplolalbcmjaaZH
import Derived.Deep.AppendLies
import Derived.Laws.OwnMore
import Derived.Test.YtooplolalbcmjaaCInts
import Derived.Test.YtooplolalbcmjaaZV
import Derived.Test.YtooplolalbcmjaaWFall
namespace Go.Proofs.Ytooplolalbcmjaa
open Go.RowKit

theorem run_append_zero {P : Program} {w : World} (base : Nat) (t ty e : TypeId) (i : TypeInfo) (size : Nat) (ht : P.underlying t = some (.slice e)) (hi : P.info? e = some i)
    (v : Value) (n : Nat) (xs : List Value) (hown : w.ownsRow base e size v n xs) (ao : Option Addr) (c : Nat) :
    (Builtin.append_ #[t, t] ty #[v, .slice ao 0 c]).run P w = .ok v w := by
  have hf : ∀ W : World, (Builtin.firstCells i.size 0 (.slice ao 0 c)).run P W = .ok #[] W := fun W => by
    cases ao with
    | none => exact run_firstCells_none W i.size 0 0 c
    | some a => exact run_firstCells_some W i.size 0 a 0 c [] (by simp) (fun j v hj => by simp at hj)
  rcases hown.2 with ⟨rfl, rfl⟩ | ⟨g, cap, cur, rfl, _, _, hnc, _⟩
  · simp [Builtin.append_, run_underlying ht, sizeOf, typeInfo, hi, Builtin.lenOf, hf]
  · simp [Builtin.append_, run_underlying ht, sizeOf, typeInfo, hi, Builtin.lenOf, hf, hnc, storeCells]
theorem wpList_append_zero {P : Program} {w : World} {ops : Array Oper} {rest : List Oper} {o : Oper} {a : Act} {Q : Exit → Act → World → Prop} (hgd : o.guard = none) (s x : Operand) (t : TypeId)
    (ho : o.op = .call { callee := .builtin .append, args := #[s, x], argTypes := #[t, t] })
    (base : Nat) (e : TypeId) (i : TypeInfo) (size : Nat) (ht : P.underlying t = some (.slice e)) (hi : P.info? e = some i)
    (v : Value) (n : Nat) (xs : List Value) (hs : a.eval s = v) (hown : w.ownsRow base e size v n xs) (ao : Option Addr) (c : Nat) (hx : a.eval x = .slice ao 0 c)
    (h : wpList P ops Q rest (a.put o.dst v) w) : wpList P ops Q (o :: rest) a w := by
  refine wpList_plain hgd fun K hK => ?_
  have hrun := run_append_zero (P := P) (w := w) base t o.type e i size ht hi v n xs hown ao c
  unfold Oper.wp
  simp [execOp, ho, resolve, invoke, builtin, hs, hx, hrun, Result.andThen]
  exact hK _ _ h
/-- a slice of numbers that can be read -/
def RdI (w : World) (H : Nat) (a : Option Addr) (l : List Int) : Prop := ∀ (j : Nat) (hj : j < l.length), ∃ b off, a = some ⟨b, off, none⟩ ∧ b < H ∧ w.cell? ⟨b, off + j, none⟩ = some (.int .i64 l[j])
theorem RdI.below {w w' : World} {H : Nat} {a : Option Addr} {l : List Int} (h : RdI w H a l) (hb : Below H w w') : RdI w' H a l := fun j hj => by
  obtain ⟨b, off, h1, h2, h3⟩ := h j hj
  exact ⟨b, off, h1, h2, (hb.cell (p := ⟨b, off + j, none⟩) h2).trans h3⟩
theorem RdI.src {w : World} {H : Nat} {a : Option Addr} {l : List Int} (h : RdI w H a l) (hl : 0 < l.length) : ∃ ad, a = some ad ∧ ∀ j u, (iv l)[j]? = some u → w.cell? (ad.add j) = some u := by
  obtain ⟨b, off, rfl, h2, h3⟩ := h 0 hl
  refine ⟨_, rfl, fun j u hu => ?_⟩
  have hj : j < l.length := by
    have := (List.getElem?_eq_some_iff.1 hu).1
    rwa [iv_length] at this
  obtain ⟨b', off', e1, _, e3⟩ := h j hj
  simp only [Option.some.injEq, Addr.mk.injEq] at e1
  obtain ⟨rfl, rfl, _⟩ := e1
  rw [iv_at l j hj] at hu
  cases hu
  rw [Addr.add_lit]
  exact e3
theorem iv_app (A B : List Int) : iv (A ++ B) = iv A ++ iv B := by simp [iv]
theorem iv_one (l : List Int) : ∀ u ∈ iv l, u.oneCell' = true := by
  intro u hu
  unfold iv at hu
  obtain ⟨x, _, rfl⟩ := List.mem_map.1 hu
  rfl
/-- numbers that can be read are appended to a row of the call's own, none of them too -/
theorem wpList_append_rd {w : World} {ops : Array Oper} {rest : List Oper} {o : Oper} {a : Act} {Q : Exit → Act → World → Prop} (hgd : o.guard = none) (s x : Operand)
    (ho : o.op = .call { callee := .builtin .append, args := #[s, x], argTypes := #[23, 23] })
    (base : Nat) (v : Value) (n : Nat) (xs : List Value) (hs : a.eval s = v) (hown : w.ownsRow base 3 1 v n xs) (ao : Option Addr) (m c : Nat) (hx : a.eval x = .slice ao m c) {H : Nat} {l : List Int} (hl : l.length = m) (hR : RdI w H ao l)
    (hn : n ≤ 1000) (hm : m ≤ 1000) (hbase : base ≤ w.heap.size)
    (h : ∀ v' w', w'.ownsRow base 3 1 v' (n + m) (xs ++ iv l) → w.grownBy w' v.ownBlock → wpList Try.prog ops Q rest (a.put o.dst v') w') : wpList Try.prog ops Q (o :: rest) a w := by
  obtain ⟨i0, hi, hz0, hz1, hz2⟩ := info_parts Try.infoIntR
  rcases Nat.eq_zero_or_pos m with h0 | h0
  · subst h0
    obtain rfl : l = [] := List.eq_nil_of_length_eq_zero hl
    refine wpList_append_zero hgd s x 23 ho base 3 i0 1 Try.underlying23 hi v n xs hs hown ao c hx (h v w ?_ ⟨rfl, rfl, rfl, Nat.le_refl _, fun _ _ _ => rfl⟩)
    rw [show xs ++ iv [] = xs by simp [iv], Nat.add_zero]
    exact hown
  · obtain ⟨ad, rfl, hsrc⟩ := hR.src (by rw [hl]; exact h0)
    exact wpList_append_lies w hgd s x 23 ho base 3 i0 (.int .i64 0) 1 8 Try.underlying23 hi hz0 hz1 hz2 rfl (by decide) v n xs hs hown ad m c (iv l) hx (by rw [iv_length, hl, Nat.mul_one]) hsrc (iv_one l) h0 (by unfold maxLen; omega) (by omega) hbase _ rfl (fun g cap w' h1 h2 _ _ => h _ w' h1 h2)
end Go.Proofs.Ytooplolalbcmjaa

namespace Go.Proofs.Ytooplolalbcmjaa
open Go.RowKit

theorem rd_at {w : World} {H : Nat} {b off : Nat} {l : List Int} (h : RdI w H (some ⟨b, off, none⟩) l) (j : Nat) (hj : j < l.length) : w.cell? ⟨b, off + j, none⟩ = some (.int .i64 l[j]) := by
  obtain ⟨_, _, e, _, h3⟩ := h j hj
  simp only [Option.some.injEq, Addr.mk.injEq] at e
  obtain ⟨rfl, rfl, _⟩ := e
  exact h3
theorem RdI.take {w : World} {H : Nat} {a : Option Addr} {l : List Int} (h : RdI w H a l) (m : Nat) : RdI w H a (l.take m) := fun j hj => by
  rw [List.length_take] at hj
  obtain ⟨b, off, h1, h2, h3⟩ := h j (by omega)
  exact ⟨b, off, h1, h2, by rw [List.getElem_take]; exact h3⟩
theorem RdI.more {w : World} {H H' : Nat} {a : Option Addr} {l : List Int} (h : RdI w H a l) (hH : H ≤ H') : RdI w H' a l := fun j hj => by
  obtain ⟨b, off, h1, h2, h3⟩ := h j hj
  exact ⟨b, off, h1, by omega, h3⟩

theorem own_rd {w : World} {B H c : Nat} {a : Option Addr} {l : List Int} (h : Own w B H 3 (.slice a l.length c) (iv l)) : RdI w H a l := fun j hj => by
  obtain ⟨g, cap, e, _, hg, hc, _⟩ := h.cell j (by rw [iv_length]; exact hj)
  rw [iv_length] at e
  simp only [Value.slice.injEq] at e
  refine ⟨g, 0, e.1, hg, ?_⟩
  rw [Nat.zero_add, hc, iv_at l j hj]

set_option maxRecDepth 100000 in
set_option maxHeartbeats 800000 in
theorem hasIntR_any (l : List Int) (a : Option Addr) (cv : Nat) (x : Int) (w : World) {H : Nat} (hR : Hid (RdI w H a l)) (hl : l.length ≤ 1048576) :
    Calls Try.prog 83 #[.slice a l.length cv, .int .i64 x] w fun e w' => e = .returned (.bool (decide (x ∈ l))) ∧ w = w' := by
  go_enter Try.func83, Try.ntmps83
  go_wp2
  go_loop [5] (fun i => ∃ k : Nat, k ≤ l.length ∧ i = .int .i64 k ∧ Hid (∀ (j : Nat) (hj : j < l.length), j < k → l[j] ≠ x)) (fun i => l.length - (intOf i).toNat)
  case atStart => exact ⟨0, Nat.zero_le _, rfl, fun j _ h => by omega⟩
  case round =>
    obtain ⟨k, hk, rfl, HN⟩ := hrel
    by_cases hlt : k < l.length
    · obtain ⟨b, off, rfl, _, h1⟩ := hR.out k hlt
      have b1 : (k : Int) < (l.length : Int) := by omega
      obtain ⟨y, hy⟩ : ∃ y, y = l[k] := ⟨_, rfl⟩
      rw [← hy] at h1
      have HY := Lib.hid hy
      clear hy
      by_cases hyx : y = x
      · subst hyx
        have hy := Lib.hid (inI_hit hlt HY.out.symm)
        go_wp2
        go_ret
        exact ⟨by rw [hy.out]; rfl, rfl⟩
      · have q1 : (y == x) = false := beq_false_of_ne hyx
        have HN' : Hid (∀ (j : Nat) (hj : j < l.length), j < k + 1 → l[j] ≠ x) := fun j hj hjk => by
          by_cases e : j = k
          · subst e; rw [← HY.out]; exact hyx
          · exact HN.out j hj (by omega)
        clear hyx
        go_wp2
        go_round
        case rel => exact ⟨k + 1, by omega, by go_num, HN'⟩
        case measure => simp [intOf]; omega
    · obtain rfl : k = l.length := by omega
      have hy := Lib.hid (inI_miss (x := x) fun j hj => HN.out j hj hj)
      go_wp2
      go_ret
      exact ⟨by rw [hy.out]; rfl, rfl⟩

theorem RdI.drew {w : World} {H : Nat} {a : Option Addr} {l : List Int} (h : RdI w H a l) (n : Nat) : RdI (w.drewN n) H a l := fun j hj => h j hj

set_option maxRecDepth 100000 in
set_option maxHeartbeats 1600000 in
theorem validRowM_any (l : List Int) (a : Option Addr) (cv : Nat) (w : World) {H : Nat} (hR : Hid (RdI w H a l)) (hl : l.length ≤ 1048576) (hcv : l.length ≤ cv) :
    Calls Try.prog 56 #[.slice a l.length cv] w fun e w' => e = .returned (.bool (rowB l)) ∧ ∃ q, w' = w.drewN q := by
  by_cases h8 : l.length ≤ 8
  · have b8 : ¬ (8 : Int) < (l.length : Int) := by omega
    have H8 := Lib.hid h8
    go_enter Try.func56, Try.ntmps56
    go_wp2
    go_loopw [3] (fun i wr => ∃ k : Nat, k ≤ l.length ∧ i = .int .i64 k ∧ Hid (rowUp l k) ∧ Hid (∃ q, wr = w.drewN q)) (fun i _ => l.length - (intOf i).toNat)
    case atStart => exact ⟨0, Nat.zero_le _, rfl, rowUp_zero l, 0, rfl⟩
    case round =>
      obtain ⟨k, hk, rfl, HU, HS⟩ := hrel
      have hRr : Hid (RdI wr H a l) := by obtain ⟨q, hq⟩ := HS.out; rw [hq]; exact hR.out.drew q
      by_cases hlt : k < l.length
      · have hlen : (l.take k).length = k := by rw [List.length_take]; omega
        have CH := fun x (n : Nat) => hasIntR_any (l.take k) a cv x (wr.drewN n) (Lib.hid ((hRr.out.take k).drew n)) (by omega)
        rw [hlen] at CH
        clear hlen
        obtain ⟨b, off, rfl, _, h1⟩ := hRr.out k hlt
        have b1 : (k : Int) < (l.length : Int) := by omega
        have b2 : (k : Int) ≤ (cv : Int) := by omega
        have HSTEP := Lib.hid (fun (q1 : 0 ≤ l[k]) (q2 : l[k] < l.length) (q3 : l[k] ∉ l.take k) => rowUp_step HU.out hlt q1 q2 q3)
        have HOFF := Lib.hid (fun h => rowB_off (l := l) hlt h)
        have HTW := Lib.hid (fun h => rowB_twice (l := l) hlt h)
        obtain ⟨y, hy⟩ : ∃ y, y = l[k] := ⟨_, rfl⟩
        rw [← hy] at h1 HSTEP HOFF HTW
        clear hy
        have CY : Hid (∀ n, Calls Try.prog 83 #[.slice (some ⟨b, off, none⟩) k cv, .int .i64 y] (wr.drewN n) fun e w' => e = .returned (.bool (decide (y ∈ l.take k))) ∧ ∃ m, w' = (wr.drewN n).drewN m) := fun n => (CH y n).mono fun e w' h => ⟨h.1, 0, h.2.symm⟩
        clear CH
        have ew : IntKind.i64.wrap ((l.length : Int) - 1) = (l.length : Int) - 1 := by rw [IntKind.wrap_i64]; omega
        by_cases hy0 : 0 ≤ y ∧ y ≤ (l.length : Int) - 1
        · have C : Hid (∀ n, Calls Try.prog 54 #[.int .i64 y, .int .i64 0, .int .i64 ((l.length : Int) - 1)] (wr.drewN n) fun e w' => e = .returned (.bool true) ∧ ∃ m, w' = (wr.drewN n).drewN m) := fun n => (inRange_yes y 0 ((l.length : Int) - 1) _ hy0.1 hy0.2).mono fun e w' h => ⟨h.1, 0, h.2.symm⟩
          by_cases hm : y ∈ l.take k
          · have hr := Lib.hid (HTW.out hm)
            rw [show decide (y ∈ l.take k) = true from decide_eq_true hm] at CY
            clear HSTEP HOFF HTW hy0 hm hRr
            go_wp2_with fail
            go_quiet (first
              | (go_at_call 54; exact Calls.quiet_of (C.out _))
              | (go_at_call 83; exact Calls.quiet_of (CY.out _)))
            go_wp2
            go_ret
            exact ⟨(by rw [hr.out]; rfl), by obtain ⟨q, hq⟩ := HS.out; exact ⟨q + nq, by rw [hq, World.drewN_drewN]⟩⟩
          · have HU2 := Lib.hid (HSTEP.out hy0.1 (by omega) hm)
            rw [show decide (y ∈ l.take k) = false from decide_eq_false hm] at CY
            clear HSTEP HOFF HTW hy0 hm hRr
            go_wp2_with fail
            go_quiet (first
              | (go_at_call 54; exact Calls.quiet_of (C.out _))
              | (go_at_call 83; exact Calls.quiet_of (CY.out _)))
            go_wp2
            go_roundw
            case rel => exact ⟨k + 1, by omega, by go_num, HU2, by obtain ⟨q, hq⟩ := HS.out; exact ⟨q + nq, by rw [hq, World.drewN_drewN]⟩⟩
            case measure => simp [intOf]; omega
        · have C : Hid (∀ n, Calls Try.prog 54 #[.int .i64 y, .int .i64 0, .int .i64 ((l.length : Int) - 1)] (wr.drewN n) fun e w' => e = .returned (.bool false) ∧ ∃ m, w' = (wr.drewN n).drewN m) := fun n => (inRange_no y 0 ((l.length : Int) - 1) _ (by omega)).mono fun e w' h => ⟨h.1, 0, h.2.symm⟩
          have hr := Lib.hid (HOFF.out (by omega))
          clear HSTEP HOFF HTW hy0 hRr CY
          go_wp2_with fail
          go_quiet ((go_at_call 54; exact Calls.quiet_of (C.out _)))
          go_wp2
          go_ret
          exact ⟨(by rw [hr.out]; rfl), by obtain ⟨q, hq⟩ := HS.out; exact ⟨q + nq, by rw [hq, World.drewN_drewN]⟩⟩
      · obtain rfl : k = l.length := by omega
        have hy := Lib.hid (rowB_yes H8.out HU.out)
        go_wp2
        go_ret
        exact ⟨(by rw [hy.out]; rfl), HS.out⟩
  · have b8 : (8 : Int) < (l.length : Int) := by omega
    have hr := Lib.hid (rowB_long h8)
    go_enter Try.func56, Try.ntmps56
    go_wp2
    go_ret
    exact ⟨(by rw [hr.out]; rfl), 0, rfl⟩

set_option maxHeartbeats 800000 in
theorem specValidRow_any (l : List Int) (a : Option Addr) (cv : Nat) (w : World) {H : Nat} (hR : Hid (RdI w H a l)) (hl : l.length ≤ 1048576) (hcv : l.length ≤ cv) :
    Calls Try.prog 19 #[.slice a l.length cv] w fun e w' => e = .returned (.bool (rowB l)) ∧ ∃ q, w' = w.drewN q := by
  have CV := Lib.hid (validRowM_any l a cv w hR hl hcv)
  go_enter Try.func19, Try.ntmps19
  go_wp2_with fail
  refine CV.out.mono ?_
  rintro e w1 ⟨rfl, q, rfl⟩
  go_wp2
  go_ret
  exact ⟨rfl, q, rfl⟩

set_option maxRecDepth 100000 in
set_option maxHeartbeats 1600000 in
theorem fallsM_any (l : List Int) (a : Option Addr) (cv : Nat) (w : World) {H : Nat} (hR : Hid (RdI w H a l)) (hl : l.length ≤ 8) :
    Calls Try.prog 75 #[.slice a l.length cv] w fun e w' => e = .returned (.int .i64 (fallsL l : Nat)) ∧ ∃ q, w' = w.drewN q := by
  obtain ⟨R, hRR⟩ : ∃ R, R = fallsL l := ⟨_, rfl⟩
  rw [← hRR]
  have HRR := Lib.hid hRR
  clear hRR
  go_enter Try.func75, Try.ntmps75
  go_wp2
  go_loopw [3, 4] (fun c i wr => ∃ K n : Nat, 1 ≤ K ∧ (K = 1 ∨ K ≤ l.length) ∧ i = .int .i64 K ∧ c = .int .i64 n ∧ n < K ∧ Hid (n = sumK (fallB l) (K - 1)) ∧ Hid (∃ q, wr = w.drewN q)) (fun _ i _ => l.length + 1 - (intOf i).toNat)
  case atStart => exact ⟨1, 0, Nat.le_refl _, Or.inl rfl, rfl, rfl, Nat.zero_lt_one, rfl, 0, rfl⟩
  case round =>
    obtain ⟨K, n, hK1, hK, rfl, rfl, hnK, HN, HS0⟩ := hrel
    have hRr : Hid (RdI wr H a l) := by obtain ⟨q, hq⟩ := HS0.out; rw [hq]; exact hR.out.drew q
    by_cases hlt : K < l.length
    · obtain ⟨J, hJ⟩ : ∃ J : Nat, J = K - 1 := ⟨_, rfl⟩
      obtain ⟨b, off, rfl, _, h1⟩ := hRr.out K hlt
      have h0 := rd_at hRr.out J (by omega)
      have b1 : (K : Int) < (l.length : Int) := by omega
      have b2 : (J : Int) < (l.length : Int) := by omega
      have hJK : J + 1 = K := by omega
      have HF : Hid (fallB l J = if l[K] < l[J] then 1 else 0) := by show _ = _; rw [fallB, hJK, getD_at _ _ hlt, getD_at _ _ (by omega)]
      obtain ⟨y, hy⟩ : ∃ y, y = l[K] := ⟨_, rfl⟩
      obtain ⟨x, hx⟩ : ∃ x, x = l[J] := ⟨_, rfl⟩
      rw [← hy] at h1 HF
      rw [← hx] at h0 HF
      clear hy hx
      have ew : IntKind.i64.wrap ((K : Int) - 1) = (J : Int) := by rw [IntKind.wrap_i64]; omega
      have HS : Hid (sumK (fallB l) (K + 1 - 1) = n + fallB l J) := by show _ = _; rw [HN.out, Nat.add_sub_cancel, ← hJK, sumK, Nat.add_sub_cancel]
      clear hJ hJK
      by_cases hyx : y < x
      · have HN2 : Hid (n + 1 = sumK (fallB l) (K + 1 - 1)) := by show _ = _; rw [HS.out, HF.out, if_pos hyx]
        clear hRr
        go_wp2_with fail
        go_quiet (fail)
        go_wp2
        go_roundw
        case rel => exact ⟨K + 1, n + 1, by omega, Or.inr (by omega), by go_num, by go_num, by omega, HN2, by obtain ⟨q, hq⟩ := HS0.out; exact ⟨q + nq, by rw [hq, World.drewN_drewN]⟩⟩
        case measure => simp [intOf]; omega
      · have HN2 : Hid (n = sumK (fallB l) (K + 1 - 1)) := by show _ = _; rw [HS.out, HF.out, if_neg hyx]; rfl
        clear hRr
        go_wp2_with fail
        go_quiet (fail)
        go_wp2
        go_roundw
        case rel => exact ⟨K + 1, n, by omega, Or.inr (by omega), by go_num, rfl, by omega, HN2, by obtain ⟨q, hq⟩ := HS0.out; exact ⟨q + nq, by rw [hq, World.drewN_drewN]⟩⟩
        case measure => simp [intOf]; omega
    · have b1 : ¬ (K : Int) < (l.length : Int) := by omega
      have hkl : K - 1 = l.length - 1 := by omega
      have hy : Hid (n = R) := by show _ = _; rw [HRR.out, HN.out, fallsL, hkl]
      clear hkl
      go_wp2
      go_ret
      exact ⟨(by rw [hy.out]; rfl), HS0.out⟩
def fallsO (l : List Int) : Int := if rowB l = true then ((fallsL l : Nat) : Int) else -1
set_option maxHeartbeats 800000 in
theorem specFallsOf_any (l : List Int) (a : Option Addr) (cv : Nat) (w : World) {H : Nat} (hR : Hid (RdI w H a l)) (hl : l.length ≤ 1048576) (hcv : l.length ≤ cv) :
    Calls Try.prog 41 #[.slice a l.length cv] w fun e w' => e = .returned (.int .i64 (fallsO l)) ∧ ∃ q, w' = w.drewN q := by
  have CV := Lib.hid (validRowM_any l a cv w hR hl hcv)
  rw [fallsO]
  cases hr : rowB l
  · rw [hr] at CV
    go_enter Try.func41, Try.ntmps41
    go_wp2_with fail
    refine CV.out.mono ?_
    rintro e w1 ⟨rfl, q, rfl⟩
    go_wp2
    go_ret
    exact ⟨rfl, q, rfl⟩
  · rw [hr] at CV
    have h8 := ((rowB_iff l).mp hr).1
    have CF := Lib.hid (fun q => fallsM_any l a cv (w.drewN q) (Lib.hid (hR.out.drew q)) h8)
    go_enter Try.func41, Try.ntmps41
    go_wp2_with fail
    refine CV.out.mono ?_
    rintro e w1 ⟨rfl, q, rfl⟩
    go_wp2_with fail
    refine (CF.out q).mono ?_
    rintro e w1 ⟨rfl, q2, rfl⟩
    go_wp2
    go_ret
    exact ⟨rfl, q + q2, by first | rfl | rw [World.drewN_drewN]⟩
end Go.Proofs.Ytooplolalbcmjaa
