/-
  The library's slices.Concat of two rows of numbers: a row of the call's own with the numbers of both.
-/
import Derived.Test.YtohbkpccfhciaaaShelfG
import Derived.Test.YtohbkpccfhciaaaCDepths
import Derived.Test.YtohbkpccfhciaaaZH
import Derived.Deep.AppendLies
import Derived.Laws.OwnMore
namespace Go.Proofs.Ytohbkpccfhciaaa
open Go.RowKit

theorem run_append_zero {P : Program} {w : World} (base : Nat) (t ty e : TypeId) (i : TypeInfo) (size : Nat) (ht : P.underlying t = some (.slice e)) (hi : P.info? e = some i)
    (v : Value) (n : Nat) (xs : List Value) (hown : w.ownsRow base e size v n xs) (ao : Option Addr) (c : Nat) :
    (Builtin.append_ #[t, t] ty #[v, .slice ao 0 c]).run P w = .ok v w := by
  have hf : ∀ W : World, (Builtin.firstCells i.size 0 (.slice ao 0 c)).run P W = .ok #[] W := fun W => by
    cases ao with
    | none => exact run_firstCells_none W i.size 0 0 c
    | some a => exact run_firstCells_some W i.size 0 a 0 c [] (by simp) (fun j v hj => by simp at hj)
  rcases hown.2 with ⟨rfl, rfl⟩ | ⟨g, cap, cur, rfl, _, _, hnc, _⟩
  · simp [Builtin.append_, run_underlying ht, sizeOf, typeInfo, hi, Builtin.lenOf, hf]
  · simp [Builtin.append_, run_underlying ht, sizeOf, typeInfo, hi, Builtin.lenOf, hf, hnc, storeCells]
theorem wpList_append_zero {P : Program} {w : World} {ops : Array Oper} {rest : List Oper} {o : Oper} {a : Act} {Q : Exit → Act → World → Prop} (hgd : o.guard = none) (s x : Operand) (t : TypeId)
    (ho : o.op = .call { callee := .builtin .append, args := #[s, x], argTypes := #[t, t] })
    (base : Nat) (e : TypeId) (i : TypeInfo) (size : Nat) (ht : P.underlying t = some (.slice e)) (hi : P.info? e = some i)
    (v : Value) (n : Nat) (xs : List Value) (hs : a.eval s = v) (hown : w.ownsRow base e size v n xs) (ao : Option Addr) (c : Nat) (hx : a.eval x = .slice ao 0 c)
    (h : wpList P ops Q rest (a.put o.dst v) w) : wpList P ops Q (o :: rest) a w := by
  refine wpList_plain hgd fun K hK => ?_
  have hrun := run_append_zero (P := P) (w := w) base t o.type e i size ht hi v n xs hown ao c
  unfold Oper.wp
  simp [execOp, ho, resolve, invoke, builtin, hs, hx, hrun, Result.andThen]
  exact hK _ _ h
/-- a slice of numbers that can be read -/
def RdI (w : World) (H : Nat) (a : Option Addr) (l : List Int) : Prop := ∀ (j : Nat) (hj : j < l.length), ∃ b off, a = some ⟨b, off, none⟩ ∧ b < H ∧ w.cell? ⟨b, off + j, none⟩ = some (.int .i64 l[j])
theorem RdI.below {w w' : World} {H : Nat} {a : Option Addr} {l : List Int} (h : RdI w H a l) (hb : Below H w w') : RdI w' H a l := fun j hj => by
  obtain ⟨b, off, h1, h2, h3⟩ := h j hj
  exact ⟨b, off, h1, h2, (hb.cell (p := ⟨b, off + j, none⟩) h2).trans h3⟩
theorem RdI.src {w : World} {H : Nat} {a : Option Addr} {l : List Int} (h : RdI w H a l) (hl : 0 < l.length) : ∃ ad, a = some ad ∧ ∀ j u, (iv l)[j]? = some u → w.cell? (ad.add j) = some u := by
  obtain ⟨b, off, rfl, h2, h3⟩ := h 0 hl
  refine ⟨_, rfl, fun j u hu => ?_⟩
  have hj : j < l.length := by
    have := (List.getElem?_eq_some_iff.1 hu).1
    rwa [iv_length] at this
  obtain ⟨b', off', e1, _, e3⟩ := h j hj
  simp only [Option.some.injEq, Addr.mk.injEq] at e1
  obtain ⟨rfl, rfl, _⟩ := e1
  rw [iv_at l j hj] at hu
  cases hu
  rw [Addr.add_lit]
  exact e3
theorem iv_app (A B : List Int) : iv (A ++ B) = iv A ++ iv B := by simp [iv]
theorem iv_one (l : List Int) : ∀ u ∈ iv l, u.oneCell' = true := by
  intro u hu
  unfold iv at hu
  obtain ⟨x, _, rfl⟩ := List.mem_map.1 hu
  rfl
/-- what the library's Grow of no slice gives -/
theorem grow_p (n : Nat) (w : World) (hn : n ≤ 1000) :
    Calls Try.prog 53 #[.slice none 0 0, .int .i64 (n : Int)] w fun e w' => ∃ v, e = .returned v ∧ w'.ownsRow w.heap.size 3 1 v 0 [] ∧ Below w.heap.size w w' := by
  obtain ⟨i0, hi, hz0, hz1, hz2⟩ := info_parts Try.infoIntR
  rcases Nat.eq_zero_or_pos n with h0 | h0
  · subst h0
    refine (Any8.slices_Grow_room Try.growI none 0 0 0 w (Nat.le_refl _) (by omega) (by omega) (Nat.le_refl _)).mono ?_
    rintro e w' ⟨rfl, rfl⟩
    exact ⟨_, rfl, ⟨rfl, .inl ⟨rfl, rfl⟩⟩, Below.refl _ _⟩
  · refine (Any8.slices_Grow_grow Try.growI i0 (.int .i64 0) hi hz0 (by rw [hz1]; omega) none 0 0 n [] w (Nat.le_refl _) (by omega) (by rw [hz2]; omega) (by omega) (by simp) (fun _ => rfl) (fun a h => by cases h)).mono ?_
    rintro e w' ⟨rfl, rfl⟩
    have hge := grownCap_ge w (0 + n) 0 3
    have hle : grownCap w (0 + n) 0 3 ≤ maxLen := grownCap_le_maxLen w (0 + n) 0 3 (by unfold maxLen; omega)
    refine ⟨_, rfl, ⟨rfl, .inr ⟨w.heap.size, _, _, rfl, Nat.le_refl _, heap_alloc_new w.drew _, Nat.zero_le _, hle, ?_, rfl⟩⟩, (Below.drew (Below.refl _ w)).alloc (Nat.le_refl _) _⟩
    have hz : ∀ k, (Builtin.zeroCells (Value.int .i64 0).cells k).size = k := fun k => by simp [Builtin.zeroCells, Value.cells]
    simp only [Array.size_append, hz, List.size_toArray, List.length_nil]
    show 0 + (0 + n - 0) + (grownCap w (0 + n) 0 3 - (0 + n)) = grownCap w (0 + n) 0 3 * 1
    omega
/-- numbers that can be read are appended to a row of the call's own, none of them too -/
theorem wpList_append_rd {w : World} {ops : Array Oper} {rest : List Oper} {o : Oper} {a : Act} {Q : Exit → Act → World → Prop} (hgd : o.guard = none) (s x : Operand)
    (ho : o.op = .call { callee := .builtin .append, args := #[s, x], argTypes := #[32, 32] })
    (base : Nat) (v : Value) (n : Nat) (xs : List Value) (hs : a.eval s = v) (hown : w.ownsRow base 3 1 v n xs) (ao : Option Addr) (m c : Nat) (hx : a.eval x = .slice ao m c) {H : Nat} {l : List Int} (hl : l.length = m) (hR : RdI w H ao l)
    (hn : n ≤ 1000) (hm : m ≤ 1000) (hbase : base ≤ w.heap.size)
    (h : ∀ v' w', w'.ownsRow base 3 1 v' (n + m) (xs ++ iv l) → w.grownBy w' v.ownBlock → wpList Try.prog ops Q rest (a.put o.dst v') w') : wpList Try.prog ops Q (o :: rest) a w := by
  obtain ⟨i0, hi, hz0, hz1, hz2⟩ := info_parts Try.infoIntR
  rcases Nat.eq_zero_or_pos m with h0 | h0
  · subst h0
    obtain rfl : l = [] := List.eq_nil_of_length_eq_zero hl
    refine wpList_append_zero hgd s x 32 ho base 3 i0 1 Try.underlying32 hi v n xs hs hown ao c hx (h v w ?_ ⟨rfl, rfl, rfl, Nat.le_refl _, fun _ _ _ => rfl⟩)
    rw [show xs ++ iv [] = xs by simp [iv], Nat.add_zero]
    exact hown
  · obtain ⟨ad, rfl, hsrc⟩ := hR.src (by rw [hl]; exact h0)
    exact wpList_append_lies w hgd s x 32 ho base 3 i0 (.int .i64 0) 1 8 Try.underlying32 hi hz0 hz1 hz2 rfl (by decide) v n xs hs hown ad m c (iv l) hx (by rw [iv_length, hl, Nat.mul_one]) hsrc (iv_one l) h0 (by unfold maxLen; omega) (by omega) hbase _ rfl (fun g cap w' h1 h2 _ _ => h _ w' h1 h2)
set_option maxHeartbeats 3200000 in
theorem concat_p (A B : List Int) (gS c1 c2 cS : Nat) (a1 a2 : Option Addr) (w : World) {H : Nat} (h1 : w.cell? ⟨gS, 0, none⟩ = some (.slice a1 A.length c1)) (h2 : w.cell? ⟨gS, 1, none⟩ = some (.slice a2 B.length c2)) (hA : Hid (RdI w H a1 A)) (hB : Hid (RdI w H a2 B)) (hH : H ≤ w.heap.size) (hAl : A.length ≤ 100) (hBl : B.length ≤ 100) :
    Calls Try.prog 42 #[.slice (some ⟨gS, 0, none⟩) 2 cS] w fun e w' => ∃ (av : Option Addr) (nv cv : Nat), e = .returned (.slice av nv cv) ∧ Own w' w.heap.size w'.heap.size 3 (.slice av nv cv) (iv (A ++ B)) ∧ Below w.heap.size w w' := by
  obtain ⟨l1, hl1⟩ : ∃ l1, l1 = A.length := ⟨_, rfl⟩
  obtain ⟨l2, hl2⟩ : ∃ l2, l2 = B.length := ⟨_, rfl⟩
  rw [← hl1] at h1 hAl
  rw [← hl2] at h2 hBl
  have HL1 := Lib.hid hl1
  have HL2 := Lib.hid hl2
  have CG : Hid (∀ W : World, Calls Try.prog 53 #[.slice none 0 0, .int .i64 ((l1 : Int) + (l2 : Int))] W fun e w' => ∃ v, e = .returned v ∧ w'.ownsRow W.heap.size 3 1 v 0 [] ∧ Below W.heap.size W w') := fun W => by
    have := grow_p (l1 + l2) W (by omega)
    rwa [Int.natCast_add] at this
  have hgS : gS < w.heap.size := World.block_lt_of_cell? w _ h1
  have n1 : ¬ ((l1 : Int) < 0) := by omega
  have n2 : ¬ ((l1 : Int) + (l2 : Int) < 0) := by omega
  have e1 : IntKind.i64.wrap (l1 : Int) = (l1 : Int) := by rw [IntKind.wrap_i64]; omega
  have e2 : IntKind.i64.wrap ((l1 : Int) + (l2 : Int)) = (l1 : Int) + (l2 : Int) := by rw [IntKind.wrap_i64]; omega
  clear hl1 hl2
  go_enter Try.func42, Try.ntmps42
  go_wp2
  refine wp_loop_rounds 3 ?_
  iterate 3
    rw [rounds_succ]
    go_wp2_with fail
  refine (CG.out w).mono ?_
  rintro e w1 ⟨v, rfl, hO, hb⟩
  have HO := Lib.hid hO
  have HB1 := Lib.hid hb
  have k1 := (hb.cell (p := ⟨gS, 0, none⟩) hgS).trans h1
  have k2 := (hb.cell (p := ⟨gS, 1, none⟩) hgS).trans h2
  have RA := Lib.hid (hA.out.below (hb.mono hH))
  clear hO hb h1 h2 CG
  go_wp2_with fail
  refine wp_loop_rounds 3 ?_
  rw [rounds_succ]
  go_wp2_with (at_builtin; refine wpList_append_rd rfl (.tmp 31) (.tmp 32) rfl w.heap.size v 0 [] rfl HO.out a1 l1 c1 rfl HL1.out.symm RA.out (by omega) (by omega) HB1.out.size ?_)
  intro v2 w2 hO2 hg2
  have hb2 : Below w.heap.size w w2 := HB1.out.grown hg2 HB1.out.size (fun q hq => (HO.out.lt q hq).1)
  have HO2 : Hid (w2.ownsRow w.heap.size 3 1 v2 l1 (iv A)) := by
    first | exact hO2 | (rw [List.nil_append, Nat.zero_add] at hO2; exact hO2)
  have HB2 := Lib.hid hb2
  have k3 := (hb2.cell (p := ⟨gS, 0, none⟩) hgS).trans (((HB1.out.cell (p := ⟨gS, 0, none⟩) hgS).symm).trans k1)
  have k4 := (hb2.cell (p := ⟨gS, 1, none⟩) hgS).trans (((HB1.out.cell (p := ⟨gS, 1, none⟩) hgS).symm).trans k2)
  have RB := Lib.hid (hB.out.below (hb2.mono hH))
  clear hO2 hg2 hb2 k1 k2 RA HO
  go_wp2_with fail
  rw [rounds_succ]
  go_wp2_with (at_builtin; refine wpList_append_rd rfl (.tmp 31) (.tmp 32) rfl w.heap.size v2 l1 (iv A) rfl HO2.out a2 l2 c2 rfl HL2.out.symm RB.out (by omega) (by omega) HB2.out.size ?_)
  intro v3 w3 hO3 hg3
  have HB3 : Hid (Below w.heap.size w w3) := HB2.out.grown hg3 HB2.out.size (fun q hq => (HO2.out.lt q hq).1)
  have HO3 : Hid (w3.ownsRow w.heap.size 3 1 v3 (A ++ B).length (iv (A ++ B))) := by
    rw [← iv_app] at hO3
    show World.ownsRow _ _ _ _ _ _ _
    rw [List.length_append, ← HL1.out, ← HL2.out]
    exact hO3
  clear hO3 hg3 k3 k4 RB HO2 HB1 HB2
  have O3 : Own w3 w.heap.size w3.heap.size 3 v3 (iv (A ++ B)) := Own.of_own (by rw [iv_length]; exact HO3.out)
  obtain ⟨av, cv, ev, _⟩ := O3.slice
  obtain ⟨nv, hnv⟩ : ∃ nv, nv = (iv (A ++ B)).length := ⟨_, rfl⟩
  rw [← hnv] at ev
  subst ev
  have O3 := Lib.hid O3
  clear hnv
  go_wp2_with fail
  rw [rounds_succ]
  go_wp2
  go_ret
  exact ⟨_, _, _, rfl, O3.out, HB3.out⟩
end Go.Proofs.Ytohbkpccfhciaaa
