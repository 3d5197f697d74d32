/-
  Numbers that can be read are appended to a row of the call's own, none of them too.
  The contracts of the model's ValidRow and FallsOf, of numbers that can be read.
  Numbers that can be read, appended within a region.
-/
import Derived.Test.YtakpbnkncjddeaaZH
import Derived.Deep.AppendLies
import Derived.Laws.OwnMore
import Derived.Test.YtakpbnkncjddeaaCInts
import Derived.Test.YtakpbnkncjddeaaZV
import Derived.Test.YtakpbnkncjddeaaZY
import Derived.Deep.RegionLaw
namespace Go.Proofs.Ytakpbnkncjddeaa
open Go.RowKit

theorem run_append_zero {P : Program} {w : World} (base : Nat) (t ty e : TypeId) (i : TypeInfo) (size : Nat) (ht : P.underlying t = some (.slice e)) (hi : P.info? e = some i)
    (v : Value) (n : Nat) (xs : List Value) (hown : w.ownsRow base e size v n xs) (ao : Option Addr) (c : Nat) :
    (Builtin.append_ #[t, t] ty #[v, .slice ao 0 c]).run P w = .ok v w := by
  have hf : ∀ W : World, (Builtin.firstCells i.size 0 (.slice ao 0 c)).run P W = .ok #[] W := fun W => by
    cases ao with
    | none => exact run_firstCells_none W i.size 0 0 c
    | some a => exact run_firstCells_some W i.size 0 a 0 c [] (by simp) (fun j v hj => by simp at hj)
  rcases hown.2 with ⟨rfl, rfl⟩ | ⟨g, cap, cur, rfl, _, _, hnc, _⟩
  · simp [Builtin.append_, run_underlying ht, sizeOf, typeInfo, hi, Builtin.lenOf, hf]
  · simp [Builtin.append_, run_underlying ht, sizeOf, typeInfo, hi, Builtin.lenOf, hf, hnc, storeCells]
theorem wpList_append_zero {P : Program} {w : World} {ops : Array Oper} {rest : List Oper} {o : Oper} {a : Act} {Q : Exit → Act → World → Prop} (hgd : o.guard = none) (s x : Operand) (t : TypeId)
    (ho : o.op = .call { callee := .builtin .append, args := #[s, x], argTypes := #[t, t] })
    (base : Nat) (e : TypeId) (i : TypeInfo) (size : Nat) (ht : P.underlying t = some (.slice e)) (hi : P.info? e = some i)
    (v : Value) (n : Nat) (xs : List Value) (hs : a.eval s = v) (hown : w.ownsRow base e size v n xs) (ao : Option Addr) (c : Nat) (hx : a.eval x = .slice ao 0 c)
    (h : wpList P ops Q rest (a.put o.dst v) w) : wpList P ops Q (o :: rest) a w := by
  refine wpList_plain hgd fun K hK => ?_
  have hrun := run_append_zero (P := P) (w := w) base t o.type e i size ht hi v n xs hown ao c
  unfold Oper.wp
  simp [execOp, ho, resolve, invoke, builtin, hs, hx, hrun, Result.andThen]
  exact hK _ _ h
/-- a slice of numbers that can be read -/
def RdI (w : World) (H : Nat) (a : Option Addr) (l : List Int) : Prop := ∀ (j : Nat) (hj : j < l.length), ∃ b off, a = some ⟨b, off, none⟩ ∧ b < H ∧ w.cell? ⟨b, off + j, none⟩ = some (.int .i64 l[j])
theorem RdI.below {w w' : World} {H : Nat} {a : Option Addr} {l : List Int} (h : RdI w H a l) (hb : Below H w w') : RdI w' H a l := fun j hj => by
  obtain ⟨b, off, h1, h2, h3⟩ := h j hj
  exact ⟨b, off, h1, h2, (hb.cell (p := ⟨b, off + j, none⟩) h2).trans h3⟩
theorem RdI.src {w : World} {H : Nat} {a : Option Addr} {l : List Int} (h : RdI w H a l) (hl : 0 < l.length) : ∃ ad, a = some ad ∧ ∀ j u, (iv l)[j]? = some u → w.cell? (ad.add j) = some u := by
  obtain ⟨b, off, rfl, h2, h3⟩ := h 0 hl
  refine ⟨_, rfl, fun j u hu => ?_⟩
  have hj : j < l.length := by
    have := (List.getElem?_eq_some_iff.1 hu).1
    rwa [iv_length] at this
  obtain ⟨b', off', e1, _, e3⟩ := h j hj
  simp only [Option.some.injEq, Addr.mk.injEq] at e1
  obtain ⟨rfl, rfl, _⟩ := e1
  rw [iv_at l j hj] at hu
  cases hu
  rw [Addr.add_lit]
  exact e3
theorem iv_app (A B : List Int) : iv (A ++ B) = iv A ++ iv B := by simp [iv]
theorem iv_one (l : List Int) : ∀ u ∈ iv l, u.oneCell' = true := by
  intro u hu
  unfold iv at hu
  obtain ⟨x, _, rfl⟩ := List.mem_map.1 hu
  rfl
/-- numbers that can be read are appended to a row of the call's own, none of them too -/
theorem wpList_append_rd {w : World} {ops : Array Oper} {rest : List Oper} {o : Oper} {a : Act} {Q : Exit → Act → World → Prop} (hgd : o.guard = none) (s x : Operand)
    (ho : o.op = .call { callee := .builtin .append, args := #[s, x], argTypes := #[23, 23] })
    (base : Nat) (v : Value) (n : Nat) (xs : List Value) (hs : a.eval s = v) (hown : w.ownsRow base 3 1 v n xs) (ao : Option Addr) (m c : Nat) (hx : a.eval x = .slice ao m c) {H : Nat} {l : List Int} (hl : l.length = m) (hR : RdI w H ao l)
    (hn : n ≤ 1000) (hm : m ≤ 1000) (hbase : base ≤ w.heap.size)
    (h : ∀ v' w', w'.ownsRow base 3 1 v' (n + m) (xs ++ iv l) → w.grownBy w' v.ownBlock → wpList Try.prog ops Q rest (a.put o.dst v') w') : wpList Try.prog ops Q (o :: rest) a w := by
  obtain ⟨i0, hi, hz0, hz1, hz2⟩ := info_parts Try.infoIntR
  rcases Nat.eq_zero_or_pos m with h0 | h0
  · subst h0
    obtain rfl : l = [] := List.eq_nil_of_length_eq_zero hl
    refine wpList_append_zero hgd s x 23 ho base 3 i0 1 Try.underlying23 hi v n xs hs hown ao c hx (h v w ?_ ⟨rfl, rfl, rfl, Nat.le_refl _, fun _ _ _ => rfl⟩)
    rw [show xs ++ iv [] = xs by simp [iv], Nat.add_zero]
    exact hown
  · obtain ⟨ad, rfl, hsrc⟩ := hR.src (by rw [hl]; exact h0)
    exact wpList_append_lies w hgd s x 23 ho base 3 i0 (.int .i64 0) 1 8 Try.underlying23 hi hz0 hz1 hz2 rfl (by decide) v n xs hs hown ad m c (iv l) hx (by rw [iv_length, hl, Nat.mul_one]) hsrc (iv_one l) h0 (by unfold maxLen; omega) (by omega) hbase _ rfl (fun g cap w' h1 h2 _ _ => h _ w' h1 h2)
end Go.Proofs.Ytakpbnkncjddeaa

namespace Go.Proofs.Ytakpbnkncjddeaa
open Go.RowKit

theorem rd_at {w : World} {H : Nat} {b off : Nat} {l : List Int} (h : RdI w H (some ⟨b, off, none⟩) l) (j : Nat) (hj : j < l.length) : w.cell? ⟨b, off + j, none⟩ = some (.int .i64 l[j]) := by
  obtain ⟨_, _, e, _, h3⟩ := h j hj
  simp only [Option.some.injEq, Addr.mk.injEq] at e
  obtain ⟨rfl, rfl, _⟩ := e
  exact h3
theorem RdI.take {w : World} {H : Nat} {a : Option Addr} {l : List Int} (h : RdI w H a l) (m : Nat) : RdI w H a (l.take m) := fun j hj => by
  rw [List.length_take] at hj
  obtain ⟨b, off, h1, h2, h3⟩ := h j (by omega)
  exact ⟨b, off, h1, h2, by rw [List.getElem_take]; exact h3⟩
theorem RdI.more {w : World} {H H' : Nat} {a : Option Addr} {l : List Int} (h : RdI w H a l) (hH : H ≤ H') : RdI w H' a l := fun j hj => by
  obtain ⟨b, off, h1, h2, h3⟩ := h j hj
  exact ⟨b, off, h1, by omega, h3⟩

theorem own_rd {w : World} {B H c : Nat} {a : Option Addr} {l : List Int} (h : Own w B H 3 (.slice a l.length c) (iv l)) : RdI w H a l := fun j hj => by
  obtain ⟨g, cap, e, _, hg, hc, _⟩ := h.cell j (by rw [iv_length]; exact hj)
  rw [iv_length] at e
  simp only [Value.slice.injEq] at e
  refine ⟨g, 0, e.1, hg, ?_⟩
  rw [Nat.zero_add, hc, iv_at l j hj]

theorem RdI.drew {w : World} {H : Nat} {a : Option Addr} {l : List Int} (h : RdI w H a l) (n : Nat) : RdI (w.drewN n) H a l := fun j hj => h j hj

def fallsO (l : List Int) : Int := if rowB l = true then ((fallsL l : Nat) : Int) else -1
end Go.Proofs.Ytakpbnkncjddeaa

namespace Go.Proofs.Ytakpbnkncjddeaa
open Go.RowKit

theorem own_formR {w : World} {base n : Nat} {e : TypeId} {v : Value} {xs : List Value} (h : w.ownsRow base e 1 v n xs) : ∃ av nv cv, v = .slice av nv cv := by
  rcases h.2 with ⟨rfl, _⟩ | ⟨g, cap, cur, rfl, _⟩
  · exact ⟨_, _, _, rfl⟩
  · exact ⟨_, _, _, rfl⟩
theorem step_app_rd {ops : Array Oper} {o : Oper} {a : Act} {w : World} {K : Act → World → Prop} {Q : Exit → Act → World → Prop} {F : Prop} (hgd : o.guard = none) (s x : Operand)
    (ho : o.op = .call { callee := .builtin .append, args := #[s, x], argTypes := #[23, 23] })
    (base : Nat) (v : Value) (n : Nat) (xs : List Value) (hs : a.eval s = v) (hown : w.ownsRow base 3 1 v n xs) (ao : Option Addr) (m c : Nat) (hx : a.eval x = .slice ao m c) {H : Nat} {l : List Int} (hl : l.length = m) (hR : RdI w H ao l)
    (hn : n ≤ 1000) (hm : m ≤ 1000) (hbase : base ≤ w.heap.size)
    (h : ∀ av nv cv w', w'.ownsRow base 3 1 (.slice av nv cv) (n + m) (xs ++ iv l) → w.grownBy w' v.ownBlock → K (a.put o.dst (.slice av nv cv)) w') :
    if Region.wanted o (yielded ops a.tmps) = true then Oper.wp Try.prog o a w K Q else F := by
  obtain ⟨i0, hi, hz0, hz1, hz2⟩ := info_parts Try.infoIntR
  rcases Nat.eq_zero_or_pos m with h0 | h0
  · subst h0
    obtain rfl : l = [] := List.eq_nil_of_length_eq_zero hl
    have hw : Region.wanted o (yielded ops a.tmps) = true := by simp [Region.wanted, hgd]
    rw [if_pos hw]
    have hrun := run_append_zero (P := Try.prog) (w := w) base 23 o.type 3 i0 1 Try.underlying23 hi v n xs hown ao c
    obtain ⟨av, nv, cv, rfl⟩ := own_formR hown
    unfold Oper.wp
    simp [execOp, ho, resolve, invoke, builtin, hs, hx, hrun, Result.andThen]
    refine h av nv cv w ?_ ⟨rfl, rfl, rfl, Nat.le_refl _, fun _ _ _ => rfl⟩
    rw [show xs ++ iv [] = xs by simp [iv], Nat.add_zero]
    exact hown
  · obtain ⟨ad, rfl, hsrc⟩ := hR.src (by rw [hl]; exact h0)
    exact step_append_lies w hgd s x 23 ho base 3 i0 (.int .i64 0) 1 8 Try.underlying23 hi hz0 hz1 hz2 rfl (by decide) v n xs hs hown ad m c (iv l) hx (by rw [iv_length, hl, Nat.mul_one]) hsrc (iv_one l) h0 (by unfold maxLen; omega) (by omega) hbase _ rfl (fun g cap w' h1 h2 _ _ => h _ _ _ w' h1 h2)
end Go.Proofs.Ytakpbnkncjddeaa
