/-
  The model's determinant of up to four rows of small numbers.
-/
import Derived.Test.YthlboikljibohaaCDetP
namespace Go.Proofs.Ythlboikljibohaa
open Go.RowKit

theorem own_formD {w : World} {base n : Nat} {e : TypeId} {v : Value} {xs : List Value} (h : w.ownsRow base e 1 v n xs) : ∃ av nv cv, v = .slice av nv cv := by
  rcases h.2 with ⟨rfl, _⟩ | ⟨g, cap, cur, rfl, _⟩
  · exact ⟨_, _, _, rfl⟩
  · exact ⟨_, _, _, rfl⟩
theorem step_append_rd {ops : Array Oper} {o : Oper} {a : Act} {w : World} {K : Act → World → Prop} {Q : Exit → Act → World → Prop} {F : Prop} (hgd : o.guard = none) (s x : Operand)
    (ho : o.op = .call { callee := .builtin .append, args := #[s, x], argTypes := #[34, 34] })
    (base : Nat) (v : Value) (n : Nat) (xs : List Value) (hs : a.eval s = v) (hown : w.ownsRow base 3 1 v n xs) (ao : Option Addr) (m c : Nat) (hx : a.eval x = .slice ao m c) {H : Nat} {l : List Int} (hl : l.length = m) (hR : RdI w H ao l)
    (hn : n ≤ 1000) (hm : m ≤ 1000) (hbase : base ≤ w.heap.size)
    (h : ∀ av nv cv w', w'.ownsRow base 3 1 (.slice av nv cv) (n + m) (xs ++ iv l) → w.grownBy w' v.ownBlock → K (a.put o.dst (.slice av nv cv)) w') :
    if Region.wanted o (yielded ops a.tmps) = true then Oper.wp Try.prog o a w K Q else F := by
  obtain ⟨i0, hi, hz0, hz1, hz2⟩ := info_parts Try.infoIntR
  rcases Nat.eq_zero_or_pos m with h0 | h0
  · subst h0
    obtain rfl : l = [] := List.eq_nil_of_length_eq_zero hl
    have hw : Region.wanted o (yielded ops a.tmps) = true := by simp [Region.wanted, hgd]
    rw [if_pos hw]
    have hrun := run_append_zero (P := Try.prog) (w := w) base 34 o.type 3 i0 1 Try.underlying34 hi v n xs hown ao c
    obtain ⟨av, nv, cv, rfl⟩ := own_formD hown
    unfold Oper.wp
    simp [execOp, ho, resolve, invoke, builtin, hs, hx, hrun, Result.andThen]
    refine h av nv cv w ?_ ⟨rfl, rfl, rfl, Nat.le_refl _, fun _ _ _ => rfl⟩
    rw [show xs ++ iv [] = xs by simp [iv], Nat.add_zero]
    exact hown
  · obtain ⟨ad, rfl, hsrc⟩ := hR.src (by rw [hl]; exact h0)
    exact step_append_lies w hgd s x 34 ho base 3 i0 (.int .i64 0) 1 8 Try.underlying34 hi hz0 hz1 hz2 rfl (by decide) v n xs hs hown ad m c (iv l) hx (by rw [iv_length, hl, Nat.mul_one]) hsrc (iv_one l) h0 (by unfold maxLen; omega) (by omega) hbase _ rfl (fun g cap w' h1 h2 _ _ => h _ _ _ w' h1 h2)
theorem GridA.nil0 {w : World} {B : Nat} (hB : B ≤ w.heap.size) : GridA (w.alloc (.cells #[] 34)) B (.slice (some ⟨w.heap.size, 0, none⟩) 0 0) [] [] := by
  refine ⟨⟨Own.of_own ?_, RowsI.nil⟩, fun i j u v _ h => by simp at h⟩
  exact World.ownsRow_lit (base := B) (e := 34) (size := 1) w #[] 0 hB (by unfold maxLen; omega) rfl

end Go.Proofs.Ythlboikljibohaa
