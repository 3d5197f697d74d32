/-
  Rows that are appended to a list of the call's own, shared with another list; the law's edgesBackwards.
-/
import Derived.Test.YthlboikljibohaaCLess
import Derived.Test.YthlboikljibohaaCDetM
namespace Go.Proofs.Ythlboikljibohaa
open Go.RowKit

/-- row values that can be read, from an address on -/
def RdS (w : World) (H : Nat) (a : Option Addr) (VS : List Value) : Prop := ∀ (j : Nat) (u : Value), VS[j]? = some u → ∃ b off, a = some ⟨b, off, none⟩ ∧ b < H ∧ w.cell? ⟨b, off + j, none⟩ = some u
theorem RdS.below {w w' : World} {H : Nat} {a : Option Addr} {VS : List Value} (h : RdS w H a VS) (hb : Below H w w') : RdS w' H a VS := fun j u hu => by
  obtain ⟨b, off, h1, h2, h3⟩ := h j u hu
  exact ⟨b, off, h1, h2, (hb.cell (p := ⟨b, off + j, none⟩) h2).trans h3⟩
theorem RdS.of {w : World} {B H : Nat} {t : TypeId} {v : Value} {VS : List Value} (h : Own w B H t v VS) {a : Option Addr} {n c : Nat} (hv : v = .slice a n c) : RdS w H a VS := fun j u hu => by
  have hj := (List.getElem?_eq_some_iff.1 hu).1
  obtain ⟨g, cap, e, _, h2, c1, _⟩ := h.cell j hj
  rw [hv] at e
  simp only [Value.slice.injEq] at e
  exact ⟨g, 0, e.1, h2, by rw [Nat.zero_add, c1]; exact hu⟩
theorem wpList_append_gr {w : World} {ops : Array Oper} {rest : List Oper} {o : Oper} {a : Act} {Q : Exit → Act → World → Prop} (hgd : o.guard = none) (s x : Operand)
    (ho : o.op = .call { callee := .builtin .append, args := #[s, x], argTypes := #[26, 26] })
    (base : Nat) (v : Value) (n : Nat) (xs : List Value) (hs : a.eval s = v) (hown : w.ownsRow base 34 1 v n xs) (ao : Option Addr) (m c : Nat) (hx : a.eval x = .slice ao m c) (news : List Value) {H : Nat} (hl : news.length = m) (hR : RdS w H ao news)
    (h1 : ∀ u ∈ news, u.oneCell' = true) (hn : n ≤ 1000) (hm : m ≤ 1000) (hbase : base ≤ w.heap.size)
    (h : ∀ av nv cv w', w'.ownsRow base 34 1 (.slice av nv cv) (n + m) (xs ++ news) → w.grownBy w' v.ownBlock → wpList Try.prog ops Q rest (a.put o.dst (.slice av nv cv)) w') : wpList Try.prog ops Q (o :: rest) a w := by
  obtain ⟨j0, hj, hy0, hy1, hy2⟩ := info_parts Try.infoRowR
  rcases Nat.eq_zero_or_pos m with h0 | h0
  · subst h0
    obtain rfl : news = [] := List.eq_nil_of_length_eq_zero hl
    obtain ⟨av, nv, cv, rfl⟩ := own_formD hown
    refine wpList_append_zero hgd s x 26 ho base 34 j0 1 Try.underlying26 hj _ n xs hs hown ao c hx (h av nv cv w ?_ ⟨rfl, rfl, rfl, Nat.le_refl _, fun _ _ _ => rfl⟩)
    rw [List.append_nil, Nat.add_zero]
    exact hown
  · obtain ⟨b, off, rfl, _, _⟩ := hR 0 _ (List.getElem?_eq_getElem (by omega))
    refine wpList_append_lies w hgd s x 26 ho base 34 j0 (.slice none 0 0) 1 24 Try.underlying26 hj hy0 hy1 hy2 rfl (by decide) v n xs hs hown ⟨b, off, none⟩ m c news hx (by omega) (fun j u hu => ?_) h1 h0 (by unfold maxLen; omega) (by omega) hbase _ rfl (fun g cap w' h1 h2 _ _ => h _ _ _ w' h1 h2)
    obtain ⟨b', off', e, _, h3⟩ := hR j u hu
    simp only [Option.some.injEq, Addr.mk.injEq] at e
    obtain ⟨rfl, rfl, _⟩ := e
    rw [Addr.add_lit]
    exact h3
theorem Grid.form {w : World} {B H : Nat} {v : Value} {RV : List Value} {rows : List (List Int)} (h : Grid w B H v RV rows) : ∃ a c, v = .slice a rows.length c ∧ rows.length ≤ c ∧ RdS w H a RV := by
  obtain ⟨a, c, e, _, hc, _⟩ := h.1.slice
  rw [h.2.1] at e hc
  exact ⟨a, c, e, hc, RdS.of h.1 e⟩
theorem RowsI.reverse {w : World} {B H : Nat} {RV : List Value} {rows : List (List Int)} (h : RowsI w B H RV rows) : RowsI w B H RV.reverse rows.reverse := by
  refine ⟨by rw [List.length_reverse, List.length_reverse]; exact h.1, fun i v r h1 h2 => ?_⟩
  have hi : i < rows.length := by have := (List.getElem?_eq_some_iff.1 h2).1; rwa [List.length_reverse] at this
  rw [List.getElem?_reverse (by rw [h.1]; exact hi)] at h1
  rw [List.getElem?_reverse hi] at h2
  rw [h.1] at h1
  exact h.2 _ v r h1 h2
end Go.Proofs.Ythlboikljibohaa
