/-
  The contract of the model's count of spans, edge by edge.
-/
import Derived.Test.YthlboikljibohaaZN
import Derived.Test.YthlboikljibohaaCVTree
import Derived.Test.YthlboikljibohaaZW
import Derived.Test.YthlboikljibohaaCGridA
namespace Go.Proofs.Ythlboikljibohaa
open Go.RowKit

theorem cutF_le : ∀ (f n : Nat) (E : Edges), cutF f n E ≤ 2 ^ f := by
  intro f
  induction f with
  | zero =>
    intro n E
    by_cases hn : n = 1
    · subst hn; rw [cutF_one]; decide
    · cases E with
      | nil => rw [cutF_nil _ _ hn]; decide
      | cons e r => unfold cutF; rw [if_neg hn]; exact Nat.zero_le _
  | succ f ih =>
    intro n E
    have hp : 2 ^ (f + 1) = 2 ^ f + 2 ^ f := by rw [Nat.pow_succ]; omega
    have h1 : 1 ≤ 2 ^ f := Nat.one_le_two_pow
    by_cases hn : n = 1
    · subst hn; rw [cutF_one]; omega
    · cases E with
      | nil => rw [cutF_nil _ _ hn]; omega
      | cons e r =>
        by_cases he : e.1 = e.2
        · rw [cutF_loop hn he]; have := ih n r; omega
        · rw [cutF_edge hn he]
          have := ih n r
          have := ih (n - 1) (r.map (joinE (min e.1 e.2) (max e.1 e.2)))
          omega
/-- rows of two numbers that can be read -/
def RdE (w : World) (H : Nat) (a : Option Addr) (E : Edges) : Prop :=
  ∀ (k : Nat) (hk : k < E.length), ∃ b off gr cr, a = some ⟨b, off, none⟩ ∧ b < H ∧ gr < H ∧ 2 ≤ cr ∧ w.cell? ⟨b, off + k, none⟩ = some (.slice (some ⟨gr, 0, none⟩) 2 cr) ∧ w.cell? ⟨gr, 0, none⟩ = some (.int .i64 (E[k].1 : Int)) ∧ w.cell? ⟨gr, 1, none⟩ = some (.int .i64 (E[k].2 : Int))
theorem RdE.below {w w' : World} {H : Nat} {a : Option Addr} {E : Edges} (h : RdE w H a E) (hb : Below H w w') : RdE w' H a E := fun k hk => by
  obtain ⟨b, off, gr, cr, h1, h2, h3, h4, c1, c2, c3⟩ := h k hk
  exact ⟨b, off, gr, cr, h1, h2, h3, h4, (hb.cell (p := ⟨b, off + k, none⟩) h2).trans c1, (hb.cell (p := ⟨gr, 0, none⟩) h3).trans c2, (hb.cell (p := ⟨gr, 1, none⟩) h3).trans c3⟩
theorem RdE.nil (w : World) (H : Nat) (a : Option Addr) : RdE w H a [] := fun k hk => absurd hk (by simp)
theorem RdE.tail {w : World} {H b off : Nat} {e : Nat × Nat} {r : Edges} (h : RdE w H (some ⟨b, off, none⟩) (e :: r)) : RdE w H (some ⟨b, off + 1, none⟩) r := fun k hk => by
  obtain ⟨b', off', gr, cr, h1, h2, h3, h4, c1, c2, c3⟩ := h (k + 1) (by simpa using hk)
  simp only [Option.some.injEq, Addr.mk.injEq] at h1
  obtain ⟨rfl, rfl, _⟩ := h1
  exact ⟨b, off + 1, gr, cr, rfl, h2, h3, h4, by rw [show off + 1 + k = off + (k + 1) by omega]; exact c1, c2, c3⟩
theorem RdE.of {w : World} {B H n c : Nat} {a : Option Addr} {RV : List Value} {E : Edges} (h : Grid w B H (.slice a n c) RV (rowsE E)) : RdE w H a E := fun k hk => by
  obtain ⟨ga, c', gr, cr, e1, h1, h2, _, _, h3, c1, c2, c3⟩ := edge_at h hk
  simp only [Value.slice.injEq] at e1
  exact ⟨ga, 0, gr, cr, e1.1, h1, h2, h3, by rw [Nat.zero_add]; exact c1, c2, c3⟩
/-- rows of the call's own that are filled -/
structure Jn (w0 w : World) (N g m c : Nat) (LV : List Value) (F : Edges) : Prop where
  grid : Grid w N w.heap.size (.slice (some ⟨g, 0, none⟩) m c) LV (rowsE F)
  len : F.length = m
  below : Below N w0 w
theorem pair_cell {w : World} {gr s x y : Nat} (hs : s < 2) (h0 : w.cell? ⟨gr, 0, none⟩ = some (.int .i64 (x : Int))) (h1 : w.cell? ⟨gr, 1, none⟩ = some (.int .i64 (y : Int))) : w.cell? ⟨gr, s, none⟩ = some (.int .i64 ((if s = 0 then x else y : Nat) : Int)) := by
  match s, hs with
  | 0, _ => exact h0
  | 1, _ => exact h1
theorem join_two (a b : Nat) (e : Nat × Nat) : ([e.1, e.2].take 2).map (phi a b) = [(joinE a b e).1, (joinE a b e).2] := rfl
theorem map_take (f : Nat × Nat → Nat × Nat) (r : Edges) (k : Nat) (h : k < r.length) : (r.take (k + 1)).map f = (r.take k).map f ++ [f r[k]] := by
  rw [List.take_succ_eq_append_getElem h, List.map_append]; rfl
theorem phi_lt {a b x n : Nat} (ha : a < n) (hx : x < n) : phi a b x < n := by unfold phi; split <;> (try split) <;> omega
theorem two_step (f : Nat → Nat) (x y s : Nat) (hs : s < 2) : (([x, y].take s).map f) ++ [f (if s = 0 then x else y)] = ([x, y].take (s + 1)).map f := by
  match s, hs with
  | 0, _ => rfl
  | 1, _ => rfl

end Go.Proofs.Ythlboikljibohaa
