/-
  The parts of the program's CodeOf: which edge has a node, what is at its other end, the edges but one.
  The program's CodeOf.
  The program's CodeOf: the loop over leaves.
-/
import Derived.Test.YtafdlilojlmchaaZR
namespace Go.Proofs.Ytafdlilojlmchaa
open Go.RowKit

def aggE (e : Nat × Nat) : Value := .agg #[.int .i64 (e.1 : Int), .int .i64 (e.2 : Int)]
set_option maxHeartbeats 400000 in
theorem across_p (e : Nat × Nat) (l : Nat) (w : World) (ht : touches l e = true) (ho : e.1 < 64 ∧ e.2 < 64) :
    Calls Try.prog 65 #[.agg #[.int .i64 (e.1 : Int), .int .i64 (e.2 : Int)], .int .i64 (l : Int)] w fun r w' => r = .returned (.int .i64 (other l e : Int)) ∧ Below w.heap.size w w' := by
  obtain ⟨a, b⟩ := e
  obtain ⟨h1, h2⟩ := ho
  have hv : ((other l (a, b) : Nat) : Int) = (a : Int) + b - l := by
    unfold other
    simp only [touches, Bool.or_eq_true, decide_eq_true_eq] at ht
    simp only
    split <;> omega
  rw [hv]
  have hl : l < 64 := by
    simp only [touches, Bool.or_eq_true, decide_eq_true_eq] at ht
    simp only at h1 h2
    omega
  simp only at h1 h2
  have w1 : IntKind.i64.wrap ((a : Int) + b) = (a : Int) + b := by rw [IntKind.wrap_i64]; omega
  have w2 : IntKind.i64.wrap ((a : Int) + b - l) = (a : Int) + b - l := by rw [IntKind.wrap_i64]; omega
  clear ht hv
  go_enter Try.func65, Try.ntmps65
  go_wp2
  go_ret
  exact ⟨rfl, (Below.refl _ _).alloc (Nat.le_refl _) _⟩

set_option maxHeartbeats 800000 in
theorem indexI_p (d : Nat → Nat) (n g c l : Nat) (w : World) (h : Hid (∀ v, v < n → w.cell? ⟨g, v, none⟩ = some (.int .i64 (d v : Int)))) (hn : n ≤ 64) (hl : Hid (leastL n d = some l)) :
    Calls Try.prog 42 #[.slice (some ⟨g, 0, none⟩) n c, .int .i64 1] w fun e w' => e = .returned (.int .i64 (l : Int)) ∧ w = w' := by
  obtain ⟨l1, l2, l3⟩ := least_some.1 hl.out
  have L2 := Lib.hid l2
  have L3 := Lib.hid l3
  clear l2 l3
  go_enter Try.func42, Try.ntmps42
  go_wp2
  go_loop [8] (fun i => ∃ k : Nat, k ≤ l ∧ i = .int .i64 (k : Int)) (fun i => l - (intOf i).toNat)
  case atStart => exact ⟨0, Nat.zero_le _, rfl⟩
  case round =>
    obtain ⟨k, hk, rfl⟩ := hrel
    have b1 : (k : Int) < (n : Int) := by omega
    have h1 := h.out k (by omega)
    by_cases hlt : k < l
    · have q1 : ((1 : Int) == (d k : Int)) = false := by rw [beq_eq_false_iff_ne]; have := L3.out k hlt; omega
      go_wp2
      go_round
      case rel => exact ⟨k + 1, by omega, by go_num⟩
      case measure => simp [intOf]; omega
    · obtain rfl : k = l := by omega
      have q1 : ((1 : Int) == (d k : Int)) = true := by rw [L2.out]; rfl
      go_wp2
      go_ret
      exact ⟨rfl, rfl⟩

end Go.Proofs.Ytafdlilojlmchaa

namespace Go.Proofs.Ytafdlilojlmchaa
open Go.RowKit

theorem eq_edge (x y : Nat × Nat) (w : World) : (Op.equalIn 10000 66 (.agg #[.int .i64 (x.1 : Int), .int .i64 (x.2 : Int)]) (.agg #[.int .i64 (y.1 : Int), .int .i64 (y.2 : Int)])).run Try.prog w = .ok (decide (x = y)) w := by
  have hu := Try.underlying66
  have hi0 := Try.infoIntR
  rw [show (10000 : Nat) = 9999 + 1 from rfl]
  obtain ⟨i, hi, _, _, _⟩ := info_parts hi0
  have hc : Try.prog.cellsOf 3 = 1 := by kernel_rfl
  rw [run_equalIn_array w 9999 _ _ hu hi, hc]
  have e2 : List.range 2 = [0, 1] := rfl
  rw [e2, show (9999 : Nat) = 9998 + 1 from rfl]
  have hp : ∀ (z : Nat × Nat) (i : Nat) (v : Nat), (i = 0 ∧ v = z.1) ∨ (i = 1 ∧ v = z.2) → (part 3 #[.int .i64 (z.1 : Int), .int .i64 (z.2 : Int)] i).run Try.prog w = .ok (.int .i64 (v : Int)) w := fun z i v h => by
    rcases h with ⟨rfl, rfl⟩ | ⟨rfl, rfl⟩ <;> simp [part, isAgg, run_underlying Try.underlying3]
  have p1 := hp x 0 x.1 (.inl ⟨rfl, rfl⟩)
  have p2 := hp y 0 y.1 (.inl ⟨rfl, rfl⟩)
  have p3 := hp x 1 x.2 (.inr ⟨rfl, rfl⟩)
  have p4 := hp y 1 y.2 (.inr ⟨rfl, rfl⟩)
  have q := fun a b => run_equalIn_int (P := Try.prog) w 9998 3 .i64 _ a b Try.underlying3
  obtain ⟨a, b⟩ := x
  obtain ⟨c, d⟩ := y
  simp only at p1 p2 p3 p4
  by_cases h1 : a = c
  · by_cases h2 : b = d
    · subst h1; subst h2
      simp [Op.eqItems, p1, p3, q]
    · have q1 : ((b : Int) == (d : Int)) = false := by rw [beq_eq_false_iff_ne]; omega
      subst h1
      simp [Op.eqItems, p1, p2, p3, p4, q, h2, q1]
  · have q1 : ((a : Int) == (c : Int)) = false := by rw [beq_eq_false_iff_ne]; omega
    simp [Op.eqItems, p1, p2, q, q1, h1]
theorem ERow.lo {w : World} {B B' H : Nat} {v : Value} {E : Edges} (h : ERow w B H v E) (hB : B' ≤ B) : ERow w B' H v E :=
  ⟨⟨h.1.1, h.1.2.imp id (fun ⟨g, cap, cur, a, b, c⟩ => ⟨g, cap, cur, a, by omega, c⟩)⟩, h.2⟩
/-- edges but one -/
def butE (x : Nat × Nat) (E : Edges) : Edges := E.filter fun y => decide (y ≠ x)
theorem butE_step (x : Nat × Nat) (E : Edges) (k : Nat) (h : k < E.length) : butE x (E.take (k + 1)) = if decide (E[k] ≠ x) then butE x (E.take k) ++ [E[k]] else butE x (E.take k) := by
  unfold butE
  rw [List.take_succ_eq_append_getElem h, List.filter_append]
  by_cases e : E[k] = x
  · rw [if_neg (by simp [e]), List.filter_cons_of_neg (by simp [e])]; simp
  · rw [if_pos (by simp [e]), List.filter_cons_of_pos (by simp [e])]; simp

end Go.Proofs.Ytafdlilojlmchaa

namespace Go.Proofs.Ytafdlilojlmchaa
open Go.RowKit

/-- one round, as the program goes it -/
theorem Pl.round2 {n x : Nat} {es : Edges} {c : List Nat} (h : Pl n es (x :: c)) {F : Edges} (hF : SameE F es) :
    ∃ l e es', leastL n (deg F) = some l ∧ F.find? (touches l) = some e ∧ touches l e = true ∧ other l e = x ∧ (e.1 < n ∧ e.2 < n) ∧ Pl n es' c ∧ SameE (butE e F) es' := by
  obtain ⟨l, es', h1, h2, h3, h4⟩ := h.round hF
  obtain ⟨e, he, hx⟩ : ∃ e, F.filter (touches l) = [e] ∧ other l e = x := by
    match hf : F.filter (touches l) with
    | [] => rw [hf] at h2; simp at h2
    | [e] => rw [hf] at h2; simp at h2; exact ⟨e, rfl, h2⟩
    | a :: b :: r => rw [hf] at h2; simp at h2
  have hm : e ∈ F.filter (touches l) := by rw [he]; simp
  obtain ⟨hm1, hm2⟩ := List.mem_filter.1 hm
  refine ⟨l, e, es', h1, ?_, hm2, hx, ?_, h3, ?_⟩
  · rw [← List.head?_filter, he]; rfl
  · rcases (hF.ends e.1 e.2).1 (.inl hm1) with h5 | h5
    · have := h.lt _ h5; exact ⟨this.1, this.2.1⟩
    · have := h.lt _ h5; exact ⟨this.2.1, this.1⟩
  · have : butE e F = F.filter fun y => !touches l y := by
      unfold butE
      refine List.filter_congr fun y hy => ?_
      cases ht : touches l y with
      | true =>
        have : y ∈ F.filter (touches l) := List.mem_filter.2 ⟨hy, ht⟩
        rw [he, List.mem_singleton] at this
        simp [this]
      | false =>
        have : y ≠ e := fun e1 => by rw [e1, hm2] at ht; cases ht
        simp [this]
    rw [this]
    exact h4
theorem ERow.ne {w : World} {B H B' H' : Nat} {v v' : Value} {E : Edges} {xs : List Value} (h : ERow w B H v E) (h' : Own w B' H' 3 v' xs) : v.ownBlock = none ∨ v.ownBlock ≠ v'.ownBlock := by
  rcases h.1.2 with ⟨rfl, _⟩ | ⟨g, cap, cur, rfl, _, h2, _⟩
  · exact .inl rfl
  · rcases h'.1.2 with ⟨rfl, _⟩ | ⟨g', cap', cur', rfl, _, h4, _⟩
    · right; intro e; cases e
    · right
      intro e
      simp only [Value.ownBlock, Option.some.injEq] at e
      subst e
      rw [h2] at h4
      simp only [Option.some.injEq, Obj.cells.injEq] at h4
      exact absurd h4.2.1 (by decide)
theorem ERow.grown {w w' : World} {B H : Nat} {v v' : Value} {E : Edges} (h : ERow w B H v E) (hg : w.grownBy w' v'.ownBlock) (hne : v.ownBlock = none ∨ v.ownBlock ≠ v'.ownBlock) : ERow w' B H v E := by
  refine ⟨own_blocks2 h.1 fun g hgv => hg.block g (h.1.lt g hgv).2 fun e => ?_, h.2⟩
  rcases hne with h0 | h0
  · rw [h0] at hgv; cases hgv
  · exact h0 (hgv.trans e)
theorem ERow.alloc {w : World} {B H : Nat} {v : Value} {E : Edges} (h : ERow w B H v E) (o : Obj) : ERow (w.alloc o) B H v E := ⟨h.1.alloc o, h.2⟩

end Go.Proofs.Ytafdlilojlmchaa
