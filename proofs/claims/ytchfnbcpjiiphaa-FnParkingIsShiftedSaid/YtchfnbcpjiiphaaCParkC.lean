/-
  In company: one car takes the first free place from its wish on.
-/
import Derived.Test.YtchfnbcpjiiphaaCLike
import Derived.Test.YtchfnbcpjiiphaaCInts
import Derived.Test.YtchfnbcpjiiphaaZW
import Derived.Conc.Script
import Derived.Conc.CompanyMem
import Derived.Conc.CompanyWords
import Derived.Conc.AppendWalk
namespace Go.Proofs.Ytchfnbcpjiiphaa
open Go Go.Conc Go.RowKit

def bv (T : List Bool) : List Value := T.map Value.bool
theorem bv_length (T : List Bool) : (bv T).length = T.length := by simp [bv]
/-- what goroutine 0 alone writes, once the channel, block c, is there -/
def MineP (c : Nat) : Loc → Prop := fun l => ∃ a : Addr, l = .cell a ∧ c + 1 ≤ a.block
/-- what is read by the other one lies below the channel -/
def LowS (c : Nat) (S : World → Prop) : Prop := ∀ w w' : World, (∀ k, k < c → w'.heap[k]? = w.heap[k]?) → S w → S w'
/-- what goroutine 0 knows: which places are taken, which cars have come -/
structure RF (c : Nat) (w0 : World) (T : List Bool) (out : Value) (L : List Int) (w : World) : Prop where
  taken : w.heap[c + 1]? = some (.cells (bv T).toArray 4 (0, 0))
  own : w.ownsRow (c + 2) 3 1 out L.length (iv L)
  below : BelowX c w0 w
  nil0 : L = [] → out = .slice none 0 0
section
variable {c : Nat} {w0 : World} {T : List Bool} {out : Value} {L : List Int} {w w₁ : World} {S : World → Prop}
theorem RF.aside (h : RF c w0 T out L w) (ha : Aside c w w₁) : RF c w0 T out L w₁ := by
  refine ⟨(ha.block _ (by omega)).trans h.taken, own_of_blocks h.own fun g hg => ha.block g ?_, h.below.trans ⟨ha.os, ha.output, by rw [ha.size]; exact Nat.le_refl _, fun k hk => ha.block k (by omega)⟩, h.nil0⟩
  have := (h.own.lt g hg).1
  omega
theorem RF.size (h : RF c w0 T out L w) : c + 2 ≤ w.heap.size := by
  have := (Array.getElem?_eq_some_iff.1 h.taken).1
  omega
theorem RF.cell (h : RF c w0 T out L w) {i : Nat} (hi : i < T.length) : w.cell? ⟨c + 1, i, none⟩ = some (.bool (T.getD i false)) := by
  unfold World.cell?
  rw [h.taken]
  simp [bv, List.getElem?_eq_getElem hi]
theorem RF.thaw (h : RF c w0 T out L w) (i : Nat) : w.frozen? ⟨c + 1, i, none⟩ = false := by
  unfold World.frozen?
  rw [h.taken]
  simp
theorem RF.store (h : RF c w0 T out L w) (i : Nat) (x : Bool) : RF c w0 (T.set i x) out L (w.setCell ⟨c + 1, i, none⟩ (.bool x)) := by
  have key : (w.setCell ⟨c + 1, i, none⟩ (.bool x)).heap[c + 1]? = some (.cells ((bv T).toArray.setIfInBounds i (.bool x)) 4 (0, 0)) := heap_setCell_same w (c + 1) i _ _ _ h.taken
  refine ⟨?_, own_of_blocks h.own fun g hg => Below.heap_setCell _ _ _ _ ?_, h.below.trans (below_x ((Below.refl c w).setCell (p := ⟨c + 1, i, none⟩) (by simp) _)), h.nil0⟩
  · rw [key]
    simp [bv, List.map_set]
  · have := (h.own.lt g hg).1
    simp
    omega
theorem termsA (c : Nat) (S : World → Prop) : Terms (Aside c) (DA c S (MineP c)) := ⟨fun _ _ _ h h' => h.trans h', fun _ => ⟨id, rfl, by simp⟩⟩

def InvK (c n : Nat) (w0 : World) (T : List Bool) (out : Value) (L : List Int) (x : Nat) (a : Act) (w : World) : Prop :=
  ∃ (j : Nat) (v2 v3 v6 v7 v8 v9 v10 v11 v12 v13 v14 v15 v16 v17 v18 v19 v20 v21 : Value), j ≤ n ∧ freeN n T x = freeN n T j ∧ RF c w0 T out L w ∧
    a = { tmps := #[.slice (some ⟨c + 1, 0, none⟩) n n, .int .i64 x, v2, v3, .int .i64 0, .int .i64 j, v6, v7, v8, v9, v10, v11, v12, v13, v14, v15, v16, v17, v18, v19, v20, v21], defers := [] }
def MuK (n : Nat) (a : Act) (_ : World) : Nat := match a.tmps.getD 5 undef with | .int _ j => n - j.toNat | _ => 0

set_option maxRecDepth 100000 in
set_option maxHeartbeats 1600000 in
theorem park_c (c n : Nat) (hS : LowS c S) (hn : n ≤ 1048576) : ∃ k, ∀ (w0 : World) (T : List Bool) (out : Value) (L : List Int) (x : Nat) (w : World), T.length = n → x ≤ n → RF c w0 T out L w →
    CallsC Try.prog true (Aside c) (DA c S (MineP c)) 40 #[.slice (some ⟨c + 1, 0, none⟩) n n, .int .i64 x] k w fun v w' => v = .int .i64 (stepT n T x) ∧ RF c w0 (stepS n T x) out L w' := by
  co_apply Exists.intro
  intro w0 T out L x w hT hx hF
  co_apply callsC_of_wpC Try.func40 (by rfl) rfl
  simp only [Try.ntmps40, List.size_toArray, List.length_cons, List.length_nil, Nat.reduceAdd, Nat.reduceSub, Array.replicate_succ, Array.replicate_zero, List.push_toArray, List.append_toArray, List.nil_append, List.cons_append]
  co_stmt (termsA c S) RF.aside hF (co_quiet (termsA c S))
  co_apply wpC_seq (termsA c S)
  co_go (termsA c S) RF.aside hF (co_quiet (termsA c S))
  co_apply wpC_loop (termsA c S) (InvK c n w0 T out L x) (MuK n) _ n
  · exact ⟨x, _, _, _, _, _, _, _, _, _, _, _, _, _, _, _, _, _, _, hx, rfl, hF, rfl⟩
  · simp [MuK]
  · rintro a w' ⟨j, v2, v3, v6, v7, v8, v9, v10, v11, v12, v13, v14, v15, v16, v17, v18, v19, v20, v21, hj, hfree, hF, rfl⟩
    co_go (termsA c S) RF.aside hF (co_quiet (termsA c S))
    co_split (termsA c S) (decide ((j : Int) < (n : Int)))
    · intro hjn
      have hjn' : j < n := by have := of_decide_eq_true hjn; omega
      have hji : (j : Int) < (n : Int) := by omega
      obtain ⟨q, hq⟩ : ∃ q, T.getD j false = q := ⟨_, rfl⟩
      have hw : IntKind.i64.wrap ((j : Int) + 1) = ((j + 1 : Nat) : Int) := by rw [IntKind.wrap_i64]; omega
      repeat (first | co_reg (termsA c S) | (co_ctl (termsA c S); try co_then) | co_cond (termsA c S))
      co_op RF.aside hF (co_quiet (termsA c S))
      co_op RF.aside hF (co_quiet (termsA c S))
      co_opw RF.aside hF (skip) (rw [listed_nil (by simp [go_sem, hjn'])]; exact Terms.idle (termsA c S) _)
      co_opw RF.aside hF (have hc := hF.cell (i := j) (by omega); rw [hq] at hc) (refine ⟨id, rfl, ?_⟩; co_evs (exact ⟨by simp, by simp⟩))
      clear hc
      co_go (termsA c S) RF.aside hF (co_quiet (termsA c S))
      co_split (termsA c S) (!q)
      · intro ht
        have ht' : T.getD j false = false := by rw [hq]; simpa using ht
        have hat : freeN n T x = j := hfree.trans (freeN_free hjn' ht')
        repeat (first | co_reg (termsA c S) | (co_ctl (termsA c S); try co_then) | co_cond (termsA c S))
        co_op RF.aside hF (co_quiet (termsA c S))
        co_op RF.aside hF (co_quiet (termsA c S))
        co_opw RF.aside hF (skip) (rw [listed_nil (by simp [go_sem, hjn'])]; exact Terms.idle (termsA c S) _)
        co_opw RF.aside hF (have hc := hF.cell (i := j) (by omega); rw [hq] at hc; have hz := hF.thaw j) (refine ⟨fun h => hS _ _ (fun k hk => Below.heap_setCell _ _ _ _ (by simp; omega)) h, Below.heap_setCell _ _ _ _ (by simp), ?_⟩; intro e he; have hm := mem_listed he; simp [go_sem] at hm; rw [events_store (hv := rfl)] at hm; simp [hc, hz] at hm; subst hm; exact ⟨by simp, fun _ => ⟨_, rfl, by simp⟩⟩)
        replace hF := hF.store j true
        clear hc hz
        co_go (termsA c S) RF.aside hF (co_quiet (termsA c S))
        exact ⟨rfl, _, resultsC_tmp (by rfl) _, by rw [stepT_at hat hjn']; rfl, by rw [stepS_at hat hjn']; exact hF⟩
      · intro ht
        have ht' : T.getD j false = true := by rw [hq]; simpa using ht
        co_go (termsA c S) RF.aside hF (co_quiet (termsA c S))
        refine ⟨⟨j + 1, _, _, _, _, _, _, _, _, _, _, _, _, _, _, _, _, _, _, by omega, hfree.trans (freeN_taken hjn' ht'), hF, rfl⟩, ?_⟩
        simp [MuK]
        omega
    · intro hjn
      obtain rfl : n = j := by have := of_decide_eq_false hjn; omega
      have hat : freeN n T x = n := hfree.trans (freeN_far (Nat.le_refl _))
      co_go (termsA c S) RF.aside hF (co_quiet (termsA c S))
      exact ⟨rfl, _, resultsC_tmp (by rfl) _, by rw [stepT_no hat]; rfl, by rw [stepS_no hat]; exact hF⟩
end
end Go.Proofs.Ytchfnbcpjiiphaa
