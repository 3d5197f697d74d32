/-
  What the law on the text seen from a node asks of the plain functions.
-/
import Derived.Test.YtmpppocmbdainaaZFS
import Derived.Test.YtmpppocmbdainaaZRL
import Derived.Test.YtmpppocmbdainaaWCodeF
import Derived.Test.YtmpppocmbdainaaZPD
import Derived.Deep.QuietTactic
import Derived.BigQuiet
namespace Go.Proofs.Ytmpppocmbdainaa
open Go.RowKit

theorem rootL_facts {n r : Int} {rows : List (List Int)} (h : rootOut n rows r ≠ []) : ∃ (N u g : Nat) (D : List Nat), n = N ∧ r = u ∧ u < N ∧ 1 ≤ N ∧ N ≤ 7 ∧ valid (rootOut n rows r) = true ∧ depOut (rootOut n rows r) = (0 : Int) :: D.map (fun (k : Nat) => (k : Int)) ∧ (rootOut n rows r).length = 2 * N ∧ D.countP (fun k => decide (k = 1)) = g ∧ (degOut n rows).length = N ∧ (iv (degOut n rows))[u]? = some (.int .i64 (g : Int)) ∧ (N ≠ 1 → D[0]? = some 1) ∧ g ≤ 100 := by
  have hb : treeB n rows = true ∧ 0 ≤ r ∧ r < n := by
    apply Classical.byContradiction
    intro hn
    apply h
    unfold rootOut
    rw [if_neg hn]
  obtain ⟨ht, hr0, hrn⟩ := hb
  obtain ⟨h1, _, h3⟩ := treeB_iff.1 ht
  have hro : rootOut n rows r = txt (edgesR rows) 14 r.toNat (-1) := by unfold rootOut; rw [if_pos ⟨ht, hr0, hrn⟩]
  have hun : r.toNat < n.toNat := by omega
  have hB := valid_brn h3 (by omega) r.toNat (-1)
  have hln : (txt (edgesR rows) 14 r.toNat (-1)).length = 2 * n.toNat := by rw [txt_len, nd_len h3 (by omega) hun]
  have hv : valid (txt (edgesR rows) 14 r.toNat (-1)) = true := by
    unfold valid
    rw [Bool.and_eq_true]
    refine ⟨decide_eq_true (by rw [hln]; omega), ?_⟩
    have : scan (txt (edgesR rows) 14 r.toNat (-1)) = some 0 := txt_V 14 r.toNat (-1) 0
    rw [this]; rfl
  obtain ⟨D, hD, hc, h0, _⟩ := txt_depths hB
  have hdeg : (away (edgesR rows) r.toNat (-1)).length = deg (edgesR rows) r.toNat := by rw [away_all, nb_deg fun e he => (h3.ord e he).1]
  have hdl : degOut n rows = ((List.range n.toNat).map (deg (edgesR rows))).map fun (k : Nat) => (k : Int) := by unfold degOut; rw [if_pos ht]
  have hle : deg (edgesR rows) r.toNat ≤ 100 := by
    rw [← hdeg, away_all]
    have key : ∀ E : Edges, (nb E r.toNat).length ≤ 2 * E.length := by
      intro E
      unfold nb
      induction E with
      | nil => exact Nat.le_refl _
      | cons e q ih =>
        rw [List.flatMap_cons, List.length_append, List.length_cons]
        have : (nb1 r.toNat e).length ≤ 2 := by unfold nb1; rw [List.length_append]; split <;> split <;> simp
        omega
    have := key (edgesR rows)
    have := h3.len
    omega
  refine ⟨n.toNat, r.toNat, deg (edgesR rows) r.toNat, D, by omega, by omega, hun, by omega, by omega, by rw [hro]; exact hv, ?_, by rw [hro]; exact hln, by rw [hc, hdeg], by rw [hdl]; simp, ?_, ?_, hle⟩
  · rw [hro, depOut, if_pos hv]; exact hD
  · rw [hdl]; simp [iv, hun]
  · intro hN
    have hp := valid_deg h3 (by omega) r.toNat hun
    cases hq : D[0]? with
    | none =>
      exfalso
      have hnil : D = [] := by
        have := List.getElem?_eq_none_iff.1 hq
        exact List.eq_nil_of_length_eq_zero (by omega)
      rw [hnil] at hc
      simp at hc
      rw [hdeg] at hc
      omega
    | some k => rw [h0 k hq]
theorem ones_next (L : List Int) (i : Nat) (hi : i < L.length) : (L.take (i + 1)).countP (fun k => decide (k = 1)) = (L.take i).countP (fun k => decide (k = 1)) + (if L[i] = 1 then 1 else 0) := by
  rw [List.take_succ_eq_append_getElem hi, List.countP_append, List.countP_singleton]
  congr 1
  by_cases h : L[i] = 1 <;> simp [h]
theorem ones_all {D : List Nat} {g : Nat} (h : D.countP (fun k => decide (k = 1)) = g) : ((0 : Int) :: D.map (fun (k : Nat) => (k : Int))).countP (fun k => decide (k = 1)) = g := by
  rw [List.countP_cons, List.countP_map]
  have e : ((fun k : Int => decide (k = 1)) ∘ fun (k : Nat) => (k : Int)) = fun k : Nat => decide (k = 1) := by
    funext k
    simp only [Function.comp_apply]
    rw [decide_eq_decide]; omega
  rw [e, h]
  simp
end Go.Proofs.Ytmpppocmbdainaa
