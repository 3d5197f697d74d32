/-
  Loads: what the laws ask of their costs, in the code's numbers.
-/
import Derived.Test.YtakpbnkncjddeaaZL
import Derived.Test.YtakpbnkncjddeaaWFactsD
namespace Go.Proofs.Ytakpbnkncjddeaa
open Go.RowKit

theorem jcI_rev (l : List Int) : jcI l.reverse = jcI l := by
  unfold jcI; rw [loadB_reverse, natsL_rev, joinC_perm (List.reverse_perm (natsL l))]
theorem bcI_rev (l : List Int) : bcI l.reverse = bcI l := by
  unfold bcI; rw [loadB_reverse, natsL_rev, bsC_rev]
theorem fcI_rev (l : List Int) : fcI l.reverse = fcI l := by
  unfold fcI; rw [loadB_reverse, natsL_rev, fcC_rev]
theorem jcI_no {l : List Int} (h : loadB l = false) : jcI l = -1 := by unfold jcI; rw [h]; rfl
theorem bcI_no {l : List Int} (h : loadB l = false) : bcI l = -1 := by unfold bcI; rw [h]; rfl
theorem fcI_no {l : List Int} (h : loadB l = false) : fcI l = -1 := by unfold fcI; rw [h]; rfl
theorem jcI_yes {l : List Int} (h : loadB l = true) : jcI l = ((joinC (natsL l) : Nat) : Int) := by unfold jcI; rw [h]; rfl
theorem bcI_yes {l : List Int} (h : loadB l = true) : bcI l = ((bsC (natsL l) : Nat) : Int) := by unfold bcI; rw [h]; rfl
theorem fcI_yes {l : List Int} (h : loadB l = true) : fcI l = ((fcC (natsL l) : Nat) : Int) := by unfold fcI; rw [h]; rfl
theorem loadB_take {l : List Int} (h : loadB l = true) (k : Nat) : loadB (l.take k) = true := by
  rw [loadB, Bool.and_eq_true] at h ⊢
  refine ⟨List.all_eq_true.2 fun x hx => List.all_eq_true.1 h.1 x (List.mem_of_mem_take hx), ?_⟩
  have := of_decide_eq_true h.2
  exact decide_eq_true (by rw [List.length_take]; omega)
theorem bcI_take {l : List Int} (h : loadB l = true) {k : Nat} (hk : l.length = k + 1) : bcI (l.take k) ≤ bcI l := by
  rw [bcI_yes h, bcI_yes (loadB_take h k)]
  have e : natsL l = natsL (l.take k) ++ [l[k].toNat] := by
    have h1 : l = l.take k ++ [l[k]] := by
      rw [← List.take_succ_eq_append_getElem (by omega), List.take_of_length_le (by omega)]
    have h2 := congrArg natsL h1
    refine h2.trans ?_
    rw [natsL, List.map_append]; rfl
  have := bsC_less (natsL (l.take k)).length (natsL (l.take k)) l[k].toNat (Nat.le_refl _)
  rw [← e] at this
  omega
theorem jc_bc {l : List Int} (h : loadB l = true) : jcI l ≤ bcI l := by
  rw [jcI_yes h, bcI_yes h]
  have := join_beside (natsL l)
  omega
theorem jt_or (l : List Int) : jtI l = -1 ∨ jtI l = jcI l := by
  unfold jtI jcI
  cases loadB l <;> cases decide (l.length ≤ 5) <;> simp
theorem ft_or (l : List Int) : ftI l = -1 ∨ ftI l = fcI l := by
  unfold ftI fcI
  cases loadB l <;> cases decide (l.length ≤ 5) <;> simp
theorem jt_yes {l : List Int} (h : jtI l ≠ -1) : loadB l = true ∧ jtI l = jcI l := by
  rcases jt_or l with e | e
  · exact absurd e h
  · refine ⟨?_, e⟩
    cases hb : loadB l
    · rw [e, jcI_no hb] at h; exact absurd rfl h
    · rfl
theorem ft_yes {l : List Int} (h : ftI l ≠ -1) : loadB l = true ∧ ftI l = fcI l := by
  rcases ft_or l with e | e
  · exact absurd e h
  · refine ⟨?_, e⟩
    cases hb : loadB l
    · rw [e, fcI_no hb] at h; exact absurd rfl h
    · rfl
theorem sumI_ldI (L : List Nat) : ∀ k, k ≤ L.length → sumI (ldI L) k = ((L.take k).sum : Int)
  | 0, _ => by simp [sumI]
  | k + 1, hk => by
    have e : (ldI L).getD k 0 = (L[k]'(by omega) : Int) := by
      rw [List.getD_eq_getElem?_getD, List.getElem?_eq_getElem (by rw [ldI_len]; omega), Option.getD_some, ldI_get L k (by omega)]
    rw [sumI, sumI_ldI L k (by omega), e, List.take_succ_eq_append_getElem (by omega), List.sum_append]
    simp
theorem sum_fc {l : List Int} (h : loadB l = true) : sumI l l.length ≤ fcI l := by
  obtain ⟨L, rfl, _⟩ := loadB_nats h
  rw [fcI_yes h, natsL_ldI, ldI_len, sumI_ldI L _ (Nat.le_refl _), List.take_length]
  have := fcC_sum L
  omega
end Go.Proofs.Ytakpbnkncjddeaa
