/-
  Plain facts on the program's way from a code to its tree: the last node is never the least leaf, so it ends the last edge. Nothing of the program is named here.
-/
import Derived.Test.YtgmajaelgjdjpaaWTreeC
namespace Go.Proofs.Ytgmajaelgjdjpaa

theorem leaf_low {n l : Nat} {S c : List Nat} {d : Nat → Nat} (h : Fits n S c d) (hl : leastL n d = some l) : l + 1 < n := by
  obtain ⟨h1, h2, h3, h4, h5⟩ := h
  obtain ⟨l1, l2, l3⟩ := least_some.1 hl
  have hnd : S.Nodup := h1.imp fun hab => by omega
  have hex : ∃ v ∈ S, v ∉ c ∧ v ≠ l := by
    apply Classical.byContradiction
    intro hno
    have hsub : ∀ v ∈ S.erase l, v ∈ c := fun v hv => Classical.byContradiction fun hc => hno ⟨v, List.mem_of_mem_erase hv, hc, fun e => by
      subst e; exact (List.Nodup.mem_erase_iff hnd).1 hv |>.1 rfl⟩
    have := List.Nodup.length_le_of_subset (hnd.erase l) hsub
    have h6 := List.length_erase_of_mem (a := l) (l := S)
    by_cases hm : l ∈ S
    · rw [h6 hm] at this; omega
    · rw [List.erase_of_not_mem hm] at this; omega
  obtain ⟨v, hv, hc, hvl⟩ := hex
  have hd : d v = 1 := by rw [h5, if_pos hv, List.count_eq_zero.2 hc]
  have hvn := h2 v hv
  have : ¬ v < l := fun hlt => l3 v hlt hd
  omega
/-- after q edges: those found so far, and the degrees that are left -/
def Tip (n : Nat) (c : List Nat) (T : Edges) (q : Nat) (es : Edges) (d : Nat → Nat) : Prop :=
  es.length = q ∧ ((q ≤ c.length ∧ ∃ S, Fits n S (c.drop q) d ∧ n - 1 ∈ S ∧ es ++ treeE n (c.drop q) d = T) ∨ (q = c.length + 1 ∧ es = T))
theorem tip_start {n : Nat} {c : List Nat} (hn : n = c.length + 2) (hc : ∀ x ∈ c, x < n) : Tip n c (treeE n c (degC n c)) 0 [] (degC n c) :=
  ⟨rfl, .inl ⟨Nat.zero_le _, _, fits_code hn hc, List.mem_range.2 (by omega), rfl⟩⟩
theorem tip_end {n : Nat} {c : List Nat} {T es : Edges} {d : Nat → Nat} (h : Tip n c T (c.length + 1) es d) : es = T := by
  rcases h.2 with ⟨h1, _⟩ | ⟨_, h2⟩
  · omega
  · exact h2
theorem tip_step {n q x : Nat} {c : List Nat} {T es : Edges} {d : Nat → Nat} (h : Tip n c T q es d) (hq : q < c.length + 1) (hx : (c ++ [n - 1])[q]? = some x) :
    ∃ l, leastL n d = some l ∧ l < n ∧ d l = 1 ∧ x < n ∧ x ≠ l ∧ 1 ≤ d x ∧ d x ≤ c.length + 2 ∧ Tip n c T (q + 1) (es ++ [(l, x)]) (down d l x) := by
  obtain ⟨hes, h⟩ := h
  rcases h with ⟨_, S, hf, hn1, hT⟩ | ⟨h1, _⟩
  · obtain ⟨l, hl, hlS, hlc⟩ := fits_leaf hf
    obtain ⟨l1, l2, _⟩ := least_some.1 hl
    have hlow := leaf_low hf hl
    by_cases hqc : q < c.length
    · have hdrop : c.drop q = c[q] :: c.drop (q + 1) := List.drop_eq_getElem_cons hqc
      rw [List.getElem?_append_left hqc, List.getElem?_eq_getElem hqc] at hx
      simp only [Option.some.injEq] at hx
      rw [hx] at hdrop
      rw [hdrop] at hf hT hlc
      have hxl : x ≠ l := fun e => hlc (by simp [e])
      have hxS : x ∈ S := hf.2.2.1 x (by simp)
      have h5 := hf.2.2.2.2 x
      rw [if_pos hxS] at h5
      have h6 := List.count_le_length (a := x) (l := x :: c.drop (q + 1))
      rw [List.length_cons, List.length_drop] at h6
      refine ⟨l, hl, l1, l2, hf.2.1 x hxS, hxl, by omega, by omega, by rw [List.length_append, hes]; rfl, .inl ⟨by omega, _, fits_down hf hlS hlc, ?_, ?_⟩⟩
      · exact List.mem_filter.2 ⟨hn1, decide_eq_true (by omega)⟩
      · rw [← hT, treeE, hl]; simp
    · obtain rfl : q = c.length := by omega
      rw [List.getElem?_append_right (Nat.le_refl _)] at hx
      simp only [Nat.sub_self, List.getElem?_cons_zero, Option.some.injEq] at hx
      have hd0 : c.drop c.length = [] := List.drop_eq_nil_of_le (Nat.le_refl _)
      rw [hd0] at hf hT
      obtain ⟨a, b, rfl⟩ : ∃ a b, S = [a, b] := by
        have := hf.2.2.2.1
        match S, this with
        | [a, b], _ => exact ⟨a, b, rfl⟩
      obtain ⟨h1, h2, h3⟩ := fits_two hf
      simp only [List.mem_cons, List.mem_nil_iff, or_false] at hn1 hlS
      have hb : b = n - 1 := by omega
      have ha : l = a := by omega
      subst ha
      rw [← hb] at hx
      subst hx
      have h5 := hf.2.2.2.2 b
      rw [if_pos (by simp), List.count_nil] at h5
      refine ⟨l, hl, l1, l2, h3, by omega, by omega, by omega, by rw [List.length_append, hes]; rfl, .inr ⟨rfl, ?_⟩⟩
      rw [← hT, treeE, h1]
  · omega
theorem tip_bound {n q : Nat} {c : List Nat} {T es : Edges} {d : Nat → Nat} (h : Tip n c T q es d) : es.length = q := h.1
end Go.Proofs.Ytgmajaelgjdjpaa
