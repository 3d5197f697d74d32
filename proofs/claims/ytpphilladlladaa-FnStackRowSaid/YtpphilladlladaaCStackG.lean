/-
  What holds of a word's row behind a stack, in the form in which the statements want it.
-/
import Derived.Test.YtpphilladlladaaCStackI
import Derived.Test.YtpphilladlladaaWFactsG
import Derived.Test.YtpphilladlladaaCWosI
namespace Go.Proofs.Ytpphilladlladaa
open Go.RowKit

theorem stackOut_len (s : ByteArray) : (stackOut s.data.toList).length ≤ 18 := by
  unfold stackOut
  split
  · rename_i h
    have h1 := valid_scan h
    rw [stackL18 _ h1.1 h1.2, List.length_map, btwP_length 18 _ 0 h1.1 h1.2]
    have := h1.2
    omega
  · simp
theorem stack_parts {l : List UInt8} (h : valid l = true) : patB (stackN l) = true ∧ (stackN l).Nodup ∧ (∀ x ∈ stackN l, x < l.length / 2) ∧ (stackN l).length = l.length / 2 := by
  have g := stack_good l h
  unfold stackGood at g
  simp only [Bool.and_eq_true] at g
  refine ⟨g.1.1.1, nodB_spec _ g.1.1.2, fun x hx => ?_, eq_of_beq g.2⟩
  simpa using List.all_eq_true.1 g.1.2 x hx
theorem stackL_N (l : List UInt8) : stackL l = (stackN l).map fun (k : Nat) => (k : Int) := rfl
theorem map_nodup {l : List Nat} (h : l.Nodup) : (l.map fun (k : Nat) => (k : Int)).Nodup := by
  rw [List.Nodup, List.pairwise_map]
  exact List.Pairwise.imp (fun hab e => hab (Int.ofNat_inj.1 e)) h
theorem stackOut_pos {s : ByteArray} (h : 0 < (stackOut s.data.toList).length) : valid s.data.toList = true ∧ stackOut s.data.toList = stackL s.data.toList := by
  unfold stackOut at h ⊢
  by_cases hv : valid s.data.toList = true
  · rw [if_pos hv]; exact ⟨hv, rfl⟩
  · rw [if_neg hv] at h; simp at h
theorem stackOut_nodup (s : ByteArray) : (stackOut s.data.toList).Nodup := by
  unfold stackOut
  split
  · rename_i h
    rw [stackL_N]
    exact map_nodup (stack_parts h).2.1
  · exact List.nodup_nil
def Pat (l : List Int) : Prop := ∀ (i j k : Nat) (hk : k < l.length) (hij : i < j) (hjk : j < k), ¬ (l[j]'(by omega) < l[k] ∧ l[k] < l[i]'(by omega))
theorem stackOut_pat (s : ByteArray) : Pat (stackOut s.data.toList) := by
  by_cases hv : valid s.data.toList = true
  · have e : stackOut s.data.toList = (stackN s.data.toList).map fun (k : Nat) => (k : Int) := by rw [stackOut, if_pos hv]; rfl
    rw [e]
    intro i j k hk hij hjk
    rw [List.length_map] at hk
    have := patB_spec _ (stack_parts hv).1 i j k hk hij hjk
    simp only [List.getElem_map]
    omega
  · have e : stackOut s.data.toList = [] := by rw [stackOut, if_neg hv]
    rw [e]
    intro i j k hk
    simp at hk
theorem wos_back {s : ByteArray} (h : valid s.data.toList = true) : wosV (stackL s.data.toList) = .tuple #[.string s, .bool true] := by
  have h1 := valid_scan h
  rw [wosV_some (wosL_word h1.1 h1.2)]
end Go.Proofs.Ytpphilladlladaa
