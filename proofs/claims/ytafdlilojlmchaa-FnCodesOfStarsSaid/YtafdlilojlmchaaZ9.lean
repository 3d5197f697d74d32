/-
  The walks of laws of weights, with the program's functions as premises.
  The walk of the law that sets of nodes alone are counted one by one, with the program's functions as premises.
-/
import Derived.Test.YtafdlilojlmchaaZ2
import Derived.Test.YtafdlilojlmchaaZ3
import Derived.Test.YtafdlilojlmchaaKLstL
import Derived.Test.YtafdlilojlmchaaZU
import Derived.Test.YtafdlilojlmchaaZWF
import Derived.Test.YtafdlilojlmchaaZW
import Derived.Test.YtafdlilojlmchaaZS
namespace Go.Proofs.Ytafdlilojlmchaa
open Go.RowKit

theorem treeV_or (n : Int) (rows : List (List Int)) : (∀ g, treeV g n rows = -1) ∨ ∃ N : Nat, n = (N : Int) ∧ TreeS N (edgesR rows) ∧ rows = rowsE (edgesR rows) ∧ ∀ g, treeV g n rows = ((g N (edgesR rows) : Nat) : Int) := by
  cases ht : treeB n rows with
  | true =>
    obtain ⟨h1, h2⟩ := rowsE_tree ht
    refine .inr ⟨n.toNat, by have := (treeB_iff.1 ht).1; omega, h2, h1, fun g => by rw [treeV, if_pos ht]⟩
  | false => exact .inl fun g => by rw [treeV, if_neg (by rw [ht]; decide)]
theorem TreeFn.at_ {f : FuncId} {val : Int → List (List Int) → Int} (h : TreeFn f val) {n : Int} {rows : List (List Int)} (hrl : rows.length ≤ 1048576) (hrs : ∀ r ∈ rows, r.length ≤ 1048576) (hwf : (Lit.int .i64 n).wf = true) :
    Hid (∀ (v : Value) (RV : List Value) (w : World) (B0 H0 : Nat), Hid (Grid w B0 H0 v RV rows) → H0 ≤ w.heap.size → Calls Try.prog f #[.int .i64 n, v] w fun e w' => e = .returned (.int .i64 (val n rows)) ∧ Below w.heap.size w w') :=
  fun v RV w B0 H0 hG hH => h n rows v RV w B0 H0 hG hH hrl hrs hwf
end Go.Proofs.Ytafdlilojlmchaa

namespace Go.Proofs.Ytafdlilojlmchaa
open Go.RowKit

/-- the greatest of what is told of the numbers that fit, and how many fit -/
def mxF (P : Nat → Bool) (f : Nat → Nat) : Nat → Nat
  | 0 => 0
  | k + 1 => if P k = true then max (mxF P f k) (f k) else mxF P f k
def ctF (P : Nat → Bool) : Nat → Nat
  | 0 => 0
  | k + 1 => if P k = true then ctF P k + 1 else ctF P k
theorem ctF_count (P : Nat → Bool) : ∀ k, ctF P k = (List.range k).countP P
  | 0 => rfl
  | k + 1 => by
    rw [ctF, ctF_count P k, List.range_succ, List.countP_append]
    by_cases h : P k = true
    · rw [if_pos h, List.countP_cons, h]; rfl
    · rw [if_neg h, List.countP_cons, if_neg h]; rfl
theorem ctF_le (P : Nat → Bool) : ∀ k, ctF P k ≤ k
  | 0 => Nat.le_refl _
  | k + 1 => by rw [ctF]; have := ctF_le P k; split <;> omega
theorem mxF_le {P : Nat → Bool} {f : Nat → Nat} {M : Nat} : ∀ k, (∀ s, s < k → P s = true → f s ≤ M) → mxF P f k ≤ M
  | 0, _ => Nat.zero_le _
  | k + 1, h => by
    rw [mxF]
    have h1 := mxF_le k fun s hs => h s (by omega)
    split
    · next hp => have := h k (by omega) hp; omega
    · exact h1
theorem mxF_ge {P : Nat → Bool} {f : Nat → Nat} {s : Nat} (hp : P s = true) : ∀ k, s < k → f s ≤ mxF P f k
  | 0, h => by omega
  | k + 1, h => by
    rw [mxF]
    by_cases e : s = k
    · subst e; rw [if_pos hp]; omega
    · have := mxF_ge (f := f) hp k (by omega)
      split <;> omega
theorem mxF_is {P : Nat → Bool} {f : Nat → Nat} {M k : Nat} (h1 : ∀ s, s < k → P s = true → f s ≤ M) (h2 : ∃ s, s < k ∧ P s = true ∧ f s = M) : mxF P f k = M := by
  obtain ⟨s, hs, hp, he⟩ := h2
  have a := mxF_le k h1
  have b := mxF_ge (f := f) hp k hs
  omega
/-- no edge within, as the law asks it -/
def fineB (E : Edges) (s : Nat) : Bool := E.all fun e => !bitT s e.1 || !bitT s e.2
def fineK (E : Edges) (s k : Nat) : Bool := (E.take k).all fun e => !bitT s e.1 || !bitT s e.2
theorem fineK_next {E : Edges} {s k : Nat} (hk : k < E.length) : fineK E s (k + 1) = (fineK E s k && (!bitT s E[k].1 || !bitT s E[k].2)) := by
  unfold fineK
  rw [List.take_succ_eq_append_getElem hk, List.all_append]; simp
theorem fineK_all (E : Edges) (s : Nat) : fineK E s E.length = fineB E s := by unfold fineK fineB; rw [List.take_length]
theorem fine_alone {n : Nat} {E : Edges} (hE : ∀ e ∈ E, e.1 < n ∧ e.2 < n) (s : Nat) : fineB E s = aloneB E (setsB n s) := by
  unfold fineB aloneB
  have key : ∀ L : Edges, (∀ e ∈ L, e ∈ E) → (L.all fun e => !bitT s e.1 || !bitT s e.2) = L.all fun e => !(decide (e.1 ∈ setsB n s) && decide (e.2 ∈ setsB n s)) := by
    intro L
    induction L with
    | nil => intro _; rfl
    | cons e r ih =>
      intro hL
      rw [List.all_cons, List.all_cons, ih fun x hx => hL x (List.mem_cons_of_mem _ hx)]
      obtain ⟨h1, h2⟩ := hE e (hL e (List.mem_cons_self ..))
      have e1 : decide (e.1 ∈ setsB n s) = bitT s e.1 := by
        unfold bitT; rw [decide_eq_decide, setsB_mem]; exact ⟨fun q => q.2, fun q => ⟨h1, q⟩⟩
      have e2 : decide (e.2 ∈ setsB n s) = bitT s e.2 := by
        unfold bitT; rw [decide_eq_decide, setsB_mem]; exact ⟨fun q => q.2, fun q => ⟨h2, q⟩⟩
      rw [e1, e2]
      cases bitT s e.1 <;> cases bitT s e.2 <;> rfl
  exact key E fun e he => he
theorem bit_ask0 (s i : Nat) (hs : s ≤ 256) (hi : i ≤ 8) : ∃ p d : Nat, p = 2 ^ i ∧ 0 < p ∧ p ≤ 256 ∧ IntKind.i64.wrap ((s : Int) / (p : Int)) = (d : Int) ∧ d ≤ 256 ∧ ((d : Int) % 2 == 0) = !bitT s i := by
  obtain ⟨p, d, h1, h2, h3, h4, h5, h6⟩ := bit_ask s i hs hi
  refine ⟨p, d, h1, h2, h3, h4, h5, ?_⟩
  rw [← h6]
  by_cases h : (d : Int) % 2 = 1
  · rw [h]; rfl
  · have : (d : Int) % 2 = 0 := by omega
    rw [this]; rfl
end Go.Proofs.Ytafdlilojlmchaa
