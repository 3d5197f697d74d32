/-
  What a branch weighs, as the program finds it: most nodes alone.
  What a branch weighs, as the program finds it: sets of nodes alone.
  What the joins of weights answer: nodes alone.
-/
import Derived.Test.YtafdlilojlmchaaZBP
import Derived.Test.YtafdlilojlmchaaZW
import Derived.Deep.RegionHeld3
namespace Go.Proofs.Ytafdlilojlmchaa
open Go.RowKit

def valA (E : Edges) (d u : Nat) (fr : Int) : List Int := [(((alnF E d u fr).2 : Nat) : Int), (((alnF E d u fr).1 : Nat) : Int)]
theorem valA_len (E : Edges) (d u : Nat) (fr : Int) (k : Nat) : ∀ x ∈ wgK (valA E) E d u fr k, x.length = 2 := by
  intro x hx
  obtain ⟨y, _, rfl⟩ := List.mem_map.1 hx
  rfl
end Go.Proofs.Ytafdlilojlmchaa

namespace Go.Proofs.Ytafdlilojlmchaa
open Go.RowKit

def valS (E : Edges) (d u : Nat) (fr : Int) : List Int := [(((setF E d u fr).2 : Nat) : Int), (((setF E d u fr).1 : Nat) : Int)]
theorem valS_len (E : Edges) (d u : Nat) (fr : Int) (k : Nat) : ∀ x ∈ wgK (valS E) E d u fr k, x.length = 2 := by
  intro x hx
  obtain ⟨y, _, rfl⟩ := List.mem_map.1 hx
  rfl
end Go.Proofs.Ytafdlilojlmchaa

namespace Go.Proofs.Ytafdlilojlmchaa
open Go.RowKit

/-- the state behind the first k branches -/
def dpT (E : Edges) (st : Nat × Nat → Nat × Nat → Nat × Nat) (s0 : Nat × Nat) (fin : Nat × Nat → Nat × Nat) (d u : Nat) (fr : Int) (k : Nat) : Nat × Nat := ((away E u fr).take k).foldl (fun s x => st s (dpF E st s0 fin d x u)) s0
section
variable {E : Edges} {st : Nat × Nat → Nat × Nat → Nat × Nat} {s0 : Nat × Nat} {fin : Nat × Nat → Nat × Nat} {d u : Nat} {fr : Int} {k : Nat}
theorem dpT_next (hk : k < (away E u fr).length) : dpT E st s0 fin d u fr (k + 1) = st (dpT E st s0 fin d u fr k) (dpF E st s0 fin d (away E u fr)[k] u) := by
  unfold dpT
  rw [List.take_succ_eq_append_getElem hk, List.foldl_append]; rfl
theorem dpT_all : fin (dpT E st s0 fin d u fr (away E u fr).length) = dpF E st s0 fin (d + 1) u fr := by
  unfold dpT
  rw [List.take_length]; rfl
end
theorem kids_szT {E : Edges} {d u : Nat} {fr : Int} (k : Nat) {b : Nat} (h : sz E (d + 1) u fr ≤ b + 1) : (((away E u fr).take k).map fun x => sz E d x u).sum ≤ b := by
  have h1 := sub_sum (fun x => sz E d x u) (List.take_sublist k (away E u fr))
  rw [sz_at] at h
  omega
theorem dpT_A {E : Edges} {d u : Nat} {fr : Int} (h : Brn E (d + 1) u fr) (h7 : sz E (d + 1) u fr ≤ 7) (k : Nat) : (dpT E stA (0, 1) id d u fr k).1 ≤ 6 ∧ (dpT E stA (0, 1) id d u fr k).2 ≤ 7 := by
  have h0 := kids_szT (E := E) (d := d) (u := u) (fr := fr) k (b := 6) h7
  have hm := (List.take_sublist k (away E u fr)).subset
  have h1 := sum_le2 (L := (away E u fr).take k) (f := fun x => max (dpF E stA (0, 1) id d x u).1 (dpF E stA (0, 1) id d x u).2) (g := fun x => sz E d x u) fun x hx => by
    have := aln_le (h x (hm hx)); have e : alnF E d x u = dpF E stA (0, 1) id d x u := rfl; rw [e] at this; omega
  have h2 := sum_le2 (L := (away E u fr).take k) (f := fun x => (dpF E stA (0, 1) id d x u).1) (g := fun x => sz E d x u) fun x hx => by
    have := aln_le (h x (hm hx)); have e : alnF E d x u = dpF E stA (0, 1) id d x u := rfl; rw [e] at this; omega
  unfold dpT
  rw [fold_A (fun x => dpF E stA (0, 1) id d x u)]
  simp only
  omega
theorem dpT_S {E : Edges} {d u : Nat} {fr : Int} (h : Brn E (d + 1) u fr) (h7 : sz E (d + 1) u fr ≤ 7) (k : Nat) : (dpT E stS (1, 1) id d u fr k).1 ≤ 64 ∧ (dpT E stS (1, 1) id d u fr k).2 ≤ 64 := by
  have h0 := kids_szT (E := E) (d := d) (u := u) (fr := fr) k (b := 6) h7
  have hm := (List.take_sublist k (away E u fr)).subset
  have h1 := prod_le (L := (away E u fr).take k) (f := fun x => (dpF E stS (1, 1) id d x u).1 + (dpF E stS (1, 1) id d x u).2) (g := fun x => 2 ^ sz E d x u) fun x hx => set_le d x u (h x (hm hx))
  have h2 := prod_le (L := (away E u fr).take k) (f := fun x => (dpF E stS (1, 1) id d x u).1) (g := fun x => 2 ^ sz E d x u) fun x hx => by
    have : (dpF E stS (1, 1) id d x u).1 + (dpF E stS (1, 1) id d x u).2 ≤ _ := set_le d x u (h x (hm hx)); omega
  rw [prod_pow] at h1 h2
  have h3 : 2 ^ (((away E u fr).take k).map fun x => sz E d x u).sum ≤ 2 ^ 6 := Nat.pow_le_pow_right (by decide) h0
  unfold dpT
  rw [fold_S (fun x => dpF E stS (1, 1) id d x u)]
  simp only
  omega
theorem set_le7 {E : Edges} {d u : Nat} {fr : Int} (h : Brn E d u fr) (h7 : sz E d u fr ≤ 7) : (setF E d u fr).1 + (setF E d u fr).2 ≤ 128 := by
  have h1 := set_le d u fr h
  have h2 : 2 ^ sz E d u fr ≤ 2 ^ 7 := Nat.pow_le_pow_right (by decide) h7
  omega
theorem wgK_at {V : Nat → Nat → Int → List Int} {E : Edges} {d u m j : Nat} {fr : Int} (hm : m ≤ (away E u fr).length) (hj : j < (wgK V E d u fr m).length) : (wgK V E d u fr m)[j] = V d ((away E u fr)[j]'(by unfold wgK at hj; rw [List.length_map, List.length_take] at hj; omega)) u := by
  unfold wgK
  simp [List.getElem_map]

--GEN
--GEN
end Go.Proofs.Ytafdlilojlmchaa
