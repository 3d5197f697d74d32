/-
  The contracts of the model's functions ValidTree, DegreesOf and CodeOf, of any rows.
  Plain facts for the laws on codes: a tree's code gives the tree back, a code's tree gives the code back.
-/
import Derived.Test.YtafdlilojlmchaaZN
import Derived.Test.YtafdlilojlmchaaCVTree
import Derived.Test.YtafdlilojlmchaaZPD
import Derived.Test.YtafdlilojlmchaaZT
namespace Go.Proofs.Ytafdlilojlmchaa
open Go.RowKit

theorem own_baseR {w : World} {B B' n : Nat} {t : TypeId} {v : Value} {xs : List Value} (h : w.ownsRow B' t 1 v n xs) (hB : B ≤ B') : w.ownsRow B t 1 v n xs :=
  ⟨h.1, h.2.imp id (fun ⟨g, cap, cur, a, b, c⟩ => ⟨g, cap, cur, a, by omega, c⟩)⟩
/-! ### what both answer, of any rows -/
def codeOut (n : Int) (rows : List (List Int)) : List Int := if treeB n rows = true then (codeN n.toNat (edgesR rows)).map fun (k : Nat) => (k : Int) else []
def degOut (n : Int) (rows : List (List Int)) : List Int := if treeB n rows = true then ((List.range n.toNat).map (deg (edgesR rows))).map fun (k : Nat) => (k : Int) else []
theorem valid_one {E : Edges} (h : ValidT 1 E) : E = [] := List.eq_nil_of_length_eq_zero (by have := h.len; omega)
end Go.Proofs.Ytafdlilojlmchaa

namespace Go.Proofs.Ytafdlilojlmchaa

theorem wf_smallC (x : Int) (h : -1000 ≤ x ∧ x ≤ 100000) : (Lit.int .i64 x).wf = true := by
  have h1 : IntKind.i64.min = -9223372036854775808 := rfl
  have h2 : IntKind.i64.max = 9223372036854775807 := rfl
  simp [Lit.wf]; omega
theorem codeU_cast (L : List Nat) : codeU (L.map fun (k : Nat) => (k : Int)) = L := by
  unfold codeU
  rw [List.map_map]
  have : L.map (Int.toNat ∘ fun (k : Nat) => (k : Int)) = L.map id := List.map_congr_left fun x _ => rfl
  rw [this, List.map_id]
theorem tree_back {n : Int} {rows : List (List Int)} (h : treeB n rows = true) : treeOut n (codeOut n rows) = rows := by
  obtain ⟨h1, h2, h3⟩ := treeB_iff.1 h
  obtain ⟨N, rfl⟩ : ∃ N : Nat, n = N := ⟨n.toNat, by omega⟩
  rw [Int.toNat_natCast] at h3
  rw [codeOut, if_pos h, Int.toNat_natCast]
  obtain ⟨E, hE⟩ : ∃ E, E = edgesR rows := ⟨_, rfl⟩
  rw [← hE] at h2 h3 ⊢
  by_cases hN : 2 ≤ N
  · have hb : codeB (N : Int) ((codeN N E).map fun (k : Nat) => (k : Int)) = true := by
      refine codeB_iff.2 ⟨fun x hx => ?_, h1, ?_⟩
      · obtain ⟨k, hk, rfl⟩ := List.mem_map.1 hx
        have := code_lt h3 k hk
        omega
      · rw [List.length_map, code_len h3]; omega
    rw [treeOut, if_pos hb, Int.toNat_natCast, codeU_cast, tree_code h3 hN, h2]
  · obtain rfl : N = 1 := by omega
    have := valid_one h3
    subst this
    rw [h2]
    rfl
theorem codeOut_len {n : Int} {rows : List (List Int)} (h : treeB n rows = true) : ((codeOut n rows).length : Int) = if 0 ≤ n - 2 then n - 2 else 0 := by
  obtain ⟨h1, h2, h3⟩ := treeB_iff.1 h
  rw [codeOut, if_pos h, List.length_map, code_len h3]
  split <;> omega
theorem codeOut_le (n : Int) (rows : List (List Int)) : (codeOut n rows).length ≤ 64 := by
  unfold codeOut
  split
  · next h =>
    obtain ⟨h1, _, h3⟩ := treeB_iff.1 h
    rw [List.length_map, code_len h3]; omega
  · simp
theorem degOut_le (n : Int) (rows : List (List Int)) : (degOut n rows).length ≤ 64 := by
  unfold degOut
  split
  · next h =>
    obtain ⟨h1, _, _⟩ := treeB_iff.1 h
    rw [List.length_map, List.length_map, List.length_range]; omega
  · simp
theorem treeOut_le (n : Int) (code : List Int) : (treeOut n code).length ≤ 64 ∧ ∀ r ∈ treeOut n code, r.length ≤ 1048576 := by
  unfold treeOut
  split
  · next h =>
    obtain ⟨_, h2, h3⟩ := codeB_iff.1 h
    constructor
    · rw [rowsE_length, treeN, sortP_len, List.length_map]
      have key : ∀ (c : List Nat) (d : Nat → Nat), (treeE n.toNat c d).length ≤ c.length + 1 := by
        intro c
        induction c with
        | nil => intro d; rw [treeE]; split <;> simp
        | cons x r ih =>
          intro d
          rw [treeE]
          split
          · simp
          · simp only [List.length_cons]; have := ih (down d ‹_› x); omega
      have := key (codeU code) (degC n.toNat (codeU code))
      rw [codeU_length] at this
      omega
    · intro r hr
      obtain ⟨e, _, rfl⟩ := List.mem_map.1 hr
      simp
  · simp
theorem code_back {n : Int} {code : List Int} (h : 0 < (treeOut n code).length) : treeB n (treeOut n code) = true ∧ codeOut n (treeOut n code) = code := by
  by_cases hb : codeB n code = true
  · obtain ⟨h1, h2, h3⟩ := codeB_iff.1 hb
    obtain ⟨N, rfl⟩ : ∃ N : Nat, n = N := ⟨n.toNat, by omega⟩
    rw [treeOut, if_pos hb, Int.toNat_natCast] at h ⊢
    have hU := codeU_back (code := code) fun x hx => (h1 x hx).1
    have hl := codeU_length code
    have hlt : ∀ x ∈ codeU code, x < N := fun x hx => by
      obtain ⟨y, hy, rfl⟩ := List.mem_map.1 hx
      have := h1 y hy
      omega
    by_cases hN : 2 ≤ N
    · obtain ⟨c1, c2⟩ := code_tree (n := N) (c := codeU code) (by omega) hlt
      have hB : treeB (N : Int) (rowsE (treeN N (codeU code))) = true := by
        refine treeB_iff.2 ⟨h2, by rw [edges_rows], ?_⟩
        rw [edges_rows, Int.toNat_natCast]; exact c1
      refine ⟨hB, ?_⟩
      rw [codeOut, if_pos hB, edges_rows, Int.toNat_natCast, c2, hU]
    · exfalso
      obtain rfl : N = 1 := by omega
      have : codeU code = [] := List.eq_nil_of_length_eq_zero (by rw [hl, h3]; rfl)
      rw [this] at h
      exact absurd h (by decide)
  · rw [treeOut, if_neg hb] at h
    simp at h
end Go.Proofs.Ytafdlilojlmchaa
