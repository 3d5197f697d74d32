/-
  The contract of the model's function TreeOf, of any numbers.
-/
import Derived.Test.YtcldbjpcbhkmpaaCTreeS
namespace Go.Proofs.Ytcldbjpcbhkmpaa
open Go.RowKit

/-- rows in the call's own memory -/
def GridTo (rows : List (List Int)) (w : World) (e : Ending) (w' : World) : Prop := ∃ u RV, e = .returned u ∧ Grid w' w.heap.size w'.heap.size u RV rows ∧ Below w.heap.size w w'
theorem gridNil {w w' : World} (hb : Below w.heap.size w w') : GridTo [] w (.returned (.slice none 0 0)) w' :=
  ⟨_, [], rfl, ⟨⟨World.ownsRow_nil _ _ _ _, fun q hq => by simp [Value.ownBlock] at hq⟩, RowsI.nil⟩, hb⟩
def codeU (code : List Int) : List Nat := code.map Int.toNat
def treeOut (n : Int) (code : List Int) : List (List Int) := if codeB n code = true then rowsE (treeN n.toNat (codeU code)) else []
theorem codeB_iff {n : Int} {code : List Int} : codeB n code = true ↔ (∀ x ∈ code, 0 ≤ x ∧ x ≤ n - 1) ∧ (1 ≤ n ∧ n ≤ 7) ∧ code.length = (n - 2).toNat := by
  unfold codeB; exact decide_eq_true_iff
theorem codeU_back {code : List Int} (h : ∀ x ∈ code, 0 ≤ x) : (codeU code).map (fun (k : Nat) => (k : Int)) = code := by
  unfold codeU
  rw [List.map_map]
  have : code.map ((fun (k : Nat) => (k : Int)) ∘ Int.toNat) = code.map id := List.map_congr_left fun x hx => by
    have := h x hx
    show ((x.toNat : Nat) : Int) = x
    omega
  rw [this, List.map_id]
theorem codeU_length (code : List Int) : (codeU code).length = code.length := by simp [codeU]
theorem specTreeOf_any (n : Int) (code : List Int) (v : Value) (w : World) {B0 H0 : Nat} (hv : Hid (Own w B0 H0 3 v (iv code))) (hH : H0 ≤ w.heap.size) (hl : code.length ≤ 1048576) :
    Calls Try.prog 24 #[.int .i64 n, v] w (GridTo (treeOut n code) w) := by
  have C := Lib.hid (validCode_any n code v w hv hl)
  cases ht : codeB n code with
  | false =>
    rw [treeOut, if_neg (by rw [ht]; decide)]
    rw [ht] at C
    obtain ⟨av, cv, rfl, _, _, _, _⟩ := hv.out.slice
    clear hv
    go_enter Try.func24, Try.ntmps24
    go_wp2_with fail
    refine C.out.mono ?_
    rintro e w1 ⟨rfl, rfl⟩
    go_wp2
    go_ret
    exact gridNil (Below.refl _ _)
  | true =>
    rw [treeOut, if_pos ht]
    rw [ht] at C
    obtain ⟨h1, h2, h3⟩ := codeB_iff.1 ht
    obtain ⟨N, rfl⟩ : ∃ N : Nat, n = N := ⟨n.toNat, by omega⟩
    rw [Int.toNat_natCast]
    have hb := codeU_back (code := code) fun x hx => (h1 x hx).1
    have hcl := codeU_length code
    have hcm : ∀ x ∈ codeU code, x < N := fun x hx => by
      obtain ⟨y, hy, rfl⟩ := List.mem_map.1 hx
      have := h1 y hy
      omega
    obtain ⟨c, hc⟩ : ∃ c, c = codeU code := ⟨_, rfl⟩
    rw [← hc] at hb hcl hcm ⊢
    have CD := Lib.hid (treeOf_any N c v w (Lib.hid (by rw [ints_iv2, hb]; exact hv.out)) hH ⟨by omega, by omega, by omega⟩ (Lib.hid hcm))
    obtain ⟨av, cv, rfl, _, _, _, _⟩ := hv.out.slice
    clear hv ht h1 h3 hb hcl hcm hc
    go_enter Try.func24, Try.ntmps24
    go_wp2_with fail
    refine C.out.mono ?_
    rintro e w1 ⟨rfl, rfl⟩
    go_wp2_with fail
    refine CD.out.mono ?_
    rintro e w2 ⟨u, RV, rfl, hG, hb⟩
    obtain ⟨au, cu, rfl, _, _, _, _⟩ := hG.1.slice
    have HG := Lib.hid hG
    have HB := Lib.hid hb
    clear hG hb CD C
    go_wp2
    go_ret
    exact ⟨_, RV, rfl, HG.out, HB.out⟩
end Go.Proofs.Ytcldbjpcbhkmpaa
