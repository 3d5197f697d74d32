/-
  The contracts of the functions that draw the laws' words.
-/
import Derived.Test.YtgmajaelgjdjpaaCDrawC
import Derived.OpenShut
namespace Go.Proofs.Ytgmajaelgjdjpaa
open Go.RowKit

/-- a slice of bytes that came in, of whatever length -/
theorem newReader_any (a : Option Addr) (len cap : Nat) (zs : List Int) (w : World) (hr : IsRow .u8 w a len cap zs) (hl : len ≤ 1048576) :
    Calls Try.prog 22 #[.slice a len cap] w fun e w' => ∃ n R, e = .returned (.pointer (some ⟨R, 0, none⟩)) ∧ Rd w' w.heap.size R a n cap 0 ∧ Below w.heap.size w w' := by
  have hlen := hr.len
  have hby : ∀ i : Nat, i < len → ∃ b off x, a = some ⟨b, off, none⟩ ∧ b < w.heap.size ∧ w.cell? ⟨b, off + i, none⟩ = some (.int .u8 x) ∧ 0 ≤ x ∧ x ≤ 255 := by
    intro i hi
    obtain ⟨b, off, h1, h2⟩ := hr.at_ i hi
    refine ⟨b, off, zs.getD i 0, h1, World.block_lt_of_cell? w _ h2, h2, ?_⟩
    rcases hr with ⟨_, h0, _⟩ | ⟨x, _, _, _, h4, _, h6⟩
    · omega
    · have hm : zs.getD i 0 ∈ zs := by
        have hi2 : i < zs.length := by omega
        simp [List.getElem?_eq_getElem hi2]
      have hw := h6 _ hm
      have := bounds_u8 hw
      omega
  have HB := Lib.hid hby
  clear hby hr
  by_cases h2 : len ≤ 2000
  · have q1 : ¬ (2000 : Int) < (len : Int) := by omega
    go_enter Try.func22, Try.ntmps22
    go_wp2
    go_ret
    refine ⟨len, w.heap.size, rfl, ⟨heap_alloc_new w _, Nat.le_refl _, h2, fun i hi => ?_⟩, (Below.refl _ _).alloc (Nat.le_refl _) _⟩
    obtain ⟨b, off, x, e1, e2, e3, e4⟩ := HB.out i hi
    exact ⟨b, off, x, e1, e2, (World.cell?_alloc_lt w _ _ e2).trans e3, e4⟩
  · have q1 : (2000 : Int) < (len : Int) := by omega
    go_enter Try.func22, Try.ntmps22
    go_wp2
    go_ret
    refine ⟨2000, w.heap.size, rfl, ⟨heap_alloc_new w _, Nat.le_refl _, Nat.le_refl _, fun i hi => ?_⟩, (Below.refl _ _).alloc (Nat.le_refl _) _⟩
    obtain ⟨b, off, x, e1, e2, e3, e4⟩ := HB.out i (by omega)
    exact ⟨b, off, x, e1, e2, (World.cell?_alloc_lt w _ _ e2).trans e3, e4⟩
end Go.Proofs.Ytgmajaelgjdjpaa
