/-
  Products that come round. Nothing of the program is named here.
  In how many ways branches go to each other, as the program counts them: texts are counted in a map.
-/
import Derived.WalkKit
import Derived.Test.YtlnofjkdpoiabaaCText
import Derived.Maps.OwnOps
import Derived.Maps.Views
import Derived.Maps.RangeWalk
import Derived.Deep.RegionLaw
namespace Go.Proofs.Ytlnofjkdpoiabaa
open Go.RowKit
theorem wrap_dvd (x : Int) : (18446744073709551616 : Int) ∣ IntKind.i64.wrap x - x := by
  rw [IntKind.wrap_i64]; omega
theorem wrap_of {x y : Int} (h : (18446744073709551616 : Int) ∣ x - y) : IntKind.i64.wrap x = IntKind.i64.wrap y := by
  rw [IntKind.wrap_i64, IntKind.wrap_i64]; omega
theorem wrap_mul (a b : Int) : IntKind.i64.wrap (IntKind.i64.wrap a * IntKind.i64.wrap b) = IntKind.i64.wrap (a * b) := by
  apply wrap_of
  have e : IntKind.i64.wrap a * IntKind.i64.wrap b - a * b = IntKind.i64.wrap a * (IntKind.i64.wrap b - b) + (IntKind.i64.wrap a - a) * b := by
    rw [Int.mul_sub, Int.sub_mul]; omega
  rw [e]
  exact Int.dvd_add (Int.dvd_mul_of_dvd_right (wrap_dvd b)) (Int.dvd_mul_of_dvd_left (wrap_dvd a))
theorem wrap_three (P s C : Int) (hs : IntKind.i64.wrap s = s) : IntKind.i64.wrap (IntKind.i64.wrap P * IntKind.i64.wrap (s * IntKind.i64.wrap C)) = IntKind.i64.wrap (P * (s * C)) := by
  have h1 : IntKind.i64.wrap (s * IntKind.i64.wrap C) = IntKind.i64.wrap (s * C) := by
    have := wrap_mul s C
    rwa [hs] at this
  rw [h1, wrap_mul]
end Go.Proofs.Ytlnofjkdpoiabaa

namespace Go.Proofs.Ytlnofjkdpoiabaa
open Go.RowKit

theorem lawS7 : Maps.Keyed Try.prog 9 := Maps.string_keyed Try.underlying9
theorem strKey7 (y : List UInt8) : WideAt.IsKeyLit (.string y) := trivial
theorem below_grown7 {w w' : World} (h : Below w.heap.size w w') : w.grownBy w' none := ⟨h.os, h.tape, h.output, h.size, fun i hi _ => h.block i hi⟩
theorem zeroI7 (w : World) : (zeroValue 3).run Try.prog w = .ok (.int .i64 0) w := by kernel_rfl
theorem wf_smallC3 (x : Int) (h : -1000 ≤ x ∧ x ≤ 100000) : (Lit.int .i64 x).wf = true := by
  have h1 : IntKind.i64.min = -9223372036854775808 := rfl
  have h2 : IntKind.i64.max = 9223372036854775807 := rfl
  simp [Lit.wf]; omega
/-! ### numbers come round -/
/-- how often each text was met -/
def CntAre (D : DataW Unit) (L : List (List UInt8)) : Prop := Maps.IsMap D ∧ ∀ t, D.atKey (.string t) (.lit (.int .i64 0)) = .lit (.int .i64 (L.count t : Int))
theorem cnt_none : CntAre (.map [] : DataW Unit) [] := ⟨Maps.isMap_empty, fun _ => rfl⟩
theorem CntAre.add {D : DataW Unit} {L : List (List UInt8)} (h : CntAre D L) (t : List UInt8) : CntAre (D.put (.string t) (.lit (.int .i64 ((L.count t : Int) + 1)))) (L ++ [t]) := by
  refine ⟨h.1.put _ _, fun s => ?_⟩
  rw [List.count_append, List.count_singleton]
  by_cases e : s = t
  · subst e
    rw [Maps.atKey_put_same h.1 (strKey7 s)]
    simp
  · rw [Maps.atKey_put_other (fun q => e (by cases q; rfl)), h.2 s]
    have : (t == s) = false := by simpa using fun q => e q.symm
    simp [this]
theorem txts_next {E : Edges} {d : Nat} {L : List (Nat × Int)} {k : Nat} (hk : k < L.length) : txts E d (L.take (k + 1)) = txts E d (L.take k) ++ [txt E d L[k].1 L[k].2] := by
  unfold txts
  rw [List.take_succ_eq_append_getElem hk, List.map_append]; rfl
/-- the branches that are counted -/
def GoodB (n : Nat) (E : Edges) (d : Nat) (L : List (Nat × Int)) : Prop := L.length ≤ 128 ∧ ∀ b ∈ L, b.1 < n ∧ Brn E d b.1 b.2 ∧ (nds E d b.1 b.2).length ≤ 64
theorem GoodB.parts {n : Nat} {E : Edges} {d : Nat} {L : List (Nat × Int)} (ho : ∀ e ∈ E, e.1 < n ∧ e.2 < n) (hE : E.length ≤ 64) (h : GoodB n E (d + 1) L) {b : Nat × Int} (hb : b ∈ L) : GoodB n E d (prt E b) := by
  obtain ⟨_, h2, h3⟩ := h.2 b hb
  refine ⟨?_, fun c hc => ?_⟩
  · have h1 := prt_length E b.1 b.2
    have h2 := away_len E b.1 b.2
    have : (prt E b).length = (away E b.1 b.2).length := h1
    omega
  · unfold Go.Proofs.Ytlnofjkdpoiabaa.prt at hc
    obtain ⟨x, hx, rfl⟩ := List.mem_map.1 hc
    exact ⟨(away_lt ho hx).1, h2 x hx, by have := nds_sub (d := d) hx; simp only; omega⟩

end Go.Proofs.Ytlnofjkdpoiabaa
