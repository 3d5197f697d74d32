/-
  What is answered of free trees, of any rows. Nothing of the program is named here.
-/
import Derived.Test.YthlboikljibohaaZW
import Derived.Test.YthlboikljibohaaZJ
import Derived.Lib.MinMaxS
namespace Go.Proofs.Ythlboikljibohaa
open Go.RowKit

def intsN (L : List Nat) : List Int := L.map fun (x : Nat) => (x : Int)
def rootOut (n : Int) (rows : List (List Int)) (r : Int) : List UInt8 := if treeB n rows = true ∧ 0 ≤ r ∧ r < n then txt (edgesR rows) 14 r.toNat (-1) else []
def freeOut (n : Int) (rows : List (List Int)) : List UInt8 := if treeB n rows = true then freeT n.toNat (edgesR rows) else []
def mapsOut (n : Int) (rows : List (List Int)) : Int := if treeB n rows = true then IntKind.i64.wrap (mapsN n.toNat (edgesR rows) : Int) else -1
def centsOut (n : Int) (rows : List (List Int)) : List Int := if treeB n rows = true then intsN (cents n.toNat (edgesR rows)) else []
def sameOut (n : Int) (a b : List (List Int)) : Bool := treeB n a && treeB n b && decide (freeT n.toNat (edgesR a) = freeT n.toNat (edgesR b))
def leastT : List (List UInt8) → List UInt8
  | [] => []
  | x :: r => r.foldl minT x
theorem freeT_eq (n : Nat) (E : Edges) : freeT n E = leastT ((cents n E).map fun c => txt E 14 c (-1)) := by
  unfold freeT leastT
  cases (cents n E).map fun c => txt E 14 c (-1) <;> rfl
def bs (l : List UInt8) : ByteArray := ⟨l.toArray⟩
theorem minS_bs (x y : List UInt8) : Lib.minS (bs x) (bs y) = bs (minT x y) := by
  unfold Lib.minS minT
  have e1 : (bs x).data.toList = x := by simp [bs]
  have e2 : (bs y).data.toList = y := by simp [bs]
  rw [e1, e2]
  by_cases h : lessL y x = true
  · have h1 : ¬ (x < y ∨ x = y) := by
      rintro (q | q)
      · rw [← less_lt] at q
        have := less_trans _ _ _ q h
        rw [less_self] at this; cases this
      · subst q; rw [less_self] at h; cases h
    rw [if_neg h1, if_pos h]
  · have h1 : x < y ∨ x = y := by
      rcases less_total x y with q | q | q
      · exact .inl (less_lt.1 q)
      · exact .inr q
      · exact absurd q h
    rw [if_pos h1, if_neg h]
theorem fold_bs (r : List (List UInt8)) : ∀ x, (r.map bs).foldl Lib.minS (bs x) = bs (r.foldl minT x) := by
  induction r with
  | nil => intro x; rfl
  | cons a r ih => intro x; rw [List.map_cons, List.foldl_cons, List.foldl_cons, minS_bs, ih]
theorem minOf_bs {L : List (List UInt8)} (h : L ≠ []) : Lib.minOfS (L.map bs) = bs (leastT L) := by
  cases L with
  | nil => exact absurd rfl h
  | cons x r =>
    unfold Lib.minOfS leastT
    rw [List.map_cons, List.headD_cons, List.foldl_cons, minS_bs, fold_bs]
    have : minT x x = x := by unfold minT; rw [less_self]; rfl
    rw [this]
theorem leastT_mem : ∀ (L : List (List UInt8)), L ≠ [] → leastT L ∈ L
  | [], h => absurd rfl h
  | x :: r, _ => by
    show r.foldl minT x ∈ x :: r
    have key : ∀ (r : List (List UInt8)) (x : List UInt8), r.foldl minT x ∈ x :: r := by
      intro r
      induction r with
      | nil => intro x; simp
      | cons a r ih =>
        intro x
        rw [List.foldl_cons]
        have h1 := ih (minT x a)
        have h2 : minT x a = x ∨ minT x a = a := by
          unfold minT
          by_cases h : lessL a x = true
          · right; rw [if_pos h]
          · left; rw [if_neg h]
        rcases List.mem_cons.1 h1 with h1 | h1
        · rw [h1]; rcases h2 with h2 | h2 <;> rw [h2] <;> simp
        · simp [h1]
    exact key r x
theorem freeT_len {n : Nat} {E : Edges} (hv : ValidT n E) (h7 : n ≤ 7) : (freeT n E).length = 2 * n := by
  rw [freeT_eq]
  have hc := cents_two hv h7
  have h1 := leastT_mem ((cents n E).map fun c => txt E 14 c (-1)) (by
    intro e
    rw [List.map_eq_nil_iff] at e
    rcases hc with ⟨a, h, _⟩ | ⟨a, b, h, _⟩ <;> (rw [h] at e; cases e))
  obtain ⟨c, hcm, he⟩ := List.mem_map.1 h1
  have hcn : c < n := by
    rcases hc with ⟨a, h, h1⟩ | ⟨a, b, h, h1, h2, _⟩
    · rw [h] at hcm; simp at hcm; omega
    · rw [h] at hcm; simp at hcm; omega
  rw [← he, txt_len, nd_len hv h7 hcn]
theorem same_free {n : Int} {a b : List (List Int)} (ha : treeB n a = true) : sameOut n a b = decide (freeOut n a = freeOut n b) := by
  unfold sameOut freeOut
  rw [ha, if_pos rfl, Bool.true_and]
  cases hb : treeB n b with
  | true => rw [if_pos rfl, Bool.true_and]
  | false =>
    rw [if_neg (by decide), Bool.false_and]
    symm
    rw [decide_eq_false_iff_not]
    intro e
    obtain ⟨h1, _, h3⟩ := treeB_iff.1 ha
    have := freeT_len h3 (by omega)
    rw [e] at this
    simp at this; omega
end Go.Proofs.Ythlboikljibohaa
