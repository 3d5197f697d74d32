/-
  Plain facts that hold of every word of up to nine pairs, by trying all of them: its row behind a stack holds no number twice, and no three numbers that stand so that a lesser one is followed by a greater one and both are behind a greater one still.
-/
import Derived.Test.YtpphilladlladaaWTree
import Derived.Test.YtpphilladlladaaWChunks
namespace Go.Proofs.Ytpphilladlladaa

def noPat (z : Nat) : List Nat → Bool
  | [] => true
  | y :: r => (r.all fun x => !(decide (y < x) && decide (x < z))) && noPat z r
def patB : List Nat → Bool
  | [] => true
  | z :: r => noPat z r && patB r
def nodB : List Nat → Bool
  | [] => true
  | z :: r => (r.all fun x => !(x == z)) && nodB r
def stackN (s : List UInt8) : List Nat := (stackF s).2.1
def stackGood (s : List UInt8) : Bool := patB (stackN s) && nodB (stackN s) && (stackN s).all (fun x => decide (x < s.length / 2)) && ((stackN s).length == s.length / 2)

set_option maxRecDepth 100000 in
theorem stack_p0 : (part 0).all stackGood = true := by decide +kernel
set_option maxRecDepth 100000 in
theorem stack_p1 : (part 1).all stackGood = true := by decide +kernel
set_option maxRecDepth 100000 in
theorem stack_p2 : (part 2).all stackGood = true := by decide +kernel
set_option maxRecDepth 100000 in
theorem stack_p3 : (part 3).all stackGood = true := by decide +kernel
set_option maxRecDepth 100000 in
theorem stack_p4 : (part 4).all stackGood = true := by decide +kernel
set_option maxRecDepth 100000 in
theorem stack_p5 : (part 5).all stackGood = true := by decide +kernel
set_option maxRecDepth 100000 in
theorem stack_p6 : (part 6).all stackGood = true := by decide +kernel
set_option maxRecDepth 100000 in
theorem stack_p7 : (part 7).all stackGood = true := by decide +kernel
theorem stack_good (l : List UInt8) (hv : valid l = true) : stackGood l = true := of_parts stackGood stack_p0 stack_p1 stack_p2 stack_p3 stack_p4 stack_p5 stack_p6 stack_p7 l hv

theorem noPat_spec (z : Nat) : ∀ (r : List Nat), noPat z r = true → ∀ (j k : Nat) (hk : k < r.length) (hjk : j < k), ¬ (r[j]'(by omega) < r[k] ∧ r[k] < z) := by
  intro r
  induction r with
  | nil => intro _ j k hk; simp at hk
  | cons y r ih =>
    intro h j k hk hjk
    simp only [noPat, Bool.and_eq_true] at h
    obtain ⟨k', rfl⟩ : ∃ k', k = k' + 1 := ⟨k - 1, by omega⟩
    have hk' : k' < r.length := by simpa using hk
    cases j with
    | zero =>
      have := List.all_eq_true.1 h.1 r[k'] (List.getElem_mem hk')
      simp at this
      intro hh
      simp at hh
      omega
    | succ j => simpa using ih h.2 j k' hk' (by omega)
theorem patB_spec : ∀ (r : List Nat), patB r = true → ∀ (i j k : Nat) (hk : k < r.length) (hij : i < j) (hjk : j < k), ¬ (r[j]'(by omega) < r[k] ∧ r[k] < r[i]'(by omega)) := by
  intro r
  induction r with
  | nil => intro _ i j k hk; simp at hk
  | cons z r ih =>
    intro h i j k hk hij hjk
    simp only [patB, Bool.and_eq_true] at h
    obtain ⟨k', rfl⟩ : ∃ k', k = k' + 1 := ⟨k - 1, by omega⟩
    obtain ⟨j', rfl⟩ : ∃ j', j = j' + 1 := ⟨j - 1, by omega⟩
    have hk' : k' < r.length := by simpa using hk
    cases i with
    | zero => simpa using noPat_spec z r h.1 j' k' hk' (by omega)
    | succ i => simpa using ih h.2 i j' k' hk' (by omega) (by omega)
theorem nodB_spec : ∀ (r : List Nat), nodB r = true → r.Nodup := by
  intro r
  induction r with
  | nil => intro _; exact List.nodup_nil
  | cons z r ih =>
    intro h
    simp only [nodB, Bool.and_eq_true] at h
    refine List.nodup_cons.2 ⟨fun hz => ?_, ih h.2⟩
    have := List.all_eq_true.1 h.1 z hz
    simp at this
end Go.Proofs.Ytpphilladlladaa
