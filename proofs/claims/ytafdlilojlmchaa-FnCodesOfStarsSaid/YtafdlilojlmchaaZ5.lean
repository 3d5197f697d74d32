/-
  The contract of the model's test of a code.
  The contract of the model's test of a web.
-/
import Derived.Test.YtafdlilojlmchaaZH
import Derived.Test.YtafdlilojlmchaaZV
import Derived.Test.YtafdlilojlmchaaCVTree
namespace Go.Proofs.Ytafdlilojlmchaa
open Go.RowKit

def codeB (n : Int) (code : List Int) : Bool := decide ((∀ x ∈ code, 0 ≤ x ∧ x ≤ n - 1) ∧ (1 ≤ n ∧ n ≤ 7) ∧ code.length = (n - 2).toNat)
theorem codeB_no {n : Int} {code : List Int} (h : ¬ (1 ≤ n ∧ n ≤ 7)) : codeB n code = false := decide_eq_false fun hh => h hh.2.1
theorem inRB (x lo hi : Int) (w : World) {b : Bool} (hb : Hid (decide (lo ≤ x ∧ x ≤ hi) = b)) :
    Calls Try.prog 54 #[.int .i64 x, .int .i64 lo, .int .i64 hi] w fun e w' => e = .returned (.bool b) ∧ w = w' := by
  by_cases h : lo ≤ x ∧ x ≤ hi
  · obtain rfl : b = true := by rw [← hb.out]; exact decide_eq_true h
    exact inRange_yes x lo hi w h.1 h.2
  · obtain rfl : b = false := by rw [← hb.out]; exact decide_eq_false h
    exact inRange_no x lo hi w (by omega)

set_option maxHeartbeats 1600000 in
theorem validCode_any (n : Int) (code : List Int) (v : Value) (w : World) {B H : Nat} (hv : Hid (Own w B H 3 v (iv code))) (hl : code.length ≤ 1048576) :
    Calls Try.prog 47 #[.int .i64 n, v] w fun e w' => e = .returned (.bool (codeB n code)) ∧ w = w' := by
  obtain ⟨av, cv, rfl, _, hcv, _, _⟩ := hv.out.slice
  rw [iv_length] at hv hcv ⊢
  obtain ⟨m, hm⟩ : ∃ m, m = IntKind.i64.wrap (n - 1) := ⟨_, rfl⟩
  have HM := Lib.hid hm
  have ew := hm.symm
  clear hm
  go_enter Try.func47, Try.ntmps47
  go_wp2
  go_loop [5] (fun i => ∃ k : Nat, k ≤ code.length ∧ i = .int .i64 k ∧ Hid (∀ (j : Nat) (hj : j < code.length), j < k → 0 ≤ code[j] ∧ code[j] ≤ m)) (fun i => code.length - (intOf i).toNat)
  case atStart => exact ⟨0, Nat.zero_le _, rfl, fun j _ h => by omega⟩
  case round =>
    obtain ⟨k, hk, rfl, HN⟩ := hrel
    by_cases hlt : k < code.length
    · obtain ⟨g1, rfl, _, _, h1, _⟩ := hv.out.at_ k (by rw [iv_length]; exact hlt)
      rw [iv_at code k hlt] at h1
      have b1 : (k : Int) < (code.length : Int) := by omega
      obtain ⟨y, hy⟩ : ∃ y, y = code[k] := ⟨_, rfl⟩
      rw [← hy] at h1
      have HY := Lib.hid hy
      clear hy
      by_cases hin : 0 ≤ y ∧ y ≤ m
      · have C := Lib.hid (inRange_yes y 0 m w hin.1 hin.2)
        have HN' : Hid (∀ (j : Nat) (hj : j < code.length), j < k + 1 → 0 ≤ code[j] ∧ code[j] ≤ m) := fun j hj hjk => by
          by_cases e : j = k
          · subst e; rw [← HY.out]; exact hin
          · exact HN.out j hj (by omega)
        clear hin HN
        go_wp2_with fail
        refine C.out.mono ?_
        rintro e w1 ⟨rfl, rfl⟩
        clear C
        go_wp2
        go_round
        case rel => exact ⟨k + 1, by omega, by go_num, HN'⟩
        case measure => simp [intOf]; omega
      · have C := Lib.hid (inRange_no y 0 m w (by omega))
        have HF : Hid (codeB n code = false) := decide_eq_false fun hh => by
          have h2 := hh.1 _ (List.getElem_mem hlt)
          rw [← HY.out] at h2
          have h3 : IntKind.i64.wrap (n - 1) = n - 1 := by rw [IntKind.wrap_i64]; omega
          rw [HM.out, h3] at hin
          exact hin h2
        clear hin HN
        go_wp2_with fail
        refine C.out.mono ?_
        rintro e w1 ⟨rfl, rfl⟩
        clear C
        go_wp2
        go_ret
        exact ⟨by rw [HF.out]; rfl, rfl⟩
    · obtain rfl : k = code.length := by omega
      clear hlt hk
      by_cases hn : 1 ≤ n ∧ n ≤ 7
      · have C := Lib.hid (inRange_yes n 1 7 w hn.1 hn.2)
        have e2 : IntKind.i64.wrap (n - 2) = n - 2 := by rw [IntKind.wrap_i64]; omega
        have HA : Hid (codeB n code = decide (code.length = (n - 2).toNat)) := by
          have h3 : IntKind.i64.wrap (n - 1) = n - 1 := by rw [IntKind.wrap_i64]; omega
          have h4 : ∀ x ∈ code, 0 ≤ x ∧ x ≤ n - 1 := fun x hx => by
            obtain ⟨j, hj, rfl⟩ := List.getElem_of_mem hx
            have := HN.out j hj hj
            rw [HM.out, h3] at this
            exact this
          show decide _ = decide _
          exact decide_eq_decide.2 ⟨fun h => h.2.2, fun h => ⟨h4, hn, h⟩⟩
        have HX : Hid (∀ z : Int, (z = n - 2 ∧ 0 ≤ n - 2) ∨ (z = 0 ∧ n - 2 < 0) → ((code.length : Int) == z) = codeB n code) := fun z hz => by
          rw [HA.out, Bool.eq_iff_iff, beq_iff_eq, decide_eq_true_iff]
          omega
        clear hn HN HA
        go_wp2_with fail
        refine C.out.mono ?_
        rintro e w1 ⟨rfl, rfl⟩
        clear C
        by_cases hz : 0 ≤ n - 2
        · have hq := HX.out (n - 2) (.inl ⟨rfl, hz⟩)
          go_wp2
          go_ret
          exact ⟨rfl, rfl⟩
        · have hz' : n - 2 < 0 := by omega
          have hq := HX.out 0 (.inr ⟨rfl, hz'⟩)
          go_wp2
          go_ret
          exact ⟨rfl, rfl⟩
      · have C := Lib.hid (inRange_no n 1 7 w (by omega))
        have HF := Lib.hid (codeB_no (code := code) hn)
        clear hn HN
        go_wp2_with fail
        refine C.out.mono ?_
        rintro e w1 ⟨rfl, rfl⟩
        clear C
        go_wp2
        go_ret
        exact ⟨by rw [HF.out]; rfl, rfl⟩
end Go.Proofs.Ytafdlilojlmchaa

namespace Go.Proofs.Ytafdlilojlmchaa
open Go.RowKit

def rowW (n : Int) (r : List Int) : Prop := r.length = 2 ∧ (0 ≤ r.getD 0 0 ∧ r.getD 0 0 ≤ n - 1) ∧ (0 ≤ r.getD 1 0 ∧ r.getD 1 0 ≤ n - 1)
instance (n : Int) (r : List Int) : Decidable (rowW n r) := by unfold rowW; infer_instance
def webB (n : Int) (rows : List (List Int)) : Bool := decide ((∀ r ∈ rows, rowW n r) ∧ (1 ≤ n ∧ n ≤ 5) ∧ rows.length ≤ 8)
theorem webB_iff {n : Int} {rows : List (List Int)} : webB n rows = true ↔ (∀ r ∈ rows, rowW n r) ∧ (1 ≤ n ∧ n ≤ 5) ∧ rows.length ≤ 8 := by unfold webB; exact decide_eq_true_iff
theorem webB_no {n m : Int} {rows : List (List Int)} {k : Nat} (hk : k < rows.length) (hm : m = IntKind.i64.wrap (n - 1)) (h : ¬ (rows[k].length = 2 ∧ (0 ≤ rows[k].getD 0 0 ∧ rows[k].getD 0 0 ≤ m) ∧ (0 ≤ rows[k].getD 1 0 ∧ rows[k].getD 1 0 ≤ m))) : webB n rows = false := by
  cases hb : webB n rows with
  | false => rfl
  | true =>
    exfalso
    obtain ⟨h1, h2, _⟩ := webB_iff.1 hb
    have e : m = n - 1 := by rw [hm, IntKind.wrap_i64]; omega
    rw [e] at h
    exact h (h1 _ (List.getElem_mem hk))
end Go.Proofs.Ytafdlilojlmchaa
