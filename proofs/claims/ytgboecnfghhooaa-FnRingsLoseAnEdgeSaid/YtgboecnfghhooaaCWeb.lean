/-
  The contract of the model's test of a web.
-/
import Derived.Test.YtgboecnfghhooaaCVTree
import Derived.Test.YtgboecnfghhooaaCVCode
namespace Go.Proofs.Ytgboecnfghhooaa
open Go.RowKit

def rowW (n : Int) (r : List Int) : Prop := r.length = 2 ∧ (0 ≤ r.getD 0 0 ∧ r.getD 0 0 ≤ n - 1) ∧ (0 ≤ r.getD 1 0 ∧ r.getD 1 0 ≤ n - 1)
instance (n : Int) (r : List Int) : Decidable (rowW n r) := by unfold rowW; infer_instance
def webB (n : Int) (rows : List (List Int)) : Bool := decide ((∀ r ∈ rows, rowW n r) ∧ (1 ≤ n ∧ n ≤ 5) ∧ rows.length ≤ 8)
theorem webB_iff {n : Int} {rows : List (List Int)} : webB n rows = true ↔ (∀ r ∈ rows, rowW n r) ∧ (1 ≤ n ∧ n ≤ 5) ∧ rows.length ≤ 8 := by unfold webB; exact decide_eq_true_iff
theorem webB_no {n m : Int} {rows : List (List Int)} {k : Nat} (hk : k < rows.length) (hm : m = IntKind.i64.wrap (n - 1)) (h : ¬ (rows[k].length = 2 ∧ (0 ≤ rows[k].getD 0 0 ∧ rows[k].getD 0 0 ≤ m) ∧ (0 ≤ rows[k].getD 1 0 ∧ rows[k].getD 1 0 ≤ m))) : webB n rows = false := by
  cases hb : webB n rows with
  | false => rfl
  | true =>
    exfalso
    obtain ⟨h1, h2, _⟩ := webB_iff.1 hb
    have e : m = n - 1 := by rw [hm, IntKind.wrap_i64]; omega
    rw [e] at h
    exact h (h1 _ (List.getElem_mem hk))
set_option maxHeartbeats 3200000 in
set_option maxRecDepth 100000 in
theorem validWeb_any (n : Int) (rows : List (List Int)) (v : Value) (RV : List Value) (w : World) {B0 H0 : Nat} (hG : Hid (Grid w B0 H0 v RV rows)) (hrl : rows.length ≤ 1048576) :
    Calls Try.prog 47 #[.int .i64 n, v] w fun e w' => e = .returned (.bool (webB n rows)) ∧ w = w' := by
  obtain ⟨av, cv, rfl, _, hcv, _, _⟩ := hG.out.1.slice
  have hgl := hG.out.2.1
  rw [hgl] at hG hcv ⊢
  obtain ⟨m, hm⟩ : ∃ m, m = IntKind.i64.wrap (n - 1) := ⟨_, rfl⟩
  have HM := Lib.hid hm
  have ew := hm.symm
  clear hm hgl
  go_enter Try.func47, Try.ntmps47
  go_wp2
  go_loop [5] (fun i => ∃ k : Nat, k ≤ rows.length ∧ i = .int .i64 (k : Int) ∧ Hid (∀ (j : Nat) (hj : j < rows.length), j < k → rows[j].length = 2 ∧ (0 ≤ rows[j].getD 0 0 ∧ rows[j].getD 0 0 ≤ m) ∧ (0 ≤ rows[j].getD 1 0 ∧ rows[j].getD 1 0 ≤ m))) (fun i => rows.length - (intOf i).toNat)
  case atStart => exact ⟨0, Nat.zero_le _, rfl, fun j _ h => by omega⟩
  case round =>
    obtain ⟨k, hk, rfl, HN⟩ := hrel
    by_cases hlt : k < rows.length
    · have b1 : (k : Int) < (rows.length : Int) := by omega
      by_cases h2 : rows[k].length = 2
      · obtain ⟨x, y, hxy⟩ : ∃ x y, rows[k] = [x, y] := by
          match hr : rows[k], h2 with
          | [x, y], _ => exact ⟨x, y, rfl⟩
        obtain ⟨ga, gr, cr, rfl, hcr, c1, c2, c3⟩ := pair_at hG.out hlt hxy
        have hg0 : rows[k].getD 0 0 = x := by rw [hxy]; rfl
        have hg1 : rows[k].getD 1 0 = y := by rw [hxy]; rfl
        have q2 : ((2 : Int) != 2) = false := rfl
        by_cases hx : 0 ≤ x ∧ x ≤ m
        · have CX := Lib.hid (inRB x 0 m w (Lib.hid (decide_eq_true hx)))
          by_cases hy : 0 ≤ y ∧ y ≤ m
          · have CY := Lib.hid (inRB y 0 m w (Lib.hid (decide_eq_true hy)))
            have HN' : Hid (∀ (j : Nat) (hj : j < rows.length), j < k + 1 → rows[j].length = 2 ∧ (0 ≤ rows[j].getD 0 0 ∧ rows[j].getD 0 0 ≤ m) ∧ (0 ≤ rows[j].getD 1 0 ∧ rows[j].getD 1 0 ≤ m)) := fun j hj hjk => by
              by_cases e : j = k
              · subst e; rw [hg0, hg1]; exact ⟨h2, hx, hy⟩
              · exact HN.out j hj (by omega)
            clear hx hy HN h2 hxy hg0 hg1
            go_wp2_with fail
            refine CX.out.mono ?_
            rintro e w1 ⟨rfl, rfl⟩
            go_wp2_with fail
            refine CY.out.mono ?_
            rintro e w1 ⟨rfl, rfl⟩
            clear CX CY
            go_wp2
            go_round
            case rel => exact ⟨k + 1, by omega, by go_num, HN'⟩
            case measure => simp [intOf]; omega
          · have CY := Lib.hid (inRB y 0 m w (Lib.hid (decide_eq_false hy)))
            have HF := Lib.hid (webB_no hlt HM.out (by rw [hg0, hg1]; exact fun h => hy h.2.2))
            clear hx hy HN h2 hxy hg0 hg1
            go_wp2_with fail
            refine CX.out.mono ?_
            rintro e w1 ⟨rfl, rfl⟩
            go_wp2_with fail
            refine CY.out.mono ?_
            rintro e w1 ⟨rfl, rfl⟩
            clear CX CY
            go_wp2
            go_ret
            exact ⟨by rw [HF.out]; rfl, rfl⟩
        · have CX := Lib.hid (inRB x 0 m w (Lib.hid (decide_eq_false hx)))
          have HF := Lib.hid (webB_no hlt HM.out (by rw [hg0]; exact fun h => hx h.2.1))
          clear hx HN h2 hxy hg0 hg1
          go_wp2_with fail
          refine CX.out.mono ?_
          rintro e w1 ⟨rfl, rfl⟩
          clear CX
          go_wp2
          go_ret
          exact ⟨by rw [HF.out]; rfl, rfl⟩
      · obtain ⟨ga, au, cu, rfl, hcu, _, c1⟩ := row_len hG.out hlt
        have HF := Lib.hid (webB_no hlt HM.out (fun h => h2 h.1))
        obtain ⟨z, hz⟩ : ∃ z, z = rows[k].length := ⟨_, rfl⟩
        rw [← hz] at h2 hcu c1
        have q1 : ((z : Int) == 2) = false := by rw [beq_eq_false_iff_ne]; omega
        have q2 : ((z : Int) != 2) = true := by rw [bne, q1]; rfl
        clear h2 HN hz
        go_wp2
        go_ret
        exact ⟨by rw [HF.out]; rfl, rfl⟩
    · obtain rfl : k = rows.length := by omega
      clear hlt hk
      by_cases hn : 1 ≤ n ∧ n ≤ 5
      · have C := Lib.hid (inRB n 1 5 w (Lib.hid (decide_eq_true hn)))
        have HA : Hid (webB n rows = decide ((rows.length : Int) ≤ 8)) := by
          have h3 : m = n - 1 := by rw [HM.out, IntKind.wrap_i64]; omega
          show decide _ = decide _
          refine decide_eq_decide.2 ⟨fun h => by omega, fun h => ⟨fun r hr => ?_, hn, by omega⟩⟩
          obtain ⟨j, hj, rfl⟩ := List.getElem_of_mem hr
          have := HN.out j hj hj
          rw [h3] at this
          exact this
        clear hn HN
        go_wp2_with fail
        refine C.out.mono ?_
        rintro e w1 ⟨rfl, rfl⟩
        clear C
        go_wp2
        go_ret
        exact ⟨by rw [HA.out]; rfl, rfl⟩
      · have C := Lib.hid (inRB n 1 5 w (Lib.hid (decide_eq_false hn)))
        have HF : Hid (webB n rows = false) := by
          cases hb : webB n rows with
          | false => rfl
          | true => exact absurd (webB_iff.1 hb).2.1 hn
        clear hn HN
        go_wp2_with fail
        refine C.out.mono ?_
        rintro e w1 ⟨rfl, rfl⟩
        clear C
        go_wp2
        go_ret
        exact ⟨by rw [HF.out]; rfl, rfl⟩
end Go.Proofs.Ytgboecnfghhooaa
