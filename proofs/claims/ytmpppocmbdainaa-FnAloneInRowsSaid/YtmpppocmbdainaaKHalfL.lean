/-
  What the law on centers and longest ways asks of the plain functions; the greatest of numbers.
-/
import Derived.Test.YtmpppocmbdainaaKRootL
import Derived.Test.YtmpppocmbdainaaZRL
import Derived.Test.YtmpppocmbdainaaZW
namespace Go.Proofs.Ytmpppocmbdainaa
open Go.RowKit

def grL (l : List Int) : Int := l.foldl max 0
theorem gr_next (l : List Int) {k : Nat} (hk : k < l.length) : grL (l.take (k + 1)) = max (grL (l.take k)) l[k] := by
  unfold grL
  rw [List.take_succ_eq_append_getElem hk, List.foldl_append]; rfl
theorem gr_fold : ∀ (l : List Int) (m K : Int), (∀ x ∈ l, x ≤ K) → m ≤ K → (m = K ∨ K ∈ l) → l.foldl max m = K
  | [], m, K, _, _, h => by
    rcases h with h | h
    · exact h
    · simp at h
  | a :: r, m, K, hl, hm, h => by
    rw [List.foldl_cons]
    have ha := hl a (by simp)
    refine gr_fold r (max m a) K (fun x hx => hl x (List.mem_cons_of_mem _ hx)) (by omega) ?_
    rcases h with h | h
    · left; omega
    · rcases List.mem_cons.1 h with e | h
      · left; omega
      · right; exact h
theorem gr_all {l : List Int} {K : Nat} (h : ∀ x ∈ l, 0 ≤ x ∧ x ≤ (K : Int)) (hK : (K : Int) ∈ l) : grL l = K := gr_fold l 0 K (fun x hx => (h x hx).2) (by omega) (.inr hK)
set_option maxHeartbeats 800000 in
theorem greatest_any (l : List Int) (K : Nat) (v : Value) (w : World) {B H : Nat} (hv : Hid (Own w B H 3 v (iv l))) (hl : l.length ≤ 64) (h : Hid (∀ x ∈ l, 0 ≤ x ∧ x ≤ (K : Int))) (hK : Hid ((K : Int) ∈ l)) :
    Calls Try.prog 25 #[v] w fun e w' => e = .returned (.int .i64 (K : Int)) ∧ w = w' := by
  obtain ⟨av, cv, rfl, _⟩ := hv.out.slice
  rw [iv_length] at hv ⊢
  obtain ⟨m, hm⟩ : ∃ m, m = l.length := ⟨_, rfl⟩
  have HM := Lib.hid hm
  rw [← hm] at hv hl ⊢
  have S0 : Hid ((0 : Int) = grL (l.take 0)) := by show _ = _; simp [grL]
  have GA := Lib.hid (gr_all h.out hK.out)
  clear hm
  go_enter Try.func25, Try.ntmps25
  go_wp2
  go_loop [3, 4] (fun e3 ii => ∃ (k : Nat) (z : Int), k ≤ m ∧ ii = .int .i64 (k : Int) ∧ e3 = .int .i64 z ∧ Hid (z = grL (l.take k))) (fun _ ii => m - (intOf ii).toNat)
  case atStart => exact ⟨0, 0, Nat.zero_le _, rfl, rfl, S0⟩
  case round =>
    clear S0
    obtain ⟨k, z, hk, rfl, rfl, HZ⟩ := hrel
    by_cases hlt : k < m
    · have b1 : (k : Int) < (m : Int) := by omega
      have hkl : k < l.length := by rw [← HM.out]; exact hlt
      obtain ⟨g, rfl, _, _, c0, _⟩ := hv.out.at_ k (by rw [iv_length]; exact hkl)
      rw [iv_at l k hkl] at c0
      have GN := gr_next l hkl
      obtain ⟨y, hy⟩ : ∃ y, y = l[k] := ⟨_, rfl⟩
      rw [← hy] at c0 GN
      have ZN : Hid (grL (l.take (k + 1)) = max z y) := by show _ = _; rw [GN, HZ.out]
      clear hy GN HZ hkl
      rcases Int.lt_trichotomy z y with hz | hz | hz
      · go_wp2
        go_round
        case rel => exact ⟨k + 1, _, by omega, by go_num, rfl, by have := ZN.out; show _ = _; omega⟩
        case measure => simp [intOf]; omega
      · subst hz
        go_wp2
        go_round
        case rel => exact ⟨k + 1, _, by omega, by go_num, rfl, by have := ZN.out; show _ = _; omega⟩
        case measure => simp [intOf]; omega
      · go_wp2
        go_round
        case rel => exact ⟨k + 1, _, by omega, by go_num, rfl, by have := ZN.out; show _ = _; omega⟩
        case measure => simp [intOf]; omega
    · obtain rfl : k = m := by omega
      have HF : Hid (z = (K : Int)) := by
        show _ = _
        rw [HZ.out, HM.out, List.take_length, GA.out]
      clear HZ
      go_wp2
      go_ret
      rw [HF.out]
      exact ⟨rfl, rfl⟩
/-- the greatest of the first -/
def mxN (f : Nat → Nat) : Nat → Nat
  | 0 => 0
  | k + 1 => max (mxN f k) (f k)
theorem mxN_all {f : Nat → Nat} {M : Nat} : ∀ (N : Nat), (∀ v, v < N → f v ≤ M) → mxN f N ≤ M ∧ ∀ v, v < N → f v ≤ mxN f N
  | 0, _ => ⟨Nat.zero_le _, fun v hv => absurd hv (Nat.not_lt_zero _)⟩
  | N + 1, h => by
    obtain ⟨h1, h2⟩ := mxN_all N (fun v hv => h v (by omega))
    have h3 := h N (by omega)
    refine ⟨by rw [mxN]; omega, fun v hv => ?_⟩
    rw [mxN]
    by_cases e : v = N
    · rw [e]; omega
    · have := h2 v (by omega); omega
theorem halfL_facts {n : Int} {rows : List (List Int)} (h : centsOut n rows ≠ []) : ∃ (N M c : Nat) (f : Nat → Nat), n = N ∧ 1 ≤ N ∧ N ≤ 7 ∧ c < N ∧ (iv (centsOut n rows))[0]? = some (.int .i64 (c : Int)) ∧ (∀ v : Nat, v < N → (rootOut n rows v).length = 2 * N ∧ (∀ k ∈ depOut (rootOut n rows v), 0 ≤ k ∧ k ≤ (f v : Int)) ∧ (f v : Int) ∈ depOut (rootOut n rows v) ∧ f v ≤ 14) ∧ mxN f N = M ∧ M ≤ 14 ∧ f c = (M + 1) / 2 ∧ ((centsOut n rows).length = 2 ↔ M % 2 = 1) := by
  have ht : treeB n rows = true := by
    cases ht : treeB n rows with
    | true => rfl
    | false => exfalso; apply h; unfold centsOut; rw [if_neg (by rw [ht]; decide)]
  obtain ⟨h1, _, h3⟩ := treeB_iff.1 ht
  have h7 : n.toNat ≤ 7 := by omega
  have hco : centsOut n rows = intsN (cents n.toNat (edgesR rows)) := by unfold centsOut; rw [if_pos ht]
  obtain ⟨M, m1, ⟨u, hu, hum⟩, m3, m4⟩ := halves h3 h7
  have hfl : ∀ v, v < n.toNat → far (edgesR rows) 14 v (-1) ≤ 14 := fun v hv => by have := far_le h3 h7 hv; omega
  obtain ⟨c, r, hcr⟩ : ∃ c r, cents n.toNat (edgesR rows) = c :: r := by
    cases hc : cents n.toNat (edgesR rows) with
    | nil => exfalso; apply h; rw [hco, hc]; rfl
    | cons c r => exact ⟨c, r, rfl⟩
  have hcn : c < n.toNat := by
    rcases cents_two h3 h7 with ⟨a, e, ha⟩ | ⟨a, b, e, hab, hb, _⟩
    · rw [e] at hcr; cases hcr; exact ha
    · rw [e] at hcr; cases hcr; omega
  obtain ⟨x1, x2⟩ := mxN_all (f := fun v => far (edgesR rows) 14 v (-1)) n.toNat m1
  have x3 := x2 u hu
  refine ⟨n.toNat, M, c, fun v => far (edgesR rows) 14 v (-1), by omega, by omega, h7, hcn, by rw [hco, hcr]; rfl, fun v hv => ?_, Nat.le_antisymm x1 (by rw [← hum]; exact x3), by rw [← hum]; exact hfl u hu, m3 c (by rw [hcr]; simp), ?_⟩
  · have hro : rootOut n rows v = txt (edgesR rows) 14 v (-1) := by unfold rootOut; rw [if_pos ⟨ht, by omega, by omega⟩, Int.toNat_natCast]
    obtain ⟨N', u', g, D, e1, e2, e3, e4, e5, e6, _, e8, _⟩ := rootL_facts (n := n) (r := v) (rows := rows) (by
      rw [hro]
      intro e
      have := congrArg List.length e
      rw [txt_len, nd_len h3 h7 hv] at this
      simp at this
      omega)
    have hdo : depOut (rootOut n rows v) = depthsL (txt (edgesR rows) 14 v (-1)) := by
      unfold depOut; rw [if_pos e6, hro]
    obtain ⟨d1, d2⟩ := depths_far (valid_brn h3 h7 v (-1))
    rw [hdo]
    exact ⟨by omega, d1, d2, hfl v hv⟩
  · rw [hco, intsN, List.length_map]; exact m4
end Go.Proofs.Ytmpppocmbdainaa
