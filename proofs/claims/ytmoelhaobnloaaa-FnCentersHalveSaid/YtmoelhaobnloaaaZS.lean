/-
  Plain facts: the greatest depth of the text seen from a node is the longest way from it. Nothing of the program is named here.
  Plain facts: the longest way from a center is half of the longest of all; two centers where that is odd. Nothing of the program is named here.
  What the law on centers and longest ways asks of the plain functions; the greatest of numbers.
  The walk of the law on centers and longest ways.
-/
import Derived.Test.YtmoelhaobnloaaaZR
import Derived.Test.YtmoelhaobnloaaaZW
import Derived.Test.YtmoelhaobnloaaaZU
import Derived.Test.YtmoelhaobnloaaaZG
import Derived.Test.YtmoelhaobnloaaaCFreeS
import Derived.Test.YtmoelhaobnloaaaZE
namespace Go.Proofs.Ytmoelhaobnloaaa

/-- a text whose depths reach so far, and no farther -/
def DeepT (x : List UInt8) (h : Nat) : Prop := ∀ (R : List (List Nat)) (O : List Nat), ∃ Q : List (List Nat), x.foldl stepOP (R, O) = (R ++ Q, O) ∧ (∀ z ∈ Q, z.length ≤ O.length + h) ∧ ∃ z ∈ Q, z.length = O.length + h
theorem flat_deep {L : List (List UInt8)} {H : Nat} (h : ∀ x ∈ L, ∃ k, k ≤ H ∧ DeepT x k) : ∀ (R : List (List Nat)) (O : List Nat), ∃ Q : List (List Nat), L.flatten.foldl stepOP (R, O) = (R ++ Q, O) ∧ (∀ z ∈ Q, z.length ≤ O.length + H) ∧ ((∃ x ∈ L, DeepT x H) → ∃ z ∈ Q, z.length = O.length + H) := by
  induction L with
  | nil => intro R O; exact ⟨[], by simp, by simp, fun ⟨x, hx, _⟩ => by simp at hx⟩
  | cons a r ih =>
    intro R O
    by_cases ha : DeepT a H
    · obtain ⟨Q, h1, h2, z, hz, hzl⟩ := ha R O
      obtain ⟨Q2, k1, k2, _⟩ := ih (fun x hx => h x (List.mem_cons_of_mem _ hx)) (R ++ Q) O
      refine ⟨Q ++ Q2, by rw [List.flatten_cons, List.foldl_append, h1, k1, List.append_assoc], ?_, fun _ => ⟨z, List.mem_append_left _ hz, hzl⟩⟩
      intro y hy
      rcases List.mem_append.1 hy with hy | hy
      · exact h2 y hy
      · exact k2 y hy
    · obtain ⟨k, hk, hd⟩ := h a (by simp)
      obtain ⟨Q, h1, h2, _⟩ := hd R O
      obtain ⟨Q2, k1, k2, k3⟩ := ih (fun x hx => h x (List.mem_cons_of_mem _ hx)) (R ++ Q) O
      refine ⟨Q ++ Q2, by rw [List.flatten_cons, List.foldl_append, h1, k1, List.append_assoc], ?_, ?_⟩
      · intro y hy
        rcases List.mem_append.1 hy with hy | hy
        · have := h2 y hy; omega
        · exact k2 y hy
      · rintro ⟨x, hx, hxd⟩
        rcases List.mem_cons.1 hx with e | hx
        · rw [e] at hxd; exact absurd hxd ha
        · obtain ⟨z, hz, hzl⟩ := k3 ⟨x, hx, hxd⟩
          exact ⟨z, List.mem_append_right _ hz, hzl⟩
theorem fold_get {α : Type} (f : α → Nat) : ∀ (L : List α) (m : Nat), L.foldl (fun m x => max m (f x)) m = m ∨ ∃ x ∈ L, L.foldl (fun m x => max m (f x)) m = f x
  | [], m => .inl rfl
  | a :: r, m => by
    rw [List.foldl_cons]
    rcases fold_get f r (max m (f a)) with h | ⟨x, hx, h⟩
    · rcases Nat.le_total m (f a) with k | k
      · exact .inr ⟨a, by simp, by rw [h]; omega⟩
      · exact .inl (by rw [h]; omega)
    · exact .inr ⟨x, List.mem_cons_of_mem _ hx, h⟩
theorem txt_deep {E : Edges} : ∀ (d v : Nat) (fr : Int), Brn E d v fr → DeepT (txt E d v fr) (far E d v fr) := by
  intro d
  induction d with
  | zero => intro v fr h; exact h.elim
  | succ d ih =>
    intro v fr hB R O
    rw [txt]
    by_cases he : away E v fr = []
    · rw [he]
      refine ⟨[O], ?_, ?_, O, by simp, ?_⟩
      · have := pair_fold [] R O (Q := []) (by simp)
        simpa [srtT] using this
      · intro z hz; simp at hz; rw [hz]; omega
      · rw [far, he]; rfl
    · obtain ⟨H, hH⟩ : ∃ H, far E (d + 1) v fr = 1 + H ∧ (∀ x ∈ away E v fr, far E d x v ≤ H) ∧ ∃ x ∈ away E v fr, far E d x v = H := by
        have hf : far E (d + 1) v fr = (away E v fr).foldl (fun m x => max m (1 + far E d x v)) 0 := rfl
        have hle := (fold_max (fun x => 1 + far E d x v) (away E v fr) 0 (far E (d + 1) v fr)).1 (Nat.le_of_eq hf.symm)
        rcases fold_get (fun x => 1 + far E d x v) (away E v fr) 0 with h | ⟨x, hx, h⟩
        · exfalso
          cases hA : away E v fr with
          | nil => exact he hA
          | cons a r =>
            have := hle.2 a (by rw [hA]; simp)
            rw [hf, h] at this
            omega
        · refine ⟨far E d x v, by rw [hf, h], fun y hy => ?_, x, hx, rfl⟩
          have := hle.2 y hy
          rw [hf, h] at this
          omega
      obtain ⟨h1, h2, x, hx, hxe⟩ := hH
      have hL : ∀ t ∈ srtT ((away E v fr).map fun x => txt E d x v), ∃ k, k ≤ H ∧ DeepT t k := by
        intro t ht
        rw [(srtT_perm _).mem_iff] at ht
        obtain ⟨y, hy, rfl⟩ := List.mem_map.1 ht
        exact ⟨_, h2 y hy, ih y v (hB y hy)⟩
      obtain ⟨Q, q1, q2, q3⟩ := flat_deep hL (R ++ [O]) (O ++ [R.length])
      obtain ⟨z, hz, hzl⟩ := q3 ⟨txt E d x v, by rw [(srtT_perm _).mem_iff]; exact List.mem_map.2 ⟨x, hx, rfl⟩, by rw [← hxe]; exact ih x v (hB x hx)⟩
      refine ⟨O :: Q, pair_fold _ R O q1, ?_, z, List.mem_cons_of_mem _ hz, ?_⟩
      · intro y hy
        rcases List.mem_cons.1 hy with e | hy
        · rw [e]; omega
        · have := q2 y hy
          rw [List.length_append, List.length_singleton] at this
          rw [h1]; omega
      · rw [hzl, h1, List.length_append, List.length_singleton]; omega
/-- all depths of the text are at most the longest way, and one is -/
theorem depths_far {E : Edges} {d v : Nat} {fr : Int} (hB : Brn E d v fr) : (∀ k ∈ depthsL (txt E d v fr), 0 ≤ k ∧ k ≤ (far E d v fr : Int)) ∧ (far E d v fr : Int) ∈ depthsL (txt E d v fr) := by
  obtain ⟨Q, h1, h2, z, hz, hzl⟩ := txt_deep d v fr hB [] []
  have hd : depthsL (txt E d v fr) = Q.map fun r => (r.length : Int) := by
    unfold depthsL openP
    rw [h1]; simp
  rw [hd]
  refine ⟨fun k hk => ?_, List.mem_map.2 ⟨z, hz, by rw [hzl]; simp⟩⟩
  obtain ⟨y, hy, rfl⟩ := List.mem_map.1 hk
  have := h2 y hy
  simp at this
  omega
end Go.Proofs.Ytmoelhaobnloaaa

namespace Go.Proofs.Ytmoelhaobnloaaa
section
variable {n : Nat} {E : Edges}
theorem far_get (hB : AllB E) (v : Nat) (fr : Int) : far E 14 v fr = 0 ∨ ∃ x ∈ away E v fr, far E 14 v fr = 1 + far E 14 x v := by
  by_cases h : ∃ x ∈ away E v fr, far E 14 v fr ≤ 1 + far E 14 x v
  · obtain ⟨x, hx, hle⟩ := h
    exact .inr ⟨x, hx, Nat.le_antisymm hle (far_step hB hx)⟩
  · left
    have : far E 14 v fr ≤ far E 14 v fr - 1 := far_to hB fun x hx => by
      have h1 : ¬ far E 14 v fr ≤ 1 + far E 14 x v := fun e => h ⟨x, hx, e⟩
      omega
    omega
theorem far_sub (hB : AllB E) (v : Nat) (fr : Int) : far E 14 v fr ≤ far E 14 v (-1) :=
  far_to hB fun x hx => far_step hB (mem_away.2 ⟨(mem_away.1 hx).1, by omega⟩)
theorem adj_comm {a b : Nat} (h : Adj E a b) : Adj E b a := h.symm
/-- behind an edge there is a node from which the longest way goes back over it -/
theorem low_way (hB : AllB E) : ∀ (k x c : Nat), Adj E x c → far E 14 x c = k → ∃ v u, Adj E v u ∧ far E 14 x c + 1 + far E 14 c x ≤ far E 14 v (-1) := by
  intro k
  induction k using Nat.strongRecOn with
  | _ k ih =>
    intro x c hxc hk
    rcases far_get hB x c with h0 | ⟨y, hy, hye⟩
    · have := far_step hB (v := x) (x := c) (fr := -1) (mem_away.2 ⟨hxc, by omega⟩)
      exact ⟨x, c, hxc, by omega⟩
    · obtain ⟨y1, y2⟩ := mem_away.1 hy
      obtain ⟨v, u, hv, hle⟩ := ih (far E 14 y x) (by omega) y x (adj_comm y1) rfl
      have := far_step hB (v := x) (x := c) (fr := (y : Int)) (mem_away.2 ⟨hxc, fun e => y2 e.symm⟩)
      exact ⟨v, u, hv, by omega⟩
/-- no way is longer than the two longest from a center together -/
theorem up_way (hB : AllB E) {c x1 h1 h2 : Nat} (hc : far E 14 c (-1) = h1) (hx : Adj E c x1) (hx1 : 1 + far E 14 x1 c = h1) (hh2 : far E 14 c x1 = h2) (h12 : h1 ≤ h2 + 1) {v : Nat} {p : Int} {k : Nat} (h : Way2 E c v p k) : (v = c ∧ p = -1) ∨ ∃ q : Nat, p = q ∧ Adj E v q ∧ far E 14 q v + 1 + far E 14 v q ≤ h1 + h2 ∧ far E 14 v q + 1 ≤ h1 := by
  induction h with
  | start => exact .inl ⟨rfl, rfl⟩
  | step v p k w hv hw ih =>
    right
    obtain ⟨w1, w2⟩ := mem_away.1 hw
    refine ⟨v, rfl, adj_comm w1, ?_⟩
    have hs := far_step hB hw
    rcases ih with ⟨rfl, rfl⟩ | ⟨q, rfl, hq, hT, hD⟩
    · refine ⟨?_, by omega⟩
      by_cases e : w = x1
      · subst e; omega
      · have h3 := far_step hB (v := v) (x := w) (fr := (x1 : Int)) (mem_away.2 ⟨w1, by omega⟩)
        have h4 := far_sub hB v (w : Int)
        omega
    · refine ⟨?_, by omega⟩
      rcases far_get hB v (w : Int) with h0 | ⟨y, hy, hye⟩
      · omega
      · obtain ⟨y1, y2⟩ := mem_away.1 hy
        by_cases e : y = q
        · subst e; omega
        · have h3 := far_step hB (v := v) (x := y) (fr := (q : Int)) (mem_away.2 ⟨y1, by omega⟩)
          omega
theorem halves (h : ValidT n E) (h7 : n ≤ 7) : ∃ M, (∀ v, v < n → far E 14 v (-1) ≤ M) ∧ (∃ v, v < n ∧ far E 14 v (-1) = M) ∧ (∀ c ∈ cents n E, far E 14 c (-1) = (M + 1) / 2) ∧ ((cents n E).length = 2 ↔ M % 2 = 1) := by
  obtain ⟨r, h1, h2, h3⟩ := cents_spec h h7
  have hB : AllB E := fun v fr => valid_brn h h7 v fr
  have hmem : ∀ v, v ∈ cents n E ↔ v < n ∧ far E 14 v (-1) = r := fun v => by rw [h2, List.mem_filter, List.mem_range, decide_eq_true_eq]
  have hlt : ∀ {a b : Nat}, Adj E a b → a < n ∧ b < n ∧ a ≠ b := fun {a b} hab => by
    rcases hab with q | q <;> (have := h.ord _ q; simp only at this; omega)
  obtain ⟨c, hcm⟩ := List.exists_mem_of_ne_nil _ h3
  obtain ⟨hcn, hcr⟩ := (hmem c).1 hcm
  have hreach : ∀ v, v < n → Reach E c v := fun v hv => (h.conn c hcn).symm.trans (h.conn v hv)
  rcases far_get hB c (-1) with h0 | ⟨x1, hx, hxe⟩
  · have hr0 : r = 0 := by omega
    have hone : ∀ v, v < n → v = c := by
      intro v hv
      obtain ⟨p, k, hw⟩ := way_reach (hreach v hv)
      rcases Nat.eq_zero_or_pos k with k0 | k0
      · subst k0
        cases hw
        rfl
      · exfalso
        obtain ⟨x, q, hx, _⟩ := way_far hB hw k0
        have := far_step hB (v := c) (x := x) (fr := -1) (mem_away.2 ⟨hx, by omega⟩)
        omega
    refine ⟨0, fun v hv => by rw [hone v hv, h0]; exact Nat.le_refl _, ⟨c, hcn, h0⟩, fun v hv => ?_, ?_⟩
    · rw [((hmem v).1 hv).2, hr0]
    · constructor
      · intro hl
        rcases cents_two h h7 with ⟨a, e, _⟩ | ⟨a, b, e, hab, hbn, _⟩
        · rw [e] at hl; cases hl
        · have e1 := hone a (by omega)
          have e2 := hone b hbn
          omega
      · intro hm; cases hm
  · obtain ⟨hcx, _⟩ := mem_away.1 hx
    obtain ⟨_, hxn, hcx1⟩ := hlt hcx
    have hx1r : 1 + far E 14 x1 c = r := by omega
    have hsub := far_sub hB c (x1 : Int)
    have hxr := h1 x1 hxn
    have hup : far E 14 x1 (-1) ≤ max (1 + far E 14 c x1) (far E 14 x1 c) := far_to hB fun y hy => by
      obtain ⟨y1, _⟩ := mem_away.1 hy
      by_cases e : y = c
      · subst e; omega
      · have := far_step hB (v := x1) (x := y) (fr := (c : Int)) (mem_away.2 ⟨y1, by omega⟩)
        omega
    obtain ⟨g, hg⟩ : ∃ g, g = far E 14 c x1 := ⟨_, rfl⟩
    rw [← hg] at hsub hup
    have hg1 : r ≤ g + 1 := by omega
    have hg2 : g ≤ r := by omega
    have hall : ∀ v, v < n → far E 14 v (-1) ≤ r + g := by
      intro v hv
      obtain ⟨p, k, hw⟩ := way_reach (hreach v hv)
      rcases up_way hB hcr hcx hx1r hg.symm (by omega) hw with ⟨rfl, _⟩ | ⟨q, _, hq, hT, hD⟩
      · omega
      · refine far_to hB fun y hy => ?_
        obtain ⟨y1, _⟩ := mem_away.1 hy
        by_cases e : y = q
        · subst e; omega
        · have := far_step hB (v := v) (x := y) (fr := (q : Int)) (mem_away.2 ⟨y1, by omega⟩)
          omega
    obtain ⟨v, u, hvu, hlow⟩ := low_way hB _ x1 c (adj_comm hcx) rfl
    have hvn := (hlt hvu).1
    have hva := hall v hvn
    refine ⟨r + g, hall, ⟨v, hvn, by omega⟩, fun c' hc' => by rw [((hmem c').1 hc').2]; omega, ?_⟩
    rcases Nat.lt_or_ge g r with hgr | hgr
    · have hxc : x1 ∈ cents n E := (hmem x1).2 ⟨hxn, by omega⟩
      constructor
      · intro _; omega
      · intro _
        rcases cents_two h h7 with ⟨a, e, _⟩ | ⟨a, b, e, _⟩
        · rw [e] at hxc hcm
          simp at hxc hcm
          omega
        · rw [e]; rfl
    · constructor
      · intro hl
        exfalso
        rcases cents_two h h7 with ⟨a, e, _⟩ | ⟨a, b, e, hab, hbn, hE⟩
        · rw [e] at hl; cases hl
        · have other : ∀ c', c' ∈ cents n E → Adj E c c' → False := by
            intro c' hc' hadj
            have hr' := ((hmem c').1 hc').2
            have h5 := far_step hB (v := c') (x := c) (fr := -1) (mem_away.2 ⟨adj_comm hadj, by omega⟩)
            by_cases e1 : c' = x1
            · subst e1; omega
            · have h6 := far_step hB (v := c) (x := x1) (fr := (c' : Int)) (mem_away.2 ⟨hcx, by omega⟩)
              omega
          have ham : a ∈ cents n E := by rw [e]; simp
          have hbm : b ∈ cents n E := by rw [e]; simp
          rw [e] at hcm
          simp at hcm
          rcases hcm with rfl | rfl
          · exact other b hbm (.inl hE)
          · exact other a ham (.inr hE)
      · intro hm; omega
end
end Go.Proofs.Ytmoelhaobnloaaa

namespace Go.Proofs.Ytmoelhaobnloaaa
open Go.RowKit

def grL (l : List Int) : Int := l.foldl max 0
theorem gr_next (l : List Int) {k : Nat} (hk : k < l.length) : grL (l.take (k + 1)) = max (grL (l.take k)) l[k] := by
  unfold grL
  rw [List.take_succ_eq_append_getElem hk, List.foldl_append]; rfl
theorem gr_fold : ∀ (l : List Int) (m K : Int), (∀ x ∈ l, x ≤ K) → m ≤ K → (m = K ∨ K ∈ l) → l.foldl max m = K
  | [], m, K, _, _, h => by
    rcases h with h | h
    · exact h
    · simp at h
  | a :: r, m, K, hl, hm, h => by
    rw [List.foldl_cons]
    have ha := hl a (by simp)
    refine gr_fold r (max m a) K (fun x hx => hl x (List.mem_cons_of_mem _ hx)) (by omega) ?_
    rcases h with h | h
    · left; omega
    · rcases List.mem_cons.1 h with e | h
      · left; omega
      · right; exact h
theorem gr_all {l : List Int} {K : Nat} (h : ∀ x ∈ l, 0 ≤ x ∧ x ≤ (K : Int)) (hK : (K : Int) ∈ l) : grL l = K := gr_fold l 0 K (fun x hx => (h x hx).2) (by omega) (.inr hK)
set_option maxHeartbeats 800000 in
theorem greatest_any (l : List Int) (K : Nat) (v : Value) (w : World) {B H : Nat} (hv : Hid (Own w B H 3 v (iv l))) (hl : l.length ≤ 64) (h : Hid (∀ x ∈ l, 0 ≤ x ∧ x ≤ (K : Int))) (hK : Hid ((K : Int) ∈ l)) :
    Calls Try.prog 35 #[v] w fun e w' => e = .returned (.int .i64 (K : Int)) ∧ w = w' := by
  obtain ⟨av, cv, rfl, _⟩ := hv.out.slice
  rw [iv_length] at hv ⊢
  obtain ⟨m, hm⟩ : ∃ m, m = l.length := ⟨_, rfl⟩
  have HM := Lib.hid hm
  rw [← hm] at hv hl ⊢
  have S0 : Hid ((0 : Int) = grL (l.take 0)) := by show _ = _; simp [grL]
  have GA := Lib.hid (gr_all h.out hK.out)
  clear hm
  go_enter Try.func35, Try.ntmps35
  go_wp2
  go_loop [3, 4] (fun e3 ii => ∃ (k : Nat) (z : Int), k ≤ m ∧ ii = .int .i64 (k : Int) ∧ e3 = .int .i64 z ∧ Hid (z = grL (l.take k))) (fun _ ii => m - (intOf ii).toNat)
  case atStart => exact ⟨0, 0, Nat.zero_le _, rfl, rfl, S0⟩
  case round =>
    clear S0
    obtain ⟨k, z, hk, rfl, rfl, HZ⟩ := hrel
    by_cases hlt : k < m
    · have b1 : (k : Int) < (m : Int) := by omega
      have hkl : k < l.length := by rw [← HM.out]; exact hlt
      obtain ⟨g, rfl, _, _, c0, _⟩ := hv.out.at_ k (by rw [iv_length]; exact hkl)
      rw [iv_at l k hkl] at c0
      have GN := gr_next l hkl
      obtain ⟨y, hy⟩ : ∃ y, y = l[k] := ⟨_, rfl⟩
      rw [← hy] at c0 GN
      have ZN : Hid (grL (l.take (k + 1)) = max z y) := by show _ = _; rw [GN, HZ.out]
      clear hy GN HZ hkl
      rcases Int.lt_trichotomy z y with hz | hz | hz
      · go_wp2
        go_round
        case rel => exact ⟨k + 1, _, by omega, by go_num, rfl, by have := ZN.out; show _ = _; omega⟩
        case measure => simp [intOf]; omega
      · subst hz
        go_wp2
        go_round
        case rel => exact ⟨k + 1, _, by omega, by go_num, rfl, by have := ZN.out; show _ = _; omega⟩
        case measure => simp [intOf]; omega
      · go_wp2
        go_round
        case rel => exact ⟨k + 1, _, by omega, by go_num, rfl, by have := ZN.out; show _ = _; omega⟩
        case measure => simp [intOf]; omega
    · obtain rfl : k = m := by omega
      have HF : Hid (z = (K : Int)) := by
        show _ = _
        rw [HZ.out, HM.out, List.take_length, GA.out]
      clear HZ
      go_wp2
      go_ret
      rw [HF.out]
      exact ⟨rfl, rfl⟩
/-- the greatest of the first -/
def mxN (f : Nat → Nat) : Nat → Nat
  | 0 => 0
  | k + 1 => max (mxN f k) (f k)
theorem mxN_all {f : Nat → Nat} {M : Nat} : ∀ (N : Nat), (∀ v, v < N → f v ≤ M) → mxN f N ≤ M ∧ ∀ v, v < N → f v ≤ mxN f N
  | 0, _ => ⟨Nat.zero_le _, fun v hv => absurd hv (Nat.not_lt_zero _)⟩
  | N + 1, h => by
    obtain ⟨h1, h2⟩ := mxN_all N (fun v hv => h v (by omega))
    have h3 := h N (by omega)
    refine ⟨by rw [mxN]; omega, fun v hv => ?_⟩
    rw [mxN]
    by_cases e : v = N
    · rw [e]; omega
    · have := h2 v (by omega); omega
theorem halfL_facts {n : Int} {rows : List (List Int)} (h : centsOut n rows ≠ []) : ∃ (N M c : Nat) (f : Nat → Nat), n = N ∧ 1 ≤ N ∧ N ≤ 7 ∧ c < N ∧ (iv (centsOut n rows))[0]? = some (.int .i64 (c : Int)) ∧ (∀ v : Nat, v < N → (rootOut n rows v).length = 2 * N ∧ (∀ k ∈ depOut (rootOut n rows v), 0 ≤ k ∧ k ≤ (f v : Int)) ∧ (f v : Int) ∈ depOut (rootOut n rows v) ∧ f v ≤ 14) ∧ mxN f N = M ∧ M ≤ 14 ∧ f c = (M + 1) / 2 ∧ ((centsOut n rows).length = 2 ↔ M % 2 = 1) := by
  have ht : treeB n rows = true := by
    cases ht : treeB n rows with
    | true => rfl
    | false => exfalso; apply h; unfold centsOut; rw [if_neg (by rw [ht]; decide)]
  obtain ⟨h1, _, h3⟩ := treeB_iff.1 ht
  have h7 : n.toNat ≤ 7 := by omega
  have hco : centsOut n rows = intsN (cents n.toNat (edgesR rows)) := by unfold centsOut; rw [if_pos ht]
  obtain ⟨M, m1, ⟨u, hu, hum⟩, m3, m4⟩ := halves h3 h7
  have hfl : ∀ v, v < n.toNat → far (edgesR rows) 14 v (-1) ≤ 14 := fun v hv => by have := far_le h3 h7 hv; omega
  obtain ⟨c, r, hcr⟩ : ∃ c r, cents n.toNat (edgesR rows) = c :: r := by
    cases hc : cents n.toNat (edgesR rows) with
    | nil => exfalso; apply h; rw [hco, hc]; rfl
    | cons c r => exact ⟨c, r, rfl⟩
  have hcn : c < n.toNat := by
    rcases cents_two h3 h7 with ⟨a, e, ha⟩ | ⟨a, b, e, hab, hb, _⟩
    · rw [e] at hcr; cases hcr; exact ha
    · rw [e] at hcr; cases hcr; omega
  obtain ⟨x1, x2⟩ := mxN_all (f := fun v => far (edgesR rows) 14 v (-1)) n.toNat m1
  have x3 := x2 u hu
  refine ⟨n.toNat, M, c, fun v => far (edgesR rows) 14 v (-1), by omega, by omega, h7, hcn, by rw [hco, hcr]; rfl, fun v hv => ?_, Nat.le_antisymm x1 (by rw [← hum]; exact x3), by rw [← hum]; exact hfl u hu, m3 c (by rw [hcr]; simp), ?_⟩
  · have hro : rootOut n rows v = txt (edgesR rows) 14 v (-1) := by unfold rootOut; rw [if_pos ⟨ht, by omega, by omega⟩, Int.toNat_natCast]
    obtain ⟨N', u', g, D, e1, e2, e3, e4, e5, e6, _, e8, _⟩ := rootL_facts (n := n) (r := v) (rows := rows) (by
      rw [hro]
      intro e
      have := congrArg List.length e
      rw [txt_len, nd_len h3 h7 hv] at this
      simp at this
      omega)
    have hdo : depOut (rootOut n rows v) = depthsL (txt (edgesR rows) 14 v (-1)) := by
      unfold depOut; rw [if_pos e6, hro]
    obtain ⟨d1, d2⟩ := depths_far (valid_brn h3 h7 v (-1))
    rw [hdo]
    exact ⟨by omega, d1, d2, hfl v hv⟩
  · rw [hco, intsN, List.length_map]; exact m4
end Go.Proofs.Ytmoelhaobnloaaa

namespace Go.Proofs.Ytmoelhaobnloaaa
open Go.RowKit

theorem twoLoop (b c : Bool) (h : b = c) : (b == c) = true := by rw [h]; exact beq_self_eq_true c
set_option maxHeartbeats 3200000 in
set_option maxRecDepth 100000 in
theorem centersHalve_law (a : Option Addr) (len cap : Nat) (zs : List Int) (w : World) (hr0 : IsRow .u8 w a len cap zs) :
    Calls Try.prog 10 #[.slice a len cap] w fun e w' => e = .returned (.bool true) ∧ Below w.heap.size w w' := by
  have hr := Lib.hid hr0
  clear hr0
  by_cases hbig : (1048576 : Int) < (len : Int)
  · go_enter Try.func10, Try.ntmps10
    go_wp2
    go_ret
    exact ⟨rfl, Below.refl _ _⟩
  · go_enter Try.func10, Try.ntmps10
    go_wp2_with fail
    refine (drawCentersOf a len cap zs w hr (by omega)).mono ?_
    rintro e w1 ⟨n, rows, v, RV, rfl, g1, hn, hl, hr2, b1⟩
    have hn := hn
    have hwf : (Lit.int .i64 n).wf = true := wf_smallC n (by omega)
    have G1 := Lib.hid g1
    have B1 := Lib.hid b1
    have hrs : ∀ r ∈ rows, r.length ≤ 1048576 := fun r h => by rw [hr2 r h]; decide
    have hrl : rows.length ≤ 1048576 := by omega
    have CI := Lib.hid (fun (v : Value) (RV : List Value) (w : World) (B0 H0 : Nat) (hG : Hid (Grid w B0 H0 v RV rows)) hH => centersOf_any n rows v RV w hG hH hrl hrs hwf)
    have CS := Lib.hid (fun (v : Value) (RV : List Value) (w : World) (B0 H0 : Nat) (hG : Hid (Grid w B0 H0 v RV rows)) hH => specCentersOf_any n rows v RV w hG hH hrl)
    have CR := Lib.hid (fun (r : Int) (v : Value) (RV : List Value) (w : World) (B0 H0 : Nat) (hG : Hid (Grid w B0 H0 v RV rows)) hH => rootText_any n r rows v RV w hG hH hrl hrs hwf)
    have FC := Lib.hid (halfL_facts (n := n) (rows := rows))
    have CL64 : Hid ((centsOut n rows).length ≤ 64) := by
      show _ ≤ _
      by_cases hz : 0 < (centsOut n rows).length
      · unfold centsOut
        split
        · next h =>
          obtain ⟨h1, _, h3⟩ := treeB_iff.1 h
          rw [intsN, List.length_map]
          rcases cents_two h3 (by omega) with ⟨a, h, _⟩ | ⟨a, b, h, _⟩ <;> rw [h] <;> simp
        · simp
      · omega
    obtain ⟨l, hle⟩ : ∃ l, l = centsOut n rows := ⟨_, rfl⟩
    rw [← hle] at FC CL64
    simp only [← hle] at CI CS
    obtain ⟨av, cv, rfl, _, _, _, _⟩ := g1.1.slice
    have s01 := b1.size
    have r0 : Hid (w1.heap.size ≤ w1.heap.size) := Nat.le_refl _
    clear g1 b1 hr hrs hle hr2
    go_wp2_with fail
    refine (CI.out _ RV w1 _ _ G1 r0.out).mono ?_
    rintro e w2 ⟨v2, rfl, o2, b2⟩
    have G2 := Lib.hid (G1.out.below b2)
    have B2 := Lib.hid (B1.out.trans (b2.mono s01))
    obtain ⟨a2, c2, rfl, _, _, _, _⟩ := o2.slice
    obtain ⟨m, hm⟩ : ∃ m, m = l.length := ⟨_, rfl⟩
    rw [iv_length, ← hm] at o2 ⊢
    have O2 := Lib.hid o2
    have HM := Lib.hid hm
    have S12 := Lib.hid b2.size
    clear b2 o2 hm
    go_wp2_with fail
    refine (CS.out _ RV w2 _ _ G2 S12.out).mono ?_
    rintro e w3 ⟨v3, rfl, o3, b3⟩
    have G3 := Lib.hid (G2.out.below (b3.mono S12.out))
    have B3 := Lib.hid (B2.out.trans (b3.mono (Nat.le_trans s01 S12.out)))
    have O23 := Lib.hid (O2.out.below b3)
    have O3 := Lib.hid o3
    have S13 := Lib.hid (Nat.le_trans S12.out b3.size)
    clear b3 o3 G2 B2 O2 S12 CS
    go_wp2_with fail
    refine (equalInts_yes l _ v3 w3 O23 O3 (Nat.le_trans CL64.out (by decide))).mono ?_
    rintro e w4 ⟨rfl, t4⟩
    have G4 := Lib.hid (G3.out.same t4.1)
    have B4 := Lib.hid (B3.out.trans (t4.below _))
    have S14 : Hid (w1.heap.size ≤ w4.heap.size) := by show _ ≤ _; rw [t4.1]; exact S13.out
    clear t4 G3 B3 O3 O23 S13
    go_wp2_with fail
    refine (CI.out _ RV w4 _ _ G4 S14.out).mono ?_
    rintro e w5 ⟨v5, rfl, o5, b5⟩
    have G5 := Lib.hid (G4.out.below (b5.mono S14.out))
    have B5 := Lib.hid (B4.out.trans (b5.mono (Nat.le_trans s01 S14.out)))
    have S15 := Lib.hid (Nat.le_trans S14.out b5.size)
    obtain ⟨a5, c5, rfl, _, _, _, _⟩ := o5.slice
    rw [iv_length, ← HM.out] at o5 ⊢
    have O5 := Lib.hid o5
    clear b5 o5 G4 B4 S14 CI
    by_cases h0 : m = 0
    · have q0 : ((m : Int) == 0) = true := by rw [h0]; rfl
      clear h0 FC CR
      go_wp2
      go_ret
      exact ⟨rfl, B5.out⟩
    · have q0 : ((m : Int) == 0) = false := by rw [beq_eq_false_iff_ne]; omega
      obtain ⟨N, M, c, f, rfl, hN1, hN7, hcN, hc0, hV, hmx, hM14, hfc, h2⟩ := FC.out (by intro e; rw [e] at HM; exact h0 HM.out)
      obtain ⟨g5, rfl, _, _, d5, _⟩ := O5.out.at_ 0 (by rw [iv_length, ← HM.out]; omega)
      rw [hc0] at d5
      have bm : (0 : Int) < (m : Int) := by omega
      have HV := Lib.hid hV
      obtain ⟨b, hb⟩ : ∃ b, b = ((m : Int) == 2) := ⟨_, rfl⟩
      have p1 : ((m : Int) == 2) = b := hb.symm
      have p2 : ((M : Int) % 2 == 1) = b := by
        rw [hb, Bool.eq_iff_iff, beq_iff_eq, beq_iff_eq]
        rw [← HM.out] at h2
        omega
      have p3 : (((f c : Nat) : Int) == ((M : Int) + 1) / 2) = true := by rw [beq_iff_eq, hfc]; omega
      have PP := Lib.hid (And.intro p1 (And.intro p2 p3))
      have HMX := Lib.hid hmx
      have CRR := Lib.hid (fun (k : Nat) (W : World) (hW : Below w5.heap.size w5 W) => CR.out (k : Int) _ RV W _ _ (Lib.hid (G5.out.below (hW.mono S15.out))) (Nat.le_trans S15.out hW.size))
      have CDD : Hid (∀ (k : Nat), k < N → ∀ W : World, Calls Try.prog 18 #[.string ⟨(rootOut (N : Int) rows (k : Int)).toArray⟩] W (IntsOut (depOut (rootOut (N : Int) rows (k : Int))) W)) := fun k hk W => by
        have hs : (⟨(rootOut (N : Int) rows (k : Int)).toArray⟩ : ByteArray).size ≤ maxLen := by
          have := (HV.out k hk).1
          show (rootOut (N : Int) rows (k : Int)).toArray.size ≤ maxLen
          rw [List.size_toArray, this]; unfold maxLen; omega
        exact implDepths_any ⟨(rootOut (N : Int) rows (k : Int)).toArray⟩ W hs
      have CGG : Hid (∀ (k : Nat), k < N → ∀ (y : Value) (W : World) (B H : Nat), Hid (Own W B H 3 y (iv (depOut (rootOut (N : Int) rows (k : Int))))) → Calls Try.prog 35 #[y] W fun e w' => e = .returned (.int .i64 (f k : Int)) ∧ W = w') := fun k hk y W B H hy => by
        obtain ⟨_, h2, h3, _⟩ := HV.out k hk
        have h4 := depOut_length ⟨(rootOut (N : Int) rows (k : Int)).toArray⟩
        exact greatest_any _ (f k) y W hy (Nat.le_trans h4 (by omega)) (Lib.hid h2) (Lib.hid h3)
      obtain ⟨tx, htx⟩ : ∃ tx : Nat → List UInt8, tx = fun (k : Nat) => rootOut (N : Int) rows (k : Int) := ⟨_, rfl⟩
      have htk : ∀ k : Nat, rootOut (N : Int) rows (k : Int) = tx k := fun k => by rw [htx]
      simp only [htk] at CRR CDD CGG
      have HF14 : Hid (∀ k, k < N → f k ≤ 14) := fun k hk => (HV.out k hk).2.2.2
      have RB : Hid (Below w5.heap.size w5 w5) := Below.refl _ _
      have BW := Lib.hid (fun (W : World) (h : Below w5.heap.size w5 W) => B5.out.trans (h.mono B5.out.size))
      clear h0 FC CR hc0 hV hmx hfc h2 HV hb p1 p2 p3 htx htk G5 B5 S15 HM G1 B1 O5 r0 s01
      go_wp2_with fail
      refine (CRR.out c w5 RB.out).mono ?_
      rintro e w6 ⟨rfl, b6⟩
      have B6 := Lib.hid b6
      clear b6
      go_wp2_with fail
      refine (CDD.out c hcN w6).mono ?_
      rintro e w7 ⟨y7, rfl, o7, b7⟩
      have B7 := Lib.hid (B6.out.trans (b7.mono B6.out.size))
      have O7 := Lib.hid o7
      obtain ⟨a7, c7, hy7, _⟩ := o7.slice
      have CG7 := Lib.hid (CGG.out c hcN y7 w7 _ _ O7)
      subst hy7
      clear o7 b7 B6
      go_wp2_with fail
      refine CG7.out.mono ?_
      rintro e w8 ⟨rfl, rfl⟩
      clear CG7 O7 RB
      have X0 : Hid ((0 : Int) = (mxN f 0 : Int)) := rfl
      obtain ⟨FC0, hFC0⟩ : ∃ z : Nat, z = f c := ⟨_, rfl⟩
      rw [← hFC0] at PP ⊢
      clear hFC0 d5
      go_wp2_with fail
      go_loopw [9, 10] (fun e9 ii wr => ∃ (k : Nat) (z : Int), k ≤ N ∧ ii = .int .i64 (k : Int) ∧ e9 = .int .i64 z ∧ Hid (z = (mxN f k : Int)) ∧ Hid (Below w5.heap.size w5 wr)) (fun _ ii _ => N - (intOf ii).toNat)
      case atStart => exact ⟨0, 0, Nat.zero_le _, rfl, rfl, X0, B7⟩
      case round =>
        clear X0 B7
        obtain ⟨k, z, hk, rfl, rfl, HZ, HB⟩ := hrel
        by_cases hlt : k < N
        · have b1 : (k : Int) < (N : Int) := by omega
          have C1 := Lib.hid (CRR.out k wr HB.out)
          have C2 := Lib.hid (CDD.out k hlt)
          have C3 := Lib.hid (CGG.out k hlt)
          have ZN : Hid ((mxN f (k + 1) : Int) = max z (f k : Int)) := by show _ = _; rw [HZ.out, mxN]; omega
          obtain ⟨y, hy⟩ : ∃ y, y = f k := ⟨_, rfl⟩
          rw [← hy] at C3 ZN
          obtain ⟨T, hT⟩ : ∃ T, T = tx k := ⟨_, rfl⟩
          rw [← hT] at C1 C2 C3
          clear hy hT HZ
          go_wp2_with fail
          refine C1.out.mono ?_
          rintro e w9 ⟨rfl, b9⟩
          have B9 := Lib.hid (HB.out.trans (b9.mono HB.out.size))
          clear b9 C1 HB
          go_wp2_with fail
          refine (C2.out w9).mono ?_
          rintro e w10 ⟨y10, rfl, o10, b10⟩
          have B10 := Lib.hid (B9.out.trans (b10.mono B9.out.size))
          have O10 := Lib.hid o10
          obtain ⟨a10, c10, hy10, _⟩ := o10.slice
          have CG := Lib.hid (C3.out y10 w10 _ _ O10)
          subst hy10
          clear o10 b10 C2 B9 C3
          go_wp2_with fail
          refine CG.out.mono ?_
          rintro e w11 ⟨rfl, rfl⟩
          clear CG O10
          rcases Int.lt_trichotomy z (y : Int) with hz | hz | hz
          · go_wp2
            go_roundw
            case rel => exact ⟨k + 1, _, by omega, by go_num, rfl, by have := ZN.out; show _ = _; omega, B10⟩
            case measure => simp [intOf]; omega
          · subst hz
            go_wp2
            go_roundw
            case rel => exact ⟨k + 1, _, by omega, by go_num, rfl, by have := ZN.out; show _ = _; omega, B10⟩
            case measure => simp [intOf]; omega
          · go_wp2
            go_roundw
            case rel => exact ⟨k + 1, _, by omega, by go_num, rfl, by have := ZN.out; show _ = _; omega, B10⟩
            case measure => simp [intOf]; omega
        · obtain rfl : k = N := by omega
          have HZ2 : Hid (z = (M : Int)) := by show _ = _; rw [HZ.out, HMX.out]
          have hz := HZ2.out
          subst hz
          obtain ⟨p1, p2, p3⟩ := PP.out
          have ew : IntKind.i64.wrap ((M : Int) + 1) = (M : Int) + 1 := by rw [IntKind.wrap_i64]; omega
          have ed : Int.tdiv ((M : Int) + 1) 2 = ((M : Int) + 1) / 2 := by rw [Int.tdiv_eq_ediv_of_nonneg (by omega)]
          have em : Int.tmod (M : Int) 2 = (M : Int) % 2 := by rw [Int.tmod_eq_emod_of_nonneg (by omega)]
          have p4 : (b == b) = true := beq_self_eq_true b
          have BF := Lib.hid (BW.out _ HB.out)
          clear HZ HZ2 CRR CDD CGG BW HB HMX PP HF14
          go_wp2
          go_ret
          exact ⟨rfl, BF.out⟩
end Go.Proofs.Ytmoelhaobnloaaa
