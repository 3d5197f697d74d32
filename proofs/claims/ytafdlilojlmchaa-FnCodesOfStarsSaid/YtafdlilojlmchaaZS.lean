/-
  Plain facts: the greatest depth of the text seen from a node is the longest way from it. Nothing of the program is named here.
  Plain facts: the longest way from a center is half of the longest of all; two centers where that is odd. Nothing of the program is named here.
  What the law on centers and longest ways asks of the plain functions; the greatest of numbers.
-/
import Derived.Test.YtafdlilojlmchaaZR
import Derived.Test.YtafdlilojlmchaaZW
namespace Go.Proofs.Ytafdlilojlmchaa

/-- a text whose depths reach so far, and no farther -/
def DeepT (x : List UInt8) (h : Nat) : Prop := ∀ (R : List (List Nat)) (O : List Nat), ∃ Q : List (List Nat), x.foldl stepOP (R, O) = (R ++ Q, O) ∧ (∀ z ∈ Q, z.length ≤ O.length + h) ∧ ∃ z ∈ Q, z.length = O.length + h
theorem flat_deep {L : List (List UInt8)} {H : Nat} (h : ∀ x ∈ L, ∃ k, k ≤ H ∧ DeepT x k) : ∀ (R : List (List Nat)) (O : List Nat), ∃ Q : List (List Nat), L.flatten.foldl stepOP (R, O) = (R ++ Q, O) ∧ (∀ z ∈ Q, z.length ≤ O.length + H) ∧ ((∃ x ∈ L, DeepT x H) → ∃ z ∈ Q, z.length = O.length + H) := by
  induction L with
  | nil => intro R O; exact ⟨[], by simp, by simp, fun ⟨x, hx, _⟩ => by simp at hx⟩
  | cons a r ih =>
    intro R O
    by_cases ha : DeepT a H
    · obtain ⟨Q, h1, h2, z, hz, hzl⟩ := ha R O
      obtain ⟨Q2, k1, k2, _⟩ := ih (fun x hx => h x (List.mem_cons_of_mem _ hx)) (R ++ Q) O
      refine ⟨Q ++ Q2, by rw [List.flatten_cons, List.foldl_append, h1, k1, List.append_assoc], ?_, fun _ => ⟨z, List.mem_append_left _ hz, hzl⟩⟩
      intro y hy
      rcases List.mem_append.1 hy with hy | hy
      · exact h2 y hy
      · exact k2 y hy
    · obtain ⟨k, hk, hd⟩ := h a (by simp)
      obtain ⟨Q, h1, h2, _⟩ := hd R O
      obtain ⟨Q2, k1, k2, k3⟩ := ih (fun x hx => h x (List.mem_cons_of_mem _ hx)) (R ++ Q) O
      refine ⟨Q ++ Q2, by rw [List.flatten_cons, List.foldl_append, h1, k1, List.append_assoc], ?_, ?_⟩
      · intro y hy
        rcases List.mem_append.1 hy with hy | hy
        · have := h2 y hy; omega
        · exact k2 y hy
      · rintro ⟨x, hx, hxd⟩
        rcases List.mem_cons.1 hx with e | hx
        · rw [e] at hxd; exact absurd hxd ha
        · obtain ⟨z, hz, hzl⟩ := k3 ⟨x, hx, hxd⟩
          exact ⟨z, List.mem_append_right _ hz, hzl⟩
theorem fold_get {α : Type} (f : α → Nat) : ∀ (L : List α) (m : Nat), L.foldl (fun m x => max m (f x)) m = m ∨ ∃ x ∈ L, L.foldl (fun m x => max m (f x)) m = f x
  | [], m => .inl rfl
  | a :: r, m => by
    rw [List.foldl_cons]
    rcases fold_get f r (max m (f a)) with h | ⟨x, hx, h⟩
    · rcases Nat.le_total m (f a) with k | k
      · exact .inr ⟨a, by simp, by rw [h]; omega⟩
      · exact .inl (by rw [h]; omega)
    · exact .inr ⟨x, List.mem_cons_of_mem _ hx, h⟩
theorem txt_deep {E : Edges} : ∀ (d v : Nat) (fr : Int), Brn E d v fr → DeepT (txt E d v fr) (far E d v fr) := by
  intro d
  induction d with
  | zero => intro v fr h; exact h.elim
  | succ d ih =>
    intro v fr hB R O
    rw [txt]
    by_cases he : away E v fr = []
    · rw [he]
      refine ⟨[O], ?_, ?_, O, by simp, ?_⟩
      · have := pair_fold [] R O (Q := []) (by simp)
        simpa [srtT] using this
      · intro z hz; simp at hz; rw [hz]; omega
      · rw [far, he]; rfl
    · obtain ⟨H, hH⟩ : ∃ H, far E (d + 1) v fr = 1 + H ∧ (∀ x ∈ away E v fr, far E d x v ≤ H) ∧ ∃ x ∈ away E v fr, far E d x v = H := by
        have hf : far E (d + 1) v fr = (away E v fr).foldl (fun m x => max m (1 + far E d x v)) 0 := rfl
        have hle := (fold_max (fun x => 1 + far E d x v) (away E v fr) 0 (far E (d + 1) v fr)).1 (Nat.le_of_eq hf.symm)
        rcases fold_get (fun x => 1 + far E d x v) (away E v fr) 0 with h | ⟨x, hx, h⟩
        · exfalso
          cases hA : away E v fr with
          | nil => exact he hA
          | cons a r =>
            have := hle.2 a (by rw [hA]; simp)
            rw [hf, h] at this
            omega
        · refine ⟨far E d x v, by rw [hf, h], fun y hy => ?_, x, hx, rfl⟩
          have := hle.2 y hy
          rw [hf, h] at this
          omega
      obtain ⟨h1, h2, x, hx, hxe⟩ := hH
      have hL : ∀ t ∈ srtT ((away E v fr).map fun x => txt E d x v), ∃ k, k ≤ H ∧ DeepT t k := by
        intro t ht
        rw [(srtT_perm _).mem_iff] at ht
        obtain ⟨y, hy, rfl⟩ := List.mem_map.1 ht
        exact ⟨_, h2 y hy, ih y v (hB y hy)⟩
      obtain ⟨Q, q1, q2, q3⟩ := flat_deep hL (R ++ [O]) (O ++ [R.length])
      obtain ⟨z, hz, hzl⟩ := q3 ⟨txt E d x v, by rw [(srtT_perm _).mem_iff]; exact List.mem_map.2 ⟨x, hx, rfl⟩, by rw [← hxe]; exact ih x v (hB x hx)⟩
      refine ⟨O :: Q, pair_fold _ R O q1, ?_, z, List.mem_cons_of_mem _ hz, ?_⟩
      · intro y hy
        rcases List.mem_cons.1 hy with e | hy
        · rw [e]; omega
        · have := q2 y hy
          rw [List.length_append, List.length_singleton] at this
          rw [h1]; omega
      · rw [hzl, h1, List.length_append, List.length_singleton]; omega
/-- all depths of the text are at most the longest way, and one is -/
theorem depths_far {E : Edges} {d v : Nat} {fr : Int} (hB : Brn E d v fr) : (∀ k ∈ depthsL (txt E d v fr), 0 ≤ k ∧ k ≤ (far E d v fr : Int)) ∧ (far E d v fr : Int) ∈ depthsL (txt E d v fr) := by
  obtain ⟨Q, h1, h2, z, hz, hzl⟩ := txt_deep d v fr hB [] []
  have hd : depthsL (txt E d v fr) = Q.map fun r => (r.length : Int) := by
    unfold depthsL openP
    rw [h1]; simp
  rw [hd]
  refine ⟨fun k hk => ?_, List.mem_map.2 ⟨z, hz, by rw [hzl]; simp⟩⟩
  obtain ⟨y, hy, rfl⟩ := List.mem_map.1 hk
  have := h2 y hy
  simp at this
  omega
end Go.Proofs.Ytafdlilojlmchaa

namespace Go.Proofs.Ytafdlilojlmchaa
section
variable {n : Nat} {E : Edges}
theorem far_get (hB : AllB E) (v : Nat) (fr : Int) : far E 14 v fr = 0 ∨ ∃ x ∈ away E v fr, far E 14 v fr = 1 + far E 14 x v := by
  by_cases h : ∃ x ∈ away E v fr, far E 14 v fr ≤ 1 + far E 14 x v
  · obtain ⟨x, hx, hle⟩ := h
    exact .inr ⟨x, hx, Nat.le_antisymm hle (far_step hB hx)⟩
  · left
    have : far E 14 v fr ≤ far E 14 v fr - 1 := far_to hB fun x hx => by
      have h1 : ¬ far E 14 v fr ≤ 1 + far E 14 x v := fun e => h ⟨x, hx, e⟩
      omega
    omega
theorem far_sub (hB : AllB E) (v : Nat) (fr : Int) : far E 14 v fr ≤ far E 14 v (-1) :=
  far_to hB fun x hx => far_step hB (mem_away.2 ⟨(mem_away.1 hx).1, by omega⟩)
theorem adj_comm {a b : Nat} (h : Adj E a b) : Adj E b a := h.symm
/-- behind an edge there is a node from which the longest way goes back over it -/
theorem low_way (hB : AllB E) : ∀ (k x c : Nat), Adj E x c → far E 14 x c = k → ∃ v u, Adj E v u ∧ far E 14 x c + 1 + far E 14 c x ≤ far E 14 v (-1) := by
  intro k
  induction k using Nat.strongRecOn with
  | _ k ih =>
    intro x c hxc hk
    rcases far_get hB x c with h0 | ⟨y, hy, hye⟩
    · have := far_step hB (v := x) (x := c) (fr := -1) (mem_away.2 ⟨hxc, by omega⟩)
      exact ⟨x, c, hxc, by omega⟩
    · obtain ⟨y1, y2⟩ := mem_away.1 hy
      obtain ⟨v, u, hv, hle⟩ := ih (far E 14 y x) (by omega) y x (adj_comm y1) rfl
      have := far_step hB (v := x) (x := c) (fr := (y : Int)) (mem_away.2 ⟨hxc, fun e => y2 e.symm⟩)
      exact ⟨v, u, hv, by omega⟩
/-- no way is longer than the two longest from a center together -/
theorem up_way (hB : AllB E) {c x1 h1 h2 : Nat} (hc : far E 14 c (-1) = h1) (hx : Adj E c x1) (hx1 : 1 + far E 14 x1 c = h1) (hh2 : far E 14 c x1 = h2) (h12 : h1 ≤ h2 + 1) {v : Nat} {p : Int} {k : Nat} (h : Way2 E c v p k) : (v = c ∧ p = -1) ∨ ∃ q : Nat, p = q ∧ Adj E v q ∧ far E 14 q v + 1 + far E 14 v q ≤ h1 + h2 ∧ far E 14 v q + 1 ≤ h1 := by
  induction h with
  | start => exact .inl ⟨rfl, rfl⟩
  | step v p k w hv hw ih =>
    right
    obtain ⟨w1, w2⟩ := mem_away.1 hw
    refine ⟨v, rfl, adj_comm w1, ?_⟩
    have hs := far_step hB hw
    rcases ih with ⟨rfl, rfl⟩ | ⟨q, rfl, hq, hT, hD⟩
    · refine ⟨?_, by omega⟩
      by_cases e : w = x1
      · subst e; omega
      · have h3 := far_step hB (v := v) (x := w) (fr := (x1 : Int)) (mem_away.2 ⟨w1, by omega⟩)
        have h4 := far_sub hB v (w : Int)
        omega
    · refine ⟨?_, by omega⟩
      rcases far_get hB v (w : Int) with h0 | ⟨y, hy, hye⟩
      · omega
      · obtain ⟨y1, y2⟩ := mem_away.1 hy
        by_cases e : y = q
        · subst e; omega
        · have h3 := far_step hB (v := v) (x := y) (fr := (q : Int)) (mem_away.2 ⟨y1, by omega⟩)
          omega
theorem halves (h : ValidT n E) (h7 : n ≤ 7) : ∃ M, (∀ v, v < n → far E 14 v (-1) ≤ M) ∧ (∃ v, v < n ∧ far E 14 v (-1) = M) ∧ (∀ c ∈ cents n E, far E 14 c (-1) = (M + 1) / 2) ∧ ((cents n E).length = 2 ↔ M % 2 = 1) := by
  obtain ⟨r, h1, h2, h3⟩ := cents_spec h h7
  have hB : AllB E := fun v fr => valid_brn h h7 v fr
  have hmem : ∀ v, v ∈ cents n E ↔ v < n ∧ far E 14 v (-1) = r := fun v => by rw [h2, List.mem_filter, List.mem_range, decide_eq_true_eq]
  have hlt : ∀ {a b : Nat}, Adj E a b → a < n ∧ b < n ∧ a ≠ b := fun {a b} hab => by
    rcases hab with q | q <;> (have := h.ord _ q; simp only at this; omega)
  obtain ⟨c, hcm⟩ := List.exists_mem_of_ne_nil _ h3
  obtain ⟨hcn, hcr⟩ := (hmem c).1 hcm
  have hreach : ∀ v, v < n → Reach E c v := fun v hv => (h.conn c hcn).symm.trans (h.conn v hv)
  rcases far_get hB c (-1) with h0 | ⟨x1, hx, hxe⟩
  · have hr0 : r = 0 := by omega
    have hone : ∀ v, v < n → v = c := by
      intro v hv
      obtain ⟨p, k, hw⟩ := way_reach (hreach v hv)
      rcases Nat.eq_zero_or_pos k with k0 | k0
      · subst k0
        cases hw
        rfl
      · exfalso
        obtain ⟨x, q, hx, _⟩ := way_far hB hw k0
        have := far_step hB (v := c) (x := x) (fr := -1) (mem_away.2 ⟨hx, by omega⟩)
        omega
    refine ⟨0, fun v hv => by rw [hone v hv, h0]; exact Nat.le_refl _, ⟨c, hcn, h0⟩, fun v hv => ?_, ?_⟩
    · rw [((hmem v).1 hv).2, hr0]
    · constructor
      · intro hl
        rcases cents_two h h7 with ⟨a, e, _⟩ | ⟨a, b, e, hab, hbn, _⟩
        · rw [e] at hl; cases hl
        · have e1 := hone a (by omega)
          have e2 := hone b hbn
          omega
      · intro hm; cases hm
  · obtain ⟨hcx, _⟩ := mem_away.1 hx
    obtain ⟨_, hxn, hcx1⟩ := hlt hcx
    have hx1r : 1 + far E 14 x1 c = r := by omega
    have hsub := far_sub hB c (x1 : Int)
    have hxr := h1 x1 hxn
    have hup : far E 14 x1 (-1) ≤ max (1 + far E 14 c x1) (far E 14 x1 c) := far_to hB fun y hy => by
      obtain ⟨y1, _⟩ := mem_away.1 hy
      by_cases e : y = c
      · subst e; omega
      · have := far_step hB (v := x1) (x := y) (fr := (c : Int)) (mem_away.2 ⟨y1, by omega⟩)
        omega
    obtain ⟨g, hg⟩ : ∃ g, g = far E 14 c x1 := ⟨_, rfl⟩
    rw [← hg] at hsub hup
    have hg1 : r ≤ g + 1 := by omega
    have hg2 : g ≤ r := by omega
    have hall : ∀ v, v < n → far E 14 v (-1) ≤ r + g := by
      intro v hv
      obtain ⟨p, k, hw⟩ := way_reach (hreach v hv)
      rcases up_way hB hcr hcx hx1r hg.symm (by omega) hw with ⟨rfl, _⟩ | ⟨q, _, hq, hT, hD⟩
      · omega
      · refine far_to hB fun y hy => ?_
        obtain ⟨y1, _⟩ := mem_away.1 hy
        by_cases e : y = q
        · subst e; omega
        · have := far_step hB (v := v) (x := y) (fr := (q : Int)) (mem_away.2 ⟨y1, by omega⟩)
          omega
    obtain ⟨v, u, hvu, hlow⟩ := low_way hB _ x1 c (adj_comm hcx) rfl
    have hvn := (hlt hvu).1
    have hva := hall v hvn
    refine ⟨r + g, hall, ⟨v, hvn, by omega⟩, fun c' hc' => by rw [((hmem c').1 hc').2]; omega, ?_⟩
    rcases Nat.lt_or_ge g r with hgr | hgr
    · have hxc : x1 ∈ cents n E := (hmem x1).2 ⟨hxn, by omega⟩
      constructor
      · intro _; omega
      · intro _
        rcases cents_two h h7 with ⟨a, e, _⟩ | ⟨a, b, e, _⟩
        · rw [e] at hxc hcm
          simp at hxc hcm
          omega
        · rw [e]; rfl
    · constructor
      · intro hl
        exfalso
        rcases cents_two h h7 with ⟨a, e, _⟩ | ⟨a, b, e, hab, hbn, hE⟩
        · rw [e] at hl; cases hl
        · have other : ∀ c', c' ∈ cents n E → Adj E c c' → False := by
            intro c' hc' hadj
            have hr' := ((hmem c').1 hc').2
            have h5 := far_step hB (v := c') (x := c) (fr := -1) (mem_away.2 ⟨adj_comm hadj, by omega⟩)
            by_cases e1 : c' = x1
            · subst e1; omega
            · have h6 := far_step hB (v := c) (x := x1) (fr := (c' : Int)) (mem_away.2 ⟨hcx, by omega⟩)
              omega
          have ham : a ∈ cents n E := by rw [e]; simp
          have hbm : b ∈ cents n E := by rw [e]; simp
          rw [e] at hcm
          simp at hcm
          rcases hcm with rfl | rfl
          · exact other b hbm (.inl hE)
          · exact other a ham (.inr hE)
      · intro hm; omega
end
end Go.Proofs.Ytafdlilojlmchaa

namespace Go.Proofs.Ytafdlilojlmchaa
open Go.RowKit

def grL (l : List Int) : Int := l.foldl max 0
theorem gr_next (l : List Int) {k : Nat} (hk : k < l.length) : grL (l.take (k + 1)) = max (grL (l.take k)) l[k] := by
  unfold grL
  rw [List.take_succ_eq_append_getElem hk, List.foldl_append]; rfl
theorem gr_fold : ∀ (l : List Int) (m K : Int), (∀ x ∈ l, x ≤ K) → m ≤ K → (m = K ∨ K ∈ l) → l.foldl max m = K
  | [], m, K, _, _, h => by
    rcases h with h | h
    · exact h
    · simp at h
  | a :: r, m, K, hl, hm, h => by
    rw [List.foldl_cons]
    have ha := hl a (by simp)
    refine gr_fold r (max m a) K (fun x hx => hl x (List.mem_cons_of_mem _ hx)) (by omega) ?_
    rcases h with h | h
    · left; omega
    · rcases List.mem_cons.1 h with e | h
      · left; omega
      · right; exact h
theorem gr_all {l : List Int} {K : Nat} (h : ∀ x ∈ l, 0 ≤ x ∧ x ≤ (K : Int)) (hK : (K : Int) ∈ l) : grL l = K := gr_fold l 0 K (fun x hx => (h x hx).2) (by omega) (.inr hK)
/-- the greatest of the first -/
def mxN (f : Nat → Nat) : Nat → Nat
  | 0 => 0
  | k + 1 => max (mxN f k) (f k)
theorem mxN_all {f : Nat → Nat} {M : Nat} : ∀ (N : Nat), (∀ v, v < N → f v ≤ M) → mxN f N ≤ M ∧ ∀ v, v < N → f v ≤ mxN f N
  | 0, _ => ⟨Nat.zero_le _, fun v hv => absurd hv (Nat.not_lt_zero _)⟩
  | N + 1, h => by
    obtain ⟨h1, h2⟩ := mxN_all N (fun v hv => h v (by omega))
    have h3 := h N (by omega)
    refine ⟨by rw [mxN]; omega, fun v hv => ?_⟩
    rw [mxN]
    by_cases e : v = N
    · rw [e]; omega
    · have := h2 v (by omega); omega
theorem halfL_facts {n : Int} {rows : List (List Int)} (h : centsOut n rows ≠ []) : ∃ (N M c : Nat) (f : Nat → Nat), n = N ∧ 1 ≤ N ∧ N ≤ 7 ∧ c < N ∧ (iv (centsOut n rows))[0]? = some (.int .i64 (c : Int)) ∧ (∀ v : Nat, v < N → (rootOut n rows v).length = 2 * N ∧ (∀ k ∈ depOut (rootOut n rows v), 0 ≤ k ∧ k ≤ (f v : Int)) ∧ (f v : Int) ∈ depOut (rootOut n rows v) ∧ f v ≤ 14) ∧ mxN f N = M ∧ M ≤ 14 ∧ f c = (M + 1) / 2 ∧ ((centsOut n rows).length = 2 ↔ M % 2 = 1) := by
  have ht : treeB n rows = true := by
    cases ht : treeB n rows with
    | true => rfl
    | false => exfalso; apply h; unfold centsOut; rw [if_neg (by rw [ht]; decide)]
  obtain ⟨h1, _, h3⟩ := treeB_iff.1 ht
  have h7 : n.toNat ≤ 7 := by omega
  have hco : centsOut n rows = intsN (cents n.toNat (edgesR rows)) := by unfold centsOut; rw [if_pos ht]
  obtain ⟨M, m1, ⟨u, hu, hum⟩, m3, m4⟩ := halves h3 h7
  have hfl : ∀ v, v < n.toNat → far (edgesR rows) 14 v (-1) ≤ 14 := fun v hv => by have := far_le h3 h7 hv; omega
  obtain ⟨c, r, hcr⟩ : ∃ c r, cents n.toNat (edgesR rows) = c :: r := by
    cases hc : cents n.toNat (edgesR rows) with
    | nil => exfalso; apply h; rw [hco, hc]; rfl
    | cons c r => exact ⟨c, r, rfl⟩
  have hcn : c < n.toNat := by
    rcases cents_two h3 h7 with ⟨a, e, ha⟩ | ⟨a, b, e, hab, hb, _⟩
    · rw [e] at hcr; cases hcr; exact ha
    · rw [e] at hcr; cases hcr; omega
  obtain ⟨x1, x2⟩ := mxN_all (f := fun v => far (edgesR rows) 14 v (-1)) n.toNat m1
  have x3 := x2 u hu
  refine ⟨n.toNat, M, c, fun v => far (edgesR rows) 14 v (-1), by omega, by omega, h7, hcn, by rw [hco, hcr]; rfl, fun v hv => ?_, Nat.le_antisymm x1 (by rw [← hum]; exact x3), by rw [← hum]; exact hfl u hu, m3 c (by rw [hcr]; simp), ?_⟩
  · have hro : rootOut n rows v = txt (edgesR rows) 14 v (-1) := by unfold rootOut; rw [if_pos ⟨ht, by omega, by omega⟩, Int.toNat_natCast]
    obtain ⟨N', u', g, D, e1, e2, e3, e4, e5, e6, _, e8, _⟩ := rootL_facts (n := n) (r := v) (rows := rows) (by
      rw [hro]
      intro e
      have := congrArg List.length e
      rw [txt_len, nd_len h3 h7 hv] at this
      simp at this
      omega)
    have hdo : depOut (rootOut n rows v) = depthsL (txt (edgesR rows) 14 v (-1)) := by
      unfold depOut; rw [if_pos e6, hro]
    obtain ⟨d1, d2⟩ := depths_far (valid_brn h3 h7 v (-1))
    rw [hdo]
    exact ⟨by omega, d1, d2, hfl v hv⟩
  · rw [hco, intsN, List.length_map]; exact m4
end Go.Proofs.Ytafdlilojlmchaa
