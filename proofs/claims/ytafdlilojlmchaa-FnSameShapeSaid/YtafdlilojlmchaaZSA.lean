/-
  Trees of the same text: what texts tell of the branches, whatever the nodes' numbers.
  Trees of the same text: their maps, their centers, their ways and their degrees.
-/
import Derived.Test.YtafdlilojlmchaaZW
import Derived.Test.YtafdlilojlmchaaZJ
import Derived.Test.YtafdlilojlmchaaZR
namespace Go.Proofs.Ytafdlilojlmchaa

/-! ### a text is told by its parts -/
def dpt (s : List UInt8) : Int := (s.count 40 : Int) - (s.count 41 : Int)
theorem dpt_append (a b : List UInt8) : dpt (a ++ b) = dpt a + dpt b := by unfold dpt; rw [List.count_append, List.count_append]; omega
structure Prim (w : List UInt8) : Prop where
  ne : 0 < w.length
  all : dpt w = 0
  pre : ∀ k, 0 < k → k < w.length → 0 < dpt (w.take k)
theorem flat_ok : ∀ (L : List (List UInt8)), (∀ w ∈ L, Prim w) → dpt L.flatten = 0 ∧ ∀ k, 0 ≤ dpt (L.flatten.take k)
  | [], _ => ⟨rfl, fun k => by simp [dpt]⟩
  | w :: r, h => by
    have hw := h w (by simp)
    obtain ⟨h1, h2⟩ := flat_ok r fun x hx => h x (by simp [hx])
    rw [List.flatten_cons]
    refine ⟨by rw [dpt_append, hw.all, h1]; rfl, fun k => ?_⟩
    rw [List.take_append, dpt_append]
    by_cases hk : k < w.length
    · have e : k - w.length = 0 := by omega
      rw [e, List.take_zero]
      have e0 : dpt [] = 0 := rfl
      rw [e0]
      rcases Nat.eq_zero_or_pos k with h0 | h0
      · subst h0; rw [List.take_zero, e0]; decide
      · have := hw.pre k h0 hk; omega
    · rw [List.take_of_length_le (by omega), hw.all]
      have := h2 (k - w.length); omega
theorem prim_wrap {L : List (List UInt8)} (h : ∀ w ∈ L, Prim w) : Prim (40 :: (L.flatten ++ [41])) := by
  obtain ⟨h1, h2⟩ := flat_ok L h
  have e40 : dpt [40] = 1 := by decide
  have e41 : dpt [41] = -1 := by decide
  refine ⟨by simp, ?_, fun k h0 hk => ?_⟩
  · show dpt ([40] ++ (L.flatten ++ [41])) = 0
    rw [dpt_append, dpt_append, h1, e40, e41]; rfl
  · obtain ⟨j, rfl⟩ : ∃ j, k = j + 1 := ⟨k - 1, by omega⟩
    rw [List.length_cons, List.length_append, List.length_singleton] at hk
    rw [List.take_succ_cons, List.take_append_of_le_length (by omega)]
    show 0 < dpt ([40] ++ L.flatten.take j)
    rw [dpt_append, e40]
    have := h2 j; omega
theorem parse : ∀ (L M : List (List UInt8)), (∀ w ∈ L, Prim w) → (∀ w ∈ M, Prim w) → L.flatten = M.flatten → L = M
  | [], [], _, _, _ => rfl
  | [], w :: r, _, h, e => by
    have := (h w (by simp)).ne
    have e2 := congrArg List.length e
    simp only [List.flatten_nil, List.length_nil, List.flatten_cons, List.length_append] at e2
    omega
  | w :: r, [], h, _, e => by
    have := (h w (by simp)).ne
    have e2 := congrArg List.length e
    simp only [List.flatten_nil, List.length_nil, List.flatten_cons, List.length_append] at e2
    omega
  | w :: r, x :: s, h, k, e => by
    have hw := h w (by simp)
    have hx := k x (by simp)
    rw [List.flatten_cons, List.flatten_cons] at e
    have hl : w.length = x.length := by
      rcases Nat.lt_trichotomy w.length x.length with q | q | q
      · have e1 : x.take w.length = w := by
          have := congrArg (List.take w.length) e
          rw [List.take_append_of_le_length (Nat.le_refl _), List.take_length, List.take_append_of_le_length (by omega)] at this
          exact this.symm
        have h1 := hx.pre w.length hw.ne q
        rw [e1, hw.all] at h1
        omega
      · exact q
      · have e1 : w.take x.length = x := by
          have := congrArg (List.take x.length) e
          rw [List.take_append_of_le_length (by omega), List.take_append_of_le_length (Nat.le_refl _), List.take_length] at this
          exact this
        have h1 := hw.pre x.length hx.ne q
        rw [e1, hx.all] at h1
        omega
    obtain ⟨e1, e2⟩ := List.append_inj e hl
    rw [e1, parse r s (fun y hy => h y (by simp [hy])) (fun y hy => k y (by simp [hy])) e2]
theorem txt_prim {E : Edges} : ∀ (d v : Nat) (fr : Int), Brn E d v fr → Prim (txt E d v fr) := by
  intro d
  induction d with
  | zero => intro v fr h; exact h.elim
  | succ d ih =>
    intro v fr h
    rw [txt]
    refine prim_wrap fun w hw => ?_
    obtain ⟨x, hx, rfl⟩ := List.mem_map.1 ((srtT_perm _).mem_iff.1 hw)
    exact ih x v (h x hx)

/-! ### lists that are the same but for their order -/
theorem perm_map {α β γ δ : Type} {f : α → γ} {g : β → γ} {p : α → δ} {q : β → δ} : ∀ {L : List α} {M : List β}, (L.map f).Perm (M.map g) → (∀ x ∈ L, ∀ y ∈ M, f x = g y → p x = q y) → (L.map p).Perm (M.map q)
  | [], M, h, _ => by
    have := h.length_eq
    rw [List.length_map, List.length_map] at this
    obtain rfl : M = [] := List.eq_nil_of_length_eq_zero (by simp at this; omega)
    exact List.Perm.refl _
  | a :: r, M, h, hp => by
    have hm : f a ∈ M.map g := h.mem_iff.1 (by simp)
    obtain ⟨y, hy, e⟩ := List.mem_map.1 hm
    obtain ⟨s, t, rfl⟩ := List.append_of_mem hy
    have h1 : (r.map f).Perm ((s ++ t).map g) := by
      rw [List.map_append, List.map_cons, List.map_cons, ← e] at h
      have h2 := h.trans List.perm_middle
      rw [List.map_append]
      exact h2.cons_inv
    have h3 := perm_map (p := p) (q := q) h1 fun x hx z hz => hp x (by simp [hx]) z (by
      rcases List.mem_append.1 hz with q | q
      · simp [q]
      · simp [q])
    have h4 : p a = q y := hp a (by simp) y (by simp) e.symm
    rw [List.map_cons, List.map_append, List.map_cons, h4]
    rw [List.map_append] at h3
    exact (h3.cons _).trans List.perm_middle.symm
theorem txt_kids {E : Edges} (hB : AllB E) (v : Nat) (fr : Int) : txt E 14 v fr = 40 :: ((srtT ((away E v fr).map fun x => txt E 14 x v)).flatten ++ [41]) := by
  rw [← txt_more 14 v fr (hB v fr), txt]
theorem kids_perm {E E' : Edges} (hB : AllB E) (hB' : AllB E') {v v' : Nat} {fr fr' : Int} (h : txt E 14 v fr = txt E' 14 v' fr') :
    ((away E v fr).map fun x => txt E 14 x v).Perm ((away E' v' fr').map fun x => txt E' 14 x v') := by
  rw [txt_kids hB, txt_kids hB'] at h
  have h1 := List.append_cancel_right (List.cons.inj h).2
  have h2 := parse _ _ (fun w hw => by
    obtain ⟨x, _, rfl⟩ := List.mem_map.1 ((srtT_perm _).mem_iff.1 hw)
    exact txt_prim 14 x v (hB x v)) (fun w hw => by
    obtain ⟨x, _, rfl⟩ := List.mem_map.1 ((srtT_perm _).mem_iff.1 hw)
    exact txt_prim 14 x v' (hB' x v')) h1
  have p1 := (srtT_perm ((away E v fr).map fun x => txt E 14 x v)).symm
  rw [h2] at p1
  exact p1.trans (srtT_perm _)
theorem txt_of_kids {E E' : Edges} (hB : AllB E) (hB' : AllB E') {v v' : Nat} {fr fr' : Int} (h : ((away E v fr).map fun x => txt E 14 x v).Perm ((away E' v' fr').map fun x => txt E' 14 x v')) : txt E 14 v fr = txt E' 14 v' fr' := by
  rw [txt_kids hB, txt_kids hB', srtT_uniq (asc_srtT _) ((srtT_perm _).trans h)]
theorem kid_less {E : Edges} (hB : AllB E) {v x : Nat} {fr : Int} (hx : x ∈ away E v fr) : (txt E 14 x v).length < (txt E 14 v fr).length := by
  have hk := congrArg List.length (txt_kids hB v fr)
  rw [List.length_cons, List.length_append, List.length_flatten] at hk
  have hm : txt E 14 x v ∈ (away E v fr).map fun x => txt E 14 x v := List.mem_map.2 ⟨x, hx, rfl⟩
  obtain ⟨L, hL⟩ : ∃ L, L = srtT ((away E v fr).map fun x => txt E 14 x v) := ⟨_, rfl⟩
  have hm2 : txt E 14 x v ∈ L := by rw [hL]; exact (srtT_perm _).mem_iff.2 hm
  rw [← hL] at hk
  obtain ⟨t, ht⟩ : ∃ t, t = txt E 14 x v := ⟨_, rfl⟩
  rw [← ht] at hm2 ⊢
  have h2 : t.length ≤ (L.map List.length).sum := le_sum_mem (List.mem_map.2 ⟨t, hm2, rfl⟩)
  omega
/-- what is told of a node by its text and its branches' is the same for the same text -/
theorem same_rec {E E' : Edges} (hB : AllB E) (hB' : AllB E') {δ : Type} (f g : Nat → Int → δ)
    (hs : ∀ (v : Nat) (fr : Int) (v' : Nat) (fr' : Int), txt E 14 v fr = txt E' 14 v' fr' → ((away E v fr).map fun x => (txt E 14 x v, f x v)).Perm ((away E' v' fr').map fun x => (txt E' 14 x v', g x v')) → f v fr = g v' fr') :
    ∀ (k v : Nat) (fr : Int) (v' : Nat) (fr' : Int), (txt E 14 v fr).length ≤ k → txt E 14 v fr = txt E' 14 v' fr' → f v fr = g v' fr' := by
  intro k
  induction k with
  | zero =>
    intro v fr v' fr' hk h
    have := (txt_prim 14 v fr (hB v fr)).ne
    omega
  | succ k ih =>
    intro v fr v' fr' hk h
    refine hs v fr v' fr' h (perm_map (kids_perm hB hB' h) fun x hx y hy e => ?_)
    rw [ih x v y v' (by have := kid_less hB hx; omega) e, e]
theorem same_val {E E' : Edges} (hB : AllB E) (hB' : AllB E') {δ : Type} (f g : Nat → Int → δ)
    (hs : ∀ (v : Nat) (fr : Int) (v' : Nat) (fr' : Int), txt E 14 v fr = txt E' 14 v' fr' → ((away E v fr).map fun x => (txt E 14 x v, f x v)).Perm ((away E' v' fr').map fun x => (txt E' 14 x v', g x v')) → f v fr = g v' fr')
    {v : Nat} {fr : Int} {v' : Nat} {fr' : Int} (h : txt E 14 v fr = txt E' 14 v' fr') : f v fr = g v' fr' := same_rec hB hB' f g hs _ v fr v' fr' (Nat.le_refl _) h

/-! ### what texts tell -/
theorem same_sz {E E' : Edges} {v : Nat} {fr : Int} {v' : Nat} {fr' : Int} (h : txt E 14 v fr = txt E' 14 v' fr') : sz E 14 v fr = sz E' 14 v' fr' := by
  have h1 := txt_len (E := E) 14 v fr
  have h2 := txt_len (E := E') 14 v' fr'
  rw [h] at h1
  unfold sz; omega
theorem map_pair {α β γ : Type} {L : List α} {M : List β} {f : α → γ × Nat} {g : β → γ × Nat} (h : (L.map f).Perm (M.map g)) (F : γ × Nat → Nat) : (L.map fun x => F (f x)).sum = (M.map fun y => F (g y)).sum := by
  have := (h.map F).sum_nat
  rwa [List.map_map, List.map_map] at this
theorem same_esm {n : Nat} {E E' : Edges} (hB : AllB E) (hB' : AllB E') {v : Nat} {fr : Int} {v' : Nat} {fr' : Int} (h : txt E 14 v fr = txt E' 14 v' fr') : esm E n 14 v fr = esm E' n 14 v' fr' := by
  refine same_val hB hB' (esm E n 14) (esm E' n 14) (fun v fr v' fr' ht hp => ?_) h
  rw [← esm_more 14 v fr (hB v fr), ← esm_more 14 v' fr' (hB' v' fr'), esm, esm]
  have h1 := (hp.map fun p => p.1.length / 2 * (n - p.1.length / 2) + p.2).sum_nat
  rw [List.map_map, List.map_map] at h1
  have hz : ∀ (E : Edges) (x v : Nat), (txt E 14 x v).length / 2 = sz E 14 x v := fun E x v => by
    have := txt_len (E := E) 14 x v
    unfold sz; omega
  simp only [Function.comp_def, hz] at h1
  exact h1
theorem foldmax_perm {L M : List Nat} (h : L.Perm M) (m : Nat) : L.foldl (fun m y => max m (1 + y)) m = M.foldl (fun m y => max m (1 + y)) m :=
  h.foldl_eq' (fun x _ y _ z => by omega) m
theorem same_far {E E' : Edges} (hB : AllB E) (hB' : AllB E') {v : Nat} {fr : Int} {v' : Nat} {fr' : Int} (h : txt E 14 v fr = txt E' 14 v' fr') : far E 14 v fr = far E' 14 v' fr' := by
  refine same_val hB hB' (far E 14) (far E' 14) (fun v fr v' fr' ht hp => ?_) h
  rw [← far_more 14 v fr (hB v fr), ← far_more 14 v' fr' (hB' v' fr'), far, far]
  have h1 := foldmax_perm (hp.map Prod.snd) 0
  rw [List.map_map, List.map_map, List.foldl_map, List.foldl_map] at h1
  exact h1
/-- how many nodes of a branch have so many neighbours (its first node has one more, behind it) -/
def dgc (E : Edges) (k : Nat) : Nat → Nat → Int → Nat
  | 0, _, _ => 0
  | d + 1, v, fr => (if (away E v fr).length + 1 = k then 1 else 0) + ((away E v fr).map fun x => dgc E k d x v).sum
theorem dgc_more {E : Edges} {k : Nat} : ∀ (d v : Nat) (fr : Int), Brn E d v fr → dgc E k (d + 1) v fr = dgc E k d v fr := by
  intro d
  induction d with
  | zero => intro v fr h; exact h.elim
  | succ d ih =>
    intro v fr h
    rw [dgc, dgc, List.map_congr_left fun x hx => ih x v (h x hx)]
theorem same_dgc {k : Nat} {E E' : Edges} (hB : AllB E) (hB' : AllB E') {v : Nat} {fr : Int} {v' : Nat} {fr' : Int} (h : txt E 14 v fr = txt E' 14 v' fr') : dgc E k 14 v fr = dgc E' k 14 v' fr' := by
  refine same_val hB hB' (dgc E k 14) (dgc E' k 14) (fun v fr v' fr' ht hp => ?_) h
  rw [← dgc_more 14 v fr (hB v fr), ← dgc_more 14 v' fr' (hB' v' fr'), dgc, dgc]
  have h1 := (hp.map Prod.snd).sum_nat
  rw [List.map_map, List.map_map] at h1
  have h2 := hp.length_eq
  rw [List.length_map, List.length_map] at h2
  rw [h2]
  exact congrArg _ h1
end Go.Proofs.Ytafdlilojlmchaa

namespace Go.Proofs.Ytafdlilojlmchaa

/-! ### maps -/
def kpr : List (List UInt8 × Nat) → List (List UInt8) → Nat
  | [], _ => 1
  | b :: r, seen => (seen.count b.1 + 1) * b.2 * kpr r (seen ++ [b.1])
theorem kpr_seen : ∀ (L : List (List UInt8 × Nat)) {s t : List (List UInt8)}, s.Perm t → kpr L s = kpr L t
  | [], _, _, _ => rfl
  | b :: r, s, t, h => by rw [kpr, kpr, h.count_eq, kpr_seen r (h.append_right _)]
theorem kpr_perm {L M : List (List UInt8 × Nat)} (h : L.Perm M) : ∀ s, kpr L s = kpr M s := by
  induction h with
  | nil => intro s; rfl
  | cons b _ ih => intro s; rw [kpr, kpr, ih]
  | swap a b l =>
    intro s
    rw [kpr, kpr, kpr, kpr, List.count_append, List.count_append]
    have e : (s ++ [b.1] ++ [a.1]).Perm (s ++ [a.1] ++ [b.1]) := by
      rw [List.append_assoc, List.append_assoc]
      exact (List.Perm.swap _ _ _).append_left s
    rw [kpr_seen l e]
    by_cases h : a.1 = b.1
    · rw [h]
      simp only [List.count_singleton_self]
      ac_rfl
    · have h1 : [b.1].count a.1 = 0 := List.count_eq_zero.2 (by simpa using h)
      have h2 : [a.1].count b.1 = 0 := List.count_eq_zero.2 (by simpa using fun q => h q.symm)
      simp only [h1, h2, Nat.add_zero]
      ac_rfl
  | trans _ _ ih1 ih2 => intro s; rw [ih1, ih2]
theorem cm_fold (E : Edges) (d : Nat) : ∀ (L : List (Nat × Int)) (z : Nat) (s : List (List UInt8)), (L.foldl (fun (st : Nat × List (List UInt8)) b => (st.1 * (((st.2.count (txt E d b.1 b.2)) + 1) * cm E d (prt E b)), st.2 ++ [txt E d b.1 b.2])) (z, s)).1 = z * kpr (L.map fun b => (txt E d b.1 b.2, cm E d (prt E b))) s
  | [], z, s => by simp [kpr]
  | b :: r, z, s => by
    rw [List.foldl_cons, cm_fold E d r, List.map_cons, kpr]
    simp only
    ac_rfl
theorem cm_kpr (E : Edges) (d : Nat) (L : List (Nat × Int)) : cm E (d + 1) L = kpr (L.map fun b => (txt E d b.1 b.2, cm E d (prt E b))) [] := by
  rw [cm, cm_fold, Nat.one_mul]
theorem cm_more {E : Edges} : ∀ (d : Nat) (L : List (Nat × Int)), (∀ b ∈ L, Brn E d b.1 b.2) → cm E (d + 2) L = cm E (d + 1) L := by
  intro d
  induction d with
  | zero =>
    intro L h
    cases L with
    | nil => rfl
    | cons b r => exact (h b (by simp)).elim
  | succ d ih =>
    intro L h
    rw [cm_kpr, cm_kpr]
    congr 1
    refine List.map_congr_left fun b hb => ?_
    rw [txt_more (d + 1) b.1 b.2 (h b hb), ih (prt E b) fun c hc => ?_]
    obtain ⟨x, hx, rfl⟩ := List.mem_map.1 hc
    exact h b hb x hx
/-- the maps of a branch -/
def cmv (E : Edges) (v : Nat) (fr : Int) : Nat := cm E 14 (prt E (v, fr))
theorem cmv_at {E : Edges} (hB : AllB E) (v : Nat) (fr : Int) : cmv E v fr = kpr ((away E v fr).map fun x => (txt E 14 x v, cmv E x v)) [] := by
  unfold cmv
  rw [← cm_more 13 (prt E (v, fr)) fun c hc => by
    obtain ⟨x, hx, rfl⟩ := List.mem_map.1 hc
    exact hB v fr x hx, cm_kpr]
  unfold prt
  rw [List.map_map]; rfl
theorem same_cmv {E E' : Edges} (hB : AllB E) (hB' : AllB E') {v : Nat} {fr : Int} {v' : Nat} {fr' : Int} (h : txt E 14 v fr = txt E' 14 v' fr') : cmv E v fr = cmv E' v' fr' := by
  refine same_val hB hB' (cmv E) (cmv E') (fun v fr v' fr' ht hp => ?_) h
  rw [cmv_at hB, cmv_at hB', kpr_perm hp]
def two (E : Edges) (a b : Nat) : Nat := kpr [(txt E 14 a b, cmv E a b), (txt E 14 b a, cmv E b a)] []
theorem two_turn (E : Edges) (a b : Nat) : two E a b = two E b a := kpr_perm (List.Perm.swap _ _ _) _
theorem maps_one {n : Nat} {E : Edges} {a : Nat} (h : cents n E = [a]) : mapsN n E = cmv E a (-1) := by unfold mapsN; rw [h]; rfl
theorem maps_two {n : Nat} {E : Edges} {a b : Nat} (h : cents n E = [a, b]) : mapsN n E = two E a b := by unfold mapsN; rw [h]; show cm E 15 _ = _; rw [cm_kpr]; rfl

/-! ### centers -/
theorem other_far {n : Nat} {E : Edges} (h : ValidT n E) (h7 : n ≤ 7) {c o r : Nat} (ha : Adj E c o) (hc : far E 14 c (-1) = r) (ho : far E 14 o (-1) = r) :
    far E 14 o c + 1 = r ∧ ∀ x ∈ away E c o, far E 14 x c + 2 ≤ r := by
  have hB : AllB E := valid_brn h h7
  have hao : Adj E o c := ha.symm
  have h1 := far_step hB (mem_away.2 ⟨hao, by omega⟩ : c ∈ away E o (-1))
  have h2 : ∀ x ∈ away E c o, far E 14 x c + 2 ≤ r := fun x hx => by
    have := far_step hB hx
    omega
  refine ⟨?_, h2⟩
  have h3 := far_step hB (mem_away.2 ⟨ha, by omega⟩ : o ∈ away E c (-1))
  rcases Nat.lt_or_ge (far E 14 o c + 1) r with q | q
  · exfalso
    have h4 : far E 14 c (-1) ≤ r - 1 := far_to hB fun x hx => by
      by_cases e : x = o
      · subst e; omega
      · have := h2 x (mem_away.2 ⟨(mem_away.1 hx).1, by omega⟩)
        omega
    omega
  · omega
theorem same_other {n : Nat} {E E' : Edges} (h : ValidT n E) (h' : ValidT n E') (h7 : n ≤ 7) {c c' o' : Nat} (hc : c ∈ cents n E) (hc' : c' ∈ cents n E') (ho' : o' ∈ cents n E') (ha : Adj E' c' o') (ht : txt E 14 c (-1) = txt E' 14 c' (-1)) :
    ∃ o, o ∈ cents n E ∧ o ≠ c ∧ txt E 14 o c = txt E' 14 o' c' ∧ txt E 14 c o = txt E' 14 c' o' := by
  have hB : AllB E := valid_brn h h7
  have hB' : AllB E' := valid_brn h' h7
  obtain ⟨r, hr, hcs, _⟩ := cents_spec h h7
  obtain ⟨r', _, hcs', _⟩ := cents_spec h' h7
  rw [hcs, List.mem_filter, decide_eq_true_eq] at hc
  rw [hcs', List.mem_filter, decide_eq_true_eq] at hc' ho'
  obtain ⟨f1, f2⟩ := other_far h' h7 ha hc'.2 ho'.2
  have hrr : r = r' := by rw [← hc.2, ← hc'.2]; exact same_far hB hB' ht
  have hp := kids_perm hB hB' ht
  have hm : txt E' 14 o' c' ∈ (away E c (-1)).map fun x => txt E 14 x c := hp.mem_iff.2 (List.mem_map.2 ⟨o', mem_away.2 ⟨ha, by omega⟩, rfl⟩)
  obtain ⟨o, ho, e⟩ := List.mem_map.1 hm
  have hao := (mem_away.1 ho).1
  have hp2 : (txt E 14 o c :: (away E c o).map fun x => txt E 14 x c).Perm (txt E' 14 o' c' :: (away E' c' o').map fun x => txt E' 14 x c') :=
    ((away_perm h hao).map fun x => txt E 14 x c).symm.trans (hp.trans ((away_perm h' ha).map fun x => txt E' 14 x c'))
  rw [e] at hp2
  have hh := txt_of_kids hB hB' hp2.cons_inv
  have hon : o < n := (adj_lt h hao).2
  have hfo : far E 14 o c = far E' 14 o' c' := same_far hB hB' e
  have hfc : far E 14 c o = far E' 14 c' o' := same_far hB hB' hh
  have h5 := far_step hB' (mem_away.2 ⟨ha.symm, by omega⟩ : c' ∈ away E' o' (-1))
  have h6 : far E 14 o (-1) ≤ r := far_to hB fun x hx => by
    by_cases e2 : x = c
    · subst e2; rw [hfc]; have := ho'.2; omega
    · have := far_step hB (mem_away.2 ⟨(mem_away.1 hx).1, by omega⟩ : x ∈ away E o c)
      omega
  have h7' := hr o hon
  refine ⟨o, ?_, ?_, e, hh⟩
  · rw [hcs, List.mem_filter, decide_eq_true_eq]
    exact ⟨List.mem_range.2 hon, by omega⟩
  · rintro rfl
    exact adj_ne h o hao
theorem free_mem {n : Nat} {E : Edges} (h : ValidT n E) (h7 : n ≤ 7) : ∃ c, c ∈ cents n E ∧ freeT n E = txt E 14 c (-1) := by
  rcases cents_two h h7 with ⟨a, e, _⟩ | ⟨a, b, e, _, _, _⟩
  · exact ⟨a, by rw [e]; simp, by unfold freeT; rw [e]; rfl⟩
  · have h1 : freeT n E = minT (txt E 14 a (-1)) (txt E 14 b (-1)) := by unfold freeT; rw [e]; rfl
    rw [h1]
    unfold minT
    split
    · exact ⟨b, by rw [e]; simp, rfl⟩
    · exact ⟨a, by rw [e]; simp, rfl⟩
theorem cents_lt {n : Nat} {E : Edges} (h : ValidT n E) (h7 : n ≤ 7) {c : Nat} (hc : c ∈ cents n E) : c < n := by
  obtain ⟨r, _, hcs, _⟩ := cents_spec h h7
  rw [hcs, List.mem_filter] at hc
  exact List.mem_range.1 hc.1
theorem same_maps {n : Nat} {E E' : Edges} (h : ValidT n E) (h' : ValidT n E') (h7 : n ≤ 7) (hf : freeT n E = freeT n E') : mapsN n E = mapsN n E' := by
  have hB : AllB E := valid_brn h h7
  have hB' : AllB E' := valid_brn h' h7
  obtain ⟨c, hc, e1⟩ := free_mem h h7
  obtain ⟨c', hc', e2⟩ := free_mem h' h7
  have ht : txt E 14 c (-1) = txt E' 14 c' (-1) := by rw [← e1, ← e2, hf]
  rcases cents_two h h7 with ⟨a, e, _⟩ | ⟨a, b, e, hab, _, hm⟩
  · rcases cents_two h' h7 with ⟨a', e', _⟩ | ⟨a', b', e', hab', _, hm'⟩
    · rw [e] at hc; rw [e'] at hc'
      simp only [List.mem_singleton] at hc hc'
      subst hc; subst hc'
      rw [maps_one e, maps_one e', same_cmv hB hB' ht]
    · exfalso
      have hadj : Adj E' a' b' := .inl hm'
      rw [e'] at hc'
      simp only [List.mem_cons, List.not_mem_nil, or_false] at hc'
      have key : ∀ o', o' ∈ cents n E' → Adj E' c' o' → False := fun o' ho' ha => by
        obtain ⟨o, ho, hne, _⟩ := same_other h h' h7 hc (by rw [e']; simp [hc']) ho' ha ht
        rw [e] at ho hc
        simp only [List.mem_singleton] at ho hc
        exact hne (by rw [ho, hc])
      rcases hc' with rfl | rfl
      · exact key b' (by rw [e']; simp) hadj
      · exact key a' (by rw [e']; simp) (hadj.symm)
  · have hadj : Adj E a b := .inl hm
    rcases cents_two h' h7 with ⟨a', e', _⟩ | ⟨a', b', e', hab', _, hm'⟩
    · exfalso
      have key : ∀ o, o ∈ cents n E → Adj E c o → False := fun o ho ha => by
        obtain ⟨o2, ho2, hne, _⟩ := same_other h' h h7 hc' hc ho ha ht.symm
        rw [e'] at ho2 hc'
        simp only [List.mem_singleton] at ho2 hc'
        exact hne (by rw [ho2, hc'])
      rw [e] at hc
      simp only [List.mem_cons, List.not_mem_nil, or_false] at hc
      rcases hc with rfl | rfl
      · exact key b (by rw [e]; simp) hadj
      · exact key a (by rw [e]; simp) (hadj.symm)
    · have hadj' : Adj E' a' b' := .inl hm'
      rw [maps_two e, maps_two e']
      obtain ⟨o', ho', ha', hn'⟩ : ∃ o', o' ∈ cents n E' ∧ Adj E' c' o' ∧ two E' a' b' = two E' c' o' := by
        rw [e'] at hc' ⊢
        simp only [List.mem_cons, List.not_mem_nil, or_false] at hc'
        rcases hc' with rfl | rfl
        · exact ⟨b', by simp, hadj', rfl⟩
        · exact ⟨a', by simp, hadj'.symm, two_turn _ _ _⟩
      obtain ⟨o, ho, hne, t1, t2⟩ := same_other h h' h7 hc hc' ho' ha' ht
      have hn : two E a b = two E c o := by
        rw [e] at hc ho
        simp only [List.mem_cons, List.not_mem_nil, or_false] at hc ho
        rcases hc with rfl | rfl
        · rcases ho with rfl | rfl
          · exact absurd rfl hne
          · rfl
        · rcases ho with rfl | rfl
          · exact two_turn _ _ _
          · exact absurd rfl hne
      rw [hn, hn']
      unfold two
      rw [t1, t2, same_cmv hB hB' t1, same_cmv hB hB' t2]
theorem same_ways {n : Nat} {E E' : Edges} (h : ValidT n E) (h' : ValidT n E') (h7 : n ≤ 7) (hf : freeT n E = freeT n E') : waysN n E = waysN n E' := by
  obtain ⟨c, hc, e1⟩ := free_mem h h7
  obtain ⟨c', hc', e2⟩ := free_mem h' h7
  have ht : txt E 14 c (-1) = txt E' 14 c' (-1) := by rw [← e1, ← e2, hf]
  rw [ways_esm h h7 (cents_lt h h7 hc), ways_esm h' h7 (cents_lt h' h7 hc'), same_esm (valid_brn h h7) (valid_brn h' h7) ht]

/-! ### degrees -/
theorem away_deg {n : Nat} {E : Edges} (h : ValidT n E) {v x : Nat} (ha : Adj E v x) : (away E v x).length + 1 = deg E v := by
  have h1 := (away_perm h ha).length_eq
  have h2 : away E v (-1) = nb E v := by
    unfold away
    rw [List.filter_eq_self]
    intro y _
    simp only [Bool.not_eq_true', decide_eq_false_iff_not]
    omega
  rw [h2, nb_deg (fun e he => (h.ord e he).1) v, List.length_cons] at h1
  exact h1.symm
theorem dgc_nds {n k : Nat} {E : Edges} (h : ValidT n E) : ∀ (d v p : Nat), Brn E d v (p : Int) → Adj E v p → dgc E k d v p = (nds E d v p).countP fun u => decide (deg E u = k) := by
  intro d
  induction d with
  | zero => intro v p hb; exact hb.elim
  | succ d ih =>
    intro v p hb ha
    rw [dgc, nds, List.countP_cons, away_deg h ha, List.countP_flatMap, Nat.add_comm]
    congr 1
    · congr 1
      refine List.map_congr_left fun x hx => ?_
      exact ih x v (hb x hx) ((mem_away.1 hx).1.symm)
    · simp only [decide_eq_true_eq]
theorem same_degs {n : Nat} {E E' : Edges} (h : ValidT n E) (h' : ValidT n E') (h7 : n ≤ 7) (hf : freeT n E = freeT n E') : ((List.range n).map (deg E)).Perm ((List.range n).map (deg E')) := by
  have hB : AllB E := valid_brn h h7
  have hB' : AllB E' := valid_brn h' h7
  obtain ⟨c, hc, e1⟩ := free_mem h h7
  obtain ⟨c', hc', e2⟩ := free_mem h' h7
  have ht : txt E 14 c (-1) = txt E' 14 c' (-1) := by rw [← e1, ← e2, hf]
  have hcn := cents_lt h h7 hc
  have hcn' := cents_lt h' h7 hc'
  have root : ∀ (E : Edges) (c k : Nat), ValidT n E → AllB E → c < n → ((List.range n).map (deg E)).count k = (if (away E c (-1)).length = k then 1 else 0) + ((away E c (-1)).map fun x => dgc E k 14 x c).sum := by
    intro E c k h hB hcn
    have hp := nd_perm h h7 hcn
    rw [← (hp.map (deg E)).count_eq, ← nds_more 14 c (-1) (hB c (-1)), nds, List.map_cons, List.count_cons, List.map_flatMap, List.count_flatMap, Nat.add_comm]
    have h2 : away E c (-1) = nb E c := by
      unfold away
      rw [List.filter_eq_self]
      intro y _
      simp only [Bool.not_eq_true', decide_eq_false_iff_not]
      omega
    congr 1
    · rw [h2, nb_deg (fun e he => (h.ord e he).1) c]
      simp only [beq_iff_eq]
    · congr 1
      refine List.map_congr_left fun x hx => ?_
      rw [dgc_nds h 14 x c (hB x c) ((mem_away.1 hx).1.symm), Function.comp_apply, List.count_eq_countP, List.countP_map]
      refine List.countP_congr fun u _ => ?_
      simp
  rw [List.perm_iff_count]
  intro k
  rw [root E c k h hB hcn, root E' c' k h' hB' hcn']
  have hp := perm_map (p := fun x => dgc E k 14 x c) (q := fun x => dgc E' k 14 x c') (kids_perm hB hB' ht) fun x _ y _ e => same_dgc hB hB' e
  have h3 := hp.length_eq
  rw [List.length_map, List.length_map] at h3
  rw [h3, hp.sum_nat]
end Go.Proofs.Ytafdlilojlmchaa
