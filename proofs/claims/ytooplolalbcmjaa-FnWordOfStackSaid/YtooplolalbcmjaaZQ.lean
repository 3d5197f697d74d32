/-
  Plain facts: a row comes from a stack just if it has no bad three. Nothing of the program is named here.
  Plain facts: three numbers that stand badly are found by trying all three. Nothing of the program is named here.
-/
import Derived.Test.YtooplolalbcmjaaWOos
import Derived.Test.YtooplolalbcmjaaWHeap
namespace Go.Proofs.Ytooplolalbcmjaa

/-- no number behind the first ones, and one behind it, stand badly to one of the first ones -/
def NoBad : List Int → List Int → Prop
  | _, [] => True
  | pre, q :: r => (∀ x ∈ pre, ∀ z ∈ r, ¬ (q < z ∧ z < x)) ∧ NoBad (pre ++ [q]) r

structure InvS (a : Wos) (pre : List Int) : Prop where
  lo : ∀ x ∈ pre, 0 ≤ x ∧ x < a.n
  top : a.n = 0 ∨ ((a.n : Int) - 1) ∈ pre
  mem : ∀ y : Nat, y ∈ a.stk ↔ y < a.n ∧ (y : Int) ∉ pre
  asc : a.stk.Pairwise (· < ·)
  st : stackF a.out = (a.stk, pre.map Int.toNat, a.n)
  len : a.stk.length + pre.length = a.n
  sc : scan a.out = some a.stk.length
theorem inv_zero : InvS wos0 [] := ⟨by simp, Or.inl rfl, by simp [wos0], List.Pairwise.nil, rfl, rfl, rfl⟩
/-- numbers come on the stack -/
structure InvP (n0 : Nat) (a : Wos) (pre : List Int) : Prop where
  lo : ∀ x ∈ pre, 0 ≤ x ∧ x < n0
  up : n0 ≤ a.n
  mem : ∀ y : Nat, y ∈ a.stk ↔ y < a.n ∧ (y : Int) ∉ pre
  asc : a.stk.Pairwise (· < ·)
  st : stackF a.out = (a.stk, pre.map Int.toNat, a.n)
  len : a.stk.length + pre.length = a.n
  sc : scan a.out = some a.stk.length
theorem stackF_snoc (s : List UInt8) (c : UInt8) : stackF (s ++ [c]) = stepS (stackF s) c := by rw [stackF, List.foldl_append]; rfl
theorem push_inv {n0 : Nat} {a : Wos} {pre : List Int} (h : InvP n0 a pre) : ∀ k, InvP n0 (pushW k a) pre := by
  intro k
  induction k with
  | zero => rw [pushW_zero]; exact h
  | succ k ih =>
    rw [pushW_succ]
    have hn : (pushW k a).n = a.n + k := rfl
    obtain ⟨c, hc⟩ : ∃ c, c = pushW k a := ⟨_, rfl⟩
    rw [← hc] at ih hn ⊢
    rw [← hn]
    refine ⟨ih.lo, by have := ih.up; show n0 ≤ c.n + 1; omega, ?_, ?_, ?_, ?_, ?_⟩
    · intro y
      show y ∈ c.stk ++ [c.n] ↔ y < c.n + 1 ∧ _
      rw [List.mem_append, List.mem_singleton, ih.mem]
      have hu := ih.up
      constructor
      · rintro (⟨p, q⟩ | rfl)
        · exact ⟨by omega, q⟩
        · exact ⟨by omega, fun hx => by have := (ih.lo _ hx).2; omega⟩
      · rintro ⟨p, q⟩
        by_cases e : y = c.n
        · exact Or.inr e
        · exact Or.inl ⟨by omega, q⟩
    · show (c.stk ++ [c.n]).Pairwise (· < ·)
      rw [List.pairwise_append]
      exact ⟨ih.asc, List.pairwise_singleton _ _, fun x hx y hy => by rw [List.mem_singleton] at hy; have := ((ih.mem x).mp hx).1; omega⟩
    · show stackF (c.out ++ [40]) = (c.stk ++ [c.n], _, c.n + 1)
      rw [stackF_snoc, ih.st]; rfl
    · have hl := ih.len
      show (c.stk ++ [c.n]).length + pre.length = c.n + 1
      rw [List.length_append, List.length_singleton]
      omega
    · show scan (c.out ++ [40]) = some (c.stk ++ [c.n]).length
      rw [scan_snoc, ih.sc, step_opn _ rfl, List.length_append, List.length_singleton]
theorem asc_last {l : List Nat} (h : l.Pairwise (· < ·)) {q : Nat} (hq : l.getLast? = some q) : l = l.dropLast ++ [q] ∧ ∀ y ∈ l.dropLast, y < q := by
  have hne : l ≠ [] := by intro e; subst e; cases hq
  have e : l = l.dropLast ++ [q] := by
    rw [List.getLast?_eq_some_getLast hne] at hq
    conv => lhs; rw [← List.dropLast_concat_getLast hne]
    rw [Option.some.inj hq]
  refine ⟨e, ?_⟩
  rw [e, List.pairwise_append] at h
  exact fun y hy => h.2.2 y (by simpa using hy) q (by simp)
theorem step_inv {L : Nat} {q : Int} {a b : Wos} {pre : List Int} (h : InvS a pre) (hs : stepQ L q a = some b) : InvS b (pre ++ [q]) := by
  have hP : InvP a.n a pre := ⟨h.lo, Nat.le_refl _, h.mem, h.asc, h.st, h.len, h.sc⟩
  have hc := push_inv hP (q.toNat + 1 - a.n)
  have hcn : (pushW (q.toNat + 1 - a.n) a).n = a.n + (q.toNat + 1 - a.n) := rfl
  unfold stepQ at hs
  obtain ⟨c, ec⟩ : ∃ c, c = pushW (q.toNat + 1 - a.n) a := ⟨_, rfl⟩
  rw [← ec] at hc hcn hs
  split at hs
  · cases hs
  · rename_i hr
    split at hs
    · rename_i hl
      cases hs
      obtain ⟨e1, e2⟩ := asc_last hc.asc hl
      have hqm : q.toNat ∈ c.stk := by rw [e1]; simp
      have hql := ((hc.mem _).mp hqm).1
      have hll : c.stk.length = c.stk.dropLast.length + 1 := by
        conv => lhs; rw [e1]
        rw [List.length_append, List.length_singleton]
      refine ⟨?_, ?_, ?_, ?_, ?_, ?_, ?_⟩
      · intro x hx
        show 0 ≤ x ∧ x < (c.n : Int)
        rcases List.mem_append.mp hx with hx | hx
        · have := h.lo x hx; omega
        · rw [List.mem_singleton] at hx; omega
      · show c.n = 0 ∨ ((c.n : Int) - 1) ∈ pre ++ [q]
        right
        rw [List.mem_append, List.mem_singleton]
        by_cases g : a.n ≤ q.toNat
        · right; omega
        · left
          rcases h.top with t | t
          · omega
          · rw [show (c.n : Int) - 1 = (a.n : Int) - 1 by omega]; exact t
      · intro y
        show y ∈ c.stk.dropLast ↔ y < c.n ∧ (y : Int) ∉ pre ++ [q]
        have hm := hc.mem y
        rw [List.mem_append, List.mem_singleton]
        constructor
        · intro hy
          have h1 := hm.mp (by rw [e1]; exact List.mem_append_left _ hy)
          have h2 := e2 y hy
          exact ⟨h1.1, fun hx => by rcases hx with hx | hx; exact h1.2 hx; omega⟩
        · rintro ⟨h1, h2⟩
          have h3 := hm.mpr ⟨h1, fun hx => h2 (Or.inl hx)⟩
          rw [e1, List.mem_append, List.mem_singleton] at h3
          rcases h3 with h3 | h3
          · exact h3
          · exact absurd (Or.inr (by omega)) h2
      · exact hc.asc.sublist (List.dropLast_sublist _)
      · show stackF (c.out ++ [41]) = (c.stk.dropLast, (pre ++ [q]).map Int.toNat, c.n)
        rw [stackF_snoc, hc.st]
        have g : c.stk.getLastD 0 = q.toNat := by rw [List.getLastD_eq_getLast?, hl]; rfl
        rw [stepS, if_neg (by decide)]
        simp only [g, List.map_append, List.map_cons, List.map_nil]
      · have := hc.len
        show c.stk.dropLast.length + (pre ++ [q]).length = c.n
        rw [List.length_append, List.length_singleton]
        omega
      · show scan (c.out ++ [41]) = some c.stk.dropLast.length
        rw [scan_snoc, hc.sc, step_cls rfl (by omega), hll, Nat.add_sub_cancel]
    · cases hs
/-- just where the number next stands on the stack -/
theorem step_some_iff {L : Nat} {q : Int} {a : Wos} {pre r : List Int} (h : InvS a pre) (hq : q ∉ pre) (h0 : 0 ≤ q) (hL : q < L) (hn : (pre ++ q :: r).Nodup)
    (full : ∀ y : Nat, y < a.n → (y : Int) ∈ pre ++ q :: r) : (∃ b, stepQ L q a = some b) ↔ ∀ x ∈ pre, ∀ z ∈ r, ¬ (q < z ∧ z < x) := by
  have hP : InvP a.n a pre := ⟨h.lo, Nat.le_refl _, h.mem, h.asc, h.st, h.len, h.sc⟩
  have hc := push_inv hP (q.toNat + 1 - a.n)
  have hcn : (pushW (q.toNat + 1 - a.n) a).n = a.n + (q.toNat + 1 - a.n) := rfl
  unfold stepQ
  obtain ⟨c, ec⟩ : ∃ c, c = pushW (q.toNat + 1 - a.n) a := ⟨_, rfl⟩
  rw [← ec] at hc hcn ⊢
  rw [if_neg (by omega)]
  have hqs : q.toNat ∈ c.stk := (hc.mem _).mpr ⟨by omega, by rw [Int.toNat_of_nonneg h0]; exact hq⟩
  have hne : c.stk ≠ [] := by intro e; rw [e] at hqs; cases hqs
  obtain ⟨p, hp⟩ : ∃ p, c.stk.getLast? = some p := ⟨_, List.getLast?_eq_some_getLast hne⟩
  obtain ⟨e1, e2⟩ := asc_last hc.asc hp
  have hpm := (hc.mem p).mp (by rw [e1]; simp)
  rw [hp]
  have hnd := List.nodup_append.mp hn
  constructor
  · rintro ⟨b, hb⟩ x hx z hz ⟨u1, u2⟩
    split at hb
    · rename_i e
      have e := Option.some.inj e
      have hxn := h.lo x hx
      have hz0 : ((z.toNat : Nat) : Int) = z := Int.toNat_of_nonneg (by omega)
      have hzs : z.toNat ∈ c.stk := (hc.mem _).mpr ⟨by omega, by rw [hz0]; exact fun hz' => hnd.2.2 z hz' z (List.mem_cons_of_mem _ hz) rfl⟩
      rw [e1, List.mem_append, List.mem_singleton] at hzs
      rcases hzs with hz' | hz'
      · have := e2 _ hz'; omega
      · omega
    · cases hb
  · intro hb
    by_cases e : p = q.toNat
    · rw [if_pos (by rw [e])]; exact ⟨_, rfl⟩
    · exfalso
      rw [e1, List.mem_append, List.mem_singleton] at hqs
      have hlt : q.toNat < p := by
        rcases hqs with hq' | hq'
        · exact e2 _ hq'
        · exact absurd hq'.symm e
      have hpn : p < a.n := by omega
      have hpl := full p hpn
      rw [List.mem_append, List.mem_cons] at hpl
      rcases hpl with g | g | g
      · exact hpm.2 g
      · omega
      · rcases h.top with t | t
        · omega
        · have hpx : (p : Int) ≠ (a.n : Int) - 1 := fun e' => hpm.2 (by rw [e']; exact t)
          exact hb _ t _ g ⟨by omega, by omega⟩
theorem run_iff (L : Nat) : ∀ (r pre : List Int) (a : Wos), InvS a pre → (pre ++ r).Nodup → (∀ x ∈ r, 0 ≤ x ∧ x < L) → a.n ≤ L → (∀ y : Nat, y < L → (y : Int) ∈ pre ++ r) →
    ((∃ b, runW L r a = some b) ↔ NoBad pre r) ∧ ∀ b, runW L r a = some b → InvS b (pre ++ r) := by
  intro r
  induction r with
  | nil => intro pre a h _ _ _ _; exact ⟨⟨fun _ => trivial, fun _ => ⟨a, rfl⟩⟩, fun b hb => by cases hb; rw [List.append_nil]; exact h⟩
  | cons q r ih =>
    intro pre a h hn hr hL full
    have hq : q ∉ pre := fun hx => (List.nodup_append.mp hn).2.2 q hx q List.mem_cons_self rfl
    obtain ⟨h0, h1⟩ := hr q List.mem_cons_self
    have hs := step_some_iff (L := L) h hq h0 h1 hn (fun y hy => full y (by omega))
    have e3 : pre ++ q :: r = pre ++ [q] ++ r := by simp
    cases hb : stepQ L q a with
    | none =>
      have hr' : runW L (q :: r) a = none := by show (stepQ L q a).bind _ = none; rw [hb]; rfl
      rw [hr']
      refine ⟨⟨fun h => (by obtain ⟨b, h⟩ := h; cases h), fun h => ?_⟩, fun b h => (by cases h)⟩
      obtain ⟨b, hb'⟩ := hs.mpr h.1
      rw [hb] at hb'; cases hb'
    | some b =>
      have hr' : runW L (q :: r) a = runW L r b := by show (stepQ L q a).bind _ = _; rw [hb]; rfl
      have hI := step_inv h hb
      have hbL : b.n ≤ L := by
        rcases hI.top with t | t
        · omega
        · rcases List.mem_append.mp t with t | t
          · have := h.lo _ t; omega
          · rw [List.mem_singleton] at t; omega
      obtain ⟨i1, i2⟩ := ih (pre ++ [q]) b hI (by rw [← e3]; exact hn) (fun x hx => hr x (List.mem_cons_of_mem _ hx)) hbL (by rw [← e3]; exact full)
      rw [hr', i1, e3]
      exact ⟨⟨fun h => ⟨hs.mp ⟨b, hb⟩, h⟩, fun h => h.2⟩, i2⟩
/-- a row of all numbers below its length -/
theorem nd_card : ∀ (L : Nat) (l : List Int), l.Nodup → (∀ x ∈ l, 0 ≤ x ∧ x < L) → l.length ≤ L := by
  intro L
  induction L with
  | zero =>
    intro l _ h
    cases l with
    | nil => exact Nat.le_refl _
    | cons x r => have := h x List.mem_cons_self; omega
  | succ L ih =>
    intro l hn h
    have h1 := ih (l.filter fun x => decide (x ≠ (L : Int))) (hn.sublist List.filter_sublist) (fun x hx => by
      have := List.mem_filter.mp hx
      have h2 := h x this.1
      have h3 := of_decide_eq_true this.2
      omega)
    have h2 : l.length ≤ (l.filter fun x => decide (x ≠ (L : Int))).length + 1 := by
      have key : ∀ l : List Int, l.Nodup → l.length ≤ (l.filter fun x => decide (x ≠ (L : Int))).length + 1 := by
        intro l
        induction l with
        | nil => intro _; simp
        | cons x r ihr =>
          intro hn
          rw [List.nodup_cons] at hn
          by_cases e : x = (L : Int)
          · have : (r.filter fun x => decide (x ≠ (L : Int))) = r := List.filter_eq_self.mpr (fun y hy => decide_eq_true (fun e' => hn.1 (by rw [e, ← e']; exact hy)))
            rw [List.filter_cons_of_neg (by simp [e]), this, List.length_cons]; exact Nat.le_refl _
          · rw [List.filter_cons_of_pos (by simp [e]), List.length_cons, List.length_cons]
            have := ihr hn.2
            omega
      exact key l hn
    omega
theorem row_full {l : List Int} (hn : l.Nodup) (h : ∀ x ∈ l, 0 ≤ x ∧ x < l.length) (y : Nat) (hy : y < l.length) : (y : Int) ∈ l := by
  cases hl : l.length with
  | zero => omega
  | succ L =>
    apply Classical.byContradiction
    intro hm
    -- without y, and the last number put in its place, they are fewer
    have h1 := nd_card L (l.map fun x => if x = (L : Int) then (y : Int) else x) (by
      rw [List.Nodup, List.pairwise_map]
      refine (List.pairwise_iff_getElem.mpr fun i j hi hj hij => ?_)
      have hne : l[i] ≠ l[j] := fun e => by have := nodup_at hn i j hi hj e; omega
      have m1 : l[i] ≠ (y : Int) := fun e => hm (by rw [← e]; exact List.getElem_mem hi)
      have m2 : l[j] ≠ (y : Int) := fun e => hm (by rw [← e]; exact List.getElem_mem hj)
      split <;> split <;> omega) (by
      intro x hx
      obtain ⟨z, hz, rfl⟩ := List.mem_map.mp hx
      have := h z hz
      have : y ≠ L ∨ y = L := by omega
      split
      · rename_i e
        rcases this with c | c
        · omega
        · subst c; exact absurd (by rw [← e]; exact hz) hm
      · omega)
    rw [List.length_map] at h1
    omega
theorem noBad_at : ∀ (r pre : List Int), NoBad pre r ↔ ∀ i j k, i < j → pre.length ≤ j → j < k → k < (pre ++ r).length → ¬ ((pre ++ r).getD j 0 < (pre ++ r).getD k 0 ∧ (pre ++ r).getD k 0 < (pre ++ r).getD i 0) := by
  intro r
  induction r with
  | nil => intro pre; exact ⟨fun _ i j k h1 h2 h3 h4 => by rw [List.append_nil] at h4; omega, fun _ => trivial⟩
  | cons q r ih =>
    intro pre
    have e3 : pre ++ q :: r = pre ++ [q] ++ r := by simp
    have gq : (pre ++ q :: r).getD pre.length 0 = q := by simp [List.getD]
    have gp : ∀ i (hi : i < pre.length), (pre ++ q :: r).getD i 0 = pre[i] := fun i hi => by simp [List.getD, List.getElem?_append_left hi, hi]
    have gr : ∀ i (hi : i < r.length), (pre ++ q :: r).getD (pre.length + 1 + i) 0 = r[i] := fun i hi => by
      rw [List.getD, List.getElem?_append_right (by omega), show pre.length + 1 + i - pre.length = i + 1 by omega, List.getElem?_cons_succ, List.getElem?_eq_getElem hi]; rfl
    have hi := ih (pre ++ [q])
    rw [← e3] at hi
    show (_ ∧ NoBad (pre ++ [q]) r) ↔ _
    rw [hi]
    have hlen : (pre ++ [q]).length = pre.length + 1 := by simp
    have hlen2 : (pre ++ q :: r).length = pre.length + 1 + r.length := by simp; omega
    rw [hlen]
    constructor
    · rintro ⟨h1, h2⟩ i j k hij hj hjk hk
      by_cases e : j = pre.length
      · subst e
        rw [gq, gp i hij, show k = pre.length + 1 + (k - (pre.length + 1)) by omega, gr _ (by omega)]
        exact h1 _ (List.getElem_mem _) _ (List.getElem_mem _)
      · exact h2 i j k hij (by omega) hjk hk
    · intro h
      refine ⟨fun x hx z hz => ?_, fun i j k hij hj hjk hk => h i j k hij (by omega) hjk hk⟩
      obtain ⟨i, hi, rfl⟩ := List.getElem_of_mem hx
      obtain ⟨k, hk, rfl⟩ := List.getElem_of_mem hz
      have := h i pre.length (pre.length + 1 + k) hi (Nat.le_refl _) (by omega) (by omega)
      rw [gq, gp i hi, gr k hk] at this
      exact this
/-- no three numbers stand badly -/
def NoThree (l : List Int) : Prop := ∀ i j k, i < j → j < k → k < l.length → ¬ (l.getD j 0 < l.getD k 0 ∧ l.getD k 0 < l.getD i 0)
theorem wos_row {l : List Int} (hr : rowB l = true) : ((∃ s, wosL l = some s) ↔ NoThree l) ∧ ∀ s, wosL l = some s → scan s = some 0 ∧ s.length = 2 * l.length ∧ stackL s = l := by
  obtain ⟨h8, hx, hn⟩ := (rowB_iff l).mp hr
  have full := row_full hn hx
  obtain ⟨i1, i2⟩ := run_iff l.length l [] wos0 inv_zero hn hx (Nat.zero_le _) full
  have hb := noBad_at l []
  rw [List.nil_append] at i2 hb
  have hw : wosL l = (runW l.length l wos0).map Wos.out := by rw [wosL, if_neg (by omega)]
  rw [hw]
  constructor
  · constructor
    · rintro ⟨s, hs⟩ i j k hij hjk hk
      obtain ⟨b, hb', _⟩ := Option.map_eq_some_iff.mp hs
      exact hb.mp (i1.mp ⟨b, hb'⟩) i j k hij (Nat.zero_le _) hjk hk
    · intro h
      obtain ⟨b, hb'⟩ := i1.mpr (hb.mpr fun i j k hij _ hjk hk => h i j k hij hjk hk)
      exact ⟨b.out, by rw [hb']; rfl⟩
  · intro s hs
    obtain ⟨b, hb', rfl⟩ := Option.map_eq_some_iff.mp hs
    have hI := i2 b hb'
    have hL := runW_len l.length l wos0 b hb' (Nat.zero_le _) (Nat.le_refl _)
    have hlen := hI.len
    have h0 : b.stk.length = 0 := by omega
    refine ⟨by rw [hI.sc, h0], ?_, ?_⟩
    · have h3 := hL.2.2
      have h4 : wos0.n = 0 := rfl
      have h5 : wos0.out.length = 0 := rfl
      omega
    · rw [stackL, hI.st]
      show ((l.map Int.toNat).map fun (k : Nat) => (k : Int)) = l
      rw [List.map_map]
      conv => rhs; rw [← List.map_id l]
      exact List.map_congr_left fun x hx' => Int.toNat_of_nonneg (hx x hx').1
end Go.Proofs.Ytooplolalbcmjaa

namespace Go.Proofs.Ytooplolalbcmjaa

def badT (l : List Int) (i j k : Nat) : Bool := decide (l.getD j 0 < l.getD k 0) && decide (l.getD k 0 < l.getD i 0)
def badI (l : List Int) (j k : Nat) (b : Bool) : Nat → Bool
  | 0 => b
  | i + 1 => badI l j k b i || badT l i j k
def badJ (l : List Int) (k : Nat) (b : Bool) : Nat → Bool
  | 0 => b
  | j + 1 => badI l j k (badJ l k b j) j
def badK (l : List Int) : Nat → Bool
  | 0 => false
  | k + 1 => badJ l k (badK l k) k
theorem badI_iff (l : List Int) (j k : Nat) (b : Bool) : ∀ n, badI l j k b n = true ↔ b = true ∨ ∃ i, i < n ∧ badT l i j k = true
  | 0 => ⟨Or.inl, fun h => h.elim id fun ⟨i, hi, _⟩ => absurd hi (Nat.not_lt_zero _)⟩
  | n + 1 => by
    rw [badI, Bool.or_eq_true, badI_iff l j k b n]
    constructor
    · rintro ((h | ⟨i, hi, h⟩) | h)
      · exact Or.inl h
      · exact Or.inr ⟨i, by omega, h⟩
      · exact Or.inr ⟨n, by omega, h⟩
    · rintro (h | ⟨i, hi, h⟩)
      · exact Or.inl (Or.inl h)
      · by_cases e : i = n
        · subst e; exact Or.inr h
        · exact Or.inl (Or.inr ⟨i, by omega, h⟩)
theorem badJ_iff (l : List Int) (k : Nat) (b : Bool) : ∀ n, badJ l k b n = true ↔ b = true ∨ ∃ i j, i < j ∧ j < n ∧ badT l i j k = true
  | 0 => ⟨Or.inl, fun h => h.elim id fun ⟨i, j, _, hj, _⟩ => absurd hj (Nat.not_lt_zero _)⟩
  | n + 1 => by
    rw [badJ, badI_iff, badJ_iff l k b n]
    constructor
    · rintro ((h | ⟨i, j, hi, hj, h⟩) | ⟨i, hi, h⟩)
      · exact Or.inl h
      · exact Or.inr ⟨i, j, hi, by omega, h⟩
      · exact Or.inr ⟨i, n, hi, by omega, h⟩
    · rintro (h | ⟨i, j, hi, hj, h⟩)
      · exact Or.inl (Or.inl h)
      · by_cases e : j = n
        · subst e; exact Or.inr ⟨i, hi, h⟩
        · exact Or.inl (Or.inr ⟨i, j, hi, by omega, h⟩)
theorem badK_iff (l : List Int) : ∀ n, badK l n = true ↔ ∃ i j k, i < j ∧ j < k ∧ k < n ∧ badT l i j k = true
  | 0 => ⟨fun h => (by cases h), fun ⟨i, j, k, _, _, hk, _⟩ => absurd hk (Nat.not_lt_zero _)⟩
  | n + 1 => by
    rw [badK, badJ_iff, badK_iff l n]
    constructor
    · rintro (⟨i, j, k, hi, hj, hk, h⟩ | ⟨i, j, hi, hj, h⟩)
      · exact ⟨i, j, k, hi, hj, by omega, h⟩
      · exact ⟨i, j, n, hi, hj, by omega, h⟩
    · rintro ⟨i, j, k, hi, hj, hk, h⟩
      by_cases e : k = n
      · subst e; exact Or.inr ⟨i, j, hi, hj, h⟩
      · exact Or.inl ⟨i, j, k, hi, hj, by omega, h⟩
theorem badK_three (l : List Int) : badK l l.length = true ↔ ¬ NoThree l := by
  rw [badK_iff]
  constructor
  · rintro ⟨i, j, k, hi, hj, hk, h⟩ hn
    rw [badT, Bool.and_eq_true, decide_eq_true_eq, decide_eq_true_eq] at h
    exact hn i j k hi hj hk h
  · intro h
    apply Classical.byContradiction
    intro hc
    refine h fun i j k hi hj hk hb => hc ⟨i, j, k, hi, hj, hk, ?_⟩
    rw [badT, Bool.and_eq_true, decide_eq_true_eq, decide_eq_true_eq]
    exact hb
theorem wos_three {l : List Int} (hr : rowB l = true) : (wosL l).isSome = !(badK l l.length) := by
  have h := (wos_row hr).1
  have hb := badK_three l
  cases hw : wosL l with
  | none =>
    rw [hw] at h
    have hn : ¬ NoThree l := fun hc => by obtain ⟨s, hs⟩ := h.mpr hc; cases hs
    rw [hb.mpr hn]; rfl
  | some s =>
    rw [hw] at h
    have hn := h.mp ⟨s, rfl⟩
    cases hk : badK l l.length with
    | false => rfl
    | true => exact absurd hn (hb.mp hk)
end Go.Proofs.Ytooplolalbcmjaa
