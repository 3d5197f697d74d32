/-
  Plain facts: each node of a word's tree but the first one is on just one arm; how often two corners lie in one triangle. Nothing of the program is named here.
-/
import Derived.Test.YtpphilladlladaaWTree
namespace Go.Proofs.Ytpphilladlladaa

/-- the nodes on arms -/
def armsOf (rows : List (List Int)) : List Int := rows.flatMap fun r => r.filter fun x => decide (0 ≤ x)
theorem armsOf_cons (r : List Int) (rows : List (List Int)) : armsOf (r :: rows) = r.filter (fun x => decide (0 ≤ x)) ++ armsOf rows := rfl
theorem armsOf_append (a b : List (List Int)) : armsOf (a ++ b) = armsOf a ++ armsOf b := by simp [armsOf, List.flatMap_append]
def ser (n k : Nat) : List Int := (List.range' n k).map fun (x : Nat) => (x : Int)
theorem ser_succ (n k : Nat) : ser n (k + 1) = (n : Int) :: ser (n + 1) k := by simp [ser, List.range'_succ]
theorem ser_add (n a b : Nat) : ser n a ++ ser (n + a) b = ser n (a + b) := by
  rw [ser, ser, ser, ← List.map_append]
  congr 1
  rw [List.range'_append_1]
theorem arms_perm : ∀ (f : Nat) (s : List UInt8) (n : Nat), scan s = some 0 → s.length ≤ f → s ≠ [] → List.Perm ((n : Int) :: armsOf (binL f s n)) (ser n (s.length / 2)) := by
  intro f
  induction f with
  | zero => intro s n _ hf hs; exact absurd (List.eq_nil_of_length_eq_zero (by omega : s.length = 0)) hs
  | succ f ih =>
    intro s n h hf hs
    obtain ⟨_, _, k3, k4, _, k6⟩ := parts_ok h hs
    have e1 := fold_even _ 0 0 k3
    have e2 := fold_even _ 0 0 k4
    rw [binL_cons _ _ _ hs, armsOf_cons, armsOf_append]
    obtain ⟨a, ha⟩ : ∃ a, a = fstL s := ⟨_, rfl⟩
    obtain ⟨b, hb⟩ : ∃ b, b = rstL s := ⟨_, rfl⟩
    rw [← ha, ← hb]
    rw [← ha] at k3 k6 e1
    rw [← hb] at k4 k6 e2
    have e3 : s.length / 2 = (a.length / 2 + b.length / 2) + 1 := by omega
    rw [e3, ser_succ, ← ser_add]
    apply List.Perm.cons
    have pa : List.Perm ((if a = [] then [] else [(n : Int) + 1]) ++ armsOf (binL f a (n + 1))) (ser (n + 1) (a.length / 2)) := by
      by_cases h0 : a = []
      · subst h0; simp [binL_nil, armsOf, ser]
      · rw [if_neg h0]
        have := ih a (n + 1) k3 (by omega) h0
        simpa using this
    have pb : List.Perm ((if b = [] then [] else [(n : Int) + 1 + (a.length / 2 : Nat)]) ++ armsOf (binL f b (n + 1 + a.length / 2))) (ser (n + 1 + a.length / 2) (b.length / 2)) := by
      by_cases h0 : b = []
      · subst h0; simp [binL_nil, armsOf, ser]
      · rw [if_neg h0]
        have := ih b (n + 1 + a.length / 2) k4 (by omega) h0
        simpa using this
    have ef : [if a = [] then -1 else (n : Int) + 1, if b = [] then -1 else (n : Int) + 1 + (a.length / 2 : Nat)].filter (fun x => decide (0 ≤ x)) = (if a = [] then [] else [(n : Int) + 1]) ++ (if b = [] then [] else [(n : Int) + 1 + (a.length / 2 : Nat)]) := by
      have q1 : (0 : Int) ≤ (n : Int) + 1 := by omega
      have q2 : (0 : Int) ≤ (n : Int) + 1 + ((a.length / 2 : Nat) : Int) := by omega
      by_cases h0 : a = [] <;> by_cases h1 : b = []
      · rw [if_pos h0, if_pos h1, if_pos h0, if_pos h1]; rfl
      · rw [if_pos h0, if_neg h1, if_pos h0, if_neg h1, List.filter_cons, if_neg (by decide), List.filter_cons, if_pos (by simpa using q2)]; rfl
      · rw [if_neg h0, if_pos h1, if_neg h0, if_pos h1, List.filter_cons, if_pos (by simpa using q1), List.filter_cons, if_neg (by decide)]; rfl
      · rw [if_neg h0, if_neg h1, if_neg h0, if_neg h1, List.filter_cons, if_pos (by simpa using q1), List.filter_cons, if_pos (by simpa using q2)]; rfl
    rw [ef]
    refine List.Perm.trans ?_ (pa.append pb)
    simp only [List.append_assoc]
    apply List.Perm.append_left
    rw [← List.append_assoc, ← List.append_assoc]
    exact List.perm_append_comm.append_right _
theorem ser_nodup (n k : Nat) : (ser n k).Nodup := by
  unfold ser
  rw [List.Nodup, List.pairwise_map]
  exact (List.nodup_range' (s := n) (n := k)).imp fun h e => h (Int.ofNat_inj.1 e)
theorem arms_facts {s : List UInt8} (h : scan s = some 0) (hs : s ≠ []) (f : Nat) (hf : s.length ≤ f) :
    (armsOf (binL f s 0)).length + 1 = s.length / 2 ∧ (armsOf (binL f s 0)).Nodup ∧ (0 : Int) ∉ armsOf (binL f s 0) := by
  have p := arms_perm f s 0 h hf hs
  have hl := p.length_eq
  have hn := p.nodup_iff.2 (ser_nodup 0 (s.length / 2))
  rw [List.nodup_cons] at hn
  refine ⟨by simpa [ser] using hl, hn.2, by simpa using hn.1⟩

/-- how often two corners lie in one triangle -/
def tri (lo mid hi a b : Nat) : Nat := if (a = lo ∨ a = mid ∨ a = hi) ∧ (b = lo ∨ b = mid ∨ b = hi) then 1 else 0
def cntT : Nat → List UInt8 → Nat → Nat → Nat → Nat → Nat
  | 0, _, _, _, _, _ => 0
  | f + 1, s, lo, hi, a, b => if s = [] then 0 else tri lo (lo + 1 + (fstL s).length / 2) hi a b + (cntT f (fstL s) lo (lo + 1 + (fstL s).length / 2) a b + cntT f (rstL s) (lo + 1 + (fstL s).length / 2) hi a b)
theorem cntT_nil (f lo hi a b : Nat) : cntT f [] lo hi a b = 0 := by cases f <;> rfl
theorem cntT_cons (f : Nat) (s : List UInt8) (lo hi a b : Nat) (h : s ≠ []) : cntT (f + 1) s lo hi a b = tri lo (lo + 1 + (fstL s).length / 2) hi a b + (cntT f (fstL s) lo (lo + 1 + (fstL s).length / 2) a b + cntT f (rstL s) (lo + 1 + (fstL s).length / 2) hi a b) := by rw [cntT, if_neg h]
theorem cntT_out : ∀ (f : Nat) (s : List UInt8) (lo hi a b : Nat), scan s = some 0 → s.length ≤ f → hi = lo + 1 + s.length / 2 → a < b → (a < lo ∨ hi < b) → cntT f s lo hi a b = 0 := by
  intro f
  induction f with
  | zero => intros; rfl
  | succ f ih =>
    intro s lo hi a b h hf hh hab ho
    by_cases hs : s = []
    · subst hs; exact cntT_nil _ _ _ _ _
    · obtain ⟨_, _, k3, k4, _, k6⟩ := parts_ok h hs
      have e1 := fold_even _ 0 0 k3
      have e2 := fold_even _ 0 0 k4
      rw [cntT_cons _ _ _ _ _ _ hs]
      obtain ⟨mid, hm⟩ : ∃ mid, mid = lo + 1 + (fstL s).length / 2 := ⟨_, rfl⟩
      rw [← hm]
      have i1 := ih (fstL s) lo mid a b k3 (by omega) (by omega) hab (by omega)
      have i2 := ih (rstL s) mid hi a b k4 (by omega) (by omega) hab (by omega)
      rw [i1, i2, tri, if_neg (by omega)]
def side (lo hi a b : Nat) : Prop := b = a + 1 ∨ (a = lo ∧ b = hi)
theorem cntT_in : ∀ (f : Nat) (s : List UInt8) (lo hi a b : Nat), scan s = some 0 → s.length ≤ f → hi = lo + 1 + s.length / 2 → s ≠ [] → a < b → lo ≤ a → b ≤ hi →
    (side lo hi a b → cntT f s lo hi a b = 1) ∧ (¬ side lo hi a b → cntT f s lo hi a b = 0 ∨ cntT f s lo hi a b = 2) := by
  intro f
  induction f with
  | zero => intro s lo hi a b _ hf _ hs; exact absurd (List.eq_nil_of_length_eq_zero (by omega : s.length = 0)) hs
  | succ f ih =>
    intro s lo hi a b h hf hh hs hab hlo hhi
    obtain ⟨_, _, k3, k4, _, k6⟩ := parts_ok h hs
    have e1 := fold_even _ 0 0 k3
    have e2 := fold_even _ 0 0 k4
    rw [cntT_cons _ _ _ _ _ _ hs]
    obtain ⟨mid, hm⟩ : ∃ mid, mid = lo + 1 + (fstL s).length / 2 := ⟨_, rfl⟩
    rw [← hm]
    have m1 : lo < mid := by omega
    have m2 : mid < hi := by omega
    by_cases c1 : b ≤ mid
    · rw [cntT_out f (rstL s) mid hi a b k4 (by omega) (by omega) hab (.inl (by omega))]
      by_cases c2 : a = lo ∧ b = mid
      · rw [tri, if_pos (by omega)]
        by_cases c3 : fstL s = []
        · rw [c3, cntT_nil]
          have : mid = lo + 1 := by rw [hm, c3]; rfl
          exact ⟨fun _ => rfl, fun hn => absurd (.inl (by omega)) hn⟩
        · have l1 : 0 < (fstL s).length := List.length_pos_iff.2 c3
          have := (ih (fstL s) lo mid a b k3 (by omega) (by omega) c3 hab hlo c1).1 (.inr c2)
          rw [this]
          refine ⟨fun hn => ?_, fun _ => .inr rfl⟩
          rcases hn with hn | hn <;> omega
      · rw [tri, if_neg (by omega)]
        have c3 : fstL s ≠ [] := by
          intro c3
          have : mid = lo + 1 := by rw [hm, c3]; rfl
          omega
        obtain ⟨i1, i2⟩ := ih (fstL s) lo mid a b k3 (by omega) (by omega) c3 hab hlo c1
        refine ⟨fun hn => ?_, fun hn => ?_⟩
        · have := i1 (by rcases hn with hn | hn; exact .inl hn; omega)
          omega
        · have := i2 (by rintro (e | e); exact hn (.inl e); exact c2 e)
          omega
    · by_cases c0 : mid ≤ a
      · rw [cntT_out f (fstL s) lo mid a b k3 (by omega) (by omega) hab (.inr (by omega))]
        by_cases c2 : a = mid ∧ b = hi
        · rw [tri, if_pos (by omega)]
          by_cases c3 : rstL s = []
          · rw [c3, cntT_nil]
            have : (rstL s).length = 0 := by rw [c3]; rfl
            exact ⟨fun _ => rfl, fun hn => absurd (.inl (by omega)) hn⟩
          · have l1 : 0 < (rstL s).length := List.length_pos_iff.2 c3
            have := (ih (rstL s) mid hi a b k4 (by omega) (by omega) c3 hab c0 hhi).1 (.inr c2)
            rw [this]
            refine ⟨fun hn => ?_, fun _ => .inr rfl⟩
            rcases hn with hn | hn <;> omega
        · rw [tri, if_neg (by omega)]
          have c3 : rstL s ≠ [] := by
            intro c3
            have : (rstL s).length = 0 := by rw [c3]; rfl
            omega
          obtain ⟨i1, i2⟩ := ih (rstL s) mid hi a b k4 (by omega) (by omega) c3 hab c0 hhi
          refine ⟨fun hn => ?_, fun hn => ?_⟩
          · have := i1 (by rcases hn with hn | hn; exact .inl hn; omega)
            omega
          · have := i2 (by rintro (e | e); exact hn (.inl e); exact c2 e)
            omega
      · rw [cntT_out f (fstL s) lo mid a b k3 (by omega) (by omega) hab (.inr (by omega)), cntT_out f (rstL s) mid hi a b k4 (by omega) (by omega) hab (.inl (by omega))]
        by_cases c2 : a = lo ∧ b = hi
        · rw [tri, if_pos (by omega)]
          exact ⟨fun _ => rfl, fun hn => absurd (.inr c2) hn⟩
        · rw [tri, if_neg (by omega)]
          refine ⟨fun hn => ?_, fun _ => .inl rfl⟩
          rcases hn with hn | hn <;> omega
/-- the same count over the rows -/
theorem cntT_fans (a b : Nat) : ∀ (f : Nat) (s : List UInt8) (lo hi : Nat), (fansL f s lo hi).countP (fun r => decide ((a : Int) ∈ r) && decide ((b : Int) ∈ r)) = cntT f s lo hi a b := by
  intro f
  induction f with
  | zero => intros; rfl
  | succ f ih =>
    intro s lo hi
    by_cases hs : s = []
    · subst hs; rw [fansL_nil, cntT_nil]; rfl
    · rw [fansL_cons _ _ _ _ hs, cntT_cons _ _ _ _ _ _ hs, List.countP_cons, List.countP_append, ih, ih]
      obtain ⟨mid, hm⟩ : ∃ mid, mid = lo + 1 + (fstL s).length / 2 := ⟨_, rfl⟩
      rw [← hm]
      have e : (if (decide ((a : Int) ∈ [(lo : Int), (mid : Int), (hi : Int)]) && decide ((b : Int) ∈ [(lo : Int), (mid : Int), (hi : Int)])) = true then 1 else 0) = tri lo mid hi a b := by
        unfold tri
        simp only [List.mem_cons, List.not_mem_nil, or_false, Bool.and_eq_true, decide_eq_true_eq, Int.ofNat_inj]
      rw [e]
      omega
end Go.Proofs.Ytpphilladlladaa
