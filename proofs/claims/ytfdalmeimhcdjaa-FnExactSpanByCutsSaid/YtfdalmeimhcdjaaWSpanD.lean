/-
  Plain facts on webs that the laws ask for: places of edges in spans, edges left out, turned round and added, trees, rings and full webs. Nothing of the program is named here.
-/
import Derived.Test.YtfdalmeimhcdjaaWSpanC
import Derived.Test.YtfdalmeimhcdjaaWTreeC
namespace Go.Proofs.Ytfdalmeimhcdjaa

def sumTo (f : Nat → Nat) : Nat → Nat
  | 0 => 0
  | k + 1 => sumTo f k + f k
theorem sumTo_congr {f g : Nat → Nat} : ∀ k, (∀ i, i < k → f i = g i) → sumTo f k = sumTo g k
  | 0, _ => rfl
  | k + 1, h => by rw [sumTo, sumTo, sumTo_congr k fun i hi => h i (by omega), h k (by omega)]
theorem sumTo_add (f g : Nat → Nat) : ∀ k, sumTo (fun i => f i + g i) k = sumTo f k + sumTo g k
  | 0 => rfl
  | k + 1 => by rw [sumTo, sumTo, sumTo, sumTo_add f g k]; omega
theorem sumTo_zero : ∀ k, sumTo (fun _ => 0) k = 0
  | 0 => rfl
  | k + 1 => by rw [sumTo, sumTo_zero k]
def bitD (s i : Nat) : Nat := s / 2 ^ i % 2
def hasN (L : List Nat) (k : Nat) : Nat := L.countP fun s => decide (s / 2 ^ k % 2 = 1)
theorem has_cons (s : Nat) (L : List Nat) (k : Nat) : hasN (s :: L) k = bitD s k + hasN L k := by
  unfold hasN bitD
  rw [List.countP_cons]
  by_cases h : s / 2 ^ k % 2 = 1
  · rw [if_pos (decide_eq_true h), h]; omega
  · rw [if_neg (by simp [h])]; omega
theorem pick_snocD : ∀ (A : Edges) (x : Nat × Nat) (s : Nat), pickE (A ++ [x]) s = if s / 2 ^ A.length % 2 = 1 then pickE A s ++ [x] else pickE A s
  | [], x, s => by
    rw [List.nil_append, pickE, List.length_nil, Nat.pow_zero, Nat.div_one]
    rfl
  | e :: r, x, s => by
    have e2 : s / 2 / 2 ^ r.length = s / 2 ^ (r.length + 1) := by rw [Nat.div_div_eq_div_mul, Nat.pow_succ, Nat.mul_comm]
    rw [List.cons_append, pickE, pick_snocD r x (s / 2), e2, List.length_cons, pickE]
    split <;> split <;> rfl
/-- as many edges as places -/
theorem bits_len (E : Edges) (s : Nat) : ∀ k, k ≤ E.length → (pickE (E.take k) s).length = sumTo (bitD s) k
  | 0, _ => by rw [List.take_zero]; rfl
  | k + 1, hk => by
    have ih := bits_len E s k (by omega)
    rw [List.take_succ_eq_append_getElem (by omega), pick_snocD, List.length_take, Nat.min_eq_left (by omega), sumTo]
    unfold bitD at ih ⊢
    split
    · next h => rw [List.length_append, ih, h]; rfl
    · rw [ih]; omega
theorem span_bits {n : Nat} {E : Edges} {s : Nat} (h : s ∈ spansN n E) : sumTo (bitD s) E.length + 1 = n := by
  have h1 := (List.mem_filter.1 h).2
  unfold spanB at h1
  rw [Bool.and_eq_true, decide_eq_true_iff] at h1
  rw [← bits_len E s E.length (Nat.le_refl _), List.take_length]
  exact h1.1
/-- the places of all spans together -/
theorem has_sum (m k : Nat) : ∀ (L : List Nat), (∀ s ∈ L, sumTo (bitD s) k = m) → sumTo (hasN L) k = m * L.length
  | [], _ => by
    have : hasN [] = fun _ => 0 := rfl
    rw [this, sumTo_zero]; rfl
  | s :: L, h => by
    have e : hasN (s :: L) = fun i => bitD s i + hasN L i := funext fun i => has_cons s L i
    rw [e, sumTo_add, h s (by simp), has_sum m k L fun x hx => h x (by simp [hx]), List.length_cons, Nat.mul_succ]
    omega
theorem spans_sum {n : Nat} (E : Edges) (h1 : 1 ≤ n) : sumTo (hasN (spansN n E)) E.length = (n - 1) * (spansN n E).length :=
  has_sum (n - 1) E.length (spansN n E) fun s hs => by have := span_bits hs; omega
/-- what is picked without a place -/
theorem count_less : ∀ (E : Edges) (k : Nat) (P : Edges → Bool), k < E.length →
    (List.range (2 ^ E.length)).countP (fun s => P (pickE E s) && decide (s / 2 ^ k % 2 ≠ 1)) = (List.range (2 ^ (E.length - 1))).countP fun t => P (pickE (E.take k ++ E.drop (k + 1)) t)
  | [], k, P, h => by simp at h
  | e :: r, 0, P, _ => by
    rw [List.length_cons, show 2 ^ (r.length + 1) = 2 * 2 ^ r.length by rw [Nat.pow_succ]; omega, count_half]
    have z : (List.range (2 ^ r.length)).countP (fun t => P (pickE (e :: r) (2 * t + 1)) && decide ((2 * t + 1) / 2 ^ 0 % 2 ≠ 1)) = 0 := by
      rw [List.countP_eq_zero]
      intro t _
      have h0 : (2 * t + 1) / 2 ^ 0 % 2 = 1 := by rw [Nat.pow_zero, Nat.div_one]; omega
      rw [h0]
      simp
    rw [z, Nat.add_zero]
    show _ = (List.range (2 ^ r.length)).countP fun t => P (pickE r t)
    congr 1
    funext t
    have h0 : (2 * t) / 2 ^ 0 % 2 = 0 := by rw [Nat.pow_zero, Nat.div_one]; omega
    rw [pick_even, h0]
    simp
  | e :: r, k + 1, P, h => by
    simp only [List.length_cons] at h
    have hr : k < r.length := by omega
    rw [List.length_cons, show 2 ^ (r.length + 1) = 2 * 2 ^ r.length by rw [Nat.pow_succ]; omega, count_half]
    have e1 : ∀ t b, b < 2 → (2 * t + b) / 2 ^ (k + 1) = t / 2 ^ k := fun t b hb => by
      rw [Nat.pow_succ, Nat.mul_comm (2 ^ k) 2, ← Nat.div_div_eq_div_mul, show (2 * t + b) / 2 = t by omega]
    have i1 := count_less r k P hr
    have i2 := count_less r k (fun F => P (e :: F)) hr
    have f1 : (fun t => P (pickE (e :: r) (2 * t)) && decide ((2 * t) / 2 ^ (k + 1) % 2 ≠ 1)) = fun s => P (pickE r s) && decide (s / 2 ^ k % 2 ≠ 1) := by
      funext t
      have := e1 t 0 (by omega)
      rw [Nat.add_zero] at this
      rw [pick_even, this]
    have f2 : (fun t => P (pickE (e :: r) (2 * t + 1)) && decide ((2 * t + 1) / 2 ^ (k + 1) % 2 ≠ 1)) = fun s => P (e :: pickE r s) && decide (s / 2 ^ k % 2 ≠ 1) := by
      funext t
      rw [pick_odd, e1 t 1 (by omega)]
    rw [f1, f2, i1, i2]
    have g : (e :: r).take (k + 1) ++ (e :: r).drop (k + 1 + 1) = e :: (r.take k ++ r.drop (k + 1)) := rfl
    rw [g, show r.length + 1 - 1 = (r.length - 1) + 1 by omega, show 2 ^ (r.length - 1 + 1) = 2 * 2 ^ (r.length - 1) by rw [Nat.pow_succ]; omega, count_half]
    congr 1
    · congr 1; funext t; rw [pick_even]
    · congr 1; funext t; rw [pick_odd]
theorem count_split (L : List Nat) (p : Nat → Bool) : L.length = L.countP p + L.countP fun s => !p s := by
  induction L with
  | nil => rfl
  | cons s r ih =>
    rw [List.length_cons, List.countP_cons, List.countP_cons, ih]
    cases p s <;> simp <;> omega
/-- with an edge are all less those without it -/
theorem spans_with {n k : Nat} (E : Edges) (hk : k < E.length) : hasN (spansN n E) k + (spansN n (E.take k ++ E.drop (k + 1))).length = (spansN n E).length := by
  have h1 := count_split (spansN n E) (fun s => decide (s / 2 ^ k % 2 = 1))
  have h2 := count_less E k (spanB n) hk
  have h3 : (E.take k ++ E.drop (k + 1)).length = E.length - 1 := by rw [List.length_append, List.length_take, List.length_drop]; omega
  rw [spans_count n (E.take k ++ E.drop (k + 1)), h3, ← h2]
  have h4 : (spansN n E).countP (fun s => !decide (s / 2 ^ k % 2 = 1)) = (List.range (2 ^ E.length)).countP fun s => spanB n (pickE E s) && decide (s / 2 ^ k % 2 ≠ 1) := by
    unfold spansN
    rw [List.countP_filter]
    congr 1
    funext s
    rw [Bool.and_comm]
    congr 1
    by_cases h : s / 2 ^ k % 2 = 1 <;> simp [h]
  rw [← h4]
  unfold hasN
  omega
/-- the count hangs on how many edges lie between two nodes -/
theorem spans_det {n : Nat} {E F : Edges} (h1 : 1 ≤ n) (h5 : n ≤ 5) (hE : ∀ e ∈ E, e.1 < n ∧ e.2 < n) (hF : ∀ e ∈ F, e.1 < n ∧ e.2 < n) (hw : ∀ i j, wt E i j = wt F i j) : (spansN n E).length = (spansN n F).length := by
  have e1 := det_cut E.length n E (Nat.le_refl _) h1 h5 hE
  have e2 := det_cut F.length n F (Nat.le_refl _) h1 h5 hF
  rw [cut_count _ n E (Nat.le_refl _) h1 hE] at e1
  rw [cut_count _ n F (Nat.le_refl _) h1 hF] at e2
  rw [show wt E = wt F from funext fun i => funext fun j => hw i j, e2] at e1
  omega
theorem wt_app : ∀ (A B : Edges) (i j : Nat), wt (A ++ B) i j = wt A i j + wt B i j
  | [], B, i, j => by rw [List.nil_append, wt, Int.zero_add]
  | e :: r, B, i, j => by rw [List.cons_append, wt, wt, wt_app r B, Int.add_assoc]
theorem wt_rev : ∀ (E : Edges) (i j : Nat), wt E.reverse i j = wt E i j
  | [], _, _ => rfl
  | e :: r, i, j => by
    rw [List.reverse_cons, wt_app, wt_rev r, wt, wt, wt, Int.add_zero, Int.add_comm]
theorem spans_rev {n : Nat} {E : Edges} (h1 : 1 ≤ n) (h5 : n ≤ 5) (hE : ∀ e ∈ E, e.1 < n ∧ e.2 < n) : (spansN n E.reverse).length = (spansN n E).length :=
  spans_det h1 h5 (fun e he => hE e (List.mem_reverse.1 he)) hE (wt_rev E)
theorem spans_more {n : Nat} {E : Edges} {x : Nat × Nat} (h1 : 1 ≤ n) (h5 : n ≤ 5) (hE : ∀ e ∈ E, e.1 < n ∧ e.2 < n) (hx : x.1 < n ∧ x.2 < n) : (spansN n E).length ≤ (spansN n (E ++ [x])).length := by
  have e1 : (spansN n (E ++ [x])).length = (spansN n (x :: E)).length := spans_det h1 h5 (fun e he => by
    rcases List.mem_append.1 he with h | h
    · exact hE e h
    · rw [List.mem_singleton.1 h]; exact hx) (fun e he => by
    rcases List.mem_cons.1 he with h | h
    · rw [h]; exact hx
    · exact hE e h) (fun i j => by rw [wt_app, wt, wt, wt, Int.add_zero, Int.add_comm])
  rw [e1, count_cons]
  omega
/-- a web with too few edges has no span; one with just enough has at most one -/
theorem pick_le : ∀ (E : Edges) (s : Nat), (pickE E s).length ≤ E.length
  | [], _ => Nat.le_refl _
  | e :: r, s => by
    rw [pickE]
    have := pick_le r (s / 2)
    split <;> simp only [List.length_cons] <;> omega
theorem spans_few {n : Nat} {E : Edges} (h : E.length + 1 < n) : (spansN n E).length = 0 := by
  rw [spans_count, List.countP_eq_zero]
  intro s _ hs
  unfold spanB at hs
  rw [Bool.and_eq_true, decide_eq_true_iff] at hs
  have := pick_le E s
  omega
theorem spans_tree : ∀ (E : Edges) (P : Edges → Bool), (∀ F, P F = true → F.length = E.length) → (List.range (2 ^ E.length)).countP (fun s => P (pickE E s)) = if P E = true then 1 else 0
  | [], P, _ => by
    show (List.range 1).countP (fun s => P []) = _
    cases P [] <;> rfl
  | e :: r, P, h => by
    rw [List.length_cons, show 2 ^ (r.length + 1) = 2 * 2 ^ r.length by rw [Nat.pow_succ]; omega, count_half]
    have z : (List.range (2 ^ r.length)).countP (fun t => P (pickE (e :: r) (2 * t))) = 0 := by
      rw [List.countP_eq_zero]
      intro t _ ht
      rw [pick_even] at ht
      have h1 := h _ ht
      have h2 := pick_le r t
      rw [List.length_cons] at h1
      omega
    have i := spans_tree r (fun F => P (e :: F)) (fun F hF => by have := h _ hF; simp only [List.length_cons] at this; omega)
    rw [z, Nat.zero_add]
    have f : (fun t => P (pickE (e :: r) (2 * t + 1))) = fun t => P (e :: pickE r t) := funext fun t => by rw [pick_odd]
    rw [f, i]
/-- a tree is its only span -/
theorem spans_valid {n : Nat} {E : Edges} (h : ValidT n E) (h1 : 1 ≤ n) : (spansN n E).length = 1 := by
  have hE : ∀ e ∈ E, e.1 < n ∧ e.2 < n := fun e he => by have := h.ord e he; omega
  rw [spans_count, spans_tree E (spanB n) (fun F hF => by
    unfold spanB at hF
    rw [Bool.and_eq_true, decide_eq_true_iff] at hF
    have := h.len
    omega), if_pos ((spanB_iff h1 hE).2 ⟨h.len, h.conn⟩)]
def ringE (n : Nat) : Edges := (List.range n).map fun v => (v, (v + 1) % n)
theorem ring_spans : ((List.range 6).all fun n => decide (n < 3) || (decide ((spansN n (ringE n)).length = n) && decide (hasN (spansN n (ringE n)) 0 = n - 1))) = true := by decide +kernel
def fullE (n : Nat) : Edges := (List.range n).flatMap fun b => (List.range b).map fun a => (a, b)
theorem full_spans : ((List.range 5).all fun n => decide (n < 1) || decide ((spansN n (fullE n)).length = n ^ (n - 2))) = true := by decide +kernel
end Go.Proofs.Ytfdalmeimhcdjaa
