/-
  Determinants of rows of numbers, and of rows of sums of products of letters, so that what holds for letters holds for numbers. Nothing of the program is named here.
-/
import Derived.WalkKit
namespace Go.Proofs.Ytfdalmeimhcdjaa

abbrev Mon := List Nat
/-- a number, a key, a rising list of letters -/
structure Trm where
  c : Int
  k : Nat
  m : Mon
abbrev Pol := List Trm
def evM (ρ : Nat → Int) : Mon → Int
  | [] => 1
  | v :: r => ρ v * evM ρ r
def evP (ρ : Nat → Int) : Pol → Int
  | [] => 0
  | t :: r => t.c * evM ρ t.m + evP ρ r
def insM (v : Nat) : Mon → Mon
  | [] => [v]
  | x :: r => match Nat.ble v x with
    | true => v :: x :: r
    | false => x :: insM v r
theorem ev_insM (ρ : Nat → Int) (v : Nat) : ∀ m, evM ρ (insM v m) = ρ v * evM ρ m
  | [] => rfl
  | x :: r => by
    rw [insM]
    cases Nat.ble v x with
    | true => rfl
    | false => simp only; rw [evM, ev_insM ρ v r, evM, Int.mul_left_comm]
def mulM (a b : Mon) : Mon := a.foldr insM b
theorem ev_mulM (ρ : Nat → Int) (b : Mon) : ∀ a, evM ρ (mulM a b) = evM ρ a * evM ρ b
  | [] => by rw [mulM, List.foldr_nil, evM, Int.one_mul]
  | v :: r => by
    have ih := ev_mulM ρ b r
    unfold mulM at ih ⊢
    rw [List.foldr_cons, ev_insM, ih, evM, Int.mul_assoc]
def keyM (m : Mon) : Nat := m.foldl (fun k v => k * 32 + v + 1) 0
def eqM : Mon → Mon → Bool
  | [], [] => true
  | a :: r, b :: s => match Nat.beq a b with
    | true => eqM r s
    | false => false
  | _, _ => false
theorem eqM_eq : ∀ {a b : Mon}, eqM a b = true → a = b
  | [], [], _ => rfl
  | [], _ :: _, h => by cases h
  | _ :: _, [], h => by cases h
  | a :: r, b :: s, h => by
    rw [eqM] at h
    cases hb : Nat.beq a b with
    | true => rw [hb] at h; rw [Nat.eq_of_beq_eq_true hb, eqM_eq h]
    | false => rw [hb] at h; cases h
def addT (c : Int) (k : Nat) (m : Mon) : Pol → Pol
  | [] => [⟨c, k, m⟩]
  | t :: r => match Nat.ble k t.k with
    | true => match eqM m t.m with
      | true => ⟨c + t.c, k, m⟩ :: r
      | false => ⟨c, k, m⟩ :: t :: r
    | false => t :: addT c k m r
theorem ev_addT (ρ : Nat → Int) (c : Int) (k : Nat) (m : Mon) : ∀ p, evP ρ (addT c k m p) = c * evM ρ m + evP ρ p
  | [] => rfl
  | t :: r => by
    rw [addT]
    cases Nat.ble k t.k with
    | true =>
      simp only
      cases he : eqM m t.m with
      | true => simp only; rw [evP, evP, ← eqM_eq he, Int.add_mul, Int.add_assoc]
      | false => rfl
    | false => simp only; rw [evP, ev_addT ρ c k m r, evP, Int.add_left_comm]
def addP (p q : Pol) : Pol := p.foldr (fun t a => addT t.c t.k t.m a) q
theorem ev_addP (ρ : Nat → Int) (q : Pol) : ∀ p, evP ρ (addP p q) = evP ρ p + evP ρ q
  | [] => by rw [addP, List.foldr_nil, evP, Int.zero_add]
  | t :: r => by
    have ih := ev_addP ρ q r
    unfold addP at ih ⊢
    rw [List.foldr_cons, ev_addT, ih, evP, Int.add_assoc]
def mulT (c : Int) (m : Mon) (q : Pol) (z : Pol) : Pol := q.foldr (fun t a => addT (c * t.c) (keyM (mulM m t.m)) (mulM m t.m) a) z
theorem ev_mulT (ρ : Nat → Int) (c : Int) (m : Mon) (z : Pol) : ∀ q, evP ρ (mulT c m q z) = c * evM ρ m * evP ρ q + evP ρ z
  | [] => by rw [mulT, List.foldr_nil, evP, Int.mul_zero, Int.zero_add]
  | t :: r => by
    have ih := ev_mulT ρ c m z r
    unfold mulT at ih ⊢
    rw [List.foldr_cons, ev_addT, ih, ev_mulM, evP, Int.mul_add, Int.add_assoc]
    congr 1
    rw [Int.mul_assoc, Int.mul_assoc, Int.mul_left_comm t.c]
def mulP (p q : Pol) : Pol := p.foldr (fun t a => mulT t.c t.m q a) []
theorem ev_mulP (ρ : Nat → Int) (q : Pol) : ∀ p, evP ρ (mulP p q) = evP ρ p * evP ρ q
  | [] => by rw [mulP, List.foldr_nil, evP, Int.zero_mul]
  | t :: r => by
    have ih := ev_mulP ρ q r
    unfold mulP at ih ⊢
    rw [List.foldr_cons, ev_mulT, ih, evP, Int.add_mul]
def negP (p : Pol) : Pol := p.map fun t => ⟨-t.c, t.k, t.m⟩
theorem ev_negP (ρ : Nat → Int) : ∀ p, evP ρ (negP p) = -evP ρ p
  | [] => rfl
  | t :: r => by
    have ih := ev_negP ρ r
    unfold negP at ih ⊢
    rw [List.map_cons, evP, ih, evP, Int.neg_add]
    congr 1
    exact Int.neg_mul _ _
def zeroP : Pol → Bool
  | [] => true
  | t :: r => match t.c with
    | .ofNat 0 => zeroP r
    | _ => false
theorem zeroP_ev (ρ : Nat → Int) : ∀ {p : Pol}, zeroP p = true → evP ρ p = 0
  | [], _ => rfl
  | t :: r, h => by
    rw [zeroP] at h
    split at h
    · next h0 =>
      rw [evP, zeroP_ev ρ h, h0]
      show (0 : Int) * _ + 0 = 0
      rw [Int.zero_mul, Int.zero_add]
    · cases h

/-! ### determinants over whatever adds and multiplies -/
structure Ops (α : Type) where
  zero : α
  one : α
  add : α → α → α
  mul : α → α → α
  neg : α → α
def opI : Ops Int := ⟨0, 1, (· + ·), (· * ·), fun x => -x⟩
def opP : Ops Pol := ⟨[], [⟨1, 0, []⟩], addP, mulP, negP⟩
structure Hom {α β : Type} (o : Ops α) (p : Ops β) (h : α → β) : Prop where
  zero : h o.zero = p.zero
  one : h o.one = p.one
  add : ∀ x y, h (o.add x y) = p.add (h x) (h y)
  mul : ∀ x y, h (o.mul x y) = p.mul (h x) (h y)
  neg : ∀ x, h (o.neg x) = p.neg (h x)
theorem hom_ev (ρ : Nat → Int) : Hom opP opI (evP ρ) :=
  ⟨rfl, by show evP ρ [⟨1, 0, []⟩] = 1; simp [evP, evM], fun x y => ev_addP ρ y x, fun x y => ev_mulP ρ y x, ev_negP ρ⟩
/-- rows without the first one and without the place c -/
def lessG {α : Type} (c : Nat) (rest : List (List α)) : List (List α) := rest.map fun r => r.take c ++ r.drop (c + 1)
def termG {α : Type} (o : Ops α) (r0 : List α) (c : Nat) (d : α) : α := o.mul (if c % 2 = 0 then r0.getD c o.zero else o.neg (r0.getD c o.zero)) d
def detG {α : Type} (o : Ops α) : Nat → List (List α) → α
  | 0, _ => o.one
  | _ + 1, [] => o.one
  | f + 1, r0 :: rest => (List.range (rest.length + 1)).foldl (fun s c => o.add s (termG o r0 c (detG o f (lessG c rest)))) o.zero
theorem getD_map {α β : Type} (h : α → β) (l : List α) (c : Nat) (z : α) : h (l.getD c z) = (l.map h).getD c (h z) := by
  rw [List.getD_eq_getElem?_getD, List.getD_eq_getElem?_getD, List.getElem?_map]
  cases l[c]? <;> rfl
theorem foldl_hom {α β γ : Type} (h : α → β) (f : α → γ → α) (g : β → γ → β) (hfg : ∀ s c, h (f s c) = g (h s) c) : ∀ (L : List γ) (s : α), h (L.foldl f s) = L.foldl g (h s)
  | [], s => rfl
  | c :: r, s => by rw [List.foldl_cons, List.foldl_cons, foldl_hom h f g hfg r, hfg]
theorem less_map {α β : Type} (h : α → β) (c : Nat) (rest : List (List α)) : (lessG c rest).map (List.map h) = lessG c (rest.map (List.map h)) := by
  unfold lessG
  rw [List.map_map, List.map_map]
  apply List.map_congr_left
  intro r _
  show List.map h (r.take c ++ r.drop (c + 1)) = (r.map h).take c ++ (r.map h).drop (c + 1)
  rw [List.map_append, List.map_take, List.map_drop]
theorem det_hom {α β : Type} {o : Ops α} {p : Ops β} {h : α → β} (H : Hom o p h) : ∀ (f : Nat) (rows : List (List α)), h (detG o f rows) = detG p f (rows.map (List.map h))
  | 0, _ => H.one
  | _ + 1, [] => H.one
  | f + 1, r0 :: rest => by
    rw [detG, List.map_cons, detG, List.length_map]
    rw [foldl_hom h _ (fun s c => p.add s (termG p (r0.map h) c (detG p f (lessG c (rest.map (List.map h)))))) ?_, H.zero]
    intro s c
    rw [H.add]
    congr 1
    unfold termG
    rw [H.mul, det_hom H f, less_map]
    congr 1
    split
    · rw [getD_map h, H.zero]
    · rw [H.neg, getD_map h, H.zero]
/-- the rows of all nodes but the last one -/
def sumG {α : Type} (o : Ops α) (L : List α) : α := L.foldl o.add o.zero
def matG {α : Type} (o : Ops α) (n : Nat) (w : Nat → Nat → α) : List (List α) :=
  (List.range (n - 1)).map fun i => (List.range (n - 1)).map fun j => if i = j then sumG o ((List.range n).map fun k => if k = i then o.zero else w i k) else o.neg (w i j)
theorem sum_hom {α β : Type} {o : Ops α} {p : Ops β} {h : α → β} (H : Hom o p h) (L : List α) : h (sumG o L) = sumG p (L.map h) := by
  unfold sumG
  rw [foldl_hom h o.add (fun s c => p.add s (h c)) (fun s c => H.add s c), H.zero, List.foldl_map]
theorem mat_hom {α β : Type} {o : Ops α} {p : Ops β} {h : α → β} (H : Hom o p h) (n : Nat) (w : Nat → Nat → α) : (matG o n w).map (List.map h) = matG p n fun i j => h (w i j) := by
  unfold matG
  rw [List.map_map]
  apply List.map_congr_left
  intro i _
  show List.map h (List.map _ _) = _
  rw [List.map_map]
  apply List.map_congr_left
  intro j _
  show h (if i = j then _ else _) = _
  by_cases hij : i = j
  · rw [if_pos hij, if_pos hij, sum_hom H, List.map_map]
    congr 1
    apply List.map_congr_left
    intro k _
    show h (if k = i then _ else _) = _
    by_cases hk : k = i
    · rw [if_pos hk, if_pos hk, H.zero]
    · rw [if_neg hk, if_neg hk]
  · rw [if_neg hij, if_neg hij, H.neg]
theorem mat_congr {α : Type} {o : Ops α} {n : Nat} {w w' : Nat → Nat → α} (h : ∀ i j, i < n → j < n → i ≠ j → w i j = w' i j) : matG o n w = matG o n w' := by
  unfold matG
  apply List.map_congr_left
  intro i hi
  apply List.map_congr_left
  intro j hj
  rw [List.mem_range] at hi hj
  by_cases hij : i = j
  · rw [if_pos hij, if_pos hij]
    congr 1
    apply List.map_congr_left
    intro k hk
    rw [List.mem_range] at hk
    by_cases e : k = i
    · rw [if_pos e, if_pos e]
    · rw [if_neg e, if_neg e, h i k (by omega) hk (Ne.symm e)]
  · rw [if_neg hij, if_neg hij, h i j (by omega) (by omega) hij]
/-- an edge more between a and b -/
def moreG {α : Type} (o : Ops α) (a b : Nat) (w : Nat → Nat → α) : Nat → Nat → α := fun i j => if (i = a ∧ j = b) ∨ (i = b ∧ j = a) then o.add (w i j) o.one else w i j
/-- b joined to a -/
def joinG {α : Type} (o : Ops α) (a b : Nat) (w : Nat → Nat → α) : Nat → Nat → α := fun i j =>
  let p := if i < b then i else i + 1
  let q := if j < b then j else j + 1
  o.add (w p q) (o.add (if i = a then w b q else o.zero) (if j = a then w p b else o.zero))
theorem more_hom {α β : Type} {o : Ops α} {p : Ops β} {h : α → β} (H : Hom o p h) (a b : Nat) (w : Nat → Nat → α) (i j : Nat) : h (moreG o a b w i j) = moreG p a b (fun i j => h (w i j)) i j := by
  unfold moreG
  split
  · rw [H.add, H.one]
  · rfl
theorem join_hom {α β : Type} {o : Ops α} {p : Ops β} {h : α → β} (H : Hom o p h) (a b : Nat) (w : Nat → Nat → α) (i j : Nat) : h (joinG o a b w i j) = joinG p a b (fun i j => h (w i j)) i j := by
  unfold joinG
  simp only
  rw [H.add, H.add]
  congr 2
  · split
    · rfl
    · exact H.zero
  · split
    · rfl
    · exact H.zero
/-- the letter of two nodes -/
def letter (i j : Nat) : Pol := match Nat.beq i j with
  | true => []
  | false => [⟨1, keyM [min i j * 5 + max i j], [min i j * 5 + max i j]⟩]
def idB (n a b : Nat) : Bool := zeroP (addP (detG opP n (matG opP n (moreG opP a b letter))) (negP (addP (detG opP n (matG opP n letter)) (detG opP n (matG opP (n - 1) (joinG opP a b letter))))))
theorem id_small : ((List.range 5).all fun n => (List.range n).all fun b => (List.range b).all fun a => idB n a b) = true := by decide +kernel
end Go.Proofs.Ytfdalmeimhcdjaa
