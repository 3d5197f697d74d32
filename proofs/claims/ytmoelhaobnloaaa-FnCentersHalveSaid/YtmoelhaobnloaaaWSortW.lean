/-
  Plain facts on lists of texts byte by byte, each one once. Nothing of the program is named here.
-/
import Derived.Test.YtmoelhaobnloaaaZX
import Derived.Test.YtmoelhaobnloaaaWTw
namespace Go.Proofs.Ytmoelhaobnloaaa

theorem less_trans : ∀ (x y z : List UInt8), lessL x y = true → lessL y z = true → lessL x z = true
  | x, [], z, h1, _ => by cases x <;> cases h1
  | x, b :: y, [], _, h2 => by cases h2
  | [], _ :: _, _ :: _, _, _ => rfl
  | a :: x, b :: y, c :: z, h1, h2 => by
    simp only [lessL, Bool.or_eq_true, Bool.and_eq_true, Nat.blt_eq, Nat.beq_eq] at h1 h2 ⊢
    rcases h1 with h1 | ⟨h1, h3⟩
    · rcases h2 with h2 | ⟨h2, _⟩
      · exact .inl (by omega)
      · exact .inl (by omega)
    · rcases h2 with h2 | ⟨h2, h4⟩
      · exact .inl (by omega)
      · exact .inr ⟨by omega, less_trans x y z h3 h4⟩
theorem less_total : ∀ (x y : List UInt8), lessL x y = true ∨ x = y ∨ lessL y x = true
  | [], [] => .inr (.inl rfl)
  | [], _ :: _ => .inl rfl
  | _ :: _, [] => .inr (.inr rfl)
  | a :: x, b :: y => by
    simp only [lessL, Bool.or_eq_true, Bool.and_eq_true, Nat.blt_eq, Nat.beq_eq]
    rcases Nat.lt_trichotomy a.toNat b.toNat with h | h | h
    · exact .inl (.inl h)
    · rcases less_total x y with h1 | h1 | h1
      · exact .inl (.inr ⟨h, h1⟩)
      · exact .inr (.inl (by rw [h1, UInt8.toNat_inj.1 h]))
      · exact .inr (.inr (.inr ⟨h.symm, h1⟩))
    · exact .inr (.inr (.inl h))
theorem less_irr {x y : List UInt8} (h : lessL x y = true) : x ≠ y := by
  intro e; subst e; rw [less_self] at h; cases h
def Asc (L : List (List UInt8)) : Prop := L.Pairwise fun x y => lessL x y = true
theorem Asc.nodup {L : List (List UInt8)} (h : Asc L) : L.Nodup := List.Pairwise.imp (fun h => less_irr h) h
theorem asc_uniq : ∀ (L M : List (List UInt8)), Asc L → Asc M → (∀ x, x ∈ L ↔ x ∈ M) → L = M
  | [], [], _, _, _ => rfl
  | [], y :: M, _, _, h => by have := (h y).2 (by simp); simp at this
  | x :: L, [], _, _, h => by have := (h x).1 (by simp); simp at this
  | x :: L, y :: M, h1, h2, h => by
    obtain ⟨a1, a2⟩ := List.pairwise_cons.1 h1
    obtain ⟨b1, b2⟩ := List.pairwise_cons.1 h2
    have hxy : x = y := by
      have m1 := (h x).1 (by simp)
      have m2 := (h y).2 (by simp)
      rcases List.mem_cons.1 m1 with m1 | m1
      · exact m1
      · rcases List.mem_cons.1 m2 with m2 | m2
        · exact m2.symm
        · have q := less_trans _ _ _ (b1 x m1) (a1 y m2)
          rw [less_self] at q; cases q
    subst hxy
    have : L = M := asc_uniq L M a2 b2 (fun z => by
      have hz := h z
      simp only [List.mem_cons] at hz
      constructor
      · intro m
        rcases hz.1 (.inr m) with e | m'
        · subst e; have := a1 z m; rw [less_self] at this; cases this
        · exact m'
      · intro m
        rcases hz.2 (.inr m) with e | m'
        · subst e; have := b1 z m; rw [less_self] at this; cases this
        · exact m')
    rw [this]
/-- a text goes to its place, if it is not there -/
def insW (out : List (List UInt8)) (x : List UInt8) : List (List UInt8) :=
  if x ∈ out then out else out.takeWhile (fun y => lessL y x) ++ [x] ++ out.dropWhile (fun y => lessL y x)
def sortW (L : List (List UInt8)) : List (List UInt8) := L.foldl insW []
theorem mem_insW (out : List (List UInt8)) (x y : List UInt8) : y ∈ insW out x ↔ y ∈ out ∨ y = x := by
  unfold insW
  split
  · rename_i h
    exact ⟨.inl, fun h1 => h1.elim id (fun e => e ▸ h)⟩
  · have e := List.takeWhile_append_dropWhile (p := fun y => lessL y x) (l := out)
    have : y ∈ out ↔ y ∈ out.takeWhile (fun y => lessL y x) ∨ y ∈ out.dropWhile (fun y => lessL y x) := by
      rw [← List.mem_append, e]
    simp only [List.mem_append, List.mem_singleton, this]
    constructor
    · rintro ((h | h) | h)
      · exact .inl (.inl h)
      · exact .inr h
      · exact .inl (.inr h)
    · rintro ((h | h) | h)
      · exact .inl (.inl h)
      · exact .inr h
      · exact .inl (.inr h)
theorem drop_gt (x : List UInt8) : ∀ (out : List (List UInt8)), Asc out → x ∉ out → ∀ y ∈ out.dropWhile (fun y => lessL y x), lessL x y = true
  | [], _, _, y, hy => by simp at hy
  | z :: r, h, hx, y, hy => by
    obtain ⟨h1, h2⟩ := List.pairwise_cons.1 h
    have hxz : x ≠ z := fun e => hx (by simp [e])
    have hxr : x ∉ r := fun e => hx (by simp [e])
    by_cases hz : lessL z x = true
    · rw [List.dropWhile_cons, if_pos hz] at hy
      exact drop_gt x r h2 hxr y hy
    · rw [List.dropWhile_cons, if_neg hz] at hy
      have hzx : lessL x z = true := by
        rcases less_total x z with e | e | e
        · exact e
        · exact absurd e hxz
        · exact absurd e hz
      rcases List.mem_cons.1 hy with e | e
      · rw [e]; exact hzx
      · exact less_trans _ _ _ hzx (h1 y e)
theorem asc_insW {out : List (List UInt8)} (x : List UInt8) (h : Asc out) : Asc (insW out x) := by
  unfold insW
  split
  · exact h
  · rename_i hx
    have e := List.takeWhile_append_dropWhile (p := fun y => lessL y x) (l := out)
    have ht : Asc (out.takeWhile (fun y => lessL y x) ++ out.dropWhile (fun y => lessL y x)) := by rw [e]; exact h
    obtain ⟨t1, t2, t3⟩ := List.pairwise_append.1 ht
    have tx : ∀ y ∈ out.takeWhile (fun y => lessL y x), lessL y x = true := fun y hy => by
      have := List.all_takeWhile (l := out) (p := fun y => lessL y x)
      exact List.all_eq_true.1 this y hy
    have dx := drop_gt x out h hx
    refine List.pairwise_append.2 ⟨List.pairwise_append.2 ⟨t1, List.pairwise_singleton _ _, fun a ha b hb => ?_⟩, t2, fun a ha b hb => ?_⟩
    · simp only [List.mem_singleton] at hb; rw [hb]; exact tx a ha
    · rcases List.mem_append.1 ha with ha | ha
      · exact t3 a ha b hb
      · simp only [List.mem_singleton] at ha; rw [ha]; exact dx b hb
theorem sortW_facts (L : List (List UInt8)) : ∀ (out : List (List UInt8)), Asc out → Asc (L.foldl insW out) ∧ ∀ y, y ∈ L.foldl insW out ↔ y ∈ out ∨ y ∈ L := by
  induction L with
  | nil => intro out h; exact ⟨h, fun y => by simp⟩
  | cons x r ih =>
    intro out h
    obtain ⟨h1, h2⟩ := ih (insW out x) (asc_insW x h)
    refine ⟨h1, fun y => ?_⟩
    rw [List.foldl_cons, h2, mem_insW, List.mem_cons]
    constructor
    · rintro ((a | a) | a)
      · exact .inl a
      · exact .inr (.inl a)
      · exact .inr (.inr a)
    · rintro (a | a | a)
      · exact .inl (.inl a)
      · exact .inl (.inr a)
      · exact .inr a
theorem asc_sortW (L : List (List UInt8)) : Asc (sortW L) := (sortW_facts L [] List.Pairwise.nil).1
theorem mem_sortW (L : List (List UInt8)) (y : List UInt8) : y ∈ sortW L ↔ y ∈ L := by
  have := (sortW_facts L [] List.Pairwise.nil).2 y
  simpa [sortW] using this
theorem sortW_uniq {L M : List (List UInt8)} (hM : Asc M) (h : ∀ y, y ∈ M ↔ y ∈ L) : sortW L = M := asc_uniq _ _ (asc_sortW L) hM (fun y => by rw [mem_sortW, h])
theorem insW_length {out : List (List UInt8)} {x : List UInt8} (h : x ∉ out) : (insW out x).length = out.length + 1 := by
  have e := congrArg List.length (List.takeWhile_append_dropWhile (p := fun y => lessL y x) (l := out))
  rw [List.length_append] at e
  rw [insW, if_neg h]
  simp only [List.length_append, List.length_singleton]
  omega
theorem sortW_length {L : List (List UInt8)} (h : L.Nodup) : (sortW L).length = L.length := by
  have key : ∀ (L out : List (List UInt8)), Asc out → L.Nodup → (∀ x ∈ L, x ∉ out) → (L.foldl insW out).length = out.length + L.length := by
    intro L
    induction L with
    | nil => intro out _ _ _; simp
    | cons x r ih =>
      intro out ho hn hd
      obtain ⟨n1, n2⟩ := List.nodup_cons.1 hn
      rw [List.foldl_cons, ih (insW out x) (asc_insW x ho) n2 (fun y hy => by
        rw [mem_insW]
        rintro (a | a)
        · exact hd y (by simp [hy]) a
        · subst a; exact n1 hy), insW_length (hd x (by simp)), List.length_cons]
      omega
  have := key L [] List.Pairwise.nil h (by simp)
  simpa [sortW] using this
/-- the turns of a word, byte by byte -/
def turnsOut (t : Tw) : List (List UInt8) := sortW (t.turns.map Tw.lst)
theorem turnsOut_length (t : Tw) : (turnsOut t).length = t.size - 1 := by
  rw [turnsOut, sortW_length (Tw.map_nodup Tw.lst_inj (Tw.turns_nodup t)), List.length_map, Tw.turns_length]
theorem mem_turnsOut (t : Tw) (s : List UInt8) : s ∈ turnsOut t ↔ ∃ u, u ∈ t.turns ∧ u.lst = s := by
  rw [turnsOut, mem_sortW, List.mem_map]

/-! ### words in layers -/
/-- what is new goes to both lists -/
def addT (p : List Tw × List Tw) (u : Tw) : List Tw × List Tw := if u ∈ p.1 then p else (p.1 ++ [u], p.2 ++ [u])
def grow (p : List Tw × List Tw) : List Tw × List Tw := (p.2.flatMap Tw.turns).foldl addT (p.1, [])
theorem add_facts : ∀ (L : List Tw) (p : List Tw × List Tw), (∀ u, u ∈ (L.foldl addT p).1 ↔ u ∈ p.1 ∨ u ∈ L) ∧ (∀ u, u ∈ (L.foldl addT p).2 ↔ u ∈ p.2 ∨ (u ∈ L ∧ u ∉ p.1)) := by
  intro L
  induction L with
  | nil => intro p; exact ⟨fun u => by simp, fun u => by simp⟩
  | cons x r ih =>
    intro p
    obtain ⟨h1, h2⟩ := ih (addT p x)
    rw [List.foldl_cons]
    by_cases hx : x ∈ p.1
    · have e : addT p x = p := by rw [addT, if_pos hx]
      rw [e] at h1 h2 ⊢
      refine ⟨fun u => ?_, fun u => ?_⟩
      · rw [h1, List.mem_cons]
        constructor
        · rintro (a | a); exact .inl a; exact .inr (.inr a)
        · rintro (a | a | a); exact .inl a; subst a; exact .inl hx; exact .inr a
      · rw [h2, List.mem_cons]
        constructor
        · rintro (a | ⟨a, b⟩); exact .inl a; exact .inr ⟨.inr a, b⟩
        · rintro (a | ⟨a | a, b⟩); exact .inl a; subst a; exact absurd hx b; exact .inr ⟨a, b⟩
    · have e : addT p x = (p.1 ++ [x], p.2 ++ [x]) := by rw [addT, if_neg hx]
      rw [e] at h1 h2 ⊢
      refine ⟨fun u => ?_, fun u => ?_⟩
      · rw [h1]
        simp only [List.mem_append, List.mem_cons, List.not_mem_nil, or_false]
        constructor
        · rintro ((a | a) | a); exact .inl a; exact .inr (.inl a); exact .inr (.inr a)
        · rintro (a | a | a); exact .inl (.inl a); exact .inl (.inr a); exact .inr a
      · rw [h2]
        simp only [List.mem_append, List.mem_cons, List.not_mem_nil, or_false, not_or]
        constructor
        · rintro ((a | a) | ⟨a, b, c⟩)
          · exact .inl a
          · subst a; exact .inr ⟨.inl rfl, hx⟩
          · exact .inr ⟨.inr a, b⟩
        · rintro (a | ⟨a | a, b⟩)
          · exact .inl (.inl a)
          · exact .inl (.inr a)
          · by_cases hux : u = x
            · exact .inl (.inr hux)
            · exact .inr ⟨a, b, hux⟩
/-- seen so far, and the newest of them -/
def Layer (a : Tw) (k : Nat) (p : List Tw × List Tw) : Prop := (∀ u, u ∈ p.1 ↔ ∃ j, j ≤ k ∧ Tw.Way j a u) ∧ ∀ u, u ∈ p.2 ↔ Tw.Far a u k
theorem layer_zero (a : Tw) : Layer a 0 ([a], [a]) := by
  refine ⟨fun u => ?_, fun u => ?_⟩
  · simp only [List.mem_singleton]
    constructor
    · intro e; exact ⟨0, Nat.le_refl _, e.symm⟩
    · rintro ⟨j, hj, hw⟩
      have : j = 0 := by omega
      subst this
      exact (show a = u from hw).symm
  · simp only [List.mem_singleton]
    constructor
    · intro e; exact ⟨e.symm, fun j hj => by omega⟩
    · intro h; exact (show a = u from h.1).symm
theorem layer_grow {a : Tw} {k : Nat} {p : List Tw × List Tw} (h : Layer a k p) : Layer a (k + 1) (grow p) := by
  obtain ⟨h1, h2⟩ := h
  obtain ⟨g1, g2⟩ := add_facts (p.2.flatMap Tw.turns) (p.1, [])
  have hm : ∀ u, u ∈ p.2.flatMap Tw.turns ↔ ∃ c, Tw.Far a c k ∧ u ∈ c.turns := fun u => by
    rw [List.mem_flatMap]
    constructor
    · rintro ⟨c, hc, hu⟩; exact ⟨c, (h2 c).1 hc, hu⟩
    · rintro ⟨c, hc, hu⟩; exact ⟨c, (h2 c).2 hc, hu⟩
  have key : ∀ u, (∃ j, j ≤ k + 1 ∧ Tw.Way j a u) ↔ (∃ j, j ≤ k ∧ Tw.Way j a u) ∨ ∃ c, Tw.Far a c k ∧ u ∈ c.turns := fun u => by
    constructor
    · rintro ⟨j, hj, hw⟩
      by_cases hjk : ∃ i, i ≤ k ∧ Tw.Way i a u
      · exact .inl hjk
      · right
        have e : j = k + 1 := by
          apply Classical.byContradiction
          intro hne
          exact hjk ⟨j, by omega, hw⟩
        subst e
        obtain ⟨c, hc, hu⟩ := hw
        refine ⟨c, ⟨hc, fun i hi hw => hjk ⟨i + 1, by omega, c, hw, hu⟩⟩, hu⟩
    · rintro (⟨j, hj, hw⟩ | ⟨c, hc, hu⟩)
      · exact ⟨j, by omega, hw⟩
      · exact ⟨k + 1, Nat.le_refl _, c, hc.1, hu⟩
  refine ⟨fun u => ?_, fun u => ?_⟩
  · show u ∈ ((p.2.flatMap Tw.turns).foldl addT (p.1, [])).1 ↔ _
    rw [g1 u, key u]
    show (u ∈ p.1 ∨ _) ↔ _
    rw [h1 u, hm u]
  · show u ∈ ((p.2.flatMap Tw.turns).foldl addT (p.1, [])).2 ↔ _
    rw [g2 u]
    show (u ∈ [] ∨ (_ ∧ u ∉ p.1)) ↔ _
    rw [hm u, h1 u]
    constructor
    · rintro (a | ⟨⟨c, hc, hu⟩, hn⟩)
      · simp at a
      · exact ⟨⟨c, hc.1, hu⟩, fun j hj hw => hn ⟨j, by omega, hw⟩⟩
    · intro hf
      refine .inr ⟨?_, fun ⟨j, hj, hw⟩ => hf.2 j (by omega) hw⟩
      obtain ⟨c, hc, hu⟩ := hf.1
      exact ⟨c, ⟨hc, fun i hi hw => hf.2 (i + 1) (by omega) ⟨c, hw, hu⟩⟩, hu⟩
end Go.Proofs.Ytmoelhaobnloaaa
