/-
  Plain facts: leaves of a branch's text are the nodes of it with one neighbour. Nothing of the program is named here.
-/
import Derived.Test.YthlboikljibohaaZR
namespace Go.Proofs.Ythlboikljibohaa

theorem leaves_join : ∀ (x y : List UInt8), x.getLast? = some 41 → leavesL (x ++ y) = leavesL x + leavesL y
  | [], y, h => by simp at h
  | [c], y, h => by
    simp at h
    subst h
    cases y with
    | nil => rfl
    | cons b r =>
      show (if (41 : UInt8).toNat = 40 ∧ b.toNat = 41 then 1 else 0) + leavesL (b :: r) = 0 + leavesL (b :: r)
      rw [if_neg (by rintro ⟨h, _⟩; cases h)]
  | a :: b :: r, y, h => by
    have h2 : (b :: r).getLast? = some 41 := by rwa [List.getLast?_cons_cons] at h
    show (if a.toNat = 40 ∧ b.toNat = 41 then 1 else 0) + leavesL (b :: (r ++ y)) = (if a.toNat = 40 ∧ b.toNat = 41 then 1 else 0) + leavesL (b :: r) + leavesL y
    have := leaves_join (b :: r) y h2
    rw [List.cons_append] at this
    rw [this]; omega
/-- a pair's text: it begins and ends with brackets -/
def Brk (x : List UInt8) : Prop := x.head? = some 40 ∧ x.getLast? = some 41
theorem brk_pair (s : List UInt8) : Brk (40 :: (s ++ [41])) := by
  refine ⟨rfl, ?_⟩
  rw [← List.cons_append, List.getLast?_append]; rfl
theorem flat_leaves {L : List (List UInt8)} (h : ∀ x ∈ L, Brk x) : leavesL L.flatten = (L.map leavesL).sum := by
  induction L with
  | nil => rfl
  | cons a r ih => rw [List.flatten_cons, leaves_join _ _ (h a (by simp)).2, ih (fun x hx => h x (List.mem_cons_of_mem _ hx)), List.map_cons, List.sum_cons]
theorem flat_last {L : List (List UInt8)} (h : ∀ x ∈ L, Brk x) (hn : L ≠ []) : L.flatten.getLast? = some 41 := by
  induction L with
  | nil => exact absurd rfl hn
  | cons a r ih =>
    rw [List.flatten_cons, List.getLast?_append]
    cases r with
    | nil => simp [(h a (by simp)).2]
    | cons b q => rw [ih (fun x hx => h x (List.mem_cons_of_mem _ hx)) (by simp)]; rfl
theorem flat_head {L : List (List UInt8)} (h : ∀ x ∈ L, Brk x) (hn : L ≠ []) : ∃ r, L.flatten = 40 :: r := by
  cases L with
  | nil => exact absurd rfl hn
  | cons a r =>
    have h1 := (h a (by simp)).1
    cases a with
    | nil => simp at h1
    | cons c s => simp at h1; subst h1; exact ⟨s ++ r.flatten, rfl⟩
theorem pair_leaves {L : List (List UInt8)} (h : ∀ x ∈ L, Brk x) : leavesL (40 :: (L.flatten ++ [41])) = if L = [] then 1 else (L.map leavesL).sum := by
  by_cases hn : L = []
  · subst hn; rfl
  · rw [if_neg hn, ← flat_leaves h]
    have hj := leaves_join L.flatten [41] (flat_last h hn)
    obtain ⟨r, hr⟩ := flat_head h hn
    rw [hr] at hj ⊢
    show (if (40 : UInt8).toNat = 40 ∧ (40 : UInt8).toNat = 41 then 1 else 0) + leavesL (40 :: (r ++ [41])) = _
    rw [if_neg (by rintro ⟨_, h⟩; cases h)]
    rw [List.cons_append] at hj
    rw [hj]
    show 0 + (leavesL (40 :: r) + 0) = _
    omega
theorem brk_txt {E : Edges} {d v : Nat} {fr : Int} (h : Brn E d v fr) : Brk (txt E d v fr) := by
  cases d with
  | zero => exact h.elim
  | succ d => rw [txt]; exact brk_pair _
theorem txt_leaves {E : Edges} {d v : Nat} {fr : Int} (h : Brn E (d + 1) v fr) : leavesL (txt E (d + 1) v fr) = if away E v fr = [] then 1 else ((away E v fr).map fun x => leavesL (txt E d x v)).sum := by
  have hL : ∀ x ∈ srtT ((away E v fr).map fun x => txt E d x v), Brk x := by
    intro x hx
    rw [(srtT_perm _).mem_iff] at hx
    obtain ⟨y, hy, rfl⟩ := List.mem_map.1 hx
    exact brk_txt (h y hy)
  rw [txt, pair_leaves hL]
  have hp := srtT_perm ((away E v fr).map fun x => txt E d x v)
  by_cases ha : away E v fr = []
  · rw [if_pos ha, if_pos (by rw [ha]; rfl)]
  · rw [if_neg ha, if_neg (fun e => ha (by rw [e] at hp; have := hp.length_eq; simp at this; exact List.eq_nil_of_length_eq_zero (by simpa using this.symm)))]
    rw [(hp.map leavesL).sum_nat, List.map_map]; rfl
theorem sum_congr {L : List Nat} {f g : Nat → Nat} (h : ∀ x ∈ L, f x = g x) : (L.map f).sum = (L.map g).sum := by rw [List.map_congr_left h]
theorem countP_flat {L : List Nat} {f : Nat → List Nat} {p : Nat → Bool} : (L.flatMap f).countP p = (L.map fun x => (f x).countP p).sum := by
  induction L with
  | nil => rfl
  | cons a r ih => rw [List.flatMap_cons, List.countP_append, ih, List.map_cons, List.sum_cons]
theorem nb_sym {E : Edges} {v x : Nat} (h : x ∈ nb E v) : v ∈ nb E x := by
  rw [mem_nb] at h ⊢
  exact h.symm
theorem away_lenL {E : Edges} (ho : ∀ e ∈ E, e.1 < e.2) (ha : AscP E) {v f : Nat} (hf : f ∈ nb E v) : (away E v f).length + 1 = deg E v := by
  have hnd : (nb E v).Nodup := (nb_asc ho ha v).imp (fun h => by omega)
  rw [← nb_deg ho v]
  have key : ∀ L : List Nat, L.Nodup → f ∈ L → (L.filter fun (x : Nat) => !decide ((x : Int) = (f : Int))).length + 1 = L.length := by
    intro L
    induction L with
    | nil => intro _ h; simp at h
    | cons a r ih =>
      intro hn hm
      obtain ⟨h1, h2⟩ := List.nodup_cons.1 hn
      by_cases e : a = f
      · subst e
        rw [List.filter_cons_of_neg (by simp)]
        have : (r.filter fun (x : Nat) => !decide ((x : Int) = (a : Int))) = r := by
          rw [List.filter_eq_self]
          intro x hx
          have : x ≠ a := fun e => h1 (e ▸ hx)
          simp; omega
        rw [this]; rfl
      · rw [List.filter_cons_of_pos (by simp; omega), List.length_cons, List.length_cons]
        have hm2 : f ∈ r := by
          rcases List.mem_cons.1 hm with h | h
          · exact absurd h.symm e
          · exact h
        have := ih h2 hm2
        omega
  exact key _ hnd hf
theorem br_leaves {E : Edges} (ho : ∀ e ∈ E, e.1 < e.2) (ha : AscP E) : ∀ (d v f : Nat), Brn E d v (f : Int) → f ∈ nb E v → leavesL (txt E d v (f : Int)) = (nds E d v (f : Int)).countP (fun x => decide (deg E x = 1)) := by
  intro d
  induction d with
  | zero => intro v f h; exact h.elim
  | succ d ih =>
    intro v f hB hf
    have hl := away_lenL ho ha hf
    rw [txt_leaves hB, nds, List.countP_cons, countP_flat]
    have hs : ((away E v (f : Int)).map fun x => leavesL (txt E d x v)).sum = ((away E v (f : Int)).map fun x => (nds E d x v).countP fun x => decide (deg E x = 1)).sum := by
      refine sum_congr fun x hx => ?_
      have hx2 := mem_away.1 hx
      exact ih x v (hB x hx) (nb_sym (mem_nb.2 hx2.1))
    by_cases he : away E v (f : Int) = []
    · rw [if_pos he, he]
      rw [he] at hl
      have : deg E v = 1 := by simpa using hl.symm
      simp [this]
    · rw [if_neg he, hs]
      have hpos : 0 < (away E v (f : Int)).length := List.length_pos_iff.2 he
      have : ¬ deg E v = 1 := by omega
      simp [this]
theorem leaves_pos {E : Edges} : ∀ (d v : Nat) (fr : Int), Brn E d v fr → 1 ≤ leavesL (txt E d v fr) := by
  intro d
  induction d with
  | zero => intro v fr h; exact h.elim
  | succ d ih =>
    intro v fr hB
    rw [txt_leaves hB]
    cases he : away E v fr with
    | nil => simp
    | cons a r =>
      rw [if_neg (by simp), List.map_cons, List.sum_cons]
      have := ih a v (hB a (by rw [he]; simp))
      omega
/-- leaves seen from a node: the other nodes with one neighbour, one if there are none -/
theorem root_leaves {n : Nat} {E : Edges} (h : ValidT n E) (h7 : n ≤ 7) {u : Nat} (hu : u < n) : leavesL (txt E 14 u (-1)) = max ((List.range n).countP fun v => decide (v ≠ u) && decide (deg E v = 1)) 1 := by
  have ho : ∀ e ∈ E, e.1 < e.2 := fun e he => (h.ord e he).1
  have hB := valid_brn h h7 u (-1)
  have hp := nd_perm h h7 hu
  have hpos := leaves_pos 14 u (-1) hB
  have hnd : (nds E 14 u (-1)).Nodup := hp.nodup_iff.2 List.nodup_range
  have hn : nds E 14 u (-1) = u :: (away E u (-1)).flatMap fun x => nds E 13 x u := rfl
  rw [hn] at hnd
  obtain ⟨hnu, _⟩ := List.nodup_cons.1 hnd
  have hc : ((List.range n).countP fun v => decide (v ≠ u) && decide (deg E v = 1)) = ((away E u (-1)).flatMap fun x => nds E 13 x u).countP (fun x => decide (deg E x = 1)) := by
    rw [← hp.countP_eq, hn, List.countP_cons]
    have e1 : (if (decide (u ≠ u) && decide (deg E u = 1)) = true then 1 else 0) = 0 := by simp
    rw [e1, Nat.add_zero]
    refine List.countP_congr fun x hx => ?_
    have : x ≠ u := fun e => hnu (e ▸ hx)
    simp [this]
  rw [hc, countP_flat]
  have ht := txt_leaves (d := 13) hB
  have hs : ((away E u (-1)).map fun x => leavesL (txt E 13 x u)).sum = ((away E u (-1)).map fun x => (nds E 13 x u).countP fun x => decide (deg E x = 1)).sum := by
    refine sum_congr fun x hx => ?_
    have hx2 := mem_away.1 hx
    exact br_leaves ho h.asc 13 x u (hB x hx) (nb_sym (mem_nb.2 hx2.1))
  rw [ht] at hpos ⊢
  by_cases he : away E u (-1) = []
  · rw [if_pos he, he]; rfl
  · rw [if_neg he] at hpos ⊢
    rw [hs] at hpos ⊢
    omega
end Go.Proofs.Ythlboikljibohaa
