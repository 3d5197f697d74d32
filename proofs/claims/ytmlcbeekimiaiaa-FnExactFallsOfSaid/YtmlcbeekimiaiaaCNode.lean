/-
  A word's tree in memory: where its nodes lie and what hangs on their arms, while it is built and behind that.
-/
import Derived.Test.YtmlcbeekimiaiaaZP
import Derived.Test.YtmlcbeekimiaiaaZV
import Derived.Test.YtmlcbeekimiaiaaWBld
namespace Go.Proofs.Ytmlcbeekimiaiaa
open Go.RowKit

theorem getD_memN {l : List Nat} {i : Nat} (h : i < l.length) : l.getD i 0 ∈ l := by
  rw [List.getD_eq_getElem?_getD, List.getElem?_eq_getElem h]; exact List.getElem_mem h
theorem getD_old {l : List Nat} {i : Nat} (x : Nat) (h : i < l.length) : (l ++ [x]).getD i 0 = l.getD i 0 := by
  rw [List.getD_eq_getElem?_getD, List.getD_eq_getElem?_getD, List.getElem?_append_left h]
theorem getD_new (l : List Nat) (x : Nat) : (l ++ [x]).getD l.length 0 = x := by simp
theorem getD_injN {l : List Nat} (hn : l.Nodup) {i j : Nat} (hi : i < l.length) (hj : j < l.length) (h : l.getD i 0 = l.getD j 0) : i = j := by
  rw [List.getD_eq_getElem?_getD, List.getD_eq_getElem?_getD, List.getElem?_eq_getElem hi, List.getElem?_eq_getElem hj] at h
  have h' : l[i] = l[j] := h
  have p := List.pairwise_iff_getElem.1 hn
  rcases Nat.lt_trichotomy i j with e | e | e
  · exact absurd h' (p i j hi hj e)
  · exact e
  · exact absurd h'.symm (p j i hj hi e)

/-- the arm with this number (0: the first node's) -/
def adr (F : Nat) (bl : List Nat) (a : Nat) : Addr := if a = 0 then ⟨F, 0, none⟩ else ⟨bl.getD ((a - 1) / 2) 0, (a - 1) % 2 + 1, none⟩
def ptrA (bl : List Nat) (x : Int) : Option Addr := if x < 0 then none else some ⟨bl.getD x.toNat 0, 0, none⟩
def nds (bl st : List Nat) : List Value := st.map fun i => .pointer (some ⟨bl.getD i 0, 0, none⟩)
theorem adr_arm (F : Nat) (bl : List Nat) (k d : Nat) (hd : d < 2) : adr F bl (2 * k + 1 + d) = ⟨bl.getD k 0, d + 1, none⟩ := by
  rw [adr, if_neg (by omega)]
  have e1 : (2 * k + 1 + d - 1) / 2 = k := by omega
  have e2 : (2 * k + 1 + d - 1) % 2 = d := by omega
  rw [e1, e2]
theorem adr_old (F : Nat) {bl : List Nat} {a : Nat} (x : Nat) (h : a ≤ 2 * bl.length) : adr F (bl ++ [x]) a = adr F bl a := by
  unfold adr
  split
  · rfl
  · rw [getD_old x (by omega)]
theorem adr_block {F : Nat} {bl : List Nat} {a : Nat} (h : a ≤ 2 * bl.length) : (adr F bl a).block = F ∨ (adr F bl a).block ∈ bl := by
  unfold adr
  split
  · exact .inl rfl
  · exact .inr (getD_memN (by omega))
theorem adr_spot (F : Nat) (bl : List Nat) (a : Nat) : ∃ b o, adr F bl a = ⟨b, o, none⟩ := by
  unfold adr
  split
  · exact ⟨_, _, rfl⟩
  · exact ⟨_, _, rfl⟩
theorem adr_inj {F : Nat} {bl : List Nat} (hn : bl.Nodup) (hF : F ∉ bl) {a b : Nat} (ha : a ≤ 2 * bl.length) (hb : b ≤ 2 * bl.length) (h : adr F bl a = adr F bl b) : a = b := by
  unfold adr at h
  split at h <;> split at h
  · omega
  · simp only [Addr.mk.injEq] at h
    have := getD_memN (l := bl) (i := (b - 1) / 2) (by omega)
    rw [← h.1] at this
    exact absurd this hF
  · simp only [Addr.mk.injEq] at h
    have := getD_memN (l := bl) (i := (a - 1) / 2) (by omega)
    rw [h.1] at this
    exact absurd this hF
  · simp only [Addr.mk.injEq, and_true] at h
    have := getD_injN hn (by omega) (by omega) h.1
    omega
theorem ptrA_old {bl : List Nat} {x : Int} (y : Nat) (h : x < bl.length) : ptrA (bl ++ [y]) x = ptrA bl x := by
  unfold ptrA
  split
  · rfl
  · rw [getD_old y (by omega)]
theorem ptrA_neg (bl : List Nat) : ptrA bl (-1) = none := rfl
theorem nds_old {bl st : List Nat} (y : Nat) (h : ∀ x ∈ st, x < bl.length) : nds (bl ++ [y]) st = nds bl st := by
  unfold nds
  apply List.map_congr_left
  intro x hx
  rw [getD_old y (h x hx)]

structure Hp (w : World) (B F : Nat) (bl : List Nat) (G : Nat → Int) : Prop where
  arms : ∀ a, a ≤ 2 * bl.length → w.cell? (adr F bl a) = some (.pointer (ptrA bl (G a))) ∧ w.frozen? (adr F bl a) = false
  nums : ∀ i, i < bl.length → w.cell? ⟨bl.getD i 0, 0, none⟩ = some (.int .i64 (i : Int))
  first : F < w.heap.size ∧ B ≤ F
  lt : ∀ b ∈ bl, b < w.heap.size ∧ B ≤ b
  nf : F ∉ bl
  nd : bl.Nodup
section
variable {w w' : World} {B F : Nat} {bl : List Nat} {G : Nat → Int}
theorem Hp.kept (h : Hp w B F bl G) (hF : w'.heap[F]? = w.heap[F]?) (hb : ∀ b ∈ bl, w'.heap[b]? = w.heap[b]?) (hs : w.heap.size ≤ w'.heap.size) : Hp w' B F bl G := by
  refine ⟨fun a ha => ?_, fun i hi => ?_, ⟨by have := h.first.1; omega, h.first.2⟩, fun b hb' => ⟨by have := (h.lt b hb').1; omega, (h.lt b hb').2⟩, h.nf, h.nd⟩
  · have e : w'.heap[(adr F bl a).block]? = w.heap[(adr F bl a).block]? := by
      rcases adr_block (F := F) ha with e | e
      · rw [e]; exact hF
      · exact hb _ e
    exact ⟨(World.cell?_of_block (w := w) e).trans (h.arms a ha).1, (World.frozen?_of_block (w := w) e).trans (h.arms a ha).2⟩
  · exact (World.cell?_of_block (w := w) (a := ⟨bl.getD i 0, 0, none⟩) (hb _ (getD_memN hi))).trans (h.nums i hi)
theorem Hp.block_lt (h : Hp w B F bl G) {a : Nat} (ha : a ≤ 2 * bl.length) : (adr F bl a).block < w.heap.size ∧ B ≤ (adr F bl a).block := by
  rcases adr_block (F := F) ha with e | e
  · rw [e]; exact h.first
  · exact h.lt _ e
theorem new_cell (w : World) (c : Array Value) (t : TypeId) (i : Nat) (v : Value) (h : c[i]? = some v) : (w.alloc (.cells c t)).cell? ⟨w.heap.size, i, none⟩ = some v :=
  (World.cell?_alloc_new w c t i).trans h
/-- a new node hangs on the arm that waits -/
def hung (w : World) (F : Nat) (bl : List Nat) (arm : Nat) (t : TypeId) : World :=
  (w.alloc (.cells #[.int .i64 (bl.length : Int), .pointer none, .pointer none] t)).setCell (adr F bl arm) (.pointer (some ⟨w.heap.size, 0, none⟩))
theorem hung_size (w : World) (F : Nat) (bl : List Nat) (arm : Nat) (t : TypeId) : (hung w F bl arm t).heap.size = w.heap.size + 1 := by simp [hung]
theorem hung_block (w : World) {F : Nat} {bl : List Nat} {arm : Nat} {t : TypeId} {b : Nat} (hb : b < w.heap.size) (hF : b ≠ F) (hl : b ∉ bl) (ha : arm ≤ 2 * bl.length) : (hung w F bl arm t).heap[b]? = w.heap[b]? := by
  have hne : b ≠ (adr F bl arm).block := by
    intro e
    rcases adr_block (F := F) ha with h | h
    · exact hF (e.trans h)
    · exact hl (e ▸ h)
  rw [hung, Below.heap_setCell _ _ _ _ hne, Below.heap_alloc _ _ _ hb]
theorem hung_below (w : World) {B F : Nat} {bl : List Nat} {arm : Nat} {t : TypeId} (hB : B ≤ w.heap.size) (h : Hp w B F bl G) (ha : arm ≤ 2 * bl.length) : Below B w (hung w F bl arm t) :=
  ((Below.refl _ _).alloc hB _).setCell (h.block_lt ha).2 _
theorem Hp.opn {arm : Nat} {t : TypeId} (h : Hp w B F bl G) (ha : arm ≤ 2 * bl.length) (hB : B ≤ w.heap.size) (low : ∀ j, G j < bl.length) (end_ : ∀ j, 2 * bl.length + 1 ≤ j → G j = -1) :
    Hp (hung w F bl arm t) B F (bl ++ [w.heap.size]) (upG G arm bl.length) := by
  have hnb : w.heap.size ∉ bl := fun hm => by have := (h.lt _ hm).1; omega
  have hlen : (bl ++ [w.heap.size]).length = bl.length + 1 := by simp
  have hab := h.block_lt ha
  have hwa : ∀ (a : Addr), a.block < w.heap.size → (w.alloc (.cells #[.int .i64 (bl.length : Int), .pointer none, .pointer none] t)).cell? a = w.cell? a := fun a hlt => World.cell?_alloc_lt w _ a hlt
  have hfa : ∀ (a : Addr), a.block < w.heap.size → (w.alloc (.cells #[.int .i64 (bl.length : Int), .pointer none, .pointer none] t)).frozen? a = w.frozen? a := fun a hlt =>
    World.frozen?_of_block (w := w) (Below.heap_alloc _ _ _ hlt)
  have hnew : ∀ i v, (#[.int .i64 (bl.length : Int), .pointer none, .pointer none] : Array Value)[i]? = some v → (hung w F bl arm t).cell? ⟨w.heap.size, i, none⟩ = some v := fun i v hv => by
    rw [hung, World.cell?_setCell_other _ _ _ _ (fun e => by rw [e] at hab; simp at hab)]
    exact new_cell _ _ _ _ _ hv
  refine ⟨fun a hle => ?_, fun i hi => ?_, ⟨by rw [hung_size]; have := h.first.1; omega, h.first.2⟩, fun b hb => ?_, ?_, ?_⟩
  · rw [hlen] at hle
    by_cases h2 : a ≤ 2 * bl.length
    · have hb2 := h.block_lt h2
      rw [adr_old _ _ h2]
      refine ⟨?_, ?_⟩
      · by_cases he : a = arm
        · subst he
          rw [upG_at, hung, World.cell?_setCell_same _ _ _ (u := .pointer (ptrA bl (G a))) (by rw [hwa _ hb2.1]; exact (h.arms a h2).1)]
          have : ptrA (bl ++ [w.heap.size]) (bl.length : Int) = some ⟨w.heap.size, 0, none⟩ := by
            rw [ptrA, if_neg (by omega), Int.toNat_natCast, getD_new]
          rw [this]
        · rw [upG_ne _ he, hung, World.cell?_setCell_other _ _ _ _ (fun e => he (adr_inj h.nd h.nf ha h2 e).symm), hwa _ hb2.1, (h.arms a h2).1, ptrA_old _ (low a)]
      · rw [hung, World.frozen?_setCell, hfa _ hb2.1]; exact (h.arms a h2).2
    · have e : upG G arm bl.length a = -1 := by rw [upG_ne _ (by omega)]; exact end_ a (by omega)
      rw [e, ptrA_neg]
      obtain ⟨d, hd, rfl⟩ : ∃ d, d < 2 ∧ a = 2 * bl.length + 1 + d := ⟨a - (2 * bl.length + 1), by omega, by omega⟩
      rw [adr_arm _ _ _ _ hd, getD_new]
      refine ⟨hnew _ _ (by have : d = 0 ∨ d = 1 := by omega
                           rcases this with rfl | rfl <;> rfl), ?_⟩
      rw [hung, World.frozen?_setCell]
      exact World.frozen?_alloc_at _ _ _ _ rfl
  · rw [hlen] at hi
    by_cases h2 : i < bl.length
    · rw [getD_old _ h2]
      have hb2 := (h.lt _ (getD_memN h2)).1
      rw [hung, World.cell?_setCell_other, hwa _ hb2]
      · exact h.nums i h2
      · intro e
        rw [adr] at e
        split at e
        · simp only [Addr.mk.injEq] at e
          exact h.nf (e.1 ▸ getD_memN h2)
        · simp only [Addr.mk.injEq] at e
          omega
    · obtain rfl : i = bl.length := by omega
      rw [getD_new]
      exact hnew 0 _ rfl
  · rw [hung_size]
    rcases List.mem_append.1 hb with hb | hb
    · have := h.lt b hb; omega
    · simp only [List.mem_singleton] at hb; omega
  · intro hm
    rcases List.mem_append.1 hm with hm | hm
    · exact h.nf hm
    · simp only [List.mem_singleton] at hm
      have := h.first.1; omega
  · rw [List.nodup_append]
    refine ⟨h.nd, by simp, fun a ha b hb => ?_⟩
    simp only [List.mem_singleton] at hb
    subst hb
    intro e; subst e; exact hnb ha
end

/-- a word's tree in memory, from a node on -/
def TA (w : World) (B H : Nat) : Nat → List UInt8 → Nat → Option Addr → Prop
  | 0, _, _, p => p = none
  | f + 1, s, n, p => (s = [] ∧ p = none) ∨ (s ≠ [] ∧ ∃ b l r, p = some ⟨b, 0, none⟩ ∧ B ≤ b ∧ b < H ∧ w.cell? ⟨b, 0, none⟩ = some (.int .i64 (n : Int)) ∧ w.cell? ⟨b, 1, none⟩ = some (.pointer l) ∧ w.cell? ⟨b, 2, none⟩ = some (.pointer r) ∧
      TA w B H f (fstL s) (n + 1) l ∧ TA w B H f (rstL s) (n + 1 + (fstL s).length / 2) r)
theorem TA.below {w w' : World} {B H : Nat} (hb : Below H w w') : ∀ (f : Nat) (s : List UInt8) (n : Nat) (p : Option Addr), TA w B H f s n p → TA w' B H f s n p := by
  intro f
  induction f with
  | zero => intro s n p h; exact h
  | succ f ih =>
    intro s n p h
    rcases h with h | ⟨h0, b, l, r, h1, h2, h3, h4, h5, h6, h7, h8⟩
    · exact .inl h
    · exact .inr ⟨h0, b, l, r, h1, h2, h3, (hb.cell (p := ⟨b, 0, none⟩) h3).trans h4, (hb.cell (p := ⟨b, 1, none⟩) h3).trans h5, (hb.cell (p := ⟨b, 2, none⟩) h3).trans h6, ih _ _ _ h7, ih _ _ _ h8⟩
theorem Hp.tree {w : World} {B F : Nat} {bl : List Nat} {G : Nat → Int} (h : Hp w B F bl G) : ∀ (f : Nat) (s : List UInt8) (n : Nat), scan s = some 0 → s.length ≤ f → n + s.length / 2 ≤ bl.length → Sp G f s n → TA w B w.heap.size f s n (ptrA bl (rootA s n)) := by
  intro f
  induction f with
  | zero =>
    intro s n _ hf _ _
    rw [List.eq_nil_of_length_eq_zero (by omega : s.length = 0)]; rfl
  | succ f ih =>
    intro s n hs hf hl hS
    by_cases h0 : s = []
    · subst h0; exact .inl ⟨rfl, rfl⟩
    · obtain ⟨_, _, k3, k4, _, k6⟩ := parts_ok hs h0
      have e1 := fold_even _ 0 0 k3
      have e2 := fold_even _ 0 0 k4
      rcases hS with h1 | ⟨h1, h2, h3, h4⟩
      · exact absurd h1 h0
      · have hn : n < bl.length := by omega
        have hb := h.lt _ (getD_memN hn)
        have a1 := (h.arms (2 * n + 1) (by omega)).1
        have a2 := (h.arms (2 * n + 2) (by omega)).1
        have d1 : adr F bl (2 * n + 1) = ⟨bl.getD n 0, 1, none⟩ := adr_arm F bl n 0 (by omega)
        have d2 : adr F bl (2 * n + 2) = ⟨bl.getD n 0, 2, none⟩ := adr_arm F bl n 1 (by omega)
        rw [d1, h1] at a1
        rw [d2, h2] at a2
        refine .inr ⟨h0, bl.getD n 0, _, _, ?_, hb.2, hb.1, h.nums n hn, a1, a2, ih _ _ k3 (by omega) (by omega) h3, ih _ _ k4 (by omega) (by omega) h4⟩
        rw [rootA_cons n h0, ptrA, if_neg (by omega), Int.toNat_natCast]
end Go.Proofs.Ytmlcbeekimiaiaa
