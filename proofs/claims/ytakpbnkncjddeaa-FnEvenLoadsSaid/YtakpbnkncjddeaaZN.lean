/-
  A word's tree in memory: where its nodes lie and what hangs on their arms, while it is built and behind that.
  The contract of the function that builds a word's tree and gives its first node.
-/
import Derived.Test.YtakpbnkncjddeaaZP
import Derived.Test.YtakpbnkncjddeaaZV
import Derived.Test.YtakpbnkncjddeaaZY
namespace Go.Proofs.Ytakpbnkncjddeaa
open Go.RowKit

theorem getD_memN {l : List Nat} {i : Nat} (h : i < l.length) : l.getD i 0 ∈ l := by
  rw [List.getD_eq_getElem?_getD, List.getElem?_eq_getElem h]; exact List.getElem_mem h
theorem getD_old {l : List Nat} {i : Nat} (x : Nat) (h : i < l.length) : (l ++ [x]).getD i 0 = l.getD i 0 := by
  rw [List.getD_eq_getElem?_getD, List.getD_eq_getElem?_getD, List.getElem?_append_left h]
theorem getD_new (l : List Nat) (x : Nat) : (l ++ [x]).getD l.length 0 = x := by simp
theorem getD_injN {l : List Nat} (hn : l.Nodup) {i j : Nat} (hi : i < l.length) (hj : j < l.length) (h : l.getD i 0 = l.getD j 0) : i = j := by
  rw [List.getD_eq_getElem?_getD, List.getD_eq_getElem?_getD, List.getElem?_eq_getElem hi, List.getElem?_eq_getElem hj] at h
  have h' : l[i] = l[j] := h
  have p := List.pairwise_iff_getElem.1 hn
  rcases Nat.lt_trichotomy i j with e | e | e
  · exact absurd h' (p i j hi hj e)
  · exact e
  · exact absurd h'.symm (p j i hj hi e)

/-- the arm with this number (0: the first node's) -/
def adr (F : Nat) (bl : List Nat) (a : Nat) : Addr := if a = 0 then ⟨F, 0, none⟩ else ⟨bl.getD ((a - 1) / 2) 0, (a - 1) % 2 + 1, none⟩
def ptrA (bl : List Nat) (x : Int) : Option Addr := if x < 0 then none else some ⟨bl.getD x.toNat 0, 0, none⟩
def nds (bl st : List Nat) : List Value := st.map fun i => .pointer (some ⟨bl.getD i 0, 0, none⟩)
theorem adr_arm (F : Nat) (bl : List Nat) (k d : Nat) (hd : d < 2) : adr F bl (2 * k + 1 + d) = ⟨bl.getD k 0, d + 1, none⟩ := by
  rw [adr, if_neg (by omega)]
  have e1 : (2 * k + 1 + d - 1) / 2 = k := by omega
  have e2 : (2 * k + 1 + d - 1) % 2 = d := by omega
  rw [e1, e2]
theorem adr_old (F : Nat) {bl : List Nat} {a : Nat} (x : Nat) (h : a ≤ 2 * bl.length) : adr F (bl ++ [x]) a = adr F bl a := by
  unfold adr
  split
  · rfl
  · rw [getD_old x (by omega)]
theorem adr_block {F : Nat} {bl : List Nat} {a : Nat} (h : a ≤ 2 * bl.length) : (adr F bl a).block = F ∨ (adr F bl a).block ∈ bl := by
  unfold adr
  split
  · exact .inl rfl
  · exact .inr (getD_memN (by omega))
theorem adr_spot (F : Nat) (bl : List Nat) (a : Nat) : ∃ b o, adr F bl a = ⟨b, o, none⟩ := by
  unfold adr
  split
  · exact ⟨_, _, rfl⟩
  · exact ⟨_, _, rfl⟩
theorem adr_inj {F : Nat} {bl : List Nat} (hn : bl.Nodup) (hF : F ∉ bl) {a b : Nat} (ha : a ≤ 2 * bl.length) (hb : b ≤ 2 * bl.length) (h : adr F bl a = adr F bl b) : a = b := by
  unfold adr at h
  split at h <;> split at h
  · omega
  · simp only [Addr.mk.injEq] at h
    have := getD_memN (l := bl) (i := (b - 1) / 2) (by omega)
    rw [← h.1] at this
    exact absurd this hF
  · simp only [Addr.mk.injEq] at h
    have := getD_memN (l := bl) (i := (a - 1) / 2) (by omega)
    rw [h.1] at this
    exact absurd this hF
  · simp only [Addr.mk.injEq, and_true] at h
    have := getD_injN hn (by omega) (by omega) h.1
    omega
theorem ptrA_old {bl : List Nat} {x : Int} (y : Nat) (h : x < bl.length) : ptrA (bl ++ [y]) x = ptrA bl x := by
  unfold ptrA
  split
  · rfl
  · rw [getD_old y (by omega)]
theorem ptrA_neg (bl : List Nat) : ptrA bl (-1) = none := rfl
theorem nds_old {bl st : List Nat} (y : Nat) (h : ∀ x ∈ st, x < bl.length) : nds (bl ++ [y]) st = nds bl st := by
  unfold nds
  apply List.map_congr_left
  intro x hx
  rw [getD_old y (h x hx)]

structure Hp (w : World) (B F : Nat) (bl : List Nat) (G : Nat → Int) : Prop where
  arms : ∀ a, a ≤ 2 * bl.length → w.cell? (adr F bl a) = some (.pointer (ptrA bl (G a))) ∧ w.frozen? (adr F bl a) = false
  nums : ∀ i, i < bl.length → w.cell? ⟨bl.getD i 0, 0, none⟩ = some (.int .i64 (i : Int))
  first : F < w.heap.size ∧ B ≤ F
  lt : ∀ b ∈ bl, b < w.heap.size ∧ B ≤ b
  nf : F ∉ bl
  nd : bl.Nodup
section
variable {w w' : World} {B F : Nat} {bl : List Nat} {G : Nat → Int}
theorem Hp.kept (h : Hp w B F bl G) (hF : w'.heap[F]? = w.heap[F]?) (hb : ∀ b ∈ bl, w'.heap[b]? = w.heap[b]?) (hs : w.heap.size ≤ w'.heap.size) : Hp w' B F bl G := by
  refine ⟨fun a ha => ?_, fun i hi => ?_, ⟨by have := h.first.1; omega, h.first.2⟩, fun b hb' => ⟨by have := (h.lt b hb').1; omega, (h.lt b hb').2⟩, h.nf, h.nd⟩
  · have e : w'.heap[(adr F bl a).block]? = w.heap[(adr F bl a).block]? := by
      rcases adr_block (F := F) ha with e | e
      · rw [e]; exact hF
      · exact hb _ e
    exact ⟨(World.cell?_of_block (w := w) e).trans (h.arms a ha).1, (World.frozen?_of_block (w := w) e).trans (h.arms a ha).2⟩
  · exact (World.cell?_of_block (w := w) (a := ⟨bl.getD i 0, 0, none⟩) (hb _ (getD_memN hi))).trans (h.nums i hi)
theorem Hp.block_lt (h : Hp w B F bl G) {a : Nat} (ha : a ≤ 2 * bl.length) : (adr F bl a).block < w.heap.size ∧ B ≤ (adr F bl a).block := by
  rcases adr_block (F := F) ha with e | e
  · rw [e]; exact h.first
  · exact h.lt _ e
theorem new_cell (w : World) (c : Array Value) (t : TypeId) (i : Nat) (v : Value) (h : c[i]? = some v) : (w.alloc (.cells c t)).cell? ⟨w.heap.size, i, none⟩ = some v :=
  (World.cell?_alloc_new w c t i).trans h
/-- a new node hangs on the arm that waits -/
def hung (w : World) (F : Nat) (bl : List Nat) (arm : Nat) (t : TypeId) : World :=
  (w.alloc (.cells #[.int .i64 (bl.length : Int), .pointer none, .pointer none] t)).setCell (adr F bl arm) (.pointer (some ⟨w.heap.size, 0, none⟩))
theorem hung_size (w : World) (F : Nat) (bl : List Nat) (arm : Nat) (t : TypeId) : (hung w F bl arm t).heap.size = w.heap.size + 1 := by simp [hung]
theorem hung_block (w : World) {F : Nat} {bl : List Nat} {arm : Nat} {t : TypeId} {b : Nat} (hb : b < w.heap.size) (hF : b ≠ F) (hl : b ∉ bl) (ha : arm ≤ 2 * bl.length) : (hung w F bl arm t).heap[b]? = w.heap[b]? := by
  have hne : b ≠ (adr F bl arm).block := by
    intro e
    rcases adr_block (F := F) ha with h | h
    · exact hF (e.trans h)
    · exact hl (e ▸ h)
  rw [hung, Below.heap_setCell _ _ _ _ hne, Below.heap_alloc _ _ _ hb]
theorem hung_below (w : World) {B F : Nat} {bl : List Nat} {arm : Nat} {t : TypeId} (hB : B ≤ w.heap.size) (h : Hp w B F bl G) (ha : arm ≤ 2 * bl.length) : Below B w (hung w F bl arm t) :=
  ((Below.refl _ _).alloc hB _).setCell (h.block_lt ha).2 _
theorem Hp.opn {arm : Nat} {t : TypeId} (h : Hp w B F bl G) (ha : arm ≤ 2 * bl.length) (hB : B ≤ w.heap.size) (low : ∀ j, G j < bl.length) (end_ : ∀ j, 2 * bl.length + 1 ≤ j → G j = -1) :
    Hp (hung w F bl arm t) B F (bl ++ [w.heap.size]) (upG G arm bl.length) := by
  have hnb : w.heap.size ∉ bl := fun hm => by have := (h.lt _ hm).1; omega
  have hlen : (bl ++ [w.heap.size]).length = bl.length + 1 := by simp
  have hab := h.block_lt ha
  have hwa : ∀ (a : Addr), a.block < w.heap.size → (w.alloc (.cells #[.int .i64 (bl.length : Int), .pointer none, .pointer none] t)).cell? a = w.cell? a := fun a hlt => World.cell?_alloc_lt w _ a hlt
  have hfa : ∀ (a : Addr), a.block < w.heap.size → (w.alloc (.cells #[.int .i64 (bl.length : Int), .pointer none, .pointer none] t)).frozen? a = w.frozen? a := fun a hlt =>
    World.frozen?_of_block (w := w) (Below.heap_alloc _ _ _ hlt)
  have hnew : ∀ i v, (#[.int .i64 (bl.length : Int), .pointer none, .pointer none] : Array Value)[i]? = some v → (hung w F bl arm t).cell? ⟨w.heap.size, i, none⟩ = some v := fun i v hv => by
    rw [hung, World.cell?_setCell_other _ _ _ _ (fun e => by rw [e] at hab; simp at hab)]
    exact new_cell _ _ _ _ _ hv
  refine ⟨fun a hle => ?_, fun i hi => ?_, ⟨by rw [hung_size]; have := h.first.1; omega, h.first.2⟩, fun b hb => ?_, ?_, ?_⟩
  · rw [hlen] at hle
    by_cases h2 : a ≤ 2 * bl.length
    · have hb2 := h.block_lt h2
      rw [adr_old _ _ h2]
      refine ⟨?_, ?_⟩
      · by_cases he : a = arm
        · subst he
          rw [upG_at, hung, World.cell?_setCell_same _ _ _ (u := .pointer (ptrA bl (G a))) (by rw [hwa _ hb2.1]; exact (h.arms a h2).1)]
          have : ptrA (bl ++ [w.heap.size]) (bl.length : Int) = some ⟨w.heap.size, 0, none⟩ := by
            rw [ptrA, if_neg (by omega), Int.toNat_natCast, getD_new]
          rw [this]
        · rw [upG_ne _ he, hung, World.cell?_setCell_other _ _ _ _ (fun e => he (adr_inj h.nd h.nf ha h2 e).symm), hwa _ hb2.1, (h.arms a h2).1, ptrA_old _ (low a)]
      · rw [hung, World.frozen?_setCell, hfa _ hb2.1]; exact (h.arms a h2).2
    · have e : upG G arm bl.length a = -1 := by rw [upG_ne _ (by omega)]; exact end_ a (by omega)
      rw [e, ptrA_neg]
      obtain ⟨d, hd, rfl⟩ : ∃ d, d < 2 ∧ a = 2 * bl.length + 1 + d := ⟨a - (2 * bl.length + 1), by omega, by omega⟩
      rw [adr_arm _ _ _ _ hd, getD_new]
      refine ⟨hnew _ _ (by have : d = 0 ∨ d = 1 := by omega
                           rcases this with rfl | rfl <;> rfl), ?_⟩
      rw [hung, World.frozen?_setCell]
      exact World.frozen?_alloc_at _ _ _ _ rfl
  · rw [hlen] at hi
    by_cases h2 : i < bl.length
    · rw [getD_old _ h2]
      have hb2 := (h.lt _ (getD_memN h2)).1
      rw [hung, World.cell?_setCell_other, hwa _ hb2]
      · exact h.nums i h2
      · intro e
        rw [adr] at e
        split at e
        · simp only [Addr.mk.injEq] at e
          exact h.nf (e.1 ▸ getD_memN h2)
        · simp only [Addr.mk.injEq] at e
          omega
    · obtain rfl : i = bl.length := by omega
      rw [getD_new]
      exact hnew 0 _ rfl
  · rw [hung_size]
    rcases List.mem_append.1 hb with hb | hb
    · have := h.lt b hb; omega
    · simp only [List.mem_singleton] at hb; omega
  · intro hm
    rcases List.mem_append.1 hm with hm | hm
    · exact h.nf hm
    · simp only [List.mem_singleton] at hm
      have := h.first.1; omega
  · rw [List.nodup_append]
    refine ⟨h.nd, by simp, fun a ha b hb => ?_⟩
    simp only [List.mem_singleton] at hb
    subst hb
    intro e; subst e; exact hnb ha
end

/-- a word's tree in memory, from a node on -/
def TA (w : World) (B H : Nat) : Nat → List UInt8 → Nat → Option Addr → Prop
  | 0, _, _, p => p = none
  | f + 1, s, n, p => (s = [] ∧ p = none) ∨ (s ≠ [] ∧ ∃ b l r, p = some ⟨b, 0, none⟩ ∧ B ≤ b ∧ b < H ∧ w.cell? ⟨b, 0, none⟩ = some (.int .i64 (n : Int)) ∧ w.cell? ⟨b, 1, none⟩ = some (.pointer l) ∧ w.cell? ⟨b, 2, none⟩ = some (.pointer r) ∧
      TA w B H f (fstL s) (n + 1) l ∧ TA w B H f (rstL s) (n + 1 + (fstL s).length / 2) r)
theorem TA.below {w w' : World} {B H : Nat} (hb : Below H w w') : ∀ (f : Nat) (s : List UInt8) (n : Nat) (p : Option Addr), TA w B H f s n p → TA w' B H f s n p := by
  intro f
  induction f with
  | zero => intro s n p h; exact h
  | succ f ih =>
    intro s n p h
    rcases h with h | ⟨h0, b, l, r, h1, h2, h3, h4, h5, h6, h7, h8⟩
    · exact .inl h
    · exact .inr ⟨h0, b, l, r, h1, h2, h3, (hb.cell (p := ⟨b, 0, none⟩) h3).trans h4, (hb.cell (p := ⟨b, 1, none⟩) h3).trans h5, (hb.cell (p := ⟨b, 2, none⟩) h3).trans h6, ih _ _ _ h7, ih _ _ _ h8⟩
theorem Hp.tree {w : World} {B F : Nat} {bl : List Nat} {G : Nat → Int} (h : Hp w B F bl G) : ∀ (f : Nat) (s : List UInt8) (n : Nat), scan s = some 0 → s.length ≤ f → n + s.length / 2 ≤ bl.length → Sp G f s n → TA w B w.heap.size f s n (ptrA bl (rootA s n)) := by
  intro f
  induction f with
  | zero =>
    intro s n _ hf _ _
    rw [List.eq_nil_of_length_eq_zero (by omega : s.length = 0)]; rfl
  | succ f ih =>
    intro s n hs hf hl hS
    by_cases h0 : s = []
    · subst h0; exact .inl ⟨rfl, rfl⟩
    · obtain ⟨_, _, k3, k4, _, k6⟩ := parts_ok hs h0
      have e1 := fold_even _ 0 0 k3
      have e2 := fold_even _ 0 0 k4
      rcases hS with h1 | ⟨h1, h2, h3, h4⟩
      · exact absurd h1 h0
      · have hn : n < bl.length := by omega
        have hb := h.lt _ (getD_memN hn)
        have a1 := (h.arms (2 * n + 1) (by omega)).1
        have a2 := (h.arms (2 * n + 2) (by omega)).1
        have d1 : adr F bl (2 * n + 1) = ⟨bl.getD n 0, 1, none⟩ := adr_arm F bl n 0 (by omega)
        have d2 : adr F bl (2 * n + 2) = ⟨bl.getD n 0, 2, none⟩ := adr_arm F bl n 1 (by omega)
        rw [d1, h1] at a1
        rw [d2, h2] at a2
        refine .inr ⟨h0, bl.getD n 0, _, _, ?_, hb.2, hb.1, h.nums n hn, a1, a2, ih _ _ k3 (by omega) (by omega) h3, ih _ _ k4 (by omega) (by omega) h4⟩
        rw [rootA_cons n h0, ptrA, if_neg (by omega), Int.toNat_natCast]
end Go.Proofs.Ytakpbnkncjddeaa

namespace Go.Proofs.Ytakpbnkncjddeaa
open Go.RowKit

theorem bldF_word18 {s : List UInt8} (h : scan s = some 0) (f : Nat) (hf : s.length ≤ f) : (bldF s).n = s.length / 2 ∧ (bldF s).G 0 = rootA s 0 ∧ Sp (bldF s).G f s 0 := by
  obtain ⟨G', m, e, r, _, _, sp, _⟩ := bld_word f s 0 (fun _ => -1) [] 0 h hf (Nat.le_refl _) rfl (fun _ _ => rfl)
  rw [bldF, e]
  exact ⟨by simp, r, sp⟩
theorem bldF_next {s : ByteArray} {k : Nat} (hk : k < s.size) : bldF (s.data.toList.take (k + 1)) = stepB (bldF (s.data.toList.take k)) s[k] := by
  rw [bldF, fold_take _ _ _ _ (by rw [size_list]; exact hk), get_list s k hk]; rfl

/-- what stands while the tree is built -/
structure Bst (w0 wr : World) (B F O I : Nat) (s : ByteArray) (k : Nat) (bl : List Nat) (vs : Value) (b : Bld) : Prop where
  hp : Hp wr B F bl b.G
  stk : StkAt wr B O 48 vs (nds bl b.stk)
  it : wr.heap[I]? = some (.stringIter s k)
  len : bl.length = b.n
  ok : OkB b
  below : Below B w0 wr
  far : I ≠ F ∧ I ≠ O ∧ O ≠ F ∧ I ∉ bl ∧ O ∉ bl ∧ I < wr.heap.size ∧ B ≤ I
  vfar : ∀ g, vs.ownBlock = some g → g ≠ I ∧ g ≠ F ∧ g ∉ bl
section
variable {w0 wr w1 : World} {B F O I k : Nat} {s : ByteArray} {bl : List Nat} {vs v' : Value} {b : Bld}
theorem Bst.iter (h : Bst w0 wr B F O I s k bl vs b) : Bst w0 (wr.iterAt I s (k + 1)) B F O I s (k + 1) bl vs b := by
  obtain ⟨f1, f2, f3, f4, f5, f6, f7⟩ := h.far
  have hz := Lib.iterAt_size wr I s (k + 1)
  have ho : ∀ j, j ≠ I → (wr.iterAt I s (k + 1)).heap[j]? = wr.heap[j]? := fun j hj => Lib.iterAt_other wr I j s (k + 1) hj
  exact ⟨h.hp.kept (ho F (fun e => f1 e.symm)) (fun q hq => ho q (fun e => f4 (e ▸ hq))) (by rw [hz]; exact Nat.le_refl _),
    h.stk.kept (ho O (fun e => f2 e.symm)) (fun g hg => ho g (h.vfar g hg).1) (by rw [hz]; exact Nat.le_refl _),
    Lib.iterAt_heap wr I s k (k + 1) h.it, h.len, h.ok, Lib.below_iterAt h.below f7 s (k + 1), ⟨f1, f2, f3, f4, f5, by rw [hz]; exact f6, f7⟩, h.vfar⟩
theorem Bst.arm_le (h : Bst w0 wr B F O I s k bl vs b) : b.arm ≤ 2 * bl.length := by rw [h.len]; exact h.ok.arm
theorem Bst.base (h : Bst w0 wr B F O I s k bl vs b) : B ≤ wr.heap.size := by have := h.hp.first; omega
theorem Bst.hungs (h : Bst w0 wr B F O I s k bl vs b) (t : TypeId) : StkAt (hung wr F bl b.arm t) B O 48 vs (nds bl b.stk) := by
  obtain ⟨f1, f2, f3, f4, f5, f6, f7⟩ := h.far
  refine h.stk.kept (hung_block wr h.stk.lt f3 f5 h.arm_le) (fun g hg => ?_) (by rw [hung_size]; omega)
  obtain ⟨g1, g2, g3⟩ := h.vfar g hg
  exact hung_block wr (h.stk.own.lt g hg).2 g2 g3 h.arm_le
theorem Bst.opn {t : TypeId} (h : Bst w0 wr B F O I s k bl vs b) (hS : StkAt w1 B O 48 v' (nds bl b.stk ++ [.pointer (some ⟨wr.heap.size, 0, none⟩)])) (hL : Left_ (hung wr F bl b.arm t) w1 B O vs v') :
    Bst w0 w1 B F O I s k (bl ++ [wr.heap.size]) v' ⟨b.n + 1, upG b.G b.arm b.n, b.stk ++ [b.n], 2 * b.n + 1⟩ := by
  obtain ⟨f1, f2, f3, f4, f5, f6, f7⟩ := h.far
  have hp2 := h.hp.opn (t := t) h.arm_le h.base (by rw [h.len]; exact h.ok.low) (by rw [h.len]; exact h.ok.end_)
  have hO := h.stk.lt
  have hz := hung_size wr F bl b.arm t
  have hsz := hL.below.size
  rw [hz] at hsz
  have ow : ∀ g, vs.ownBlock = some g → g < wr.heap.size := fun g hg => (h.stk.own.lt g hg).2
  have hblk : ∀ q ∈ bl ++ [wr.heap.size], w1.heap[q]? = (hung wr F bl b.arm t).heap[q]? := by
    intro q hq
    rcases List.mem_append.1 hq with hq | hq
    · refine hL.block q (by rw [hz]; have := (h.hp.lt q hq).1; omega) (fun e => f5 (e ▸ hq)) (fun e => (h.vfar q e).2.2 hq)
    · simp only [List.mem_singleton] at hq
      subst hq
      exact hL.block _ (by rw [hz]; omega) (by omega) (fun e => by have := ow _ e; omega)
  refine ⟨?_, ?_, ?_, by simp [h.len], h.ok.opn, h.below.trans ((hung_below wr h.base h.hp h.arm_le).trans hL.below), ?_, ?_⟩
  · show Hp w1 B F _ (upG b.G b.arm b.n)
    rw [← h.len]
    exact hp2.kept (hL.block F (by have := h.hp.first.1; omega) (fun e => f3 e.symm) (fun e => (h.vfar F e).2.1 rfl)) hblk (by omega)
  · have e : nds (bl ++ [wr.heap.size]) (b.stk ++ [b.n]) = nds bl b.stk ++ [.pointer (some ⟨wr.heap.size, 0, none⟩)] := by
      have e1 := nds_old (bl := bl) wr.heap.size (st := b.stk) (by rw [h.len]; exact h.ok.stk)
      have e2 := getD_new bl wr.heap.size
      rw [h.len] at e2
      unfold nds at e1 ⊢
      rw [List.map_append, e1, List.map_cons, e2, List.map_nil]
    show StkAt w1 B O _ v' (nds (bl ++ [wr.heap.size]) (b.stk ++ [b.n]))
    rw [e]; exact hS
  · rw [hL.block I (by omega) f2 (fun e => (h.vfar I e).1 rfl), hung_block wr f6 f1 f4 h.arm_le]; exact h.it
  · refine ⟨f1, f2, f3, ?_, ?_, by omega, f7⟩
    · intro hm
      rcases List.mem_append.1 hm with hm | hm
      · exact f4 hm
      · simp only [List.mem_singleton] at hm; omega
    · intro hm
      rcases List.mem_append.1 hm with hm | hm
      · exact f5 hm
      · simp only [List.mem_singleton] at hm; omega
  · intro g hg
    rcases hL.row with e | ⟨g', e, hge⟩
    · rw [hg] at e
      obtain ⟨g1, g2, g3⟩ := h.vfar g e.symm
      refine ⟨g1, g2, fun hm => ?_⟩
      rcases List.mem_append.1 hm with hm | hm
      · exact g3 hm
      · simp only [List.mem_singleton] at hm
        have := ow g e.symm; omega
    · rw [hg] at e
      cases e
      rw [hz] at hge
      have hF := h.hp.first.1
      refine ⟨by omega, by omega, fun hm => ?_⟩
      rcases List.mem_append.1 hm with hm | hm
      · have := (h.hp.lt g hm).1; omega
      · simp only [List.mem_singleton] at hm; omega
theorem Bst.arm_new {x m : Nat} {st : List Nat} (h : Bst w0 w1 B F O I s k (bl ++ [x]) v' ⟨b.n + 1, upG b.G b.arm b.n, st, m⟩) (hlen : bl.length = b.n) (ha : b.arm ≤ 2 * b.n) : w1.cell? (adr F bl b.arm) = some (.pointer (some ⟨x, 0, none⟩)) := by
  have h1 := (h.hp.arms b.arm (by simp; omega)).1
  have e : ptrA (bl ++ [x]) (b.n : Int) = some ⟨x, 0, none⟩ := by
    rw [ptrA, if_neg (by omega), Int.toNat_natCast, ← hlen, getD_new]
  rw [adr_old _ _ (by omega)] at h1
  rw [h1]
  show some (Value.pointer (ptrA (bl ++ [x]) (upG b.G b.arm b.n b.arm))) = _
  rw [upG_at, e]
theorem Bst.cls (h : Bst w0 wr B F O I s k bl vs b) (h0 : b.stk ≠ []) (hS : StkAt w1 B O 48 v' (nds bl b.stk).dropLast) (hL : Left_ wr w1 B O vs v') :
    Bst w0 w1 B F O I s k bl v' ⟨b.n, b.G, b.stk.dropLast, 2 * b.stk.getLastD 0 + 2⟩ := by
  obtain ⟨f1, f2, f3, f4, f5, f6, f7⟩ := h.far
  have hsz := hL.below.size
  refine ⟨?_, ?_, ?_, h.len, h.ok.cls h0, h.below.trans hL.below, ⟨f1, f2, f3, f4, f5, by omega, f7⟩, ?_⟩
  · exact h.hp.kept (hL.block F h.hp.first.1 (fun e => f3 e.symm) (fun e => (h.vfar F e).2.1 rfl)) (fun q hq => hL.block q (h.hp.lt q hq).1 (fun e => f5 (e ▸ hq)) (fun e => (h.vfar q e).2.2 hq)) hsz
  · show StkAt w1 B O _ v' (nds bl b.stk.dropLast)
    have e : nds bl b.stk.dropLast = (nds bl b.stk).dropLast := by unfold nds; rw [List.map_dropLast]
    rw [e]; exact hS
  · rw [hL.block I f6 f2 (fun e => (h.vfar I e).1 rfl)]; exact h.it
  · intro g hg
    rcases hL.row with e | ⟨g', e, hge⟩
    · rw [hg] at e; exact h.vfar g e.symm
    · rw [hg] at e
      cases e
      have hF := h.hp.first.1
      exact ⟨by omega, by omega, fun hm => by have := (h.hp.lt g hm).1; omega⟩
end
theorem nds_last {bl st : List Nat} {n : Nat} (h : st.length = n + 1) : (nds bl st)[n]? = some (.pointer (some ⟨bl.getD (st.getLastD 0) 0, 0, none⟩)) := by
  rw [getLastD_at st n h]
  simp [nds, show n < st.length by omega]
theorem nds_length (bl st : List Nat) : (nds bl st).length = st.length := by simp [nds]


def bst0 (w : World) (t1 t2 : TypeId) (s : ByteArray) : World := ((w.alloc (.cells #[.pointer none] t1)).alloc (.cells #[.slice none 0 0] t2)).iter s 0
theorem bst_start (w : World) (t1 t2 : TypeId) (s : ByteArray) : Bst w (bst0 w t1 t2 s) w.heap.size w.heap.size (w.heap.size + 1) (w.heap.size + 1 + 1) s 0 [] (.slice none 0 0) ⟨0, fun _ => -1, [], 0⟩ := by
  have z1 : (w.alloc (.cells #[.pointer none] t1)).heap.size = w.heap.size + 1 := by simp
  have z2 : ((w.alloc (.cells #[.pointer none] t1)).alloc (.cells #[.slice none 0 0] t2)).heap.size = w.heap.size + 1 + 1 := by simp
  have z3 : (bst0 w t1 t2 s).heap.size = w.heap.size + 1 + 1 + 1 := by
    show (((w.alloc (.cells #[.pointer none] t1)).alloc (.cells #[.slice none 0 0] t2)).alloc (.stringIter s 0)).heap.size = _
    simp
  have b1 : (bst0 w t1 t2 s).heap[w.heap.size]? = (w.alloc (.cells #[.pointer none] t1)).heap[w.heap.size]? := by
    show (((w.alloc (.cells #[.pointer none] t1)).alloc (.cells #[.slice none 0 0] t2)).alloc (.stringIter s 0)).heap[w.heap.size]? = _
    rw [Below.heap_alloc _ _ _ (by rw [z2]; omega), Below.heap_alloc _ _ _ (by rw [z1]; omega)]
  have b2 : (bst0 w t1 t2 s).heap[w.heap.size + 1]? = ((w.alloc (.cells #[.pointer none] t1)).alloc (.cells #[.slice none 0 0] t2)).heap[w.heap.size + 1]? := by
    show (((w.alloc (.cells #[.pointer none] t1)).alloc (.cells #[.slice none 0 0] t2)).alloc (.stringIter s 0)).heap[w.heap.size + 1]? = _
    rw [Below.heap_alloc _ _ _ (by rw [z2]; omega)]
  have c2 := World.cell?_alloc_new (w.alloc (.cells #[.pointer none] t1)) #[.slice none 0 0] t2 0
  rw [z1] at c2
  refine ⟨⟨fun a ha => ?_, fun i hi => by simp at hi, ⟨by rw [z3]; omega, Nat.le_refl _⟩, fun b hb => by simp at hb, by simp, by simp⟩, ⟨?_, ?_, by rw [z3]; omega, by omega, ?_, by simp [Value.ownBlock]⟩, ?_, rfl, OkB.nil, ?_, ⟨by omega, by omega, by omega, by simp, by simp, by rw [z3]; omega, by omega⟩, fun g hg => by simp [Value.ownBlock] at hg⟩
  · simp only [List.length_nil, Nat.mul_zero, Nat.le_zero] at ha
    subst ha
    have e : adr w.heap.size [] 0 = ⟨w.heap.size, 0, none⟩ := rfl
    rw [e]
    refine ⟨(World.cell?_of_block (w := w.alloc (.cells #[.pointer none] t1)) (a := ⟨w.heap.size, 0, none⟩) b1).trans (World.cell?_alloc_new w _ _ _), (World.frozen?_of_block (w := w.alloc (.cells #[.pointer none] t1)) (a := ⟨w.heap.size, 0, none⟩) b1).trans (World.frozen?_alloc_at _ _ _ _ rfl)⟩
  · exact (World.cell?_of_block (w := (w.alloc (.cells #[.pointer none] t1)).alloc (.cells #[.slice none 0 0] t2)) (a := ⟨w.heap.size + 1, 0, none⟩) b2).trans c2
  · exact (World.frozen?_of_block (w := (w.alloc (.cells #[.pointer none] t1)).alloc (.cells #[.slice none 0 0] t2)) (a := ⟨w.heap.size + 1, 0, none⟩) b2).trans (World.frozen?_alloc_at _ _ _ _ z1.symm)
  · exact World.ownsRow_nil _ _ _ _
  · have := World.iter_heap ((w.alloc (.cells #[.pointer none] t1)).alloc (.cells #[.slice none 0 0] t2)) s 0
    rw [z2] at this
    exact this
  · exact (((Below.refl _ _).alloc (Nat.le_refl _) _).alloc (by rw [z1]; omega) _).alloc (by rw [z2]; omega) _

set_option maxHeartbeats 3200000 in
theorem firstNode_any (s : ByteArray) (w : World) (hv : Hid (valid s.data.toList = true)) :
    Calls Try.prog 56 #[.string s] w fun e w' => ∃ p, e = .returned (.pointer p) ∧ TA w' w.heap.size w'.heap.size 18 s.data.toList 0 p ∧ Below w.heap.size w w' := by
  have h18 := valid_size hv.out
  have HSC := Lib.hid (valid_scan hv.out).1
  have hst := bst_start w 48 75 s
  obtain ⟨w2, hw2⟩ : ∃ w2, w2 = bst0 w 48 75 s := ⟨_, rfl⟩
  rw [← hw2] at hst
  have HST := Lib.hid hst
  have HW2 := Lib.hid hw2
  clear hst hw2
  go_enter Try.func56, Try.ntmps56
  go_wp2
  have hw2 : ((w.alloc (.cells #[.pointer none] 48)).alloc (.cells #[.slice none 0 0] 75)).iter s 0 = w2 := HW2.out.symm
  rw [hw2]
  clear hw2 HW2
  obtain ⟨F, hF⟩ : ∃ F, F = w.heap.size := ⟨_, rfl⟩
  obtain ⟨O, hO⟩ : ∃ O, O = w.heap.size + 1 := ⟨_, rfl⟩
  obtain ⟨I, hI⟩ : ∃ I, I = w.heap.size + 1 + 1 := ⟨_, rfl⟩
  rw [← hI, ← hO, ← hF]
  have HST : Hid (Bst w w2 F F O I s 0 [] (.slice none 0 0) ⟨0, fun _ => -1, [], 0⟩) := by
    rw [hI, hO, hF]; exact HST
  have HF := Lib.hid hF
  clear hI hO hF
  go_loopw [5, 6] (fun num arm wr => ∃ (k n ab ao : Nat) (bl : List Nat) (vs : Value), k ≤ s.size ∧ n ≤ k ∧ num = .int .i64 n ∧ arm = .pointer (some ⟨ab, ao, none⟩) ∧ Hid (bl.length = n ∧ adr F bl (bldF (s.data.toList.take k)).arm = ⟨ab, ao, none⟩) ∧ Hid (Bst w wr F F O I s k bl vs (bldF (s.data.toList.take k)))) (fun _ _ wr => s.size - wr.iterPos I)
  case atStart => exact ⟨0, 0, F, 0, [], .slice none 0 0, Nat.zero_le _, Nat.le_refl _, rfl, rfl, ⟨rfl, rfl⟩, HST.out⟩
  case round =>
    obtain ⟨k, n, ab, ao, bl, vs, hk, hn, rfl, rfl, HA, P⟩ := hrel
    clear HST
    have hpos := Lib.hid (iterPos_of P.out.it)
    by_cases hlt : k < s.size
    · obtain ⟨wi, hwi⟩ : ∃ wi, wi = wr.iterAt I s (k + 1) := ⟨_, rfl⟩
      have P1 := Lib.hid P.out.iter
      rw [← hwi] at P1
      have N := Lib.hid (bldF_next hlt)
      obtain ⟨b, hb⟩ : ∃ b, b = bldF (s.data.toList.take k) := ⟨_, rfl⟩
      rw [← hb] at P1 HA N
      have hit := P.out.it
      have hac := P1.out.hp.arms b.arm P1.out.arm_le
      rw [HA.out.2] at hac
      have hab : ab < wi.heap.size := by
        have := (P1.out.hp.block_lt P1.out.arm_le).1
        rw [HA.out.2] at this
        exact this
      have hac1 := hac.1
      have hac2 := hac.2
      obtain ⟨old, hold⟩ : ∃ old, old = ptrA bl (b.G b.arm) := ⟨_, rfl⟩
      rw [← hold] at hac1
      rcases valid_byte hv.out k hlt with hc | hc
      · have hcp : ((s[k].toNat : Int) == 40) = true := by rw [hc]; rfl
        have ha : s[k].toNat < 128 := by omega
        have hnx : ∀ ty, _ := fun ty => Lib.run_next_ascii_at (P := Try.prog) wr I s k ty hit hlt ha
        rw [← hwi] at hnx
        obtain ⟨wh, hwh⟩ : ∃ wh, wh = (wi.setCell ⟨ab, ao, none⟩ (.pointer (some ⟨wi.heap.size, 0, none⟩))).alloc (.cells #[.int .i64 (n : Int), .pointer none, .pointer none] 72) := ⟨_, rfl⟩
        have hhung : hung wi F bl b.arm 72 = wh := by
          rw [hung, HA.out.2, HA.out.1, hwh]
          exact World.setCell_alloc_past _ _ _ _ hab
        have HS := Lib.hid (P1.out.hungs 72)
        rw [hhung] at HS
        have HU := Lib.hid hhung
        have h64 : (nds bl b.stk).length ≤ 64 := by
          rw [nds_length]
          obtain ⟨o, ho⟩ := valid_take hv.out k
          have h1 := (bldF_ok' ho).2.1
          have h2 := scan_le _ o ho
          rw [List.length_take] at h2
          rw [hb, h1]
          omega
        have HW := Lib.hid hwh
        have N1 : Hid (bldF (s.data.toList.take (k + 1)) = ⟨b.n + 1, upG b.G b.arm b.n, b.stk ++ [b.n], 2 * b.n + 1⟩) := by
          have h1 := N.out
          rw [stepB, if_pos hc] at h1
          exact h1
        clear hb hold hac hit hwi hc ha P hhung hwh N
        go_wp2_with (rw [show (wi.setCell ⟨ab, ao, none⟩ (.pointer (some ⟨wi.heap.size, 0, none⟩))).alloc (.cells #[.int .i64 (n : Int), .pointer none, .pointer none] 72) = wh from HW.out.symm]; go_at_call 73; refine (pushP_any O vs (nds bl b.stk) (some ⟨wi.heap.size, 0, none⟩) wh HS h64).mono ?_)
        rintro e w1 ⟨rfl, g, c, hS1, hL1⟩
        have P2 := Lib.hid (P1.out.opn (t := 72) hS1 (by rw [HU.out]; exact hL1))
        have hc2 := P2.out.arm_new P1.out.len P1.out.ok.arm
        rw [HA.out.2] at hc2
        have HIt := Lib.hid (iterPos_of P2.out.it)
        have HA2 : Hid ((bl ++ [wi.heap.size]).length = n + 1 ∧ adr F (bl ++ [wi.heap.size]) (2 * b.n + 1) = ⟨wi.heap.size, 1, none⟩) := by
          refine ⟨by rw [List.length_append, HA.out.1]; rfl, ?_⟩
          have h1 := adr_arm F (bl ++ [wi.heap.size]) b.n 0 (by omega)
          rw [← P1.out.len, getD_new] at h1
          rw [← P1.out.len]
          exact h1
        clear hS1 hL1 hac1 hac2 HS h64
        go_wp2
        go_roundw
        case rel => exact ⟨k + 1, n + 1, wi.heap.size, 1, bl ++ [wi.heap.size], _, by omega, by omega, by go_num, rfl, by rw [N1.out]; exact HA2.out, by rw [N1.out]; exact P2.out⟩
        case measure => rw [HIt.out, hpos.out]; omega
      · have hcp : ((s[k].toNat : Int) == 40) = false := by rw [hc]; rfl
        have ha : s[k].toNat < 128 := by omega
        have hnx : ∀ ty, _ := fun ty => Lib.run_next_ascii_at (P := Try.prog) wr I s k ty hit hlt ha
        rw [← hwi] at hnx
        obtain ⟨o, ho⟩ := valid_take hv.out k
        have hso := (bldF_ok' ho).2.1
        have hol := scan_le _ o ho
        rw [List.length_take] at hol
        rw [← hb] at hso
        have hpos1 : 0 < o := by
          obtain ⟨q, hq⟩ := valid_take hv.out (k + 1)
          rw [scan_next hlt ho] at hq
          apply Classical.byContradiction
          intro e
          obtain rfl : o = 0 := by omega
          simp [vstep, hc] at hq
        obtain ⟨m, rfl⟩ : ∃ m, o = m + 1 := ⟨o - 1, by omega⟩
        have hne : b.stk ≠ [] := fun e => by rw [e] at hso; simp at hso
        have HNE := Lib.hid hne
        have hx := Lib.hid (nds_last (bl := bl) hso)
        have hln : Hid ((nds bl b.stk).length = m + 1) := by rw [nds_length]; exact hso
        have hm64 : m ≤ 64 := by omega
        have N1 : Hid (bldF (s.data.toList.take (k + 1)) = ⟨b.n, b.G, b.stk.dropLast, 2 * b.stk.getLastD 0 + 2⟩) := by
          have h1 := N.out
          rw [stepB, if_neg (by omega)] at h1
          exact h1
        have HS := Lib.hid P1.out.stk
        have hxl : b.stk.getLastD 0 < bl.length := by
          rw [P1.out.len]
          apply P1.out.ok.stk
          rw [List.getLastD_eq_getLast?, List.getLast?_eq_some_getLast hne]
          exact List.getLast_mem hne
        have HXL := Lib.hid hxl
        obtain ⟨q, hq⟩ : ∃ q, q = bl.getD (b.stk.getLastD 0) 0 := ⟨_, rfl⟩
        rw [← hq] at hx
        have HQ := Lib.hid hq
        clear hb hold hac hit hwi hc ha P N ho hso hol hpos1 hne hxl hq hac1 hac2
        go_wp2_with (go_at_call 74; refine (popP_any O vs (nds bl b.stk) (some ⟨q, 0, none⟩) wi HS hln hm64 hx).mono ?_; rintro e w1 ⟨rfl, g, c, rfl, hS1, hL1⟩)
        have P2 := Lib.hid (P1.out.cls HNE.out hS1 hL1)
        have HIt := Lib.hid (iterPos_of P2.out.it)
        have HA2 : Hid (bl.length = n ∧ adr F bl (2 * b.stk.getLastD 0 + 2) = ⟨q, 2, none⟩) := by
          refine ⟨HA.out.1, ?_⟩
          have h1 := adr_arm F bl (b.stk.getLastD 0) 1 (by omega)
          rw [← HQ.out] at h1
          exact h1
        clear hS1 hL1 HS hx hln
        go_wp2
        go_roundw
        case rel => exact ⟨k + 1, n, q, 2, bl, _, by omega, by omega, rfl, rfl, by rw [N1.out]; exact HA2.out, by rw [N1.out]; exact P2.out⟩
        case measure => rw [HIt.out, hpos.out]; omega
    · obtain rfl : k = s.size := by omega
      have hit := P.out.it
      have hnx := fun ty => Lib.run_next_end_at (P := Try.prog) wr I s s.size ty hit hlt
      have P := P.out
      rw [List.take_of_length_le (Nat.le_of_eq (size_list s))] at P
      have h0 := (P.hp.arms 0 (Nat.zero_le _)).1
      obtain ⟨p1, p2, p3⟩ := bldF_word18 HSC.out 18 (by rw [size_list]; exact h18)
      have e0 : adr F bl 0 = ⟨F, 0, none⟩ := rfl
      rw [e0, p2] at h0
      have HT := Lib.hid (P.hp.tree 18 s.data.toList 0 HSC.out (by rw [size_list]; exact h18) (by rw [P.len, p1]; omega) p3)
      obtain ⟨p, hp⟩ : ∃ p, p = ptrA bl (rootA s.data.toList 0) := ⟨_, rfl⟩
      rw [← hp] at HT h0
      have HB := Lib.hid P.below
      clear P hp e0 p1 p2 p3 hit
      go_wp2
      go_ret
      rw [← HF.out]
      exact ⟨p, rfl, HT.out, HB.out⟩
end Go.Proofs.Ytakpbnkncjddeaa
