/-
  A slice of a call's own that is read from its beginning and appended to at its end: the law of append for it.
  Ways in a map: their ends as keys, what the map tells.
-/
import Derived.Test.YtafdlilojlmchaaZBP
import Derived.Deep.AppendLies
import Derived.Test.YtafdlilojlmchaaZW
import Derived.Maps.OwnSet
import Derived.Maps.OwnOps
import Derived.Maps.RangeWalk
import Derived.DeepKeys4
namespace Go.Proofs.Ytafdlilojlmchaa
open Go.RowKit

/-- n elements in a block from B on, wherever they begin in it -/
def QRow (w : World) (B : Nat) (e : TypeId) (size : Nat) (v : Value) (n : Nat) (xs : List Value) : Prop :=
  xs.length = n * size ∧ ((v = .slice none 0 0 ∧ n = 0) ∨
    ∃ g off cap cur, v = .slice (some ⟨g, off, none⟩) n cap ∧ B ≤ g ∧ w.heap[g]? = some (.cells cur e (0, 0)) ∧ n ≤ cap ∧ cap ≤ maxLen ∧ off + cap * size ≤ cur.size ∧ ∀ j, j < n * size → cur[off + j]? = xs[j]?)
section
variable {w w' : World} {B : Nat} {e : TypeId} {size n : Nat} {v : Value} {xs : List Value}
theorem QRow.nil (w : World) (B : Nat) (e : TypeId) (size : Nat) : QRow w B e size (.slice none 0 0) 0 [] := ⟨by simp, .inl ⟨rfl, rfl⟩⟩
theorem QRow.lt (h : QRow w B e size v n xs) : ∀ k, v.ownBlock = some k → B ≤ k ∧ k < w.heap.size := by
  intro k hk
  rcases h.2 with ⟨rfl, _⟩ | ⟨g, off, cap, cur, rfl, hb, hg, _⟩
  · cases hk
  · cases hk
    exact ⟨hb, (Array.getElem?_eq_some_iff.1 hg).1⟩
theorem QRow.carry (h : QRow w B e size v n xs) (hb : ∀ k, v.ownBlock = some k → w'.heap[k]? = w.heap[k]?) : QRow w' B e size v n xs := by
  refine ⟨h.1, ?_⟩
  rcases h.2 with hn | ⟨g, off, cap, cur, rfl, h1, h2, h3⟩
  · exact .inl hn
  · exact .inr ⟨g, off, cap, cur, rfl, h1, (hb g rfl).trans h2, h3⟩
theorem QRow.alloc (h : QRow w B e size v n xs) (o : Obj) : QRow (w.alloc o) B e size v n xs := h.carry fun k hk => Below.heap_alloc w o k (h.lt k hk).2
theorem QRow.kept {row : Option Nat} (h : QRow w B e size v n xs) (hg : w.grownBy w' row) (hne : v.ownBlock = none ∨ v.ownBlock ≠ row) : QRow w' B e size v n xs := h.carry fun k hk => hg.block k (h.lt k hk).2 (fun q => by
  rcases hne with q1 | q1
  · rw [q1] at hk; cases hk
  · exact q1 (hk.trans q))
theorem QRow.cell (h : QRow w B e size v n xs) (j : Nat) (hj : j < n * size) : ∃ g off cap, v = .slice (some ⟨g, off, none⟩) n cap ∧ n ≤ cap ∧ cap ≤ maxLen ∧ w.cell? ⟨g, off + j, none⟩ = xs[j]? := by
  rcases h.2 with ⟨_, h0⟩ | ⟨g, off, cap, cur, rfl, h1, h2, h3, h4, h5, h6⟩
  · subst h0; omega
  · refine ⟨g, off, cap, rfl, h3, h4, ?_⟩
    rw [cell_of_row w g (off + j) cur e (0, 0) h2]
    exact h6 j hj
/-- without the first element -/
theorem QRow.tail {g off cap : Nat} {ys : List Value} (h : QRow w B e size (.slice (some ⟨g, off, none⟩) (n + 1) cap) (n + 1) (ys ++ xs)) (hy : ys.length = size) {a : Option Addr} (ha : a = if cap = 1 then some ⟨g, off, none⟩ else some ⟨g, off + size, none⟩) : QRow w B e size (.slice a n (cap - 1)) n xs := by
  have hl := h.1
  rw [List.length_append, hy, Nat.add_mul, Nat.one_mul] at hl
  rcases h.2 with ⟨q, _⟩ | ⟨g', off', cap', cur, q, h1, h2, h3, h4, h5, h6⟩
  · cases q
  · simp only [Value.slice.injEq, Option.some.injEq, Addr.mk.injEq] at q
    obtain ⟨⟨rfl, rfl, _⟩, _, rfl⟩ := q
    refine ⟨by omega, .inr ?_⟩
    by_cases hc : cap = 1
    · rw [if_pos hc] at ha
      subst ha
      have hn : n = 0 := by omega
      subst hn
      refine ⟨g, off, cap - 1, cur, rfl, h1, h2, by omega, by omega, ?_, fun j hj => by omega⟩
      subst hc
      simp only [Nat.sub_self, Nat.zero_mul]
      omega
    · rw [if_neg hc] at ha
      subst ha
      refine ⟨g, off + size, cap - 1, cur, rfl, h1, h2, by omega, by omega, ?_, fun j hj => ?_⟩
      · have : (cap - 1) * size + size = cap * size := by rw [← Nat.succ_mul]; congr 1; omega
        omega
      · have := h6 (size + j) (by rw [Nat.add_mul, Nat.one_mul]; omega)
        rw [List.getElem?_append_right (by omega), hy, Nat.add_sub_cancel_left, ← Nat.add_assoc] at this
        exact this
end
section
variable {P : Program} (w : World)
/-- one element more -/
theorem run_append_que (t ty : TypeId) (base : Nat) (e : TypeId) (i : TypeInfo) (z : Value) (size bytes : Nat) (ht : P.underlying t = some (.slice e)) (hi : P.info? e = some i) (hz : i.zero = some z)
    (hsize : i.size = size) (hby : i.bytes = bytes) (hzs : z.cells.size = size)
    (v : Value) (n : Nat) (xs : List Value) (hown : QRow w base e size v n xs)
    (a : Addr) (c : Nat) (news : List Value) (hl : news.length = 1 * size) (hnews : ∀ j u, news[j]? = some u → w.cell? (a.add j) = some u) (h1 : ∀ u ∈ news, u.oneCell' = true)
    (h63 : n + 1 ≤ maxLen) (hbytes : (n + 1) * bytes ≤ 140737488355328) (hbase : base ≤ w.heap.size) (H : Nat) (hH : w.heap.size = H) :
    ∃ g off cap w', (Builtin.append_ #[t, t] ty #[v, .slice (some a) 1 c]).run P w = .ok (.slice (some ⟨g, off, none⟩) (n + 1) cap) w' ∧ QRow w' base e size (.slice (some ⟨g, off, none⟩) (n + 1) cap) (n + 1) (xs ++ news) ∧ w.grownBy w' v.ownBlock ∧ (v.ownBlock = some g ∨ g = H) ∧ g < w'.heap.size := by
  subst hsize
  subst hby
  subst hH
  have hsmall : n + 1 ≤ 9223372036854775807 := by simp only [maxLen] at h63; omega
  have hlen : (xs ++ news).length = (n + 1) * i.size := by rw [List.length_append, hown.1, hl, Nat.add_mul]
  have grown : ∀ (old : Nat), old < n + 1 → ∀ (row : Option Nat),
      QRow (w.drew.alloc (.cells (xs.toArray ++ news.toArray ++ Builtin.zeroCells z.cells (grownCap w (n + 1) old e - (n + 1))) e)) base e i.size (.slice (some ⟨w.heap.size, 0, none⟩) (n + 1) (grownCap w (n + 1) old e)) (n + 1) (xs ++ news) ∧
      w.grownBy (w.drew.alloc (.cells (xs.toArray ++ news.toArray ++ Builtin.zeroCells z.cells (grownCap w (n + 1) old e - (n + 1))) e)) row := by
    intro old ho row
    have hge := grownCap_ge w (n + 1) old e
    have hcm : grownCap w (n + 1) old e ≤ maxLen := grownCap_le_maxLen w (n + 1) old e h63
    refine ⟨⟨hlen, .inr ⟨w.heap.size, 0, _, _, rfl, hbase, heap_alloc_new w.drew _, hge, hcm, ?_, fun j hj => ?_⟩⟩, ⟨rfl, rfl, rfl, by simp, fun k hk _ => Below.heap_alloc w.drew _ k hk⟩⟩
    · refine Nat.le_of_eq ?_
      rw [Nat.zero_add]
      simp only [Array.size_append, List.size_toArray, size_zeroCells, hzs, hown.1, hl, ← Nat.add_mul]
      congr 1
      omega
    · rw [Nat.zero_add, ← Array.getElem?_toList]
      simp only [Array.toList_append]
      rw [List.getElem?_append_left (by rw [List.length_append]; simp only [List.length_append] at hlen; omega)]
  rcases hown.2 with ⟨rfl, rfl⟩ | ⟨g, off, cap, cur, rfl, hbg, hg, hnc, hcm, hcs, htake⟩
  · have hx : xs = [] := List.eq_nil_of_length_eq_zero (by simpa using hown.1)
    subst hx
    have hr := run_append_nil (P := P) w t ty e i z ht hi hz a 1 c news hl hnews (by omega) (by omega) (by have hb := hbytes; simp only [Nat.zero_add] at hb; omega)
    have hgr := grown 0 (by omega) (Value.ownBlock (.slice none 0 0))
    simp only [Nat.zero_add, List.nil_append, Array.empty_append] at hgr ⊢
    exact ⟨_, _, _, _, hr, hgr.1, hgr.2, .inr rfl, by simp⟩
  · have hgl : g < w.heap.size := (Array.getElem?_eq_some_iff.1 hg).1
    by_cases hroom : n + 1 ≤ cap
    · have hfit : off + n * i.size + news.length ≤ cur.size := by
        have : (n + 1) * i.size ≤ cap * i.size := Nat.mul_le_mul_right _ hroom
        rw [Nat.add_mul] at this
        rw [hl]; omega
      have hst := run_storeCells_at P g (off + n * i.size) e news 0 cur w hg (by simpa using hfit) h1
      have hf := run_firstCells_some (P := P) w i.size 1 a 1 c news hl hnews
      simp only [Nat.add_zero] at hst
      have hr : (Builtin.append_ #[t, t] ty #[.slice (some ⟨g, off, none⟩) n cap, .slice (some a) 1 c]).run P w =
          .ok (.slice (some ⟨g, off, none⟩) (n + 1) cap) (w.setRow g (cur.toList.take (off + n * i.size) ++ news ++ cur.toList.drop (off + n * i.size + news.length)).toArray) := by
        simp [Builtin.append_, run_underlying ht, sizeOf, typeInfo, hi, Builtin.lenOf, hroom, hf, Addr.add_lit, hst]
      refine ⟨g, off, cap, _, hr, ⟨hlen, .inr ⟨g, off, cap, _, rfl, hbg, setRow_heap w g cur _ e _ hg, hroom, hcm, ?_, fun j hj => ?_⟩⟩, ⟨rfl, rfl, rfl, by simp, fun k _ hk => setRow_other w g k _ (fun e => hk (by simp [Value.ownBlock, e]))⟩, .inl rfl, by simpa using hgl⟩
      · simp only [List.size_toArray, List.length_append, List.length_take, List.length_drop, Array.length_toList]
        omega
      · rw [← Array.getElem?_toList, List.toList_toArray, List.append_assoc]
        have hxl := hown.1
        have ht1 : (cur.toList.take (off + n * i.size)).length = off + n * i.size := by rw [List.length_take, Array.length_toList]; omega
        by_cases hjx : j < n * i.size
        · rw [List.getElem?_append_left (by omega), List.getElem?_append_left (by omega), List.getElem?_take_of_lt (by omega), Array.getElem?_toList]
          exact htake j hjx
        · rw [List.getElem?_append_right (by omega), ht1, List.getElem?_append_right (l₁ := xs) (by omega), hxl, show off + j - (off + n * i.size) = j - n * i.size by omega, List.getElem?_append_left (by rw [Nat.add_mul] at hj; omega)]
    · have holds : ∀ j u, xs[j]? = some u → w.cell? ((⟨g, off, none⟩ : Addr).add j) = some u := fun j u hu => by
        have hj : j < n * i.size := by rw [← hown.1]; exact (List.getElem?_eq_some_iff.1 hu).1
        have hadd : (⟨g, off, none⟩ : Addr).add j = ⟨g, off + j, none⟩ := by simp [Addr.add_lit]
        rw [hadd, cell_of_row w g (off + j) cur e (0, 0) hg, htake j hj]
        exact hu
      have hr := run_append_grow (P := P) w t ty e i z ht hi hz ⟨g, off, none⟩ n cap xs hown.1 holds a 1 c news hl hnews (by omega) (by omega) (growslice_fits (by omega) hbytes)
      have hgr := grown cap (by omega) (Value.ownBlock (.slice (some ⟨g, off, none⟩) n cap))
      exact ⟨_, _, _, _, hr, hgr.1, hgr.2, .inr rfl, by simp⟩
theorem wpList_append_que {ops : Array Oper} {rest : List Oper} {o : Oper} {a : Act} {Q : Exit → Act → World → Prop} (hgd : o.guard = none) (s x : Operand) (t : TypeId)
    (ho : o.op = .call { callee := .builtin .append, args := #[s, x], argTypes := #[t, t] })
    (base : Nat) (e : TypeId) (i : TypeInfo) (z : Value) (size bytes : Nat) (ht : P.underlying t = some (.slice e)) (hi : P.info? e = some i) (hz : i.zero = some z)
    (hsize : i.size = size) (hby : i.bytes = bytes) (hzs : z.cells.size = size)
    (v : Value) (n : Nat) (xs : List Value) (hs : a.eval s = v) (hown : QRow w base e size v n xs)
    (ad : Addr) (c : Nat) (news : List Value) (hx : a.eval x = .slice (some ad) 1 c) (hl : news.length = 1 * size) (hnews : ∀ j u, news[j]? = some u → w.cell? (ad.add j) = some u) (h1 : ∀ u ∈ news, u.oneCell' = true)
    (h63 : n + 1 ≤ maxLen) (hbytes : (n + 1) * bytes ≤ 140737488355328) (hbase : base ≤ w.heap.size) (H : Nat) (hH : w.heap.size = H)
    (h : ∀ g off cap w', QRow w' base e size (.slice (some ⟨g, off, none⟩) (n + 1) cap) (n + 1) (xs ++ news) → w.grownBy w' v.ownBlock → (v.ownBlock = some g ∨ g = H) → g < w'.heap.size → wpList P ops Q rest (a.put o.dst (.slice (some ⟨g, off, none⟩) (n + 1) cap)) w') : wpList P ops Q (o :: rest) a w := by
  refine wpList_plain hgd fun K hK => ?_
  obtain ⟨g, off, cap, w', hr, h2, h3, h4, h5⟩ := run_append_que (P := P) w t o.type base e i z size bytes ht hi hz hsize hby hzs v n xs hown ad c news hl hnews h1 h63 hbytes hbase H hH
  unfold Oper.wp execOp
  simp only [ho, resolve, invoke, builtin, Sem.run_bind, Sem.run_pure, Result.andThen_ok, List.map_toArray, List.map_cons, List.map_nil, hs, hx, hr]
  exact hK _ _ (h g off cap w' h2 h3 h4 h5)
end
end Go.Proofs.Ytafdlilojlmchaa

namespace Go.Proofs.Ytafdlilojlmchaa
open Go.RowKit

theorem laidOut10 : laidOutB Try.prog = true := by kernel_rfl
theorem rowE10 : (61 : TypeId) < Try.prog.types.size := of_decide_eq_true (by kernel_rfl)
theorem wideE10 : (match Try.prog.underlying 61 with | some (.array _ _) | some (.struct _) => true | _ => false) = true := by kernel_rfl
theorem deepE10 : Try.prog.keyTypeAt 2 61 = true := by kernel_rfl
set_option maxRecDepth 100000 in
theorem lawE10 : Maps.Keyed Try.prog 61 := Maps.Keyed.of_law (deep_law_laid laidOut10 (m := 2) (by decide) rowE10 deepE10 wideE10)
def endV (p : Nat × Nat) : Value := .agg #[.int .i64 (p.1 : Int), .int .i64 (p.2 : Int)]
def keyE (p : Nat × Nat) : Lit := .string (keyBytes [.int .i64 (p.1 : Int), .int .i64 (p.2 : Int)])
theorem wf_small10 (x : Nat) (h : x ≤ 1000) : (Lit.int .i64 (x : Int)).wf = true := by
  have h1 : IntKind.i64.min = -9223372036854775808 := rfl
  have h2 : IntKind.i64.max = 9223372036854775807 := rfl
  simp [Lit.wf]; omega
theorem keyT10 : Try.prog.keyType 61 = true := by kernel_rfl
theorem cellsE10 : Try.prog.cellsOf 61 = 2 := by kernel_rfl
theorem cellsI10 : Try.prog.cellsOf 3 = 1 := by kernel_rfl
set_option maxRecDepth 100000 in
theorem size10 : ∃ m, Try.prog.types.size = m + 1 := ⟨_, (Nat.succ_pred_eq_of_pos (Nat.lt_of_le_of_lt (Nat.zero_le _) rowE10)).symm⟩
set_option maxRecDepth 100000 in
theorem key_ends {p : Nat × Nat} (h : p.1 ≤ 1000 ∧ p.2 ≤ 1000) : keyOf Try.prog 61 (endV p) = some (keyE p) := by
  have w1 := wf_small10 _ h.1
  have w2 := wf_small10 _ h.2
  obtain ⟨m, hm⟩ := size10
  unfold keyOf endV keyE
  rw [Try.underlying61]
  simp only [keyT10, Value.formed, Try.underlying61, cellsE10, Value.cells, hm]
  simp [Program.keyLits, Try.underlying61, Try.underlying3, cellsE10, cellsI10, w1, w2]
theorem keyE_inj {p q : Nat × Nat} (hp : p.1 ≤ 1000 ∧ p.2 ≤ 1000) (hq : q.1 ≤ 1000 ∧ q.2 ≤ 1000) (h : keyE p = keyE q) : p = q := by
  have h1 := key_ends hp
  have h2 := key_ends hq
  rw [← h] at h2
  have h3 := lawE10.inj h1 h2
  unfold endV at h3
  obtain ⟨a, b⟩ := p
  obtain ⟨c, d⟩ := q
  simp only [Value.agg.injEq, Array.mk.injEq, List.cons.injEq, Value.int.injEq, true_and, and_true] at h3
  simp only [Prod.mk.injEq]
  omega
theorem keyE_lit (p : Nat × Nat) : WideAt.IsKeyLit (keyE p) := trivial
def Small10 (S : List (Nat × Nat)) : Prop := ∀ p ∈ S, p.1 ≤ 1000 ∧ p.2 ≤ 1000
/-- a map tells, by their ends, how long these ways are -/
def MapIs (E : Edges) (D : DataW Unit) (S : List (Nat × Nat)) : Prop :=
  Maps.IsMap D ∧ (∀ kl, Maps.has D kl = true ↔ ∃ p ∈ S, kl = keyE p) ∧ ∀ p ∈ S, ∀ z, D.atKey (keyE p) z = .lit (.int .i64 (dsP E p : Int))
theorem MapIs.none (E : Edges) : MapIs E (.map [] : DataW Unit) [] := ⟨Maps.isMap_empty, fun kl => ⟨fun h => (by cases h), fun ⟨_, h, _⟩ => (by cases h)⟩, fun p hp => by cases hp⟩
theorem MapIs.add {E : Edges} {D : DataW Unit} {S : List (Nat × Nat)} (h : MapIs E D S) (hS : Small10 S) {p : Nat × Nat} (hp : p.1 ≤ 1000 ∧ p.2 ≤ 1000) : MapIs E (D.put (keyE p) (.lit (.int .i64 (dsP E p : Int)))) (S ++ [p]) := by
  refine ⟨h.1.put _ _, fun kl => ?_, fun q hq z => ?_⟩
  · by_cases e : kl = keyE p
    · subst e
      rw [Maps.has_put_same h.1 (keyE_lit p)]
      exact ⟨fun _ => ⟨p, by simp, rfl⟩, fun _ => rfl⟩
    · rw [Maps.has_put_other e, h.2.1 kl]
      constructor
      · rintro ⟨q, hq, rfl⟩; exact ⟨q, List.mem_append_left _ hq, rfl⟩
      · rintro ⟨q, hq, rfl⟩
        rcases List.mem_append.1 hq with hq | hq
        · exact ⟨q, hq, rfl⟩
        · rw [List.mem_singleton] at hq; subst hq; exact absurd rfl e
  · by_cases e : keyE q = keyE p
    · have hq2 : q.1 ≤ 1000 ∧ q.2 ≤ 1000 := by
        rcases List.mem_append.1 hq with hq | hq
        · exact hS q hq
        · rw [List.mem_singleton] at hq; subst hq; exact hp
      have := keyE_inj hq2 hp e
      subst this
      rw [Maps.atKey_put_same h.1 (keyE_lit q)]
    · rw [Maps.atKey_put_other e]
      rcases List.mem_append.1 hq with hq | hq
      · exact h.2.2 q hq z
      · rw [List.mem_singleton] at hq; subst hq; exact absurd rfl e
theorem MapIs.has_ {E : Edges} {D : DataW Unit} {S : List (Nat × Nat)} (h : MapIs E D S) (hS : Small10 S) {p : Nat × Nat} (hp : p.1 ≤ 1000 ∧ p.2 ≤ 1000) : Maps.has D (keyE p) = true ↔ p ∈ S := by
  rw [h.2.1]
  constructor
  · rintro ⟨q, hq, e⟩
    have := keyE_inj hp (hS q hq) e
    subst this; exact hq
  · exact fun hp => ⟨p, hp, rfl⟩
def encW (p : Nat × Nat) : List Int := [(p.1 : Int), (p.2 : Int)]
def rowW2 (Q : List (Nat × Nat)) : List Value := flatS (Q.map encW)
theorem rowW2_snoc (Q : List (Nat × Nat)) (a b : Nat) : rowW2 (Q ++ [(a, b)]) = rowW2 Q ++ [.int .i64 (a : Int), .int .i64 (b : Int)] := by
  unfold rowW2
  rw [List.map_append, flatS_append]
  congr 1
theorem rowW2_cons (Q : List (Nat × Nat)) (a b : Nat) : rowW2 ((a, b) :: Q) = [.int .i64 (a : Int), .int .i64 (b : Int)] ++ rowW2 Q := rfl
/-- what stands while ways are found: those found, and of them those not yet gone on from -/
structure Wst (E : Edges) (w0 w : World) (SZ C : Nat) (D : DataW Unit) (S : List (Nat × Nat)) (v : Value) (q : Nat) (Q : List (Nat × Nat)) : Prop where
  own : w.ownsMap Try.prog 61 (plainElem (H := Unit) Try.prog 3) SZ S.length D
  is : MapIs E D S
  que : QRow w C 61 2 v q (rowW2 Q)
  below : Below SZ w0 w
  ge : SZ < C ∧ C ≤ w.heap.size
section
variable {E : Edges} {w0 w w' : World} {SZ C q : Nat} {D : DataW Unit} {S Q : List (Nat × Nat)} {v : Value}
theorem Wst.alloc (h : Wst E w0 w SZ C D S v q Q) (o : Obj) : Wst E w0 (w.alloc o) SZ C D S v q Q :=
  ⟨h.own.alloc o, h.is, h.que.alloc o, h.below.alloc (by have := h.ge; omega) _, h.ge.1, by rw [World.size_alloc]; have := h.ge; omega⟩
theorem Wst.put (h : Wst E w0 w SZ C D S v q Q) (hS : Small10 S) {p : Nat × Nat} (hp : p.1 ≤ 1000 ∧ p.2 ≤ 1000) (ho : w'.ownsMap Try.prog 61 (plainElem (H := Unit) Try.prog 3) SZ (S.length + 1) (D.put (keyE p) (.lit (.int .i64 (dsP E p : Int))))) (hg : w.grownBy w' (some SZ)) :
    Wst E w0 w' SZ C (D.put (keyE p) (.lit (.int .i64 (dsP E p : Int)))) (S ++ [p]) v q Q :=
  ⟨by rw [List.length_append]; exact ho, h.is.add hS hp, h.que.kept hg (by
      cases hv : v.ownBlock with
      | none => exact .inl rfl
      | some k => exact .inr fun e => by have := (h.que.lt k hv).1; have := h.ge; cases e; omega),
    h.below.grown hg (by have := h.ge; omega) (fun j hj => by cases hj; exact Nat.le_refl _), h.ge.1, Nat.le_trans h.ge.2 hg.size⟩
theorem Wst.push (h : Wst E w0 w SZ C D S v q Q) {v' : Value} {a b : Nat} (hq : QRow w' C 61 2 v' (q + 1) (rowW2 Q ++ [.int .i64 (a : Int), .int .i64 (b : Int)])) (hg : w.grownBy w' v.ownBlock) : Wst E w0 w' SZ C D S v' (q + 1) (Q ++ [(a, b)]) := by
  have hne : ∀ k, v.ownBlock = some k → SZ < k := fun k hk => by have := (h.que.lt k hk).1; have := h.ge; omega
  refine ⟨h.own.kept hg (fun e => ?_), h.is, by rw [rowW2_snoc]; exact hq, h.below.grown hg (by have := h.ge; omega) (fun j hj => ?_), h.ge.1, Nat.le_trans h.ge.2 hg.size⟩
  · have := hne SZ e.symm; omega
  · have := hne j hj; omega
end
end Go.Proofs.Ytafdlilojlmchaa
