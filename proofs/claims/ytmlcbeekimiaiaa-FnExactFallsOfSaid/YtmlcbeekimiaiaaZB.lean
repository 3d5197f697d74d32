/-
  The contracts of the model's functions that go through a two-armed tree: its word, its nodes between their arms.
  The contract of the model's function that lists a two-armed tree's nodes, each one between its arms.
  The contract of the model's function that answers a word's nodes, each one between its arms.
-/
import Derived.Test.YtmlcbeekimiaiaaCFamB
import Derived.Test.YtmlcbeekimiaiaaWFamB
import Derived.Deep.RegionHeld3
import Derived.Deep.AppendLies
import Derived.Test.YtmlcbeekimiaiaaWTree
namespace Go.Proofs.Ytmlcbeekimiaiaa
open Go.RowKit

/-- what is read in one row of two numbers -/
theorem grid_row {w : World} {B H : Nat} {v : Value} {RV : List Value} {rows : List (List Int)} (hG : Grid w B H v RV rows) (k : Nat) (hk : k < rows.length) (h2 : (rows.getD k []).length = 2) :
    ∃ g cap g2 c2, v = .slice (some ⟨g, 0, none⟩) rows.length cap ∧ w.cell? ⟨g, k, none⟩ = some (.slice (some ⟨g2, 0, none⟩) 2 c2) ∧ w.cell? ⟨g2, 0, none⟩ = some (.int .i64 (armA rows k)) ∧ w.cell? ⟨g2, 1, none⟩ = some (.int .i64 (armB rows k)) := by
  obtain ⟨au, cu, rfl, _, hcu, _, _⟩ := hG.1.slice
  have lu := hG.2.1
  obtain ⟨g1, rfl, _, _, h1, _⟩ := hG.1.at_ k (by rw [lu]; exact hk)
  obtain ⟨x, hx, ox⟩ := hG.2.at_ k hk
  rw [hx] at h1
  have e2 : rows[k].length = 2 := by rw [List.getD_eq_getElem?_getD, List.getElem?_eq_getElem hk] at h2; exact h2
  obtain ⟨ax, cx, rfl, _, _, _, _⟩ := ox.slice
  obtain ⟨g2, rfl, _, _, h3, _⟩ := ox.at_ 0 (by rw [iv_length]; omega)
  obtain ⟨g3, e3, _, _, h4, _⟩ := ox.at_ 1 (by rw [iv_length]; omega)
  cases e3
  rw [iv_at _ 0 (by omega)] at h3
  rw [iv_at _ 1 (by omega)] at h4
  refine ⟨g1, cu, g2, cx, by rw [lu], by rw [h1, iv_length, e2], ?_, ?_⟩
  · rw [h3, armA, List.getD_eq_getElem?_getD, List.getD_eq_getElem?_getD, List.getElem?_eq_getElem hk]
    simp only [Option.getD_some]
    rw [List.getElem?_eq_getElem (by omega)]; rfl
  · rw [h4, armB, List.getD_eq_getElem?_getD, List.getD_eq_getElem?_getD, List.getElem?_eq_getElem hk]
    simp only [Option.getD_some]
    rw [List.getElem?_eq_getElem (by omega)]; rfl

def wobS (rows : List (List Int)) (f : Nat) (x : Int) : ByteArray := ⟨(wobL rows f x).toArray⟩
theorem wobS_size (rows : List (List Int)) (f : Nat) (x : Int) : (wobS rows f x).size = (wobL rows f x).length := by rw [← size_list]; rfl
theorem wobS_nat (rows : List (List Int)) (f k : Nat) : wobS rows (f + 1) (k : Int) = (⟨#[40]⟩ : ByteArray) ++ wobS rows f (armA rows k) ++ (⟨#[41]⟩ : ByteArray) ++ wobS rows f (armB rows k) := by
  apply bytes_ext
  simp only [toList_append]
  show wobL rows (f + 1) k = _
  rw [wobL_nat]; rfl
theorem Grid.drewN {w : World} {B H : Nat} {v : Value} {RV : List Value} {rows : List (List Int)} (h : Grid w B H v RV rows) (n : Nat) : Grid (w.drewN n) B H v RV rows := h.same rfl

theorem grid_len {w : World} {B H : Nat} {v : Value} {RV : List Value} {rows : List (List Int)} (hG : Grid w B H v RV rows) (k : Nat) (hk : k < rows.length) :
    ∃ g cap ax c2, v = .slice (some ⟨g, 0, none⟩) rows.length cap ∧ w.cell? ⟨g, k, none⟩ = some (.slice ax (rows.getD k []).length c2) := by
  obtain ⟨au, cu, rfl, _, hcu, _, _⟩ := hG.1.slice
  have lu := hG.2.1
  obtain ⟨g1, rfl, _, _, h1, _⟩ := hG.1.at_ k (by rw [lu]; exact hk)
  obtain ⟨x, hx, ox⟩ := hG.2.at_ k hk
  rw [hx] at h1
  obtain ⟨ax, cx, rfl, _, _, _, _⟩ := ox.slice
  exact ⟨g1, cu, ax, cx, by rw [lu], by rw [h1, iv_length, List.getD_eq_getElem?_getD, List.getElem?_eq_getElem hk]; rfl⟩
theorem grid_val {w : World} {B H : Nat} {v : Value} {RV : List Value} {rows : List (List Int)} (hG : Grid w B H v RV rows) : ∃ a cap, v = .slice a rows.length cap := by
  obtain ⟨au, cu, rfl, _⟩ := hG.1.slice
  exact ⟨au, cu, by rw [hG.2.1]⟩

/-- the word of rows, and whether there is one -/
def bwS (rows : List (List Int)) : ByteArray := if rows.length = 0 then ⟨#[]⟩ else wobS rows 10 0
def bwV (rows : List (List Int)) : Value := if treeW rows = true then .tuple #[.string (bwS rows), .bool true] else .tuple #[.string ⟨#[]⟩, .bool false]
end Go.Proofs.Ytmlcbeekimiaiaa

namespace Go.Proofs.Ytmlcbeekimiaiaa
open Go.RowKit

theorem step_append_own {P : Program} {w : World} {ops : Array Oper} {o : Oper} {a : Act} {K : Act → World → Prop} {Q : Exit → Act → World → Prop} {E : Prop} (hgd : o.guard = none) (s x : Operand) (t : TypeId)
    (ho : o.op = .call { callee := .builtin .append, args := #[s, x], argTypes := #[t, t] })
    (base : Nat) (e : TypeId) (i : TypeInfo) (z : Value) (size bytes : Nat) (ht : P.underlying t = some (.slice e)) (hi : P.info? e = some i) (hz : i.zero = some z)
    (hsize : i.size = size) (hby : i.bytes = bytes) (hzs : z.cells.size = size) (hsz : 0 < size)
    (v : Value) (n : Nat) (xs : List Value) (hs : a.eval s = v) (hown : w.ownsRow base e size v n xs)
    (ad : Addr) (m c : Nat) (news : List Value) (hx : a.eval x = .slice (some ad) m c) (hl : news.length = m * size) (hnews : ∀ j u, news[j]? = some u → w.cell? (ad.add j) = some u) (h1 : ∀ u ∈ news, u.oneCell' = true)
    (h63 : n + m ≤ maxLen) (hbytes : (n + m) * bytes ≤ 140737488355328) (hbase : base ≤ w.heap.size)
    (h : ∀ v' w', w'.ownsRow base e size v' (n + m) (xs ++ news) → w.grownBy w' v.ownBlock → (v' = .slice none 0 0 ↔ v = .slice none 0 0 ∧ m = 0) → K (a.put o.dst v') w') :
    if Region.wanted o (yielded ops a.tmps) = true then Oper.wp P o a w K Q else E := by
  have hw : Region.wanted o (yielded ops a.tmps) = true := by simp [Region.wanted, hgd]
  rw [if_pos hw]
  exact wp_append_own w s x t ho base e i z size bytes ht hi hz hsize hby hzs hsz v n xs hs hown ad m c news hx hl hnews h1 h63 hbytes hbase h

theorem iv_one (l : List Int) : ∀ u ∈ iv l, u.oneCell' = true := by intro u hu; simp [iv] at hu; obtain ⟨x, _, rfl⟩ := hu; rfl
/-- the nodes, in the call's own memory -/
def BtwOut (l : List Int) (w : World) (e : Ending) (w' : World) : Prop :=
  ∃ g c, e = .returned (.slice (some ⟨g, 0, none⟩) l.length c) ∧ Own w' w.heap.size w'.heap.size 3 (.slice (some ⟨g, 0, none⟩) l.length c) (iv l) ∧ Below w.heap.size w w'
theorem BtwOut.from {l : List Int} {w W : World} (hb : Below w.heap.size w W) {e : Ending} {w' : World} (h : BtwOut l W e w') :
    ∃ g c, e = .returned (.slice (some ⟨g, 0, none⟩) l.length c) ∧ Own w' w.heap.size w'.heap.size 3 (.slice (some ⟨g, 0, none⟩) l.length c) (iv l) ∧ Below w.heap.size w w' ∧ Below W.heap.size W w' := by
  obtain ⟨g, c, he, ho, hb'⟩ := h
  exact ⟨g, c, he, own_lo ho hb.size, hb.trans (hb'.mono hb.size), hb'⟩

set_option maxRecDepth 100000 in
set_option maxHeartbeats 3200000 in
theorem between_any (rows : List (List Int)) {B H : Nat} {v : Value} {RV : List Value} : ∀ (f : Nat) (x : Int) (w : World), f ≤ 10 → okT rows f x → H ≤ w.heap.size → Hid (Grid w B H v RV rows) →
    Calls Try.prog 33 #[v, .int .i64 x] w (BtwOut (btwL rows f x) w) := by
  obtain ⟨i0, hi0, hz0, hz1, hz2⟩ := info_parts Try.infoIntS
  intro f
  induction f with
  | zero =>
    intro x w _ hx _ _
    have hx' : x < 0 := hx
    go_enter Try.func33, Try.ntmps33
    go_wp2
    go_ret
    have hl := lit_own2 w #[] 3 (by decide)
    exact ⟨_, _, rfl, hl.more (by simp), (Below.refl _ w).alloc (Nat.le_refl _) _⟩
  | succ f ih =>
    intro x w hf hx hH hG
    by_cases hneg : x < 0
    · rw [btwL_neg _ _ _ hneg]
      clear hx ih
      go_enter Try.func33, Try.ntmps33
      go_wp2
      go_ret
      have hl := lit_own2 w #[] 3 (by decide)
      exact ⟨_, _, rfl, hl.more (by simp), (Below.refl _ w).alloc (Nat.le_refl _) _⟩
    · obtain ⟨k, rfl⟩ : ∃ k : Nat, x = k := ⟨x.toNat, by omega⟩
      obtain ⟨hk, h2, ha, hb⟩ := okT_nat hx
      have hG' := hG.out
      obtain ⟨g, cap, g2, c2, rfl, h1, h3, h4⟩ := grid_row hG.out k hk h2
      have lg := World.block_lt_of_cell? w _ h1
      have lg2 := World.block_lt_of_cell? w _ h3
      have ia : ∀ W, Below w.heap.size w W → Calls Try.prog 33 #[.slice (some ⟨g, 0, none⟩) rows.length cap, .int .i64 (armA rows k)] W fun e w' =>
          ∃ g c, e = .returned (.slice (some ⟨g, 0, none⟩) (btwL rows f (armA rows k)).length c) ∧ Own w' w.heap.size w'.heap.size 3 (.slice (some ⟨g, 0, none⟩) (btwL rows f (armA rows k)).length c) (iv (btwL rows f (armA rows k))) ∧ Below w.heap.size w w' ∧ Below W.heap.size W w' := fun W hW =>
        (ih _ W (by omega) ha (by have := hW.size; omega) (Lib.hid (hG'.below (hW.mono hH)))).mono fun e w' h => h.from hW
      have ib : ∀ W, Below w.heap.size w W → Calls Try.prog 33 #[.slice (some ⟨g, 0, none⟩) rows.length cap, .int .i64 (armB rows k)] W fun e w' =>
          ∃ g c, e = .returned (.slice (some ⟨g, 0, none⟩) (btwL rows f (armB rows k)).length c) ∧ Own w' w.heap.size w'.heap.size 3 (.slice (some ⟨g, 0, none⟩) (btwL rows f (armB rows k)).length c) (iv (btwL rows f (armB rows k))) ∧ Below w.heap.size w w' ∧ Below W.heap.size W w' := fun W hW =>
        (ih _ W (by omega) hb (by have := hW.size; omega) (Lib.hid (hG'.below (hW.mono hH)))).mono fun e w' h => h.from hW
      have s1 := btwL_len rows f (armA rows k)
      have s2 := btwL_len rows f (armB rows k)
      have p := pow_bound (show f ≤ 10 by omega)
      rw [btwL_nat]
      obtain ⟨a, hA⟩ : ∃ a, a = armA rows k := ⟨_, rfl⟩
      obtain ⟨b, hB⟩ : ∃ b, b = armB rows k := ⟨_, rfl⟩
      rw [← hA] at ia s1 h3 ⊢
      rw [← hB] at ib s2 h4 ⊢
      obtain ⟨L1, hL1⟩ : ∃ L1, L1 = btwL rows f a := ⟨_, rfl⟩
      obtain ⟨L2, hL2⟩ : ∃ L2, L2 = btwL rows f b := ⟨_, rfl⟩
      rw [← hL1] at ia s1 ⊢
      rw [← hL2] at ib s2 ⊢
      have ks : ∀ W, Below w.heap.size w W → (Below w.heap.size w W ∧ W.cell? ⟨g, k, none⟩ = some (.slice (some ⟨g2, 0, none⟩) 2 c2) ∧ W.cell? ⟨g2, 0, none⟩ = some (.int .i64 a) ∧ W.cell? ⟨g2, 1, none⟩ = some (.int .i64 b)) :=
        fun W h => ⟨h, (h.cell (p := ⟨g, k, none⟩) lg).trans h1, (h.cell (p := ⟨g2, 0, none⟩) lg2).trans h3, (h.cell (p := ⟨g2, 1, none⟩) lg2).trans h4⟩
      have hB0 : Below w.heap.size w w := Below.refl _ _
      have IA := Lib.hid ia
      have IB := Lib.hid ib
      have KS := Lib.hid ks
      have z1 : L1.length ≤ 1024 := by omega
      have z2 : L2.length ≤ 1024 := by omega
      have y1 : L1.length + 1 ≤ maxLen := by unfold maxLen; omega
      have y2 : (L1.length + 1) * 8 ≤ 140737488355328 := by omega
      have y3 : L1.length + 1 + L2.length ≤ maxLen := by unfold maxLen; omega
      have y4 : (L1.length + 1 + L2.length) * 8 ≤ 140737488355328 := by omega
      have b0 : (0 : Int) ≤ (k : Int) := by omega
      have b1 : (k : Int) < (rows.length : Int) := by omega
      clear hx ih ha hb hA hB h2 s1 s2 p ia ib ks hL1 hL2 hG' hneg hf
      go_enter Try.func33, Try.ntmps33
      go_wp2
      go_region_held3 (fun w' => Below w.heap.size w w' ∧ w'.cell? ⟨g, k, none⟩ = some (.slice (some ⟨g2, 0, none⟩) 2 c2) ∧ w'.cell? ⟨g2, 0, none⟩ = some (.int .i64 a) ∧ w'.cell? ⟨g2, 1, none⟩ = some (.int .i64 b))
        (first
          | exact KS.out _ (by assumption)
          | exact KS.out _ (Below.drew (by assumption))
          | (go_split_ands; exact KS.out _ (Below.alloc (by assumption) (Below.size (by assumption)) _)))
        (first
          | (go_at_call_of 33 a; go_split_ands; refine (IA.out _ ?_).mono ?_; (assumption); rintro e w1 ⟨g1, c1, rfl, ho1, hB1, hb1⟩)
          | (go_at_call_of 33 b; go_split_ands; refine (IB.out _ ?_).mono ?_; (assumption); rintro e w3 ⟨g3, c3, rfl, ho3, hB3, hb3⟩)
          | (refine step_append_own ?gd (.tmp 15) (.tmp 17) 22 ?ho w.heap.size 3 i0 (.int .i64 0) 1 8 Try.underlying22 hi0 hz0 hz1 hz2 rfl (Nat.lt_succ_self 0) (.slice (some ⟨g1, 0, none⟩) L1.length c1) L1.length (iv L1) ?hs ?own ⟨?blk, 0, none⟩ 1 1 [.int .i64 k] ?hx rfl ?news (one_int2 _) y1 y2 ?base ?_
             case gd => rfl
             case ho => rfl
             case hs => rfl
             case hx => rfl
             case own =>
               have o1 := ho1.1
               rw [iv_length] at o1
               refine own_of_blocks o1 (fun q hq => ?_)
               first | rfl | exact Below.heap_alloc _ _ _ (ho1.2 q hq)
             case news =>
               first
                 | (have l9 : w.heap.size < (w.alloc (.cells #[.int .i64 k] 3)).drew.heap.size := by simp
                    have e9 := hb1.block w.heap.size l9
                    have e8 := e9.trans (heap_alloc_new w (.cells #[.int .i64 k] 3))
                    exact World.news_of_block (cs := #[.int .i64 k]) (t := 3) (fr := (0, 0)) e8)
                 | exact World.news_of_block (cs := #[.int .i64 k]) (t := 3) (fr := (0, 0)) (heap_alloc_new _ _)
             case base => (go_split_ands; refine Below.size (B := w.heap.size) ?_; assumption)
             intro v4 w4 hv4 hg4 hn4
             go_split_ands
             have hB4 : Below w.heap.size w w4 := by
               refine Below.grown ?hx1 hg4 ?hx2 (fun q hq => (ho1.1.lt q hq).1)
               case hx1 => assumption
               case hx2 => (refine Below.size (B := w.heap.size) ?_; assumption))
          | (refine step_append_own ?gd (.tmp 18) (.tmp 26) 22 ?ho w.heap.size 3 i0 (.int .i64 0) 1 8 Try.underlying22 hi0 hz0 hz1 hz2 rfl (Nat.lt_succ_self 0) v4 (L1.length + 1) (iv L1 ++ [.int .i64 k]) ?hs ?own ⟨g3, 0, none⟩ L2.length c3 (iv L2) ?hx ?len ?news (iv_one _) y3 y4 ?base ?_
             case gd => rfl
             case ho => rfl
             case hs => rfl
             case hx => rfl
             case own => exact own_of_blocks hv4 (fun q hq => hb3.block q (hv4.lt q hq).2)
             case len => rw [iv_length, Nat.mul_one]
             case news =>
               have o3 := ho3.1
               rw [iv_length] at o3
               exact o3.cells (g := g3) rfl
             case base => (go_split_ands; refine Below.size (B := w.heap.size) ?_; assumption)
             intro v5 w5 hv5 hg5 hn5
             go_split_ands
             have hB5 : Below w.heap.size w w5 := by
               refine Below.grown ?hx1 hg5 ?hx2 (fun q hq => (hv4.lt q hq).1)
               case hx1 => assumption
               case hx2 => (refine Below.size (B := w.heap.size) ?_; assumption))
          | (refine step_append_own ?gdB (.tmp 15) (.tmp 17) 22 ?hoB w.heap.size 3 i0 (.int .i64 0) 1 8 Try.underlying22 hi0 hz0 hz1 hz2 rfl (Nat.lt_succ_self 0) (.slice (some ⟨g1, 0, none⟩) L1.length c1) L1.length (iv L1) ?hsB ?ownB ⟨?blkB, 0, none⟩ 1 1 [.int .i64 k] ?hxB rfl ?newsB (one_int2 _) y1 y2 ?baseB ?_
             case gdB => rfl
             case hoB => rfl
             case hsB => rfl
             case hxB => rfl
             case ownB =>
               have o1 := ho1.1
               rw [iv_length] at o1
               refine own_of_blocks o1 (fun q hq => ?_)
               first | rfl | exact Below.heap_alloc _ _ _ (ho1.2 q hq)
             case newsB =>
               first
                 | (have l9 : w.heap.size < (w.alloc (.cells #[.int .i64 k] 3)).drew.heap.size := by simp
                    have e9 := hb1.block w.heap.size l9
                    have e8 := e9.trans (heap_alloc_new w (.cells #[.int .i64 k] 3))
                    exact World.news_of_block (cs := #[.int .i64 k]) (t := 3) (fr := (0, 0)) e8)
                 | exact World.news_of_block (cs := #[.int .i64 k]) (t := 3) (fr := (0, 0)) (heap_alloc_new _ _)
             case baseB => (go_split_ands; refine Below.size (B := w.heap.size) ?_; assumption)
             intro v4 w4 hv4 hg4 hn4
             go_split_ands
             have hB4 : Below w.heap.size w w4 := by
               refine Below.grown ?hx1B hg4 ?hx2B (fun q hq => (ho1.1.lt q hq).1)
               case hx1B => assumption
               case hx2B => (refine Below.size (B := w.heap.size) ?_; assumption))
          | (refine step_append_own ?gdB (.tmp 18) (.tmp 26) 22 ?hoB w.heap.size 3 i0 (.int .i64 0) 1 8 Try.underlying22 hi0 hz0 hz1 hz2 rfl (Nat.lt_succ_self 0) v4 (L1.length + 1) (iv L1 ++ [.int .i64 k]) ?hsB ?ownB ⟨g3, 0, none⟩ L2.length c3 (iv L2) ?hxB ?lenB ?newsB (iv_one _) y3 y4 ?baseB ?_
             case gdB => rfl
             case hoB => rfl
             case hsB => rfl
             case hxB => rfl
             case ownB => exact own_of_blocks hv4 (fun q hq => hb3.block q (hv4.lt q hq).2)
             case lenB => rw [iv_length, Nat.mul_one]
             case newsB =>
               have o3 := ho3.1
               rw [iv_length] at o3
               exact o3.cells (g := g3) rfl
             case baseB => (go_split_ands; refine Below.size (B := w.heap.size) ?_; assumption)
             intro v5 w5 hv5 hg5 hn5
             go_split_ands
             have hB5 : Below w.heap.size w w5 := by
               refine Below.grown ?hx1B hg5 ?hx2B (fun q hq => (hv4.lt q hq).1)
               case hx1B => assumption
               case hx2B => (refine Below.size (B := w.heap.size) ?_; assumption))
          | fail "no arm")
      all_goals (
        have hne4 : v4 ≠ .slice none 0 0 := fun e => by have := (hn4.1 e).2; omega
        have hne5 : v5 ≠ .slice none 0 0 := fun e => hne4 (hn5.1 e).1
        obtain ⟨g5, c5, rfl⟩ := own_some3 hv5 hne5
        go_wp2
        go_ret
        have e1 : (L1 ++ [(k : Int)] ++ L2).length = L1.length + 1 + L2.length := by simp; omega
        have e2 : iv (L1 ++ [(k : Int)] ++ L2) = iv L1 ++ [.int .i64 k] ++ iv L2 := by simp [iv]
        have R : Own w5 w.heap.size w5.heap.size 3 (.slice (some ⟨g5, 0, none⟩) (L1 ++ [(k : Int)] ++ L2).length c5) (iv (L1 ++ [(k : Int)] ++ L2)) := by
          refine Own.of_own ?_
          rw [iv_length, e2, e1]
          exact hv5
        refine ⟨g5, c5, ?_, R, hB5⟩
        rw [e1]; rfl)
end Go.Proofs.Ytmlcbeekimiaiaa

namespace Go.Proofs.Ytmlcbeekimiaiaa
open Go.RowKit

theorem btw_word (s : List UInt8) (h : scan s = some 0) (h18 : s.length ≤ 18) (hne : s ≠ []) : okT (binL 18 s 0) 10 0 ∧ wobL (binL 18 s 0) 10 0 = s ∧ btwL (binL 18 s 0) 10 0 = stackL s := by
  have t := binL_tree 18 s 0 10 [] [] h h18 rfl (by omega)
  have e : rootA s 0 = 0 := if_neg hne
  rw [List.nil_append, List.append_nil, e] at t
  refine ⟨t.1, t.2.1, ?_⟩
  rw [t.2.2, stackL, stackF, fold_btw 18 s [] [] 0 h h18]; rfl
theorem stackL_len (s : List UInt8) (h : scan s = some 0) (h18 : s.length ≤ 18) (hne : s ≠ []) : (stackL s).length + 1 ≤ 1024 := by
  rw [← (btw_word s h h18 hne).2.2]
  exact btwL_len _ 10 _

end Go.Proofs.Ytmlcbeekimiaiaa
