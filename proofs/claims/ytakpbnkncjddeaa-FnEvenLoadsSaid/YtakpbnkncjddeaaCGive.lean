/-
  The contract of the function that gives out the words with a beginning, over any cut and any round.
-/
import Derived.Test.YtakpbnkncjddeaaZV
import Derived.Test.YtakpbnkncjddeaaZX
import Derived.RangeFuncKeeps
import Derived.RangeFuncBound
import Derived.RangeFuncCalls
import Derived.RangeFuncLeaves
import Derived.RangeFuncBox
import Derived.Shelf.Abstract
import Derived.Shelf.RegionOpen
import Derived.OwnWalkIn
import Derived.TacticsInMore
namespace Go.Proofs.Ytakpbnkncjddeaa
open Go.RowKit Go.Shelf

attribute [local go_sem] Oper.semAt_some

/-- every block of cells of the type t lies as it lay -/
def KT (t : TypeId) (W W' : World) : Prop := ∀ (k : Nat) (vs : Array Value) (r : Nat × Nat), W.heap[k]? = some (Obj.cells vs t r) → W'.heap[k]? = some (Obj.cells vs t r)
theorem KT.refl {t : TypeId} (W : World) : KT t W W := fun _ _ _ h => h
theorem KT.trans {t : TypeId} {A B C : World} (h : KT t A B) (k : KT t B C) : KT t A C := fun i vs r e => k i vs r (h i vs r e)
theorem KT.alloc {t : TypeId} {A B : World} (h : KT t A B) (o : Obj) : KT t A (B.alloc o) := fun i vs r e => (Below.heap_alloc _ _ _ (Array.getElem?_eq_some_iff.1 (h i vs r e)).1).trans (h i vs r e)

theorem cell_blk {W : World} {B : Nat} {vs : Array Value} {t : TypeId} (h : W.heap[B]? = some (.cells vs t (0, 0))) (i : Nat) : W.cell? ⟨B, i, none⟩ = vs[i]? := by simp [World.cell?, h]

/-- the value of a beginning -/
def Beg (h : ByteArray) (o l : Nat) : Value := .agg #[.string h, .int .i64 o, .int .i64 l]

theorem room_none {F : Fence} (hd : F.depth = none) (k : Nat) : F.room k := fun d h => by rw [hd] at h; cases h
theorem round_any {F : Fence} (hd : F.depth = none) {m m' : Nat} {P : Program} {l : Nat} {f : FuncId} {tmps : Array Value} {assign body : Code} {w : World} {R : Ending → World → Prop}
    (h : RoundIn F m P l f tmps assign body w R) : RoundIn F m' P l f tmps assign body w R := ⟨h.1, fun c cs _ => h.2 c cs (room_none hd _)⟩
theorem yield_any {F : Fence} (hd : F.depth = none) {m : Nat} (m' : Nat) {P : Program} {l : Nat} {args : Array Value} {W : World} {R : Ending → World → Prop} (h : YieldAt F m P l args W R) : YieldAt F m' P l args W R := by
  obtain ⟨fn, tmps, assign, body, hy, hR⟩ := h
  exact ⟨fn, tmps, assign, body, hy, round_any hd hR⟩

section
variable {σ : Type} (cut : σ → List UInt8 → Nat → Nat → Bool × σ)

set_option maxRecDepth 100000 in
set_option maxHeartbeats 3200000 in
theorem give_any (F : Fence) (hd : F.depth = none) (hro : F.round = none) (h58 : F.fn 92) (cf : Nat) (lbc : Array Value) (hcf : F.fn cf)
    (ecf : ∀ args w, (callFunc cf args).run Try.prog w = .ok (.enter cf args) w) (lr n N : Nat) (J : σ → List (List UInt8) → World → Prop) (Jx : List (List UInt8) → World → Prop)
    (hA : ∀ s pre W o, J s pre W → J s pre (W.alloc o))
    (hY : ∀ m s pre (x : ByteArray) W, x.size = 2 * n → J s pre W → pre.length < N → YieldAt F m Try.prog lr #[.string x] W fun e W' =>
      (e = .returned (.bool true) ∧ J s (pre ++ [x.data.toList]) W' ∧ KT 62 W W') ∨ (e = .returned (.bool false) ∧ Jx (pre ++ [x.data.toList]) W'))
    (hC : ∀ m s pre (h : ByteArray) o l W, h.size + 2 * l + o = 2 * n → o + l ≤ n → J s pre W → CallsIn F m Try.prog cf (#[Beg h o l] ++ lbc) W fun e W' =>
      e = .returned (.bool (cut s h.data.toList o l).1) ∧ J (cut s h.data.toList o l).2 pre W' ∧ KT 62 W W') (hn : n ≤ 9) :
    ∀ (f : Nat) (s : σ) (h : ByteArray) (o l m : Nat) (pre : List (List UInt8)) (W : World), 2 * l + o = f → h.size + f = 2 * n → o + l ≤ n → J s pre W → pre.length + (gw cut f s h.data.toList o l).1.length ≤ N →
      CallsIn F m Try.prog 92 #[Beg h o l, .func (.func cf) #[] lbc, .func (.yield lr) #[] #[]] W fun e W' =>
        (e = .returned (.bool true) ∧ J (gw cut f s h.data.toList o l).2 (pre ++ (gw cut f s h.data.toList o l).1) W' ∧ KT 62 W W') ∨
        (e = .returned (.bool false) ∧ ∃ q, q ≠ [] ∧ q <+: (gw cut f s h.data.toList o l).1 ∧ Jx (pre ++ q) W') := by
  have hdd : ∀ k : Nat, (F.depth.isSome = true → 1 ≤ k) := fun k h => by rw [hd] at h; cases h
  have H1 : ∀ (f : Nat) (s : σ) (h : ByteArray) (o l m : Nat) (pre : List (List UInt8)) (W : World), h.size + 2 * l + o = 2 * n → o + l ≤ n → J s pre W → (cut s h.data.toList o l).1 = true →
      CallsIn F m Try.prog 92 #[Beg h o l, .func (.func cf) #[] lbc, .func (.yield lr) #[] #[]] W fun e W' =>
        (e = .returned (.bool true) ∧ J (gw cut f s h.data.toList o l).2 (pre ++ (gw cut f s h.data.toList o l).1) W' ∧ KT 62 W W') ∨
        (e = .returned (.bool false) ∧ ∃ q, q ≠ [] ∧ q <+: (gw cut f s h.data.toList o l).1 ∧ Jx (pre ++ q) W') := by
    intro f s h o l m pre W hh hon hJ hcb
    have hc := hC (m - 1) s pre h o l (W.alloc (.cells #[.string h, .int .i64 o, .int .i64 l] 62)) hh hon (hA _ _ _ _ hJ)
    rw [hcb] at hc
    rw [gw_cut f s h.data.toList o l hcb, List.append_nil]
    have HC := Lib.hid hc
    have hk0 : KT 62 W (W.alloc (.cells #[.string h, .int .i64 o, .int .i64 l] 62)) := (KT.refl W).alloc _
    clear hc hcb hC hY hA
    refine callsIn_of_wp Try.func92 rfl h58 ?_ hro
    simp only [Beg, Try.ntmps92, List.size_toArray, List.length_cons, List.length_nil, Nat.reduceAdd, Nat.reduceSub, Array.replicate_succ, Array.replicate_zero, List.push_toArray, List.append_toArray, List.nil_append, List.cons_append]
    gi_wp2_with fail
    refine HC.out.mono ?_
    rintro e W1 ⟨rfl, hJ1, hk1⟩
    gi_wp2
    go_ret
    exact .inl ⟨rfl, hJ1, hk0.trans hk1⟩
  intro f
  induction f with
  | zero =>
    intro s h o l m pre W hf hh hon hJ hN
    obtain rfl : o = 0 := by omega
    obtain rfl : l = 0 := by omega
    cases hcb : (cut s h.data.toList 0 0).1 with
    | true => exact H1 0 s h 0 0 m pre W (by omega) hon hJ hcb
    | false =>
      have hc := hC (m - 1) s pre h 0 0 (W.alloc (.cells #[.string h, .int .i64 0, .int .i64 0] 62)) (by omega) (by omega) (hA _ _ _ _ hJ)
      rw [hcb] at hc
      rw [gw_zero s h.data.toList 0 0 hcb] at hN ⊢
      have hb : (W.alloc (.cells #[.string h, .int .i64 0, .int .i64 0] 62)).heap[W.heap.size]? = some (.cells #[.string h, .int .i64 0, .int .i64 0] 62 (0, 0)) := World.alloc_heap_new W _
      have hk0 : KT 62 W (W.alloc (.cells #[.string h, .int .i64 0, .int .i64 0] 62)) := (KT.refl W).alloc _
      have HC := Lib.hid hc
      have HB := Lib.hid hb
      have hl1 : pre.length < N := by simp at hN; omega
      clear hc hb hcb hC hA H1 hN
      refine callsIn_of_wp Try.func92 rfl h58 ?_ hro
      simp only [Beg, Try.ntmps92, List.size_toArray, List.length_cons, List.length_nil, Nat.reduceAdd, Nat.reduceSub, Array.replicate_succ, Array.replicate_zero, List.push_toArray, List.append_toArray, List.nil_append, List.cons_append]
      gi_wp2_with fail
      refine HC.out.mono ?_
      rintro e W1 ⟨rfl, hJ1, hk1⟩
      have c0 : W1.cell? ⟨W.heap.size, 0, none⟩ = some (.string h) := cell_blk (hk1 _ _ _ HB.out) 0
      have c1 : W1.cell? ⟨W.heap.size, 1, none⟩ = some (.int .i64 0) := cell_blk (hk1 _ _ _ HB.out) 1
      have c2 : W1.cell? ⟨W.heap.size, 2, none⟩ = some (.int .i64 0) := cell_blk (hk1 _ _ _ HB.out) 2
      obtain ⟨fn, tmps, assign, body, hy, hR⟩ := hY (m - 1) _ pre h W1 (by omega) hJ1 hl1
      gi_wp2_with fail
      refine hR.mono ?_
      rintro e W3 (⟨rfl, hJ3, hk3⟩ | ⟨rfl, hJx3⟩)
      · gi_wp2
        go_ret
        exact .inl ⟨rfl, hJ3, (hk0.trans hk1).trans hk3⟩
      · gi_wp2
        go_ret
        exact .inr ⟨rfl, [h.data.toList], by simp, List.prefix_refl _, hJx3⟩
  | succ f ih =>
    intro s h o l m pre W hf hh hon hJ hN
    cases hcb : (cut s h.data.toList o l).1 with
    | true => exact H1 (f + 1) s h o l m pre W (by omega) hon hJ hcb
    | false =>
      have hc := hC (m - 1) s pre h o l (W.alloc (.cells #[.string h, .int .i64 o, .int .i64 l] 62)) (by omega) hon (hA _ _ _ _ hJ)
      rw [hcb] at hc
      have hb : (W.alloc (.cells #[.string h, .int .i64 o, .int .i64 l] 62)).heap[W.heap.size]? = some (.cells #[.string h, .int .i64 o, .int .i64 l] 62 (0, 0)) := World.alloc_heap_new W _
      have hk0 : KT 62 W (W.alloc (.cells #[.string h, .int .i64 o, .int .i64 l] 62)) := (KT.refl W).alloc _
      have HC := Lib.hid hc
      have HB := Lib.hid hb
      have z1 : h.size + (ByteArray.mk #[40]).size ≤ 9223372036854775807 := by rw [show (ByteArray.mk #[40]).size = 1 from rfl]; omega
      have z2 : h.size + (ByteArray.mk #[41]).size ≤ 9223372036854775807 := by rw [show (ByteArray.mk #[41]).size = 1 from rfl]; omega
      have s40 : (h ++ ByteArray.mk #[40]).size + f = 2 * n := by rw [ByteArray.size_append, show (ByteArray.mk #[40]).size = 1 from rfl]; omega
      have s41 : (h ++ ByteArray.mk #[41]).size + f = 2 * n := by rw [ByteArray.size_append, show (ByteArray.mk #[41]).size = 1 from rfl]; omega
      have e40 : (h ++ ByteArray.mk #[40]).data.toList = h.data.toList ++ [40] := toList_append _ _
      have e41 : (h ++ ByteArray.mk #[41]).data.toList = h.data.toList ++ [41] := toList_append _ _
      have E40 := Lib.hid e40
      have E41 := Lib.hid e41
      have S40 := Lib.hid s40
      have S41 := Lib.hid s41
      have HH := Lib.hid hh
      have IH := Lib.hid ih
      clear hc hb hC hA H1 e40 e41 hY s40 s41 hh ih
      by_cases hl : 0 < l
      · by_cases ho : 0 < o
        · rw [gw_both f s h.data.toList o l hcb hl ho] at hN ⊢
          simp only [List.length_append] at hN
          obtain ⟨s1, hs1⟩ : ∃ s1, s1 = (cut s h.data.toList o l).2 := ⟨_, rfl⟩
          rw [← hs1] at hN HC ⊢
          obtain ⟨G1, hG1⟩ : ∃ g, g = gw cut f s1 (h.data.toList ++ [40]) (o + 1) (l - 1) := ⟨_, rfl⟩
          rw [← hG1] at hN ⊢
          obtain ⟨G2, hG2⟩ : ∃ g, g = gw cut f G1.2 (h.data.toList ++ [41]) (o - 1) l := ⟨_, rfl⟩
          rw [← hG2] at hN ⊢
          have eo : ((o : Int) + 1) = ((o + 1 : Nat) : Int) := by omega
          have el : ((l : Int) - 1) = ((l - 1 : Nat) : Int) := by omega
          have eo' : ((o : Int) - 1) = ((o - 1 : Nat) : Int) := by omega
          have i1 : ∀ pre W, J s1 pre W → pre.length + G1.1.length ≤ N → CallsIn F (m - 1) Try.prog 92 #[.agg #[.string (h ++ ByteArray.mk #[40]), .int .i64 ((o : Int) + 1), .int .i64 ((l : Int) - 1)], .func (.func cf) #[] lbc, .func (.yield lr) #[] #[]] W fun e W' =>
              (e = .returned (.bool true) ∧ J G1.2 (pre ++ G1.1) W' ∧ KT 62 W W') ∨ (e = .returned (.bool false) ∧ ∃ q, q ≠ [] ∧ q <+: G1.1 ∧ Jx (pre ++ q) W') := by
            intro pre W hJ hN
            have := IH.out s1 (h ++ ByteArray.mk #[40]) (o + 1) (l - 1) (m - 1) pre W (by omega) S40.out (by omega) hJ (by rw [E40.out, ← hG1]; exact hN)
            rw [E40.out, ← hG1] at this
            rw [eo, el]; exact this
          have i2 : ∀ pre W, J G1.2 pre W → pre.length + G2.1.length ≤ N → CallsIn F (m - 1) Try.prog 92 #[.agg #[.string (h ++ ByteArray.mk #[41]), .int .i64 ((o : Int) - 1), .int .i64 (l : Int)], .func (.func cf) #[] lbc, .func (.yield lr) #[] #[]] W fun e W' =>
              (e = .returned (.bool true) ∧ J G2.2 (pre ++ G2.1) W' ∧ KT 62 W W') ∨ (e = .returned (.bool false) ∧ ∃ q, q ≠ [] ∧ q <+: G2.1 ∧ Jx (pre ++ q) W') := by
            intro pre W hJ hN
            have := IH.out G1.2 (h ++ ByteArray.mk #[41]) (o - 1) l (m - 1) pre W (by omega) S41.out (by omega) hJ (by rw [E41.out, ← hG2]; exact hN)
            rw [E41.out, ← hG2] at this
            rw [eo']; exact this
          have I1 := Lib.hid i1
          have I2 := Lib.hid i2
          clear i1 i2 hs1 hcb hG1 hG2 eo el eo'
          have q0 : ((o : Int) == 0) = false := beq_false_of_ne (by omega)
          have q1 : (0 : Int) < (l : Int) := by omega
          refine callsIn_of_wp Try.func92 rfl h58 ?_ hro
          simp only [Beg, Try.ntmps92, List.size_toArray, List.length_cons, List.length_nil, Nat.reduceAdd, Nat.reduceSub, Array.replicate_succ, Array.replicate_zero, List.push_toArray, List.append_toArray, List.nil_append, List.cons_append]
          gi_wp2_with fail
          refine HC.out.mono ?_
          rintro e W1 ⟨rfl, hJ1, hk1⟩
          have hB1 := hk1 _ _ _ HB.out
          have c0 : W1.cell? ⟨W.heap.size, 0, none⟩ = some (.string h) := cell_blk hB1 0
          have c1 : W1.cell? ⟨W.heap.size, 1, none⟩ = some (.int .i64 o) := cell_blk hB1 1
          have c2 : W1.cell? ⟨W.heap.size, 2, none⟩ = some (.int .i64 l) := cell_blk hB1 2
          have HB1 := Lib.hid hB1
          clear hB1
          gi_wp2_with fail
          refine (I1.out pre W1 hJ1 (by omega)).mono ?_
          clear I1
          rintro e W2 (⟨rfl, hJ2, hk2⟩ | ⟨rfl, q, hq0, hq, hx⟩)
          · have hB2 := hk2 _ _ _ HB1.out
            have d0 : W2.cell? ⟨W.heap.size, 0, none⟩ = some (.string h) := cell_blk hB2 0
            have d1 : W2.cell? ⟨W.heap.size, 1, none⟩ = some (.int .i64 o) := cell_blk hB2 1
            have d2 : W2.cell? ⟨W.heap.size, 2, none⟩ = some (.int .i64 l) := cell_blk hB2 2
            clear c0 c1 c2 hB2
            gi_wp2_with fail
            refine (I2.out (pre ++ G1.1) W2 hJ2 (by rw [List.length_append]; omega)).mono ?_
            clear I2
            rintro e W3 (⟨rfl, hJ3, hk3⟩ | ⟨rfl, q, hq0, hq, hx⟩)
            · gi_wp2
              go_ret
              exact .inl ⟨rfl, by rw [← List.append_assoc]; exact hJ3, ((hk0.trans hk1).trans hk2).trans hk3⟩
            · gi_wp2
              go_ret
              obtain ⟨t, ht⟩ := hq
              exact .inr ⟨rfl, G1.1 ++ q, by simp [hq0], ⟨t, by rw [List.append_assoc, ht]⟩, by rw [← List.append_assoc]; exact hx⟩
          · gi_wp2
            go_ret
            exact .inr ⟨rfl, q, hq0, hq.trans (List.prefix_append _ _), hx⟩
        · obtain rfl : o = 0 := by omega
          rw [gw_open f s h.data.toList 0 l hcb hl (by omega)] at hN ⊢
          obtain ⟨s1, hs1⟩ : ∃ s1, s1 = (cut s h.data.toList 0 l).2 := ⟨_, rfl⟩
          rw [← hs1] at hN HC ⊢
          obtain ⟨G1, hG1⟩ : ∃ g, g = gw cut f s1 (h.data.toList ++ [40]) (0 + 1) (l - 1) := ⟨_, rfl⟩
          rw [← hG1] at hN ⊢
          have el : ((l : Int) - 1) = ((l - 1 : Nat) : Int) := by omega
          have i1 : ∀ pre W, J s1 pre W → pre.length + G1.1.length ≤ N → CallsIn F (m - 1) Try.prog 92 #[.agg #[.string (h ++ ByteArray.mk #[40]), .int .i64 1, .int .i64 ((l : Int) - 1)], .func (.func cf) #[] lbc, .func (.yield lr) #[] #[]] W fun e W' =>
              (e = .returned (.bool true) ∧ J G1.2 (pre ++ G1.1) W' ∧ KT 62 W W') ∨ (e = .returned (.bool false) ∧ ∃ q, q ≠ [] ∧ q <+: G1.1 ∧ Jx (pre ++ q) W') := by
            intro pre W hJ hN
            have := IH.out s1 (h ++ ByteArray.mk #[40]) (0 + 1) (l - 1) (m - 1) pre W (by omega) S40.out (by omega) hJ (by rw [E40.out, ← hG1]; exact hN)
            rw [E40.out, ← hG1] at this
            rw [el]; exact this
          have I1 := Lib.hid i1
          clear i1 hs1 hcb hG1 el
          have q0 : ((l : Int) == 0) = false := beq_false_of_ne (by omega)
          have q1 : (0 : Int) < (l : Int) := by omega
          refine callsIn_of_wp Try.func92 rfl h58 ?_ hro
          simp only [Beg, Try.ntmps92, List.size_toArray, List.length_cons, List.length_nil, Nat.reduceAdd, Nat.reduceSub, Array.replicate_succ, Array.replicate_zero, List.push_toArray, List.append_toArray, List.nil_append, List.cons_append]
          gi_wp2_with fail
          refine HC.out.mono ?_
          rintro e W1 ⟨rfl, hJ1, hk1⟩
          have hB1 := hk1 _ _ _ HB.out
          have c0 : W1.cell? ⟨W.heap.size, 0, none⟩ = some (.string h) := cell_blk hB1 0
          have c1 : W1.cell? ⟨W.heap.size, 1, none⟩ = some (.int .i64 0) := cell_blk hB1 1
          have c2 : W1.cell? ⟨W.heap.size, 2, none⟩ = some (.int .i64 l) := cell_blk hB1 2
          have HB1 := Lib.hid hB1
          clear hB1
          gi_wp2_with fail
          refine (I1.out pre W1 hJ1 (by omega)).mono ?_
          clear I1
          rintro e W2 (⟨rfl, hJ2, hk2⟩ | ⟨rfl, q, hq0, hq, hx⟩)
          · have hB2 := hk2 _ _ _ HB1.out
            have d0 : W2.cell? ⟨W.heap.size, 0, none⟩ = some (.string h) := cell_blk hB2 0
            have d1 : W2.cell? ⟨W.heap.size, 1, none⟩ = some (.int .i64 0) := cell_blk hB2 1
            have d2 : W2.cell? ⟨W.heap.size, 2, none⟩ = some (.int .i64 l) := cell_blk hB2 2
            clear c0 c1 c2 hB2
            gi_wp2
            go_ret
            exact .inl ⟨rfl, hJ2, (hk0.trans hk1).trans hk2⟩
          · gi_wp2
            go_ret
            exact .inr ⟨rfl, q, hq0, hq, hx⟩
      · obtain rfl : l = 0 := by omega
        have ho : 0 < o := by omega
        rw [gw_shut f s h.data.toList o 0 hcb hl ho] at hN ⊢
        obtain ⟨s1, hs1⟩ : ∃ s1, s1 = (cut s h.data.toList o 0).2 := ⟨_, rfl⟩
        rw [← hs1] at hN HC ⊢
        obtain ⟨G1, hG1⟩ : ∃ g, g = gw cut f s1 (h.data.toList ++ [41]) (o - 1) 0 := ⟨_, rfl⟩
        rw [← hG1] at hN ⊢
        have eo' : ((o : Int) - 1) = ((o - 1 : Nat) : Int) := by omega
        have i1 : ∀ pre W, J s1 pre W → pre.length + G1.1.length ≤ N → CallsIn F (m - 1) Try.prog 92 #[.agg #[.string (h ++ ByteArray.mk #[41]), .int .i64 ((o : Int) - 1), .int .i64 0], .func (.func cf) #[] lbc, .func (.yield lr) #[] #[]] W fun e W' =>
            (e = .returned (.bool true) ∧ J G1.2 (pre ++ G1.1) W' ∧ KT 62 W W') ∨ (e = .returned (.bool false) ∧ ∃ q, q ≠ [] ∧ q <+: G1.1 ∧ Jx (pre ++ q) W') := by
          intro pre W hJ hN
          have := IH.out s1 (h ++ ByteArray.mk #[41]) (o - 1) 0 (m - 1) pre W (by omega) S41.out (by omega) hJ (by rw [E41.out, ← hG1]; exact hN)
          rw [E41.out, ← hG1] at this
          rw [eo']; exact this
        have I1 := Lib.hid i1
        clear i1 hs1 hcb hG1 eo'
        have q0 : ((o : Int) == 0) = false := beq_false_of_ne (by omega)
        refine callsIn_of_wp Try.func92 rfl h58 ?_ hro
        simp only [Beg, Try.ntmps92, List.size_toArray, List.length_cons, List.length_nil, Nat.reduceAdd, Nat.reduceSub, Array.replicate_succ, Array.replicate_zero, List.push_toArray, List.append_toArray, List.nil_append, List.cons_append]
        gi_wp2_with fail
        refine HC.out.mono ?_
        rintro e W1 ⟨rfl, hJ1, hk1⟩
        have hB1 := hk1 _ _ _ HB.out
        have c0 : W1.cell? ⟨W.heap.size, 0, none⟩ = some (.string h) := cell_blk hB1 0
        have c1 : W1.cell? ⟨W.heap.size, 1, none⟩ = some (.int .i64 o) := cell_blk hB1 1
        have c2 : W1.cell? ⟨W.heap.size, 2, none⟩ = some (.int .i64 0) := cell_blk hB1 2
        clear hB1
        gi_wp2_with fail
        refine (I1.out pre W1 hJ1 (by omega)).mono ?_
        clear I1
        rintro e W2 (⟨rfl, hJ2, hk2⟩ | ⟨rfl, q, hq0, hq, hx⟩)
        · gi_wp2
          go_ret
          exact .inl ⟨rfl, hJ2, (hk0.trans hk1).trans hk2⟩
        · gi_wp2
          go_ret
          exact .inr ⟨rfl, q, hq0, hq, hx⟩
end
end Go.Proofs.Ytakpbnkncjddeaa
