/-
  Whether all nodes are reached: what the program's marking of nodes over edges answers.
  The program's reading of a tree out of rows: which rows it takes, and what edges it tells.
  The program's ValidTree.
-/
import Derived.Test.YtafdlilojlmchaaZI
import Derived.Test.YtafdlilojlmchaaZW
import Derived.ChangeKeysEq
import Derived.Deep.LoopGhost
import Derived.Test.YtafdlilojlmchaaCVTree
import Derived.Deep.AppendLies
namespace Go.Proofs.Ytafdlilojlmchaa
open Go.RowKit

theorem Try.infoBoolR : (Try.prog.info? 4).map (fun i => (i.zero, i.size, i.bytes)) = some (some (.bool false), 1, 1) := by kernel_rfl
theorem arrLen7 : Try.prog.arrayLen 123 = 7 := by kernel_rfl
theorem slice_marks (g n : Nat) (h : n ≤ 7) (W : World) : (Instr.sliceAt 123 (.pointer (some ⟨g, 0, none⟩)) none (some (.int .i64 (n : Int))) none).run Try.prog W = .ok (.slice (some ⟨g, 0, none⟩) n 7) W := by
  have ht : Try.prog.underlying 123 = some (.array (Try.prog.arrayLen 123) (Try.prog.elem 123)) := by kernel_rfl
  have he : Try.prog.elem 123 = 4 := by kernel_rfl
  rw [run_sliceAt_array_h W 123 _ ht .i64 n (by omega) (by rw [arrLen7]; omega), he, Try.sizeOf4]
  simp [slicedAt, arrLen7, Addr.add]
/-! ### seven marks -/
def bvL (r : Nat → Bool) : List Value := [.bool (r 0), .bool (r 1), .bool (r 2), .bool (r 3), .bool (r 4), .bool (r 5), .bool (r 6)]
theorem bvL_at (r : Nat → Bool) {v : Nat} (h : v < 7) : (bvL r)[v]? = some (.bool (r v)) := by
  match v, h with
  | 0, _ => rfl
  | 1, _ => rfl
  | 2, _ => rfl
  | 3, _ => rfl
  | 4, _ => rfl
  | 5, _ => rfl
  | 6, _ => rfl
theorem bvL_set (r : Nat → Bool) (b : Bool) {v : Nat} (h : v < 7) : (bvL r).set v (.bool b) = bvL (fun u => if u = v then b else r u) := by
  match v, h with
  | 0, _ => rfl
  | 1, _ => rfl
  | 2, _ => rfl
  | 3, _ => rfl
  | 4, _ => rfl
  | 5, _ => rfl
  | 6, _ => rfl
theorem bvL_congr {r s : Nat → Bool} (h : ∀ v, v < 7 → r v = s v) : bvL r = bvL s := by
  unfold bvL
  rw [h 0 (by omega), h 1 (by omega), h 2 (by omega), h 3 (by omega), h 4 (by omega), h 5 (by omega), h 6 (by omega)]
def sameB (r s : Nat → Bool) : Bool := (List.range 7).all fun v => r v == s v
theorem sameB_iff (r s : Nat → Bool) : sameB r s = true ↔ ∀ v, v < 7 → r v = s v := by simp [sameB]
theorem items_same (r s : Nat → Bool) (w : World) (d : Nat) : ∀ (is : List Nat), (∀ i ∈ is, i < 7) → (Op.eqItems (d + 1) 4 1 (bvL r).toArray (bvL s).toArray is).run Try.prog w = .ok (is.all fun v => r v == s v) w := by
  intro is
  induction is with
  | nil => intro _; simp [Op.eqItems]
  | cons i is ih =>
    intro h
    have hi := h i (by simp)
    have hp : ∀ r : Nat → Bool, (part 4 (bvL r).toArray (i * 1)).run Try.prog w = .ok (.bool (r i)) w := fun r => by
      have := bvL_at r hi
      simp [part, isAgg, run_underlying Try.underlying4, this]
    simp only [Op.eqItems, Sem.run_bind, hp, Result.andThen_ok, run_equalIn_bool' w d 4 _ _ Try.underlying4, List.all_cons]
    cases hb : (r i == s i)
    · simp
    · simp only [Bool.not_true, Bool.false_eq_true, if_false, Bool.true_and]
      exact ih fun j hj => h j (List.mem_cons_of_mem _ hj)
theorem neq_marks (r s : Nat → Bool) (w : World) : (binOp .neq 123 (.agg (bvL r).toArray) (.agg (bvL s).toArray)).run Try.prog w = .ok (.bool (!sameB r s)) w := by
  have hu := Try.underlying123
  rw [run_neq_struct, show (10000 : Nat) = 9999 + 1 from rfl]
  obtain ⟨i, hi, _, _, _⟩ := info_parts Try.infoBoolR
  have hc : Try.prog.cellsOf 4 = 1 := by kernel_rfl
  rw [run_equalIn_array w 9999 _ _ hu hi, hc, items_same r s w 9998 (List.range 7) fun i hi => List.mem_range.1 hi]
  rfl

/-! ### whether a mark is missing -/
set_option maxHeartbeats 800000 in
theorem indexB_p (r : Nat → Bool) (n g c : Nat) (w : World) (h : Hid (∀ v, v < n → w.cell? ⟨g, v, none⟩ = some (.bool (r v)))) (hn : n ≤ 64) :
    Calls Try.prog 96 #[.slice (some ⟨g, 0, none⟩) n c, .bool false] w fun e w' => ∃ z : Int, e = .returned (.int .i64 z) ∧ ((0 ≤ z) ↔ ∃ v, v < n ∧ r v = false) ∧ w = w' := by
  go_enter Try.func96, Try.ntmps96
  go_wp2
  go_loop [8] (fun i => ∃ k : Nat, k ≤ n ∧ i = .int .i64 (k : Int) ∧ Hid (∀ v, v < k → r v = true)) (fun i => n - (intOf i).toNat)
  case atStart => exact ⟨0, Nat.zero_le _, rfl, fun v h => by omega⟩
  case round =>
    obtain ⟨k, hk, rfl, HK⟩ := hrel
    by_cases hlt : k < n
    · have b1 : (k : Int) < (n : Int) := by omega
      have h1 := h.out k hlt
      cases hr : r k with
      | true =>
        rw [hr] at h1
        have HK2 : Hid (∀ v, v < k + 1 → r v = true) := fun v hv => by
          by_cases e : v = k
          · rw [e]; exact hr
          · exact HK.out v (by omega)
        clear hr
        go_wp2
        go_round
        case rel => exact ⟨k + 1, by omega, by go_num, HK2⟩
        case measure => simp [intOf]; omega
      | false =>
        rw [hr] at h1
        have HN : Hid (∃ v, v < n ∧ r v = false) := ⟨k, hlt, hr⟩
        clear hr
        go_wp2
        go_ret
        exact ⟨k, rfl, ⟨fun _ => HN.out, fun _ => by omega⟩, rfl⟩
    · obtain rfl : k = n := by omega
      go_wp2
      go_ret
      exact ⟨-1, rfl, ⟨fun h => by omega, fun ⟨v, hv, hr⟩ => by rw [HK.out v hv] at hr; cases hr⟩, rfl⟩
set_option maxHeartbeats 800000 in
theorem lacksB_p (r : Nat → Bool) (n g c : Nat) (w : World) (h : Hid (∀ v, v < n → w.cell? ⟨g, v, none⟩ = some (.bool (r v)))) (hn : n ≤ 64) :
    Calls Try.prog 78 #[.slice (some ⟨g, 0, none⟩) n c, .bool false] w fun e w' => e = .returned (.bool (!(List.range n).all r)) ∧ w = w' := by
  have CI := Lib.hid (indexB_p r n g c w h hn)
  have hb : ((List.range n).all r = true) ↔ ∀ v, v < n → r v = true := by simp
  obtain ⟨b, hbe⟩ : ∃ b, b = (List.range n).all r := ⟨_, rfl⟩
  rw [← hbe] at hb ⊢
  have HB := Lib.hid hb
  clear hb hbe
  go_enter Try.func78, Try.ntmps78
  go_wp2_with fail
  refine CI.out.mono ?_
  rintro e w1 ⟨z, rfl, hz, rfl⟩
  have HZ := Lib.hid hz
  clear hz
  go_wp2
  go_ret
  refine ⟨?_, rfl⟩
  cases b with
  | true =>
    have : decide (0 ≤ z) = false := decide_eq_false fun hh => by
      obtain ⟨v, hv, hr⟩ := HZ.out.1 hh
      rw [HB.out.1 rfl v hv] at hr; cases hr
    rw [this]; rfl
  | false =>
    have : decide (0 ≤ z) = true := by
      refine decide_eq_true (HZ.out.2 ?_)
      apply Classical.byContradiction
      intro hno
      have h2 : (false = true) := HB.out.2 fun v hv => by
        cases hr : r v with
        | true => rfl
        | false => exact absurd ⟨v, hv, hr⟩ hno
      cases h2
    rw [this]; rfl
/-- the two arrays of marks, in blocks of the call's own -/
structure Mk (w0 w : World) (GB GR : Nat) (b r : Nat → Bool) : Prop where
  below : Below w0.heap.size w0 w
  ob : w.ownsRow GB 123 1 (.slice (some ⟨GB, 0, none⟩) 7 7) 7 (bvL b)
  or : w.ownsRow GR 123 1 (.slice (some ⟨GR, 0, none⟩) 7 7) 7 (bvL r)
  geB : w0.heap.size ≤ GB
  geR : w0.heap.size ≤ GR
  ne : GB ≠ GR
theorem Mk.cellB {w0 w : World} {GB GR : Nat} {b r : Nat → Bool} (h : Mk w0 w GB GR b r) {v : Nat} (hv : v < 7) : w.cell? ⟨GB, v, none⟩ = some (.bool (b v)) := (h.ob.cellAt v (by omega)).trans (bvL_at b hv)
theorem Mk.cellR {w0 w : World} {GB GR : Nat} {b r : Nat → Bool} (h : Mk w0 w GB GR b r) {v : Nat} (hv : v < 7) : w.cell? ⟨GR, v, none⟩ = some (.bool (r v)) := (h.or.cellAt v (by omega)).trans (bvL_at r hv)

theorem Mk.other {w0 w w' : World} {GB GR : Nat} {b r : Nat → Bool} (h : Mk w0 w GB GR b r) (hb : Below w.heap.size w w') : Mk w0 w' GB GR b r :=
  ⟨h.below.trans (hb.mono h.below.size), own_blocks2 h.ob fun g hg => hb.block g (h.ob.lt g hg).2, own_blocks2 h.or fun g hg => hb.block g (h.or.lt g hg).2, h.geB, h.geR, h.ne⟩
theorem Mk.set {w0 w : World} {GB GR : Nat} {b r : Nat → Bool} (h : Mk w0 w GB GR b r) {v : Nat} (hv : v < 7) (x : Bool) : Mk w0 (w.setCell ⟨GR, v, none⟩ (.bool x)) GB GR b (fun u => if u = v then x else r u) := by
  refine ⟨h.below.setCell (p := ⟨GR, v, none⟩) h.geR _, own_blocks2 h.ob fun g hg => Below.heap_setCell _ _ _ _ ?_, ?_, h.geB, h.geR, h.ne⟩
  · intro e
    simp only [Value.ownBlock, Option.some.injEq] at hg
    exact h.ne (hg.trans e)
  · have := (h.or.stored v (.bool x)).1
    rw [bvL_set r x hv] at this
    exact this
theorem Mk.setB {w0 w : World} {GB GR : Nat} {b r : Nat → Bool} (h : Mk w0 w GB GR b r) {v : Nat} (hv : v < 7) (x : Bool) : Mk w0 (w.setCell ⟨GB, v, none⟩ (.bool x)) GB GR (fun u => if u = v then x else b u) r := by
  refine ⟨h.below.setCell (p := ⟨GB, v, none⟩) h.geB _, ?_, own_blocks2 h.or fun g hg => Below.heap_setCell _ _ _ _ ?_, h.geB, h.geR, h.ne⟩
  · have := (h.ob.stored v (.bool x)).1
    rw [bvL_set b x hv] at this
    exact this
  · intro e
    simp only [Value.ownBlock, Option.some.injEq] at hg
    exact h.ne (e.symm.trans hg.symm)
theorem Mk.copy {w0 w : World} {GB GR : Nat} {b r : Nat → Bool} (h : Mk w0 w GB GR b r) : Mk w0 (((((((w.setCell ⟨GB, 0, none⟩ (.bool (r 0))).setCell ⟨GB, 1, none⟩ (.bool (r 1))).setCell ⟨GB, 2, none⟩ (.bool (r 2))).setCell ⟨GB, 3, none⟩ (.bool (r 3))).setCell ⟨GB, 4, none⟩ (.bool (r 4))).setCell ⟨GB, 5, none⟩ (.bool (r 5))).setCell ⟨GB, 6, none⟩ (.bool (r 6))) GB GR r r := by
  have h7 := ((((((h.setB (v := 0) (by omega) (r 0)).setB (v := 1) (by omega) (r 1)).setB (v := 2) (by omega) (r 2)).setB (v := 3) (by omega) (r 3)).setB (v := 4) (by omega) (r 4)).setB (v := 5) (by omega) (r 5)).setB (v := 6) (by omega) (r 6)
  exact ⟨h7.below, h7.ob, h7.or, h7.geB, h7.geR, h7.ne⟩
theorem mk_start (w : World) : Mk w ((w.alloc (.cells #[.bool false, .bool false, .bool false, .bool false, .bool false, .bool false, .bool false] 123)).alloc (.cells #[.bool true, .bool false, .bool false, .bool false, .bool false, .bool false, .bool false] 123)) w.heap.size (w.heap.size + 1) (fun _ => false) (fun u => if u = 0 then true else false) := by
  refine ⟨(((Below.refl _ _).alloc (Nat.le_refl _) _).alloc (by rw [World.size_alloc]; omega) _), own_of_full (Nat.le_refl _) (by decide) rfl ?_, own_of_full (Nat.le_refl _) (by decide) rfl ?_, Nat.le_refl _, by omega, by omega⟩
  · rw [heap_alloc_old _ _ (by rw [World.size_alloc]; omega)]; exact heap_alloc_new w _
  · have := heap_alloc_new (w.alloc (.cells #[.bool false, .bool false, .bool false, .bool false, .bool false, .bool false, .bool false] 123)) (.cells #[.bool true, .bool false, .bool false, .bool false, .bool false, .bool false, .bool false] 123)
    rwa [World.size_alloc] at this
/-- what holds ahead of each round -/
structure Rnd (E : Edges) (b r : Nat → Bool) : Prop where
  zero : r 0 = true
  sound : ∀ v, r v = true → Reach E 0 v
  le : ∀ v, b v = true → r v = true
  last : (∀ v, b v = false) ∨ ∀ v, v < 7 → r v = bround E b v
theorem rnd_start (E : Edges) : Rnd E (fun _ => false) (fun u => if u = 0 then true else false) := by
  refine ⟨rfl, fun v hv => ?_, fun v hv => ?_, .inl fun _ => rfl⟩
  · by_cases e : v = 0
    · rw [e]; exact .refl 0
    · simp only [if_neg e] at hv; cases hv
  · cases hv
theorem Rnd.next {E : Edges} {b r : Nat → Bool} (h : Rnd E b r) : Rnd E r (bround E r) :=
  ⟨bround_mono E r 0 h.zero, bround_sound E (fun _ h => h) r h.sound, bround_mono E r, .inr fun _ _ => rfl⟩
theorem Rnd.done {E : Edges} {b r : Nat → Bool} (h : Rnd E b r) (ho : ∀ e ∈ E, e.1 < 7 ∧ e.2 < 7) (hs : ∀ v, v < 7 → b v = r v) : ∀ u, u < 7 → (r u = true ↔ Reach E 0 u) := by
  intro u _
  refine ⟨h.sound u, fun hr => ?_⟩
  rcases h.last with h1 | h1
  · have := hs 0 (by omega)
    rw [h1 0, h.zero] at this; cases this
  · refine marked_reach h.zero (bround_fix E r ho fun v hv => ?_) hr
    rw [h1 v hv]
    exact bround_congr E _ _ ho (fun w hw => (hs w hw).symm) v hv

set_option maxHeartbeats 3200000 in
set_option maxRecDepth 100000 in
theorem allReached_p (n : Nat) (E : Edges) (v : Value) (w : World) {B H : Nat} (hE : Hid (ERow w B H v E)) (hH : H ≤ w.heap.size) (hn : n ≤ 7) (hn0 : 0 < n) (hel : E.length ≤ 64) (ho : Hid (∀ e ∈ E, e.1 < 7 ∧ e.2 < 7)) :
    Calls Try.prog 64 #[.int .i64 (n : Int), v] w fun e w' => ∃ r : Nat → Bool, e = .returned (.bool ((List.range n).all r)) ∧ Hid (∀ u, u < 7 → (r u = true ↔ Reach E 0 u)) ∧ Below w.heap.size w w' := by
  have HE : Hid (∀ W, Below w.heap.size w W → ERow W B H v E) := fun W hW => hE.out.below (hW.mono hH)
  obtain ⟨ao, cap, rfl, _, hcap, _, _⟩ := hE.out.slice
  obtain ⟨GB, hGB⟩ : ∃ GB, GB = w.heap.size := ⟨_, rfl⟩
  have M0 : Hid (Mk w _ _ _ _ _) := mk_start w
  have CL := Lib.hid (fun (r : Nat → Bool) (g c : Nat) (W : World) h => lacksB_p r n g c W h (by omega))
  have I0 := Lib.hid (rnd_start E)
  have NQ := Lib.hid (fun (r s : Nat → Bool) (W : World) => neq_marks r s W)
  obtain ⟨W0, HW0⟩ : ∃ W0, W0 = ((w.alloc (.cells #[.bool false, .bool false, .bool false, .bool false, .bool false, .bool false, .bool false] 123)).alloc (.cells #[.bool true, .bool false, .bool false, .bool false, .bool false, .bool false, .bool false] 123)) := ⟨_, rfl⟩
  rw [← HW0, ← hGB] at M0
  clear hE
  go_enter Try.func64, Try.ntmps64
  go_wp2_with fail
  simp only [← hGB]
  rw [← HW0]
  have MS : unm (fun u => if u = 0 then true else false) + (if sameB (fun _ => false) (fun u => if u = 0 then true else false) = true then 0 else 1) = 7 := by decide
  clear HW0
  obtain ⟨r0, hr0⟩ : ∃ r0 : Nat → Bool, r0 = fun u => if u = 0 then true else false := ⟨_, rfl⟩
  obtain ⟨b0, hb0⟩ : ∃ b0 : Nat → Bool, b0 = fun _ => false := ⟨_, rfl⟩
  rw [← hr0, ← hb0] at M0 I0 MS
  have MS0 : Hid (unm r0 + (if sameB b0 r0 = true then 0 else 1) ≤ 7) := by show _ ≤ _; omega
  have HGB := Lib.hid hGB
  clear hr0 hb0 MS hGB
  go_loopg [] 7 (fun kx wr => ∃ b r : Nat → Bool, Hid (Mk w wr GB (GB + 1) b r) ∧ Hid (Rnd E b r) ∧ Hid (unm r + (if sameB b r = true then 0 else 1) ≤ kx))
  case atStart => exact ⟨b0, r0, M0, I0, MS0⟩
  case round =>
    clear M0 I0 MS0
    obtain ⟨b, r, M, I, MS⟩ := hrel
    have l0 := M.out.cellB (v := 0) (by omega)
    have l1 := M.out.cellB (v := 1) (by omega)
    have l2 := M.out.cellB (v := 2) (by omega)
    have l3 := M.out.cellB (v := 3) (by omega)
    have l4 := M.out.cellB (v := 4) (by omega)
    have l5 := M.out.cellB (v := 5) (by omega)
    have l6 := M.out.cellB (v := 6) (by omega)
    have m0 := M.out.cellR (v := 0) (by omega)
    have m1 := M.out.cellR (v := 1) (by omega)
    have m2 := M.out.cellR (v := 2) (by omega)
    have m3 := M.out.cellR (v := 3) (by omega)
    have m4 := M.out.cellR (v := 4) (by omega)
    have m5 := M.out.cellR (v := 5) (by omega)
    have m6 := M.out.cellR (v := 6) (by omega)
    have f0 := M.out.ob.frozenAt 0
    have f1 := M.out.ob.frozenAt 1
    have f2 := M.out.ob.frozenAt 2
    have f3 := M.out.ob.frozenAt 3
    have f4 := M.out.ob.frozenAt 4
    have f5 := M.out.ob.frozenAt 5
    have f6 := M.out.ob.frozenAt 6
    have nq := NQ.out b r
    simp only [bvL] at nq
    obtain ⟨sb, hsb⟩ : ∃ sb, sb = sameB b r := ⟨_, rfl⟩
    rw [← hsb] at nq MS
    have HSB := Lib.hid hsb
    clear hsb
    cases sb with
    | true =>
      have CR := Lib.hid (CL.out r (GB + 1) 7 wr (Lib.hid fun v hv => M.out.cellR (by omega)))
      have n1 := slice_marks (GB + 1) n hn
      clear MS
      go_wp2_with fail
      refine CR.out.mono ?_
      rintro e w1 ⟨rfl, rfl⟩
      go_wp2
      go_ret
      exact ⟨r, by first | rfl | simp, I.out.done ho.out ((sameB_iff b r).1 HSB.out.symm), M.out.below⟩
    | false =>
      have MC : Hid (Mk w _ GB (GB + 1) r r) := M.out.copy
      go_wp2_with fail
      obtain ⟨W1, hW1⟩ : ∃ W1, W1 = (((((((wr.setCell ⟨GB, 0, none⟩ (.bool (r 0))).setCell ⟨GB, 1, none⟩ (.bool (r 1))).setCell ⟨GB, 2, none⟩ (.bool (r 2))).setCell ⟨GB, 3, none⟩ (.bool (r 3))).setCell ⟨GB, 4, none⟩ (.bool (r 4))).setCell ⟨GB, 5, none⟩ (.bool (r 5))).setCell ⟨GB, 6, none⟩ (.bool (r 6))) := ⟨_, rfl⟩
      rw [← hW1] at MC ⊢
      clear l0 l1 l2 l3 l4 l5 l6 m0 m1 m2 m3 m4 m5 m6 f0 f1 f2 f3 f4 f5 f6 nq hW1 M
      go_loopw [17] (fun i wx => ∃ k : Nat, k ≤ E.length ∧ i = .int .i64 (k : Int) ∧ Hid (Mk w wx GB (GB + 1) r (bround (E.take k) r))) (fun i _ => E.length - (intOf i).toNat)
      case atStart => exact ⟨0, Nat.zero_le _, rfl, MC⟩
      case round =>
        clear MC
        obtain ⟨k, hk, rfl, M⟩ := hrel
        by_cases hlt : k < E.length
        · have b1 : (k : Int) < (E.length : Int) := by omega
          obtain ⟨g, c', e1, _, _, hg, c1, c2⟩ := (HE.out _ M.out.below).at_ k hlt
          simp only [Value.slice.injEq] at e1
          obtain ⟨rfl, _, rfl⟩ := e1
          obtain ⟨o1, o2⟩ := ho.out _ (List.getElem_mem hlt)
          have BT := bround_take E r k hlt
          obtain ⟨x, hx⟩ : ∃ x, x = E[k] := ⟨_, rfl⟩
          rw [← hx] at c1 c2 o1 o2 BT
          obtain ⟨s, hs⟩ : ∃ s, s = bround (E.take k) r := ⟨_, rfl⟩
          rw [← hs] at BT M
          have HBT := Lib.hid BT
          clear hx hs BT
          go_upto_region 8 with fail
          obtain ⟨W2, hW2⟩ : ∃ W2, W2 = wr.alloc (.cells #[.int .i64 (x.1 : Int), .int .i64 (x.2 : Int)] 66) := ⟨_, rfl⟩
          obtain ⟨GX, hGX⟩ : ∃ GX, GX = wr.heap.size := ⟨_, rfl⟩
          have a1 : W2.cell? ⟨GX, 0, none⟩ = some (.int .i64 (x.1 : Int)) := by rw [hW2, hGX]; simp
          have a2 : W2.cell? ⟨GX, 1, none⟩ = some (.int .i64 (x.2 : Int)) := by rw [hW2, hGX]; simp
          have M2 : Hid (Mk w W2 GB (GB + 1) r s) := by rw [hW2]; exact M.out.other ((Below.refl _ _).alloc (Nat.le_refl _) _)
          have q1 := M2.out.cellR o1
          have q2 := M2.out.cellR o2
          have GX2 : GB + 1 ≠ GX := by have := (M.out.or.lt (GB + 1) rfl).2; omega
          rw [← hW2, ← hGX]
          clear c1 c2 hW2 hGX M hg
          have z1 : (x.1 : Int) < 7 := by omega
          have z2 : (x.2 : Int) < 7 := by omega
          obtain ⟨p1, hp1⟩ : ∃ p1, p1 = s x.1 := ⟨_, rfl⟩
          obtain ⟨p2, hp2⟩ : ∃ p2, p2 = s x.2 := ⟨_, rfl⟩
          rw [← hp1] at q1
          rw [← hp2] at q2
          have HB2 : Hid (bround (E.take (k + 1)) r = fun v => if v = x.2 then (p1 || p2) else if v = x.1 then (p1 || p2) else s v) := by
            show _ = _; rw [HBT.out, hp1, hp2]; rfl
          have SN : ∀ near : Bool, ∃ y, (W2.setCell ⟨GB + 1, x.1, none⟩ (.bool near)).cell? ⟨GB + 1, x.2, none⟩ = some (.bool y) := fun near => ⟨_, (M2.out.set o1 near).cellR o2⟩
          have fr1 := M2.out.or.frozenAt x.1
          have fr2 := M2.out.or.frozenAt x.2
          clear hp1 hp2 HBT
          have far1 : ∀ near : Bool, (W2.setCell ⟨GB + 1, x.1, none⟩ (.bool near)).cell? ⟨GX, 0, none⟩ = some (.int .i64 (x.1 : Int)) := fun near => (World.cell?_setCell_other W2 ⟨GB + 1, x.1, none⟩ _ _ (fun e => GX2 (congrArg Addr.block e))).trans a1
          have far2 : ∀ near : Bool, (W2.setCell ⟨GB + 1, x.1, none⟩ (.bool near)).cell? ⟨GX, 1, none⟩ = some (.int .i64 (x.2 : Int)) := fun near => (World.cell?_setCell_other W2 ⟨GB + 1, x.1, none⟩ _ _ (fun e => GX2 (congrArg Addr.block e))).trans a2
          clear GX2
          obtain ⟨y1, hy1⟩ := SN true
          obtain ⟨y2, hy2⟩ := SN p2
          have MN : ∀ near : Bool, Hid (Mk w ((W2.setCell ⟨GB + 1, x.1, none⟩ (.bool near)).setCell ⟨GB + 1, x.2, none⟩ (.bool near)) GB (GB + 1) r (fun v => if v = x.2 then near else if v = x.1 then near else s v)) := fun near => (M2.out.set o1 near).set o2 near
          clear SN
          cases p1
          all_goals
            simp only [Bool.true_or, Bool.false_or] at HB2
            go_wp2_with fail
            go_region_law (fail)
            all_goals
              go_wp2
              go_roundw
              case rel => exact ⟨k + 1, by omega, by go_num, by rw [HB2.out]; exact (MN _).out.other ⟨rfl, rfl, rfl, Nat.le_refl _, fun _ _ => rfl⟩⟩
              case measure => simp [intOf]; omega
        · obtain rfl : k = E.length := by omega
          rw [List.take_length] at M
          have IN : Hid (Rnd E r (bround E r)) := I.out.next
          have MS2 : Hid (unm (bround E r) + (if sameB r (bround E r) = true then 0 else 1) ≤ gk - 1 ∧ 0 < gk) := by
            have hms := MS.out
            simp only [Bool.false_eq_true, if_false] at hms
            show _ ∧ _
            by_cases hs : sameB r (bround E r) = true
            · rw [if_pos hs]
              have e1 : unm (bround E r) = unm r := by
                unfold unm
                congr 1
                exact List.filter_congr fun v hv => by rw [(sameB_iff _ _).1 hs v (List.mem_range.1 hv)]
              omega
            · rw [if_neg hs]
              have := unm_lt (bround_mono E r) fun h => hs ((sameB_iff _ _).2 h)
              omega
          clear MS I HSB
          go_wp2_with fail
          have MS3 := Lib.hid MS2.out.1
          have g0 := MS2.out.2
          go_roundg (gk - 1)
          case measure => omega
          case rel => exact ⟨r, bround E r, M, IN, MS3⟩
end Go.Proofs.Ytafdlilojlmchaa

namespace Go.Proofs.Ytafdlilojlmchaa
open Go.RowKit

theorem rows_of_ok {n : Int} {rows : List (List Int)} (h : ∀ r ∈ rows, okRow n r = true) : rows = rowsE (edgesR rows) := by
  unfold rowsE edgesR
  rw [List.map_map]
  refine ((List.map_congr_left fun r hr => ?_).trans (List.map_id _)).symm
  obtain ⟨a, b, rfl, _, _⟩ := okRow_eq (h r hr)
  simp
theorem edges_ok {n : Int} {rows : List (List Int)} (h : ∀ r ∈ rows, okRow n r = true) : ∀ e ∈ edgesR rows, e.1 < e.2 ∧ (e.2 : Int) ≤ n - 1 := by
  intro e he
  obtain ⟨r, hr, rfl⟩ := List.mem_map.1 he
  obtain ⟨a, b, rfl, h1, h2⟩ := okRow_eq (h r hr)
  simp; omega
theorem edgesR_length (rows : List (List Int)) : (edgesR rows).length = rows.length := by simp [edgesR]
theorem tree_up_no {n : Int} {rows : List (List Int)} (h : upB (edgesR rows) = false) : treeB n rows = false := by
  cases hb : treeB n rows with
  | false => rfl
  | true =>
    obtain ⟨_, _, hv⟩ := treeB_iff.1 hb
    rw [(upB_iff _).2 (valid_upB hv)] at h
    cases h
theorem tree_via {n : Nat} {rows : List (List Int)} (h1 : 1 ≤ n) (h7 : n ≤ 7) (hl : rows.length + 1 = n) (hr : ∀ r ∈ rows, okRow (n : Int) r = true) (hu : upB (edgesR rows) = true) (r : Nat → Bool) (hR : ∀ u, u < 7 → (r u = true ↔ Reach (edgesR rows) 0 u)) : (List.range n).all r = treeB (n : Int) rows := by
  rw [Bool.eq_iff_iff, treeB_iff, List.all_eq_true]
  constructor
  · intro ha
    refine ⟨by omega, rows_of_ok hr, ?_⟩
    rw [Int.toNat_natCast]
    exact valid_up h1 (by rw [edgesR_length]; exact hl) (fun e he => by have := edges_ok hr e he; omega) ((upB_iff _).1 hu) fun v hv => (hR v (by omega)).1 (ha v (List.mem_range.2 hv))
  · rintro ⟨_, _, hv⟩ v hv2
    rw [Int.toNat_natCast] at hv
    have := List.mem_range.1 hv2
    exact (hR v (by omega)).2 (hv.conn v this)
theorem edgesR_snoc (rows : List (List Int)) (r : List Int) : edgesR (rows ++ [r]) = edgesR rows ++ edgesR [r] := by simp [edgesR]
theorem edgesR_take {rows : List (List Int)} {k : Nat} (h : k < rows.length) {a b : Nat} (hr : rows[k] = [(a : Int), (b : Int)]) : edgesR (rows.take (k + 1)) = edgesR (rows.take k) ++ [(a, b)] := by
  rw [List.take_succ_eq_append_getElem h, edgesR_snoc, hr]; simp [edgesR]
theorem ERow.push {w : World} {B : Nat} {v : Value} {E : Edges} {a b k : Nat} (hk : E.length = k) (h : w.ownsRow B 66 2 v (k + 1) (flatE E ++ [.int .i64 (a : Int), .int .i64 (b : Int)])) : ERow w B w.heap.size v (E ++ [(a, b)]) := by
  refine ERow.of ?_
  rw [flatE_append, List.length_append, hk]
  exact h
theorem ERow.nil (w : World) (B H : Nat) : ERow w B H (.slice none 0 0) [] := ⟨⟨rfl, .inl ⟨rfl, rfl⟩⟩, fun g hg => by cases hg⟩
theorem ok_take {n : Int} {rows : List (List Int)} {k : Nat} (h : k < rows.length) (hr : ∀ r ∈ rows.take k, okRow n r = true) (h1 : okRow n rows[k] = true) : ∀ r ∈ rows.take (k + 1), okRow n r = true := by
  rw [List.take_succ_eq_append_getElem h]
  intro r hm
  rcases List.mem_append.1 hm with hm | hm
  · exact hr r hm
  · rw [List.mem_singleton] at hm; rw [hm]; exact h1
theorem row_bad {n : Int} {rows : List (List Int)} {k : Nat} (hk : k < rows.length) (h : okRow n rows[k] = false) : treeB n rows = false := by
  refine tree_no hk ?_
  unfold okAt
  rw [getD_at hk, h]; rfl
theorem below_drew2 {w wr : World} {n q : Nat} (h : Below n w wr) : Below n w (wr.drewN q) := h.trans ⟨rfl, rfl, rfl, Nat.le_refl _, fun _ _ => rfl⟩
theorem Try.infoEdge : (Try.prog.info? 66).map (fun i => (i.zero, i.size, i.bytes)) = some (some (.agg #[.int .i64 0, .int .i64 0]), 2, 16) := by kernel_rfl

set_option maxHeartbeats 3200000 in
set_option maxRecDepth 100000 in
theorem treeEdges_p (n : Int) (rows : List (List Int)) (v : Value) (RV : List Value) (w : World) {B0 H0 : Nat} (hG : Hid (Grid w B0 H0 v RV rows)) (hH : H0 ≤ w.heap.size) (hrl : rows.length ≤ 1048576) (hrs : ∀ r ∈ rows, r.length ≤ 1048576) (hwf : (Lit.int .i64 n).wf = true) :
    Calls Try.prog 33 #[.int .i64 n, v] w fun e w' => ∃ x, e = .returned (.tuple #[x, .bool (treeB n rows)]) ∧ (treeB n rows = true → ERow w' w.heap.size w'.heap.size x (edgesR rows)) ∧ Below w.heap.size w w' := by
  obtain ⟨i0, hi0, hz0, hz1, hz2⟩ := info_parts Try.infoEdge
  obtain ⟨av, cv, rfl, _, hcv, _, _⟩ := hG.out.1.slice
  have hgl := hG.out.2.1
  rw [hgl] at hG hcv ⊢
  have HRS := Lib.hid hrs
  clear hrs
  by_cases hn : 1 ≤ n ∧ n ≤ 7
  · obtain ⟨hn1, hn2⟩ := hn
    have ew2 : IntKind.i64.wrap (n - 1) = n - 1 := by rw [IntKind.wrap_i64]; omega
    by_cases hlen : (rows.length : Int) = n - 1
    · obtain ⟨N, rfl⟩ : ∃ N : Nat, n = (N : Int) := ⟨n.toNat, by omega⟩
      have q0 : ((rows.length : Int) == (N : Int) - 1) = true := by rw [hlen]; simp
      have HN : Hid (rows.length + 1 = N) := by show _ = _; omega
      have HN7 : Hid (1 ≤ N ∧ N ≤ 7) := by show _ ∧ _; omega
      have r6 : rows.length ≤ 6 := by omega
      have HNl : ¬ ((N : Int) < 1) := by omega
      have HNr : ¬ (7 < (N : Int)) := by omega
      obtain ⟨SZ, hSZ⟩ : ∃ SZ, SZ = w.heap.size := ⟨_, rfl⟩
      rw [← hSZ] at hH ⊢
      have HSZ := Lib.hid hSZ
      have E0 : Hid (ERow w SZ w.heap.size (.slice none 0 0) (edgesR (rows.take 0))) := ERow.nil w _ _
      clear hlen hn1 hn2 hSZ
      go_enter Try.func33, Try.ntmps33
      go_wp2_with fail
      try (have q00 : ((rows.length : Int) != (N : Int) - 1) = false := by rw [bne, q0]; rfl
           simp only [q00]
           clear q00)
      clear q0
      go_loopw [6, 8, 9, 10, 26] (fun e6 e8 e9 e10 ii wr => ∃ k : Nat, k ≤ rows.length ∧ ii = .int .i64 k ∧ Hid (∀ r ∈ rows.take k, okRow (N : Int) r = true) ∧ Hid (ERow wr SZ wr.heap.size e6 (edgesR (rows.take k))) ∧ Hid (Below SZ w wr)) (fun _ _ _ _ ii _ => rows.length - (intOf ii).toNat)
      case atStart => exact ⟨0, Nat.zero_le _, rfl, fun r hr => by simp at hr, E0, Below.refl _ _⟩
      case round =>
        obtain ⟨k, hk, rfl, HO, HE, HB⟩ := hrel
        by_cases hlt : k < rows.length
        · have b1 : (k : Int) < (rows.length : Int) := by omega
          have hGr : Grid wr B0 H0 (.slice av rows.length cv) RV rows := hG.out.below (HB.out.mono hH)
          have EL : (edgesR (rows.take k)).length = k := by rw [edgesR_length, List.length_take]; omega
          obtain ⟨ao, c6, he6, _⟩ := HE.out.slice
          rw [EL] at he6
          subst he6
          by_cases h2 : rows[k].length = 2
          · obtain ⟨a, b, hr⟩ : ∃ a b, rows[k] = [a, b] := by
              match rows[k], h2 with
              | [a, b], _ => exact ⟨a, b, rfl⟩
            obtain ⟨ga, gr, cr, rfl, hcr, hc1, hc2, hc3⟩ := pair_at hGr hlt hr
            have CE := Lib.hid (edgeOfRow_two (N : Int) a b gr cr wr hc2 hc3)
            have hgr : gr < wr.heap.size := World.block_lt_of_cell? wr _ hc2
            have BAD : okRow (N : Int) [a, b] = false → Hid (treeB (N : Int) rows = false) := fun h => row_bad hlt (by rw [hr]; exact h)
            have hsr : Hid (SZ ≤ wr.heap.size) := by have := HB.out.size; show _ ≤ _; rw [HSZ.out]; exact this
            by_cases hw : rowW (N : Int) [a, b]
            · have hw2 : (0 ≤ a ∧ a ≤ (N : Int) - 1) ∧ (0 ≤ b ∧ b ≤ (N : Int) - 1) := hw.2
              rw [decide_eq_true hw] at CE
              have hre : rowEdge (N : Int) [a, b] = norm (a.toNat, b.toNat) := by rw [rowEdge, if_pos hw]; rfl
              rw [hre] at CE
              by_cases hab : a < b
              · have hdab : decide (b ≤ a) = false := decide_eq_false (by omega)
                have HOK : okRow (N : Int) rows[k] = true := by rw [hr]; simp [okRow]; omega
                have HO2 := Lib.hid (ok_take hlt HO.out HOK)
                obtain ⟨x, hx⟩ : ∃ x : Nat, a = (x : Int) := ⟨a.toNat, by omega⟩
                obtain ⟨y, hy⟩ : ∃ y : Nat, b = (y : Int) := ⟨b.toNat, by omega⟩
                have hnm : norm (a.toNat, b.toNat) = (x, y) := by
                  unfold norm
                  rw [hx, hy, Int.toNat_natCast, Int.toNat_natCast]
                  simp only [Prod.mk.injEq]
                  omega
                rw [hnm] at CE
                simp only at CE
                have ET := Lib.hid (edgesR_take hlt (by rw [hr, hx, hy]))
                clear hx hy hnm hre BAD hr h2 hGr HOK hw hw2 hab
                go_wp2_with fail
                refine CE.out.mono ?_
                rintro e w1 ⟨rfl, hb1⟩
                have E1 : Hid (ERow w1 SZ w1.heap.size (.slice ao k c6) (edgesR (rows.take k))) := (HE.out.below hb1).more hb1.size
                have B1 : Hid (Below SZ w w1) := HB.out.trans (hb1.mono hsr.out)
                have s1 : Hid (SZ ≤ w1.heap.size) := by have := hb1.size; have := hsr.out; show _ ≤ _; omega
                have d2 := (hb1.cell (p := ⟨gr, 0, none⟩) hgr).trans hc2
                have d3 := (hb1.cell (p := ⟨gr, 1, none⟩) hgr).trans hc3
                have hg1 : gr < w1.heap.size := Nat.lt_of_lt_of_le hgr hb1.size
                clear hb1 CE HE HB hsr hc1 hc2 hc3 hgr
                go_upto_region 8 with fail
                obtain ⟨W2, hW2⟩ : ∃ W2, W2 = w1.alloc (.cells #[.int .i64 (x : Int), .int .i64 (y : Int)] 66) := ⟨_, rfl⟩
                obtain ⟨GX, hGX⟩ : ∃ GX, GX = w1.heap.size := ⟨_, rfl⟩
                have hb2 : Below w1.heap.size w1 W2 := by rw [hW2]; exact (Below.refl _ _).alloc (Nat.le_refl _) _
                have e2 := (hb2.cell (p := ⟨gr, 0, none⟩) hg1).trans d2
                have e3 := (hb2.cell (p := ⟨gr, 1, none⟩) hg1).trans d3
                have hr2 : W2.heap[GX]? = some (.cells #[.int .i64 (x : Int), .int .i64 (y : Int)] 66 (0, 0)) := by rw [hW2, hGX]; exact heap_alloc_new _ _
                have R2 := Lib.hid hr2
                have E2 : Hid (ERow W2 SZ w1.heap.size (.slice ao k c6) (edgesR (rows.take k))) := E1.out.below hb2
                have B2 : Hid (Below SZ w W2) := B1.out.trans (hb2.mono s1.out)
                have s2 : Hid (SZ ≤ W2.heap.size) := Nat.le_trans s1.out hb2.size
                rw [← hW2, ← hGX]
                clear hW2 hb2 hr2 E1 B1 d2 d3 hg1 s1
                go_quiet (fail)
                obtain ⟨wa, hwa⟩ : ∃ wa, wa = W2.drewN nq := ⟨_, rfl⟩
                have a1 : wa.cell? ⟨GX, 0, none⟩ = some (.int .i64 (x : Int)) := by rw [hwa]; simp [World.cell?, R2.out]
                have a2 : wa.cell? ⟨GX, 1, none⟩ = some (.int .i64 (y : Int)) := by rw [hwa]; simp [World.cell?, R2.out]
                have EA : Hid (wa.ownsRow SZ 66 2 (.slice ao k c6) k (flatE (edgesR (rows.take k)))) := by
                  have := E2.out.1
                  rw [EL] at this
                  rw [hwa]; exact own_blocks2 this fun _ _ => rfl
                have BA : Hid (Below SZ w wa) := by rw [hwa]; exact below_drew2 B2.out
                have sA : Hid (SZ ≤ wa.heap.size) := by rw [hwa]; exact s2.out
                rw [← hwa]
                have NW := Lib.hid (World.news_of_block (heap_alloc_new wa (.cells #[.int .i64 (x : Int), .int .i64 (y : Int)] 66)))
                have ON : Hid (∀ u ∈ [Value.int .i64 (x : Int), Value.int .i64 (y : Int)], u.oneCell' = true) := by intro u hu; simp at hu; rcases hu with rfl | rfl <;> rfl
                have z1 : k + 1 ≤ maxLen := by unfold maxLen; omega
                have z2 : (k + 1) * 16 ≤ 140737488355328 := by omega
                have HSb : Hid (SZ ≤ (wa.alloc (.cells #[.int .i64 (x : Int), .int .i64 (y : Int)] 66)).heap.size) := by
                  have := sA.out; show _ ≤ _; rw [World.size_alloc]; omega
                have HEL := Lib.hid EL
                clear hwa hGX R2 E2 B2 s2 e2 e3 EL
                go_wp2_with (at_builtin; refine wpList_append_lies _ rfl (.tmp 47) (.tmp 49) 46 rfl SZ 66 i0 (.agg #[.int .i64 0, .int .i64 0]) 2 16 Try.underlying46 hi0 hz0 hz1 hz2 rfl (Nat.succ_pos 1) _ k (flatE (edgesR (rows.take k))) rfl (EA.out.alloc _) ⟨wa.heap.size, 0, none⟩ 1 1 [.int .i64 (x : Int), .int .i64 (y : Int)] rfl rfl NW.out ON.out (Nat.lt_succ_self 0) z1 z2 HSb.out _ rfl ?_)
                intro g2 c2 w2 hv2 hg2 _ _
                have BA2 : Hid (Below SZ w w2) := (BA.out.alloc sA.out _).grown hg2 HSb.out (fun q hq => (EA.out.lt q hq).1)
                have EA2 : Hid (ERow w2 SZ w2.heap.size (.slice (some ⟨g2, 0, none⟩) (k + 1) c2) (edgesR (rows.take (k + 1)))) := by
                  show ERow _ _ _ _ _
                  rw [ET.out]
                  exact ERow.push HEL.out hv2
                clear hv2 hg2 EA BA NW ON HSb a1 a2 sA
                go_wp2
                go_roundw
                case rel => exact ⟨k + 1, by omega, by go_num, HO2, EA2, BA2⟩
                case measure => simp [intOf]; omega
              · have hdab : decide (b ≤ a) = true := decide_eq_true (by omega)
                have TN := BAD (by simp [okRow]; omega)
                obtain ⟨z, hz⟩ : ∃ z, z = norm (a.toNat, b.toNat) := ⟨_, rfl⟩
                rw [← hz] at CE
                clear hre BAD hr h2 hGr hw hw2 hab hz
                go_wp2_with fail
                refine CE.out.mono ?_
                rintro e w1 ⟨rfl, hb1⟩
                have B1 : Hid (Below SZ w w1) := HB.out.trans (hb1.mono hsr.out)
                have s1 : Hid (SZ ≤ w1.heap.size) := by have := hb1.size; have := hsr.out; show _ ≤ _; omega
                have d2 := (hb1.cell (p := ⟨gr, 0, none⟩) hgr).trans hc2
                have d3 := (hb1.cell (p := ⟨gr, 1, none⟩) hgr).trans hc3
                have hg1 : gr < w1.heap.size := Nat.lt_of_lt_of_le hgr hb1.size
                clear hb1 CE HE HB hsr hc1 hc2 hc3 hgr
                go_upto_region 8 with fail
                obtain ⟨W2, hW2⟩ : ∃ W2, W2 = w1.alloc (.cells #[.int .i64 (z.1 : Int), .int .i64 (z.2 : Int)] 66) := ⟨_, rfl⟩
                have hb2 : Below w1.heap.size w1 W2 := by rw [hW2]; exact (Below.refl _ _).alloc (Nat.le_refl _) _
                have e2 := (hb2.cell (p := ⟨gr, 0, none⟩) hg1).trans d2
                have e3 := (hb2.cell (p := ⟨gr, 1, none⟩) hg1).trans d3
                have B2 : Hid (Below SZ w W2) := B1.out.trans (hb2.mono s1.out)
                rw [← hW2]
                clear hW2 hb2 B1 d2 d3 hg1 s1
                go_quiet (fail)
                go_wp2
                go_ret2
                exact ⟨.slice none 0 0, by rw [TN.out]; rfl, fun h => (by rw [TN.out] at h; cases h), below_drew2 B2.out⟩
            · have TN := BAD (by
                cases hb : okRow (N : Int) [a, b] with
                | false => rfl
                | true =>
                  exfalso
                  apply hw
                  simp [okRow] at hb
                  exact ⟨rfl, by simp only [List.getD_cons_zero]; omega, by simp only [List.getD_cons_succ, List.getD_cons_zero]; omega⟩)
              rw [decide_eq_false hw] at CE
              obtain ⟨z, hz⟩ : ∃ z, z = rowEdge (N : Int) [a, b] := ⟨_, rfl⟩
              rw [← hz] at CE
              clear BAD hr h2 hGr hw hz
              go_wp2_with fail
              refine CE.out.mono ?_
              rintro e w1 ⟨rfl, hb1⟩
              have B1 : Hid (Below SZ w w1) := HB.out.trans (hb1.mono hsr.out)
              have s1 : Hid (SZ ≤ w1.heap.size) := by have := hb1.size; have := hsr.out; show _ ≤ _; omega
              have B2 := fun o => Lib.hid (B1.out.alloc s1.out o)
              clear hb1 CE HE HB hsr hc1 hc2 hc3 hgr
              go_wp2_with fail
              go_quiet (fail)
              go_wp2
              go_ret2
              exact ⟨.slice none 0 0, by rw [TN.out]; rfl, fun h => (by rw [TN.out] at h; cases h), below_drew2 (B2 _).out⟩
          · obtain ⟨ga, au, cu, rfl, hcu, hcm, hc1⟩ := row_len hGr hlt
            have hrow : okRow (N : Int) rows[k] = false := by
              unfold okRow
              split
              · rename_i h; rw [h] at h2; simp at h2
              · rfl
            have TN := Lib.hid (row_bad hlt hrow)
            have hsr : Hid (SZ ≤ wr.heap.size) := by have := HB.out.size; show _ ≤ _; rw [HSZ.out]; exact this
            obtain ⟨m, hm⟩ : ∃ m, m = rows[k].length := ⟨_, rfl⟩
            rw [← hm] at hc1 hcu h2
            have CE := Lib.hid (edgeOfRow_len (N : Int) au m cu wr h2)
            clear hrow hm hGr h2
            go_wp2_with fail
            refine CE.out.mono ?_
            rintro e w1 ⟨rfl, hb1⟩
            have B1 : Hid (Below SZ w w1) := HB.out.trans (hb1.mono hsr.out)
            have s1 : Hid (SZ ≤ w1.heap.size) := by have := hb1.size; have := hsr.out; show _ ≤ _; omega
            have B2 := fun o => Lib.hid (B1.out.alloc s1.out o)
            clear hb1 CE HE HB hsr hc1
            go_wp2_with fail
            go_quiet (fail)
            go_wp2
            go_ret2
            exact ⟨.slice none 0 0, by rw [TN.out]; rfl, fun h => (by rw [TN.out] at h; cases h), below_drew2 (B2 _).out⟩
        · obtain rfl : k = rows.length := by omega
          rw [List.take_length] at HO HE
          have EO := edges_ok HO.out
          have hel := edgesR_length rows
          have TNo : upB (edgesR rows) = false → Hid (treeB (N : Int) rows = false) := fun h => tree_up_no h
          have TVia : upB (edgesR rows) = true → ∀ r : Nat → Bool, Hid (∀ u, u < 7 → (r u = true ↔ Reach (edgesR rows) 0 u)) → Hid ((List.range N).all r = treeB (N : Int) rows) := fun hu r hR => tree_via HN7.out.1 HN7.out.2 HN.out HO.out hu r hR.out
          obtain ⟨E, hE⟩ : ∃ E, E = edgesR rows := ⟨_, rfl⟩
          rw [← hE] at HE EO hel TNo TVia
          have HEQ := Lib.hid hE
          have EO7 : Hid (∀ e ∈ E, e.1 < 7 ∧ e.2 < 7) := fun e he => by have h1 := EO e he; have h2 := HN7.out; omega
          have he64 : E.length ≤ 64 := by omega
          obtain ⟨ao, c6, he6, _⟩ := HE.out.slice
          subst he6
          have CS := Lib.hid (isSorted_p E _ wr HE he64)
          have CA := Lib.hid (fun (W : World) (hE : Hid (ERow W SZ wr.heap.size (.slice ao E.length c6) E)) hH => allReached_p N E _ W hE hH HN7.out.2 (by have := HN7.out; omega) he64 EO7)
          have HWB : ∀ {W}, Wide wr W → Hid (ERow W SZ wr.heap.size (.slice ao E.length c6) E ∧ wr.heap.size ≤ W.heap.size ∧ Below SZ w W) := fun hW => ⟨HE.out.below hW.below, hW.below.size, HB.out.trans (hW.below.mono (by have := HB.out.size; rw [HSZ.out]; exact this))⟩
          obtain ⟨m, hm⟩ : ∃ m, m = E.length := ⟨_, rfl⟩
          rw [← hm] at CS CA HWB
          rw [← hm]
          clear EO hE hel he64 hm HE HB
          cases hu : upB E with
          | false =>
            have TN := TNo hu
            rw [hu] at CS
            clear TNo TVia hu
            go_wp2_with fail
            refine CS.out.mono ?_
            rintro e w1 ⟨rfl, hw1⟩
            have BB := (HWB hw1).out.2.2
            clear hw1
            go_wp2
            go_ret2
            exact ⟨.slice none 0 0, by rw [TN.out]; rfl, fun h => (by rw [TN.out] at h; cases h), BB⟩
          | true =>
            have TV := TVia hu
            rw [hu] at CS
            clear TNo TVia hu
            go_wp2_with fail
            refine CS.out.mono ?_
            rintro e w1 ⟨rfl, hw1⟩
            have W1 := HWB hw1
            clear hw1 HWB CS
            go_wp2_with fail
            refine (CA.out w1 W1.out.1 W1.out.2.1).mono ?_
            rintro e w2 ⟨r, rfl, hr, hb⟩
            have TR := TV r hr
            have BB : Hid (Below SZ w w2) := W1.out.2.2.trans (hb.mono (by have := W1.out.2.2.size; rw [HSZ.out]; exact this))
            have EE : Hid (ERow w2 SZ w2.heap.size (.slice ao m c6) E) := (W1.out.1.below (hb.mono W1.out.2.1)).more (Nat.le_trans W1.out.2.1 hb.size)
            obtain ⟨bb, hbb⟩ : ∃ bb, bb = (List.range N).all r := ⟨_, rfl⟩
            rw [← hbb] at TR ⊢
            clear hb hr hbb TV W1 CA
            cases bb with
            | false =>
              go_wp2
              go_ret2
              exact ⟨.slice none 0 0, by rw [← TR.out]; rfl, fun h => (by rw [← TR.out] at h; cases h), BB.out⟩
            | true =>
              go_wp2
              go_ret2
              exact ⟨.slice ao m c6, by rw [← TR.out]; rfl, fun _ => (by rw [← HEQ.out]; exact EE.out), BB.out⟩
    · have TN := Lib.hid (tree_len hlen)
      have q0 : ((rows.length : Int) == n - 1) = false := by rw [beq_eq_false_iff_ne]; exact hlen
      have q00 : ((rows.length : Int) != n - 1) = true := by rw [bne, q0]; rfl
      have y1 : ¬ (n < 1) := by omega
      have y2 : ¬ (7 < n) := by omega
      clear hlen hn1 hn2
      go_enter Try.func33, Try.ntmps33
      go_wp2
      go_ret2
      exact ⟨.slice none 0 0, by rw [TN.out]; rfl, fun h => (by rw [TN.out] at h; cases h), Below.refl _ _⟩
  · have TN := Lib.hid (tree_range hn (rows := rows))
    by_cases h1 : n < 1
    · clear hn
      go_enter Try.func33, Try.ntmps33
      go_wp2
      go_ret2
      exact ⟨.slice none 0 0, by rw [TN.out]; rfl, fun h => (by rw [TN.out] at h; cases h), Below.refl _ _⟩
    · have h7 : 7 < n := by omega
      clear hn
      go_enter Try.func33, Try.ntmps33
      go_wp2
      go_ret2
      exact ⟨.slice none 0 0, by rw [TN.out]; rfl, fun h => (by rw [TN.out] at h; cases h), Below.refl _ _⟩
end Go.Proofs.Ytafdlilojlmchaa

namespace Go.Proofs.Ytafdlilojlmchaa
open Go.RowKit

set_option maxHeartbeats 800000 in
theorem validTree_p (n : Int) (rows : List (List Int)) (v : Value) (RV : List Value) (w : World) (B0 H0 : Nat) (hG : Hid (Grid w B0 H0 v RV rows)) (hH : H0 ≤ w.heap.size) (hrl : rows.length ≤ 1048576) (hrs : ∀ r ∈ rows, r.length ≤ 1048576) (hwf : (Lit.int .i64 n).wf = true) :
    Calls Try.prog 9 #[.int .i64 n, v] w fun e w' => e = .returned (.bool (treeB n rows)) ∧ Below w.heap.size w w' := by
  have C := Lib.hid (treeEdges_p n rows v RV w hG hH hrl hrs hwf)
  obtain ⟨av, cv, rfl⟩ : ∃ a c, v = .slice a RV.length c := by
    obtain ⟨a, c, h, _⟩ := hG.out.1.slice; exact ⟨a, c, h⟩
  clear hG hrs hwf
  go_enter Try.func9, Try.ntmps9
  go_wp2_with fail
  refine C.out.mono ?_
  rintro e w1 ⟨x, rfl, hx, hb⟩
  obtain ⟨t, ht⟩ : ∃ t, t = treeB n rows := ⟨_, rfl⟩
  rw [← ht]
  clear hx C
  go_wp2
  go_ret
  exact ⟨rfl, hb⟩
end Go.Proofs.Ytafdlilojlmchaa
