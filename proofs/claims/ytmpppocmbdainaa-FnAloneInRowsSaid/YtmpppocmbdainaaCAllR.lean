/-
  Whether all nodes are reached: what the program's marking of nodes over edges answers.
-/
import Derived.Test.YtmpppocmbdainaaZEG
import Derived.Test.YtmpppocmbdainaaZW
import Derived.ChangeKeysEq
import Derived.Deep.LoopGhost
namespace Go.Proofs.Ytmpppocmbdainaa
open Go.RowKit

theorem Try.infoBoolR : (Try.prog.info? 4).map (fun i => (i.zero, i.size, i.bytes)) = some (some (.bool false), 1, 1) := by kernel_rfl
theorem arrLen7 : Try.prog.arrayLen 102 = 7 := by kernel_rfl
theorem slice_marks (g n : Nat) (h : n ≤ 7) (W : World) : (Instr.sliceAt 102 (.pointer (some ⟨g, 0, none⟩)) none (some (.int .i64 (n : Int))) none).run Try.prog W = .ok (.slice (some ⟨g, 0, none⟩) n 7) W := by
  have ht : Try.prog.underlying 102 = some (.array (Try.prog.arrayLen 102) (Try.prog.elem 102)) := by kernel_rfl
  have he : Try.prog.elem 102 = 4 := by kernel_rfl
  rw [run_sliceAt_array_h W 102 _ ht .i64 n (by omega) (by rw [arrLen7]; omega), he, Try.sizeOf4]
  simp [slicedAt, arrLen7, Addr.add]
/-! ### seven marks -/
def bvL (r : Nat → Bool) : List Value := [.bool (r 0), .bool (r 1), .bool (r 2), .bool (r 3), .bool (r 4), .bool (r 5), .bool (r 6)]
theorem bvL_at (r : Nat → Bool) {v : Nat} (h : v < 7) : (bvL r)[v]? = some (.bool (r v)) := by
  match v, h with
  | 0, _ => rfl
  | 1, _ => rfl
  | 2, _ => rfl
  | 3, _ => rfl
  | 4, _ => rfl
  | 5, _ => rfl
  | 6, _ => rfl
theorem bvL_set (r : Nat → Bool) (b : Bool) {v : Nat} (h : v < 7) : (bvL r).set v (.bool b) = bvL (fun u => if u = v then b else r u) := by
  match v, h with
  | 0, _ => rfl
  | 1, _ => rfl
  | 2, _ => rfl
  | 3, _ => rfl
  | 4, _ => rfl
  | 5, _ => rfl
  | 6, _ => rfl
theorem bvL_congr {r s : Nat → Bool} (h : ∀ v, v < 7 → r v = s v) : bvL r = bvL s := by
  unfold bvL
  rw [h 0 (by omega), h 1 (by omega), h 2 (by omega), h 3 (by omega), h 4 (by omega), h 5 (by omega), h 6 (by omega)]
def sameB (r s : Nat → Bool) : Bool := (List.range 7).all fun v => r v == s v
theorem sameB_iff (r s : Nat → Bool) : sameB r s = true ↔ ∀ v, v < 7 → r v = s v := by simp [sameB]
theorem items_same (r s : Nat → Bool) (w : World) (d : Nat) : ∀ (is : List Nat), (∀ i ∈ is, i < 7) → (Op.eqItems (d + 1) 4 1 (bvL r).toArray (bvL s).toArray is).run Try.prog w = .ok (is.all fun v => r v == s v) w := by
  intro is
  induction is with
  | nil => intro _; simp [Op.eqItems]
  | cons i is ih =>
    intro h
    have hi := h i (by simp)
    have hp : ∀ r : Nat → Bool, (part 4 (bvL r).toArray (i * 1)).run Try.prog w = .ok (.bool (r i)) w := fun r => by
      have := bvL_at r hi
      simp [part, isAgg, run_underlying Try.underlying4, this]
    simp only [Op.eqItems, Sem.run_bind, hp, Result.andThen_ok, run_equalIn_bool' w d 4 _ _ Try.underlying4, List.all_cons]
    cases hb : (r i == s i)
    · simp
    · simp only [Bool.not_true, Bool.false_eq_true, if_false, Bool.true_and]
      exact ih fun j hj => h j (List.mem_cons_of_mem _ hj)
theorem neq_marks (r s : Nat → Bool) (w : World) : (binOp .neq 102 (.agg (bvL r).toArray) (.agg (bvL s).toArray)).run Try.prog w = .ok (.bool (!sameB r s)) w := by
  have hu := Try.underlying102
  rw [run_neq_struct, show (10000 : Nat) = 9999 + 1 from rfl]
  obtain ⟨i, hi, _, _, _⟩ := info_parts Try.infoBoolR
  have hc : Try.prog.cellsOf 4 = 1 := by kernel_rfl
  rw [run_equalIn_array w 9999 _ _ hu hi, hc, items_same r s w 9998 (List.range 7) fun i hi => List.mem_range.1 hi]
  rfl

/-! ### whether a mark is missing -/
set_option maxHeartbeats 800000 in
theorem indexB_p (r : Nat → Bool) (n g c : Nat) (w : World) (h : Hid (∀ v, v < n → w.cell? ⟨g, v, none⟩ = some (.bool (r v)))) (hn : n ≤ 64) :
    Calls Try.prog 83 #[.slice (some ⟨g, 0, none⟩) n c, .bool false] w fun e w' => ∃ z : Int, e = .returned (.int .i64 z) ∧ ((0 ≤ z) ↔ ∃ v, v < n ∧ r v = false) ∧ w = w' := by
  go_enter Try.func83, Try.ntmps83
  go_wp2
  go_loop [8] (fun i => ∃ k : Nat, k ≤ n ∧ i = .int .i64 (k : Int) ∧ Hid (∀ v, v < k → r v = true)) (fun i => n - (intOf i).toNat)
  case atStart => exact ⟨0, Nat.zero_le _, rfl, fun v h => by omega⟩
  case round =>
    obtain ⟨k, hk, rfl, HK⟩ := hrel
    by_cases hlt : k < n
    · have b1 : (k : Int) < (n : Int) := by omega
      have h1 := h.out k hlt
      cases hr : r k with
      | true =>
        rw [hr] at h1
        have HK2 : Hid (∀ v, v < k + 1 → r v = true) := fun v hv => by
          by_cases e : v = k
          · rw [e]; exact hr
          · exact HK.out v (by omega)
        clear hr
        go_wp2
        go_round
        case rel => exact ⟨k + 1, by omega, by go_num, HK2⟩
        case measure => simp [intOf]; omega
      | false =>
        rw [hr] at h1
        have HN : Hid (∃ v, v < n ∧ r v = false) := ⟨k, hlt, hr⟩
        clear hr
        go_wp2
        go_ret
        exact ⟨k, rfl, ⟨fun _ => HN.out, fun _ => by omega⟩, rfl⟩
    · obtain rfl : k = n := by omega
      go_wp2
      go_ret
      exact ⟨-1, rfl, ⟨fun h => by omega, fun ⟨v, hv, hr⟩ => by rw [HK.out v hv] at hr; cases hr⟩, rfl⟩
set_option maxHeartbeats 800000 in
theorem lacksB_p (r : Nat → Bool) (n g c : Nat) (w : World) (h : Hid (∀ v, v < n → w.cell? ⟨g, v, none⟩ = some (.bool (r v)))) (hn : n ≤ 64) :
    Calls Try.prog 81 #[.slice (some ⟨g, 0, none⟩) n c, .bool false] w fun e w' => e = .returned (.bool (!(List.range n).all r)) ∧ w = w' := by
  have CI := Lib.hid (indexB_p r n g c w h hn)
  have hb : ((List.range n).all r = true) ↔ ∀ v, v < n → r v = true := by simp
  obtain ⟨b, hbe⟩ : ∃ b, b = (List.range n).all r := ⟨_, rfl⟩
  rw [← hbe] at hb ⊢
  have HB := Lib.hid hb
  clear hb hbe
  go_enter Try.func81, Try.ntmps81
  go_wp2_with fail
  refine CI.out.mono ?_
  rintro e w1 ⟨z, rfl, hz, rfl⟩
  have HZ := Lib.hid hz
  clear hz
  go_wp2
  go_ret
  refine ⟨?_, rfl⟩
  cases b with
  | true =>
    have : decide (0 ≤ z) = false := decide_eq_false fun hh => by
      obtain ⟨v, hv, hr⟩ := HZ.out.1 hh
      rw [HB.out.1 rfl v hv] at hr; cases hr
    rw [this]; rfl
  | false =>
    have : decide (0 ≤ z) = true := by
      refine decide_eq_true (HZ.out.2 ?_)
      apply Classical.byContradiction
      intro hno
      have h2 : (false = true) := HB.out.2 fun v hv => by
        cases hr : r v with
        | true => rfl
        | false => exact absurd ⟨v, hv, hr⟩ hno
      cases h2
    rw [this]; rfl
/-- the two arrays of marks, in blocks of the call's own -/
structure Mk (w0 w : World) (GB GR : Nat) (b r : Nat → Bool) : Prop where
  below : Below w0.heap.size w0 w
  ob : w.ownsRow GB 102 1 (.slice (some ⟨GB, 0, none⟩) 7 7) 7 (bvL b)
  or : w.ownsRow GR 102 1 (.slice (some ⟨GR, 0, none⟩) 7 7) 7 (bvL r)
  geB : w0.heap.size ≤ GB
  geR : w0.heap.size ≤ GR
  ne : GB ≠ GR
theorem Mk.cellB {w0 w : World} {GB GR : Nat} {b r : Nat → Bool} (h : Mk w0 w GB GR b r) {v : Nat} (hv : v < 7) : w.cell? ⟨GB, v, none⟩ = some (.bool (b v)) := (h.ob.cellAt v (by omega)).trans (bvL_at b hv)
theorem Mk.cellR {w0 w : World} {GB GR : Nat} {b r : Nat → Bool} (h : Mk w0 w GB GR b r) {v : Nat} (hv : v < 7) : w.cell? ⟨GR, v, none⟩ = some (.bool (r v)) := (h.or.cellAt v (by omega)).trans (bvL_at r hv)

theorem Mk.other {w0 w w' : World} {GB GR : Nat} {b r : Nat → Bool} (h : Mk w0 w GB GR b r) (hb : Below w.heap.size w w') : Mk w0 w' GB GR b r :=
  ⟨h.below.trans (hb.mono h.below.size), own_blocks2 h.ob fun g hg => hb.block g (h.ob.lt g hg).2, own_blocks2 h.or fun g hg => hb.block g (h.or.lt g hg).2, h.geB, h.geR, h.ne⟩
theorem Mk.set {w0 w : World} {GB GR : Nat} {b r : Nat → Bool} (h : Mk w0 w GB GR b r) {v : Nat} (hv : v < 7) (x : Bool) : Mk w0 (w.setCell ⟨GR, v, none⟩ (.bool x)) GB GR b (fun u => if u = v then x else r u) := by
  refine ⟨h.below.setCell (p := ⟨GR, v, none⟩) h.geR _, own_blocks2 h.ob fun g hg => Below.heap_setCell _ _ _ _ ?_, ?_, h.geB, h.geR, h.ne⟩
  · intro e
    simp only [Value.ownBlock, Option.some.injEq] at hg
    exact h.ne (hg.trans e)
  · have := (h.or.stored v (.bool x)).1
    rw [bvL_set r x hv] at this
    exact this
theorem Mk.setB {w0 w : World} {GB GR : Nat} {b r : Nat → Bool} (h : Mk w0 w GB GR b r) {v : Nat} (hv : v < 7) (x : Bool) : Mk w0 (w.setCell ⟨GB, v, none⟩ (.bool x)) GB GR (fun u => if u = v then x else b u) r := by
  refine ⟨h.below.setCell (p := ⟨GB, v, none⟩) h.geB _, ?_, own_blocks2 h.or fun g hg => Below.heap_setCell _ _ _ _ ?_, h.geB, h.geR, h.ne⟩
  · have := (h.ob.stored v (.bool x)).1
    rw [bvL_set b x hv] at this
    exact this
  · intro e
    simp only [Value.ownBlock, Option.some.injEq] at hg
    exact h.ne (e.symm.trans hg.symm)
theorem Mk.copy {w0 w : World} {GB GR : Nat} {b r : Nat → Bool} (h : Mk w0 w GB GR b r) : Mk w0 (((((((w.setCell ⟨GB, 0, none⟩ (.bool (r 0))).setCell ⟨GB, 1, none⟩ (.bool (r 1))).setCell ⟨GB, 2, none⟩ (.bool (r 2))).setCell ⟨GB, 3, none⟩ (.bool (r 3))).setCell ⟨GB, 4, none⟩ (.bool (r 4))).setCell ⟨GB, 5, none⟩ (.bool (r 5))).setCell ⟨GB, 6, none⟩ (.bool (r 6))) GB GR r r := by
  have h7 := ((((((h.setB (v := 0) (by omega) (r 0)).setB (v := 1) (by omega) (r 1)).setB (v := 2) (by omega) (r 2)).setB (v := 3) (by omega) (r 3)).setB (v := 4) (by omega) (r 4)).setB (v := 5) (by omega) (r 5)).setB (v := 6) (by omega) (r 6)
  exact ⟨h7.below, h7.ob, h7.or, h7.geB, h7.geR, h7.ne⟩
theorem mk_start (w : World) : Mk w ((w.alloc (.cells #[.bool false, .bool false, .bool false, .bool false, .bool false, .bool false, .bool false] 102)).alloc (.cells #[.bool true, .bool false, .bool false, .bool false, .bool false, .bool false, .bool false] 102)) w.heap.size (w.heap.size + 1) (fun _ => false) (fun u => if u = 0 then true else false) := by
  refine ⟨(((Below.refl _ _).alloc (Nat.le_refl _) _).alloc (by rw [World.size_alloc]; omega) _), own_of_full (Nat.le_refl _) (by decide) rfl ?_, own_of_full (Nat.le_refl _) (by decide) rfl ?_, Nat.le_refl _, by omega, by omega⟩
  · rw [heap_alloc_old _ _ (by rw [World.size_alloc]; omega)]; exact heap_alloc_new w _
  · have := heap_alloc_new (w.alloc (.cells #[.bool false, .bool false, .bool false, .bool false, .bool false, .bool false, .bool false] 102)) (.cells #[.bool true, .bool false, .bool false, .bool false, .bool false, .bool false, .bool false] 102)
    rwa [World.size_alloc] at this
/-- what holds ahead of each round -/
structure Rnd (E : Edges) (b r : Nat → Bool) : Prop where
  zero : r 0 = true
  sound : ∀ v, r v = true → Reach E 0 v
  le : ∀ v, b v = true → r v = true
  last : (∀ v, b v = false) ∨ ∀ v, v < 7 → r v = bround E b v
theorem rnd_start (E : Edges) : Rnd E (fun _ => false) (fun u => if u = 0 then true else false) := by
  refine ⟨rfl, fun v hv => ?_, fun v hv => ?_, .inl fun _ => rfl⟩
  · by_cases e : v = 0
    · rw [e]; exact .refl 0
    · simp only [if_neg e] at hv; cases hv
  · cases hv
theorem Rnd.next {E : Edges} {b r : Nat → Bool} (h : Rnd E b r) : Rnd E r (bround E r) :=
  ⟨bround_mono E r 0 h.zero, bround_sound E (fun _ h => h) r h.sound, bround_mono E r, .inr fun _ _ => rfl⟩
theorem Rnd.done {E : Edges} {b r : Nat → Bool} (h : Rnd E b r) (ho : ∀ e ∈ E, e.1 < 7 ∧ e.2 < 7) (hs : ∀ v, v < 7 → b v = r v) : ∀ u, u < 7 → (r u = true ↔ Reach E 0 u) := by
  intro u _
  refine ⟨h.sound u, fun hr => ?_⟩
  rcases h.last with h1 | h1
  · have := hs 0 (by omega)
    rw [h1 0, h.zero] at this; cases this
  · refine marked_reach h.zero (bround_fix E r ho fun v hv => ?_) hr
    rw [h1 v hv]
    exact bround_congr E _ _ ho (fun w hw => (hs w hw).symm) v hv

set_option maxHeartbeats 3200000 in
set_option maxRecDepth 100000 in
theorem allReached_p (n : Nat) (E : Edges) (v : Value) (w : World) {B H : Nat} (hE : Hid (ERow w B H v E)) (hH : H ≤ w.heap.size) (hn : n ≤ 7) (hn0 : 0 < n) (hel : E.length ≤ 64) (ho : Hid (∀ e ∈ E, e.1 < 7 ∧ e.2 < 7)) :
    Calls Try.prog 74 #[.int .i64 (n : Int), v] w fun e w' => ∃ r : Nat → Bool, e = .returned (.bool ((List.range n).all r)) ∧ Hid (∀ u, u < 7 → (r u = true ↔ Reach E 0 u)) ∧ Below w.heap.size w w' := by
  have HE : Hid (∀ W, Below w.heap.size w W → ERow W B H v E) := fun W hW => hE.out.below (hW.mono hH)
  obtain ⟨ao, cap, rfl, _, hcap, _, _⟩ := hE.out.slice
  obtain ⟨GB, hGB⟩ : ∃ GB, GB = w.heap.size := ⟨_, rfl⟩
  have M0 : Hid (Mk w _ _ _ _ _) := mk_start w
  have CL := Lib.hid (fun (r : Nat → Bool) (g c : Nat) (W : World) h => lacksB_p r n g c W h (by omega))
  have I0 := Lib.hid (rnd_start E)
  have NQ := Lib.hid (fun (r s : Nat → Bool) (W : World) => neq_marks r s W)
  obtain ⟨W0, HW0⟩ : ∃ W0, W0 = ((w.alloc (.cells #[.bool false, .bool false, .bool false, .bool false, .bool false, .bool false, .bool false] 102)).alloc (.cells #[.bool true, .bool false, .bool false, .bool false, .bool false, .bool false, .bool false] 102)) := ⟨_, rfl⟩
  rw [← HW0, ← hGB] at M0
  clear hE
  go_enter Try.func74, Try.ntmps74
  go_wp2_with fail
  simp only [← hGB]
  rw [← HW0]
  have MS : unm (fun u => if u = 0 then true else false) + (if sameB (fun _ => false) (fun u => if u = 0 then true else false) = true then 0 else 1) = 7 := by decide
  clear HW0
  obtain ⟨r0, hr0⟩ : ∃ r0 : Nat → Bool, r0 = fun u => if u = 0 then true else false := ⟨_, rfl⟩
  obtain ⟨b0, hb0⟩ : ∃ b0 : Nat → Bool, b0 = fun _ => false := ⟨_, rfl⟩
  rw [← hr0, ← hb0] at M0 I0 MS
  have MS0 : Hid (unm r0 + (if sameB b0 r0 = true then 0 else 1) ≤ 7) := by show _ ≤ _; omega
  have HGB := Lib.hid hGB
  clear hr0 hb0 MS hGB
  go_loopg [] 7 (fun kx wr => ∃ b r : Nat → Bool, Hid (Mk w wr GB (GB + 1) b r) ∧ Hid (Rnd E b r) ∧ Hid (unm r + (if sameB b r = true then 0 else 1) ≤ kx))
  case atStart => exact ⟨b0, r0, M0, I0, MS0⟩
  case round =>
    clear M0 I0 MS0
    obtain ⟨b, r, M, I, MS⟩ := hrel
    have l0 := M.out.cellB (v := 0) (by omega)
    have l1 := M.out.cellB (v := 1) (by omega)
    have l2 := M.out.cellB (v := 2) (by omega)
    have l3 := M.out.cellB (v := 3) (by omega)
    have l4 := M.out.cellB (v := 4) (by omega)
    have l5 := M.out.cellB (v := 5) (by omega)
    have l6 := M.out.cellB (v := 6) (by omega)
    have m0 := M.out.cellR (v := 0) (by omega)
    have m1 := M.out.cellR (v := 1) (by omega)
    have m2 := M.out.cellR (v := 2) (by omega)
    have m3 := M.out.cellR (v := 3) (by omega)
    have m4 := M.out.cellR (v := 4) (by omega)
    have m5 := M.out.cellR (v := 5) (by omega)
    have m6 := M.out.cellR (v := 6) (by omega)
    have f0 := M.out.ob.frozenAt 0
    have f1 := M.out.ob.frozenAt 1
    have f2 := M.out.ob.frozenAt 2
    have f3 := M.out.ob.frozenAt 3
    have f4 := M.out.ob.frozenAt 4
    have f5 := M.out.ob.frozenAt 5
    have f6 := M.out.ob.frozenAt 6
    have nq := NQ.out b r
    simp only [bvL] at nq
    obtain ⟨sb, hsb⟩ : ∃ sb, sb = sameB b r := ⟨_, rfl⟩
    rw [← hsb] at nq MS
    have HSB := Lib.hid hsb
    clear hsb
    cases sb with
    | true =>
      have CR := Lib.hid (CL.out r (GB + 1) 7 wr (Lib.hid fun v hv => M.out.cellR (by omega)))
      have n1 := slice_marks (GB + 1) n hn
      clear MS
      go_wp2_with fail
      refine CR.out.mono ?_
      rintro e w1 ⟨rfl, rfl⟩
      go_wp2
      go_ret
      exact ⟨r, by first | rfl | simp, I.out.done ho.out ((sameB_iff b r).1 HSB.out.symm), M.out.below⟩
    | false =>
      have MC : Hid (Mk w _ GB (GB + 1) r r) := M.out.copy
      go_wp2_with fail
      obtain ⟨W1, hW1⟩ : ∃ W1, W1 = (((((((wr.setCell ⟨GB, 0, none⟩ (.bool (r 0))).setCell ⟨GB, 1, none⟩ (.bool (r 1))).setCell ⟨GB, 2, none⟩ (.bool (r 2))).setCell ⟨GB, 3, none⟩ (.bool (r 3))).setCell ⟨GB, 4, none⟩ (.bool (r 4))).setCell ⟨GB, 5, none⟩ (.bool (r 5))).setCell ⟨GB, 6, none⟩ (.bool (r 6))) := ⟨_, rfl⟩
      rw [← hW1] at MC ⊢
      clear l0 l1 l2 l3 l4 l5 l6 m0 m1 m2 m3 m4 m5 m6 f0 f1 f2 f3 f4 f5 f6 nq hW1 M
      go_loopw [17] (fun i wx => ∃ k : Nat, k ≤ E.length ∧ i = .int .i64 (k : Int) ∧ Hid (Mk w wx GB (GB + 1) r (bround (E.take k) r))) (fun i _ => E.length - (intOf i).toNat)
      case atStart => exact ⟨0, Nat.zero_le _, rfl, MC⟩
      case round =>
        clear MC
        obtain ⟨k, hk, rfl, M⟩ := hrel
        by_cases hlt : k < E.length
        · have b1 : (k : Int) < (E.length : Int) := by omega
          obtain ⟨g, c', e1, _, _, hg, c1, c2⟩ := (HE.out _ M.out.below).at_ k hlt
          simp only [Value.slice.injEq] at e1
          obtain ⟨rfl, _, rfl⟩ := e1
          obtain ⟨o1, o2⟩ := ho.out _ (List.getElem_mem hlt)
          have BT := bround_take E r k hlt
          obtain ⟨x, hx⟩ : ∃ x, x = E[k] := ⟨_, rfl⟩
          rw [← hx] at c1 c2 o1 o2 BT
          obtain ⟨s, hs⟩ : ∃ s, s = bround (E.take k) r := ⟨_, rfl⟩
          rw [← hs] at BT M
          have HBT := Lib.hid BT
          clear hx hs BT
          go_upto_region 8 with fail
          obtain ⟨W2, hW2⟩ : ∃ W2, W2 = wr.alloc (.cells #[.int .i64 (x.1 : Int), .int .i64 (x.2 : Int)] 87) := ⟨_, rfl⟩
          obtain ⟨GX, hGX⟩ : ∃ GX, GX = wr.heap.size := ⟨_, rfl⟩
          have a1 : W2.cell? ⟨GX, 0, none⟩ = some (.int .i64 (x.1 : Int)) := by rw [hW2, hGX]; simp
          have a2 : W2.cell? ⟨GX, 1, none⟩ = some (.int .i64 (x.2 : Int)) := by rw [hW2, hGX]; simp
          have M2 : Hid (Mk w W2 GB (GB + 1) r s) := by rw [hW2]; exact M.out.other ((Below.refl _ _).alloc (Nat.le_refl _) _)
          have q1 := M2.out.cellR o1
          have q2 := M2.out.cellR o2
          have GX2 : GB + 1 ≠ GX := by have := (M.out.or.lt (GB + 1) rfl).2; omega
          rw [← hW2, ← hGX]
          clear c1 c2 hW2 hGX M hg
          have z1 : (x.1 : Int) < 7 := by omega
          have z2 : (x.2 : Int) < 7 := by omega
          obtain ⟨p1, hp1⟩ : ∃ p1, p1 = s x.1 := ⟨_, rfl⟩
          obtain ⟨p2, hp2⟩ : ∃ p2, p2 = s x.2 := ⟨_, rfl⟩
          rw [← hp1] at q1
          rw [← hp2] at q2
          have HB2 : Hid (bround (E.take (k + 1)) r = fun v => if v = x.2 then (p1 || p2) else if v = x.1 then (p1 || p2) else s v) := by
            show _ = _; rw [HBT.out, hp1, hp2]; rfl
          have SN : ∀ near : Bool, ∃ y, (W2.setCell ⟨GB + 1, x.1, none⟩ (.bool near)).cell? ⟨GB + 1, x.2, none⟩ = some (.bool y) := fun near => ⟨_, (M2.out.set o1 near).cellR o2⟩
          have fr1 := M2.out.or.frozenAt x.1
          have fr2 := M2.out.or.frozenAt x.2
          clear hp1 hp2 HBT
          have far1 : ∀ near : Bool, (W2.setCell ⟨GB + 1, x.1, none⟩ (.bool near)).cell? ⟨GX, 0, none⟩ = some (.int .i64 (x.1 : Int)) := fun near => (World.cell?_setCell_other W2 ⟨GB + 1, x.1, none⟩ _ _ (fun e => GX2 (congrArg Addr.block e))).trans a1
          have far2 : ∀ near : Bool, (W2.setCell ⟨GB + 1, x.1, none⟩ (.bool near)).cell? ⟨GX, 1, none⟩ = some (.int .i64 (x.2 : Int)) := fun near => (World.cell?_setCell_other W2 ⟨GB + 1, x.1, none⟩ _ _ (fun e => GX2 (congrArg Addr.block e))).trans a2
          clear GX2
          obtain ⟨y1, hy1⟩ := SN true
          obtain ⟨y2, hy2⟩ := SN p2
          have MN : ∀ near : Bool, Hid (Mk w ((W2.setCell ⟨GB + 1, x.1, none⟩ (.bool near)).setCell ⟨GB + 1, x.2, none⟩ (.bool near)) GB (GB + 1) r (fun v => if v = x.2 then near else if v = x.1 then near else s v)) := fun near => (M2.out.set o1 near).set o2 near
          clear SN
          cases p1
          all_goals
            simp only [Bool.true_or, Bool.false_or] at HB2
            go_wp2_with fail
            go_region_law (fail)
            all_goals
              go_wp2
              go_roundw
              case rel => exact ⟨k + 1, by omega, by go_num, by rw [HB2.out]; exact (MN _).out.other ⟨rfl, rfl, rfl, Nat.le_refl _, fun _ _ => rfl⟩⟩
              case measure => simp [intOf]; omega
        · obtain rfl : k = E.length := by omega
          rw [List.take_length] at M
          have IN : Hid (Rnd E r (bround E r)) := I.out.next
          have MS2 : Hid (unm (bround E r) + (if sameB r (bround E r) = true then 0 else 1) ≤ gk - 1 ∧ 0 < gk) := by
            have hms := MS.out
            simp only [Bool.false_eq_true, if_false] at hms
            show _ ∧ _
            by_cases hs : sameB r (bround E r) = true
            · rw [if_pos hs]
              have e1 : unm (bround E r) = unm r := by
                unfold unm
                congr 1
                exact List.filter_congr fun v hv => by rw [(sameB_iff _ _).1 hs v (List.mem_range.1 hv)]
              omega
            · rw [if_neg hs]
              have := unm_lt (bround_mono E r) fun h => hs ((sameB_iff _ _).2 h)
              omega
          clear MS I HSB
          go_wp2_with fail
          have MS3 := Lib.hid MS2.out.1
          have g0 := MS2.out.2
          go_roundg (gk - 1)
          case measure => omega
          case rel => exact ⟨r, bround E r, M, IN, MS3⟩
end Go.Proofs.Ytmpppocmbdainaa
