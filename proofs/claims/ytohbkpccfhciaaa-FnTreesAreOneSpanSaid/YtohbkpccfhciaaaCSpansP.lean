/-
  The program's list of spans.
-/
import Derived.Test.YtohbkpccfhciaaaCByCuts
import Derived.Test.YtohbkpccfhciaaaCOnes
import Derived.Test.YtohbkpccfhciaaaZH
import Derived.WalkMore
import Derived.Deep.LoopGhost
namespace Go.Proofs.Ytohbkpccfhciaaa
open Go.RowKit

theorem freeP_app : ∀ (A B : Edges) (p : Nat → Nat), freeP p (A ++ B) = (freeP p A && freeP (A.foldl joinP p) B)
  | [], B, p => by rw [List.nil_append, freeP, Bool.true_and]; rfl
  | e :: r, B, p => by rw [List.cons_append, freeP, freeP, freeP_app r B, List.foldl_cons, Bool.and_assoc]
theorem pick_appP : ∀ (A B : Edges) (s : Nat), pickE (A ++ B) s = pickE A s ++ pickE B (s / 2 ^ A.length)
  | [], B, s => by rw [List.nil_append, pickE, List.nil_append, List.length_nil, Nat.pow_zero, Nat.div_one]
  | e :: r, B, s => by
    have e2 : s / 2 / 2 ^ r.length = s / 2 ^ (r.length + 1) := by rw [Nat.div_div_eq_div_mul, Nat.pow_succ, Nat.mul_comm]
    rw [List.cons_append, pickE, pickE, pick_appP r B (s / 2), e2, List.length_cons]
    split <;> rfl
/-- the parts after the edges of a set at the first places -/
def partsK (E : Edges) (s k : Nat) : Nat → Nat := (pickE (E.take k) s).foldl joinP fun v => v
def freeK (E : Edges) (s k : Nat) : Bool := freeP (fun v => v) (pickE (E.take k) s)
theorem freeK_zero (E : Edges) (s : Nat) : freeK E s 0 = true := rfl
theorem partsK_zero (E : Edges) (s : Nat) : partsK E s 0 = fun v => v := rfl
theorem pick_stepP (E : Edges) (k s : Nat) (h : k < E.length) : pickE (E.take (k + 1)) s = if s / 2 ^ k % 2 = 1 then pickE (E.take k) s ++ [E[k]] else pickE (E.take k) s := by
  rw [List.take_succ_eq_append_getElem h, pick_appP, List.length_take, Nat.min_eq_left (by omega), pickE, pickE]
  split
  · rfl
  · rw [List.append_nil]
theorem step_out {E : Edges} {k s : Nat} (h : k < E.length) (hb : ¬ s / 2 ^ k % 2 = 1) : partsK E s (k + 1) = partsK E s k ∧ freeK E s (k + 1) = freeK E s k := by
  unfold partsK freeK
  rw [pick_stepP E k s h, if_neg hb]
  exact ⟨rfl, rfl⟩
theorem step_in {E : Edges} {k s : Nat} (h : k < E.length) (hb : s / 2 ^ k % 2 = 1) : partsK E s (k + 1) = joinP (partsK E s k) E[k] ∧ freeK E s (k + 1) = (freeK E s k && !decide (partsK E s k E[k].1 = partsK E s k E[k].2)) := by
  unfold partsK freeK
  rw [pick_stepP E k s h, if_pos hb]
  refine ⟨by rw [List.foldl_append]; rfl, ?_⟩
  rw [freeP_app, freeP, freeP, Bool.and_true]
theorem freeK_full {E : Edges} {s k : Nat} (h : freeK E s k = false) : freeP (fun v => v) (pickE E s) = false := by
  have e := pick_appP (E.take k) (E.drop k) s
  rw [List.take_append_drop] at e
  rw [e, freeP_app]
  unfold freeK at h
  rw [h, Bool.false_and]
/-- which sets the program lists -/
def isSpanP (N M : Nat) (E : Edges) (s : Nat) : Bool := decide (sumTo (bitD s) M + 1 = N) && freeP (fun v => v) (pickE E s)
theorem sum_eight {s j : Nat} (hj : j ≤ 8) (hs : s < 2 ^ j) : sumTo (bitD s) 8 = sumTo (bitD s) j := by
  have key : ∀ d, sumTo (bitD s) (j + d) = sumTo (bitD s) j := by
    intro d
    induction d with
    | zero => rfl
    | succ d ih =>
      have hz : bitD s (j + d) = 0 := by
        unfold bitD
        have : s < 2 ^ (j + d) := Nat.lt_of_lt_of_le hs (Nat.pow_le_pow_right (by omega) (by omega))
        rw [Nat.div_eq_of_lt this]
      rw [← Nat.add_assoc, sumTo, ih, hz]
      rfl
  have := key (8 - j)
  rwa [show j + (8 - j) = 8 by omega] at this
theorem filt_step (P : Nat → Bool) (s : Nat) : (List.range (s + 1)).filter P = if P s = true then (List.range s).filter P ++ [s] else (List.range s).filter P := by
  rw [List.range_succ, List.filter_append]
  split
  · next h => rw [List.filter_cons_of_pos h, List.filter_nil]
  · next h => rw [List.filter_cons_of_neg h, List.filter_nil, List.append_nil]

theorem ints_append (A B : List Nat) : ints (A ++ B) = ints A ++ ints B := by simp [ints]
/-- inside a set: the row of sets found so far, and the parts of this one -/
structure InP (w w1 wy : World) (B H1 GR : Nat) (sp : Value) (S : List Nat) (p : Nat → Nat) : Prop where
  row : wy.ownsRow H1 3 1 sp S.length (ints S)
  lt : ∀ g, sp.ownBlock = some g → g < GR
  parts : wy.heap[GR]? = some (.cells (pvL p).toArray 56 (0, 0))
  belowB : Below B w wy
  belowH : Below H1 w1 wy
  geB : B ≤ GR
  geH : H1 ≤ GR
theorem InP.gr {w w1 wy : World} {B H1 GR : Nat} {sp : Value} {S : List Nat} {p : Nat → Nat} (h : InP w w1 wy B H1 GR sp S p) : GR < wy.heap.size := (Array.getElem?_eq_some_iff.1 h.parts).1
theorem InP.up {w w1 wy w' : World} {B H1 GR : Nat} {sp : Value} {S : List Nat} {p : Nat → Nat} (h : InP w w1 wy B H1 GR sp S p) (hb : Below (GR + 1) wy w') : InP w w1 w' B H1 GR sp S p :=
  ⟨own_of_blocks h.row fun g hg => hb.block g (by have := h.lt g hg; omega), h.lt, (hb.block GR (by omega)).trans h.parts, h.belowB.trans (hb.mono (by have := h.geB; omega)), h.belowH.trans (hb.mono (by have := h.geH; omega)), h.geB, h.geH⟩
theorem InP.one {w w1 wy : World} {B H1 GR : Nat} {sp : Value} {S : List Nat} {cs : Array Value} {k : Nat} {v : Value} (hr : wy.ownsRow H1 3 1 sp S.length (ints S)) (hl : ∀ g, sp.ownBlock = some g → g < GR) (hp : wy.heap[GR]? = some (.cells cs 56 (0, 0))) (hb : Below B w wy) (hh : Below H1 w1 wy) (g1 : B ≤ GR) (g2 : H1 ≤ GR) :
    (wy.setCell ⟨GR, k, none⟩ v).ownsRow H1 3 1 sp S.length (ints S) ∧ (wy.setCell ⟨GR, k, none⟩ v).heap[GR]? = some (.cells (cs.setIfInBounds k v) 56 (0, 0)) ∧ Below B w (wy.setCell ⟨GR, k, none⟩ v) ∧ Below H1 w1 (wy.setCell ⟨GR, k, none⟩ v) :=
  ⟨own_of_blocks hr fun g hg => Below.heap_setCell _ _ _ _ (by have := hl g hg; simp; omega), heap_setCell_same wy GR k _ _ v hp, hb.setCell (p := ⟨GR, k, none⟩) g1 _, hh.setCell (p := ⟨GR, k, none⟩) g2 _⟩
theorem InP.store {w w1 wy : World} {B H1 GR : Nat} {sp : Value} {S : List Nat} {p : Nat → Nat} (h : InP w w1 wy B H1 GR sp S p) (q : Nat → Nat) :
    InP w w1 (((((wy.setCell ⟨GR, 0, none⟩ (.int .i64 (q 0 : Int))).setCell ⟨GR, 1, none⟩ (.int .i64 (q 1 : Int))).setCell ⟨GR, 2, none⟩ (.int .i64 (q 2 : Int))).setCell ⟨GR, 3, none⟩ (.int .i64 (q 3 : Int))).setCell ⟨GR, 4, none⟩ (.int .i64 (q 4 : Int))) B H1 GR sp S q := by
  have s0 := InP.one (k := 0) (v := .int .i64 (q 0 : Int)) h.row h.lt h.parts h.belowB h.belowH h.geB h.geH
  have s1 := InP.one (k := 1) (v := .int .i64 (q 1 : Int)) s0.1 h.lt s0.2.1 s0.2.2.1 s0.2.2.2 h.geB h.geH
  have s2 := InP.one (k := 2) (v := .int .i64 (q 2 : Int)) s1.1 h.lt s1.2.1 s1.2.2.1 s1.2.2.2 h.geB h.geH
  have s3 := InP.one (k := 3) (v := .int .i64 (q 3 : Int)) s2.1 h.lt s2.2.1 s2.2.2.1 s2.2.2.2 h.geB h.geH
  have s4 := InP.one (k := 4) (v := .int .i64 (q 4 : Int)) s3.1 h.lt s3.2.1 s3.2.2.1 s3.2.2.2 h.geB h.geH
  exact ⟨s4.1, h.lt, s4.2.1, s4.2.2.1, s4.2.2.2, h.geB, h.geH⟩

set_option maxHeartbeats 6400000 in
set_option maxRecDepth 100000 in
theorem spansOf_r (n : Int) (rows : List (List Int)) (a : Option Addr) (cv : Nat) (w : World) {H0 : Nat} (hR : Hid (RdR w H0 a rows)) (hH : H0 ≤ w.heap.size) :
    Calls Try.prog 15 #[.int .i64 n, .slice a rows.length cv] w (IntsOut (spansL n rows) w) := by
  obtain ⟨i0, hi, hz0, hz1, hz2⟩ := info_parts Try.infoIntR
  have C := Lib.hid (webEdges_p n rows a cv w hR hH)
  obtain ⟨m, hm⟩ : ∃ m, m = rows.length := ⟨_, rfl⟩
  cases ht : webB n rows with
  | false =>
    rw [spansL, if_neg (by rw [ht]; decide)]
    rw [ht] at C
    rw [← hm] at C ⊢
    clear hR hm ht
    go_enter Try.func15, Try.ntmps15
    go_wp2
    go_step3
    go_wp2_with fail
    refine C.out.mono ?_
    rintro e w1 ⟨x, rfl, _, hb⟩
    have HB := Lib.hid hb
    clear hb C
    go_wp2
    try rw [Exit.noGoto_ret]
    go_ret
    exact nilOut _ _ HB.out
  | true =>
    rw [spansL, if_pos ht]
    rw [ht] at C
    obtain ⟨N, rfl, h1, h5, hrw, hE, h8, hlr⟩ := web_rows ht
    clear hrw
    rw [Int.toNat_natCast]
    have HS := Lib.hid (free_spans h1 hE)
    have hwl : (webN rows).length ≤ 8 := by rw [webN_length]; omega
    have hwl2 : (webN rows).length = (edgesR rows).length := by rw [webN_length]; omega
    have hwE : Hid (∀ e ∈ webN rows, e.1 < N ∧ e.2 < N) := norm_lt hE
    obtain ⟨L, hL⟩ : ∃ L, L = spansN N (edgesR rows) := ⟨_, rfl⟩
    rw [← hL] at HS ⊢
    obtain ⟨E, hEe⟩ : ∃ E, E = webN rows := ⟨_, rfl⟩
    have HL : Hid ((List.range (2 ^ E.length)).filter (isSpanP N E.length E) = L) := by
      show _ = _
      rw [← HS.out, hEe, hwl2]; rfl
    rw [← hEe] at C hwl hwE
    obtain ⟨M, hM⟩ : ∃ M, M = E.length := ⟨_, rfl⟩
    rw [← hM] at HL hwl
    obtain ⟨T, hT⟩ : ∃ T, T = 2 ^ M := ⟨_, rfl⟩
    have hT256 : T ≤ 256 := by rw [hT]; exact pow2_le M hwl
    rw [← hT] at HL
    rw [← hm] at C ⊢
    obtain ⟨B, hB⟩ : ∃ B, B = w.heap.size := ⟨_, rfl⟩
    have HB0 := Lib.hid hB
    have HM := Lib.hid hM
    have HT := Lib.hid hT
    have ewn : IntKind.i64.wrap ((N : Int) - 1) = (N : Int) - 1 := by rw [IntKind.wrap_i64]; omega
    clear hR hm ht hE hL hlr h8 hwl2 HS hEe hB hM hT
    go_enter Try.func15, Try.ntmps15
    go_wp2
    go_step3
    go_wp2_with fail
    refine C.out.mono ?_
    rintro e w1 ⟨x, rfl, hx, hb⟩
    rw [← HB0.out] at hx hb
    have HB := Lib.hid hb
    have HX0 := hx trivial
    obtain ⟨ax, cx, rfl, _, hcx, _, _⟩ := HX0.slice
    rw [← HM.out] at HX0 hcx ⊢
    obtain ⟨H1, hH1⟩ : ∃ H1, H1 = w1.heap.size := ⟨_, rfl⟩
    rw [← hH1] at HX0
    have HX := Lib.hid HX0
    have sB := hb.size
    have SB : Hid (B ≤ H1) := by show _ ≤ _; rw [hH1, HB0.out]; exact sB
    have HH1 := Lib.hid hH1
    clear hb C hx HX0 sB hH1
    go_wp2
    go_step3
    go_wp2
    have eT : wrap64 ((2 : Int) ^ M) = (T : Int) := by
      have : ((2 : Int) ^ M) = ((2 ^ M : Nat) : Int) := by push_cast; rfl
      rw [this, ← HT.out]; unfold wrap64; omega
    simp only [eT]
    clear eT
    have OZ : Hid (w1.ownsRow H1 3 1 (.slice none 0 0) ((List.range 0).filter (isSpanP N M E)).length (ints ((List.range 0).filter (isSpanP N M E)))) := ⟨rfl, .inl ⟨rfl, rfl⟩⟩
    go_loopg [7, 23] T (fun gg sp ii wr => ∃ s : Nat, s + gg = T ∧ ii = .int .i64 (s : Int) ∧ Hid (wr.ownsRow H1 3 1 sp ((List.range s).filter (isSpanP N M E)).length (ints ((List.range s).filter (isSpanP N M E)))) ∧ Hid (Below B w wr) ∧ Hid (Below H1 w1 wr))
    case atStart => exact ⟨0, by omega, rfl, OZ, by show Below _ _ _; rw [HB0.out]; have := HB.out; rwa [HB0.out] at this, Below.refl _ _⟩
    case round =>
      clear OZ
      obtain ⟨s, hsg, rfl, HO, HBw, HBr⟩ := hrel
      cases gk with
      | zero =>
        have hs0 : ¬ (s : Int) < (T : Int) := by omega
        obtain rfl : s = T := by omega
        rw [HL.out] at HO
        go_wp2
        try rw [Exit.noGoto_ret]
        go_ret
        refine ⟨_, rfl, ?_, by rw [← HB0.out]; exact HBw.out⟩
        rw [← ints_iv2, ← HB0.out]
        refine own_lo (B := H1) (Own.of_own ?_) SB.out
        rw [ints_length]
        exact HO.out
      | succ g =>
        have hs0 : (s : Int) < (T : Int) := by omega
        have CO := Lib.hid (fun W => ones_p s W (by omega))
        have hs8 : sumTo (bitD s) 8 = sumTo (bitD s) M := sum_eight hwl (by rw [← HT.out]; omega)
        obtain ⟨z, hz⟩ : ∃ z, z = sumTo (bitD s) M := ⟨_, rfl⟩
        rw [hs8, ← hz] at CO
        have HZ := Lib.hid hz
        have FS := filt_step (isSpanP N M E) s
        have eu : IntKind.u64.wrap (s : Int) = (s : Int) := by rw [IntKind.wrap_u64]; omega
        clear hs8 hz
        by_cases hzN : z + 1 = N
        · have q1 : ((z : Int) == (N : Int) - 1) = true := by rw [beq_iff_eq]; omega
          have q2 : ((z : Int) != (N : Int) - 1) = false := by rw [bne, q1]; rfl
          have FT : freeP (fun v => v) (pickE E s) = true → isSpanP N M E s = true := fun h => by
            unfold isSpanP; rw [h, ← HZ.out, decide_eq_true hzN]; rfl
          have FF : freeP (fun v => v) (pickE E s) = false → isSpanP N M E s = false := fun h => by
            unfold isSpanP; rw [h, Bool.and_false]
          clear hzN
          have CE : Hid (∀ W : World, Calls Try.prog 35 #[] W fun e w' => e = .returned (.agg #[.int .i64 0, .int .i64 1, .int .i64 2, .int .i64 3, .int .i64 4]) ∧ Below W.heap.size W w') := fun W => oneEach_p W
          obtain ⟨S, hS⟩ : ∃ S, S = (List.range s).filter (isSpanP N M E) := ⟨_, rfl⟩
          rw [← hS] at HO FS
          have HSe := Lib.hid hS
          have FSh := Lib.hid FS
          have FTh := Lib.hid FT
          have FFh := Lib.hid FF
          clear hS FS FT FF
          go_wp2_with fail
          refine (CO.out wr).mono ?_
          rintro e w2 ⟨rfl, rfl⟩
          clear CO
          go_wp2_with fail
          refine (CE.out wr).mono ?_
          rintro e w3 ⟨rfl, b3⟩
          clear CE
          have hlt3 : ∀ gq, u7.ownBlock = some gq → gq < w3.heap.size := fun gq hg => Nat.lt_of_lt_of_le (HO.out.lt gq hg).2 b3.size
          have hB3 : B ≤ wr.heap.size := by have := HBw.out.size; have := SB.out; have := HBr.out.size; have := HH1.out; omega
          have hH3 : H1 ≤ wr.heap.size := by have := HBr.out.size; have := HH1.out; omega
          have I0 : Hid (InP w w1 (w3.alloc (.cells #[.int .i64 0, .int .i64 1, .int .i64 2, .int .i64 3, .int .i64 4] 56)) B H1 w3.heap.size u7 S (partsK E s 0)) :=
            ⟨(own_of_blocks HO.out fun gq hg => b3.block gq (HO.out.lt gq hg).2).alloc _, hlt3, heap_alloc_new _ _, (HBw.out.trans (b3.mono hB3)).alloc (by have := b3.size; omega) _, (HBr.out.trans (b3.mono hH3)).alloc (by have := b3.size; omega) _, by have := b3.size; omega, by have := b3.size; omega⟩
          clear b3 hlt3 hB3 hH3 HO HBw HBr
          go_upto_region 10 with fail
          obtain ⟨GR, hGR⟩ : ∃ GR, GR = w3.heap.size := ⟨_, rfl⟩
          obtain ⟨w4, hw4⟩ : ∃ w4, w4 = w3.alloc (.cells #[.int .i64 0, .int .i64 1, .int .i64 2, .int .i64 3, .int .i64 4] 56) := ⟨_, rfl⟩
          rw [← hGR, ← hw4] at I0
          rw [← hGR, ← hw4]
          clear hGR hw4
          go_wp2_with fail
          go_loopg [35] M (fun g2 s35 wy => ∃ k : Nat, k + g2 = M ∧ s35 = .int .i64 (k : Int) ∧ Hid (freeK E s k = true) ∧ Hid (InP w w1 wy B H1 GR u7 S (partsK E s k)))
          case atStart => exact ⟨0, by omega, rfl, freeK_zero E s, I0⟩
          case round =>
            clear I0
            obtain ⟨k, hkg, rfl, HF, I⟩ := hrel
            cases gk with
            | zero =>
              have hk0 : ¬ (k : Int) < (M : Int) := by omega
              obtain rfl : k = M := by omega
              have hfree : freeP (fun v => v) (pickE E s) = true := by
                have := HF.out
                unfold freeK at this
                rwa [HM.out, List.take_length] at this
              have FS := FSh.out
              rw [if_pos (FTh.out hfree)] at FS
              have HFS := Lib.hid FS
              obtain ⟨mS, hmS⟩ : ∃ mS, mS = S.length := ⟨_, rfl⟩
              have OW : Hid (wr.ownsRow H1 3 1 u7 mS (ints S)) := by have := I.out.row; rwa [← hmS] at this
              have hS256 : mS ≤ 256 := by
                rw [hmS, HSe.out]
                have := List.length_filter_le (isSpanP N k E) (List.range s)
                rw [List.length_range] at this
                omega
              have HMS := Lib.hid hmS
              have y1 : mS + 1 ≤ maxLen := by unfold maxLen; omega
              have y2 : (mS + 1) * 8 ≤ 140737488355328 := by omega
              have Y3 : Hid (∀ o : Obj, H1 ≤ (wr.alloc o).heap.size) := fun o => by have := I.out.gr; have := I.out.geH; rw [World.size_alloc]; omega
              have BB := Lib.hid (I.out.belowB)
              have BH := Lib.hid (I.out.belowH)
              have sB : Hid (B ≤ wr.heap.size ∧ H1 ≤ wr.heap.size) := by have := I.out.gr; have := I.out.geB; have := I.out.geH; show _ ∧ _; omega
              have OH : Hid (∀ gq, u7.ownBlock = some gq → H1 ≤ gq) := fun gq hg => (OW.out.lt gq hg).1
              clear FS hfree hmS
              go_wp2_with (at_builtin; refine wpList_append_lies _ rfl (.tmp 51) (.tmp 53) 32 rfl H1 3 i0 (.int .i64 0) 1 8 Try.underlying32 hi hz0 hz1 hz2 rfl (by decide) _ mS (ints S) rfl (OW.out.alloc _) ⟨wr.heap.size, 0, none⟩ 1 1 [_] rfl rfl (cell_one_new _ _ _) (one_intR _) (by decide) y1 y2 (Y3.out _) _ rfl ?_)
              intro g7 c7 w7 hv7 hg7 _ _
              have HO7 : Hid (w7.ownsRow H1 3 1 (.slice (some ⟨g7, 0, none⟩) (mS + 1) c7) ((List.range (s + 1)).filter (isSpanP N k E)).length (ints ((List.range (s + 1)).filter (isSpanP N k E)))) := by
                show World.ownsRow _ _ _ _ _ _ _
                rw [HFS.out, List.length_append, ints_append, ← HMS.out]
                exact hv7
              have BB7 : Hid (Below B w w7) := (BB.out.alloc sB.out.1 _).grown hg7 (Nat.le_trans SB.out (Y3.out _)) (fun q hq => Nat.le_trans SB.out (OH.out q hq))
              have BH7 : Hid (Below H1 w1 w7) := (BH.out.alloc sB.out.2 _).grown hg7 (Y3.out _) (fun q hq => OH.out q hq)
              clear hv7 hg7 OW BB BH Y3 OH I
              go_wp2
              go_roundg g
              case measure => omega
              case rel => exact ⟨s + 1, by omega, by go_num, HO7, BB7, BH7⟩
            | succ g2 =>
              have hk0 : (k : Int) < (M : Int) := by omega
              have hkE : k < E.length := by rw [← HM.out]; omega
              have HEx := HX.out.below I.out.belowH
              obtain ⟨gx, c', e1, _, _, hgx, c1, c2⟩ := HEx.at_ k hkE
              simp only [Value.slice.injEq] at e1
              obtain ⟨hax, hme, hcx'⟩ := e1
              clear hme
              subst hax
              subst hcx'
              obtain ⟨l1, l2⟩ := hwE.out _ (List.getElem_mem hkE)
              have SO := fun h => Lib.hid (step_out (s := s) hkE h)
              have SI := fun h => Lib.hid (step_in (s := s) hkE h)
              obtain ⟨y, hy⟩ : ∃ y, y = E[k] := ⟨_, rfl⟩
              rw [← hy] at c1 c2 l1 l2
              simp only [← hy] at SI
              have CI := Lib.hid (fun W => inSet_p k s W (by omega) (by omega))
              obtain ⟨P, hP⟩ : ∃ P, P = partsK E s k := ⟨_, rfl⟩
              rw [← hP] at I
              simp only [← hP] at SI SO
              have HPe := Lib.hid hP
              clear HEx hy hP
              have CH : Hid (∀ W' : World, Calls Try.prog 37 #[.agg #[.int .i64 (P 0 : Int), .int .i64 (P 1 : Int), .int .i64 (P 2 : Int), .int .i64 (P 3 : Int), .int .i64 (P 4 : Int)], .agg #[.int .i64 (y.1 : Int), .int .i64 (y.2 : Int)]] W' fun r w' => r = .returned (.bool (decide (P y.1 = P y.2))) ∧ Below W'.heap.size W' w') := fun W' => holds_p P y W' (by omega)
              obtain ⟨Q, hQ⟩ : ∃ Q, Q = joinP P y := ⟨_, rfl⟩
              have CJ : Hid (∀ W' : World, Calls Try.prog 38 #[.agg #[.int .i64 (P 0 : Int), .int .i64 (P 1 : Int), .int .i64 (P 2 : Int), .int .i64 (P 3 : Int), .int .i64 (P 4 : Int)], .agg #[.int .i64 (y.1 : Int), .int .i64 (y.2 : Int)]] W' fun r w' => r = .returned (.agg #[.int .i64 (Q 0 : Int), .int .i64 (Q 1 : Int), .int .i64 (Q 2 : Int), .int .i64 (Q 3 : Int), .int .i64 (Q 4 : Int)]) ∧ Below W'.heap.size W' w') := fun W' => by rw [hQ]; exact joined_p P y W' (by omega)
              rw [← hQ] at SI
              have SOh := Lib.hid SO
              have SIh := Lib.hid SI
              clear SO SI hQ l1 l2
              go_upto_region 13 with fail
              obtain ⟨GE, hGE⟩ : ∃ GE, GE = wr.heap.size := ⟨_, rfl⟩
              obtain ⟨w5, hw5⟩ : ∃ w5, w5 = wr.alloc (.cells #[.int .i64 (y.1 : Int), .int .i64 (y.2 : Int)] 50) := ⟨_, rfl⟩
              have I5 : Hid (InP w w1 w5 B H1 GR u7 S P) := by
                show InP _ _ _ _ _ _ _ _ _
                rw [hw5]
                exact I.out.up ((Below.refl _ _).alloc I.out.gr _)
              have E5 : Hid (w5.heap[GE]? = some (.cells #[.int .i64 (y.1 : Int), .int .i64 (y.2 : Int)] 50 (0, 0)) ∧ GR < GE) := by
                show _ ∧ _
                rw [hw5, hGE]; exact ⟨heap_alloc_new _ _, I.out.gr⟩
              rw [← hGE, ← hw5]
              clear hGE hw5 I c1 c2 hgx
              by_cases hbit : s / 2 ^ k % 2 = 1
              · rw [decide_eq_true hbit] at CI
                obtain ⟨sp1, sp2⟩ := (SIh.out hbit).out
                rw [HF.out, Bool.true_and] at sp2
                go_wp2_with fail
                refine (CI.out w5).mono ?_
                rintro e w6 ⟨rfl, rfl⟩
                have p0 : w5.cell? ⟨GR, 0, none⟩ = some (.int .i64 (P 0 : Int)) := pv_cell I5.out.parts (show 0 < 5 by omega)
                have p1 : w5.cell? ⟨GR, 1, none⟩ = some (.int .i64 (P 1 : Int)) := pv_cell I5.out.parts (show 1 < 5 by omega)
                have p2 : w5.cell? ⟨GR, 2, none⟩ = some (.int .i64 (P 2 : Int)) := pv_cell I5.out.parts (show 2 < 5 by omega)
                have p3 : w5.cell? ⟨GR, 3, none⟩ = some (.int .i64 (P 3 : Int)) := pv_cell I5.out.parts (show 3 < 5 by omega)
                have p4 : w5.cell? ⟨GR, 4, none⟩ = some (.int .i64 (P 4 : Int)) := pv_cell I5.out.parts (show 4 < 5 by omega)
                have e1 : w5.cell? ⟨GE, 0, none⟩ = some (.int .i64 (y.1 : Int)) := by simp [World.cell?, E5.out.1]
                have e2 : w5.cell? ⟨GE, 1, none⟩ = some (.int .i64 (y.2 : Int)) := by simp [World.cell?, E5.out.1]
                have hGE5 : GE < w5.heap.size := (Array.getElem?_eq_some_iff.1 E5.out.1).1
                have HS1 := Lib.hid sp1
                clear CI sp1 hbit SOh SIh
                by_cases hpe : P y.1 = P y.2
                · rw [decide_eq_true hpe] at CH sp2
                  have hno : ¬ isSpanP N M E s = true := by rw [FFh.out (freeK_full sp2)]; decide
                  have FS := FSh.out
                  rw [if_neg hno] at FS
                  have HFS := Lib.hid FS
                  clear hno FS sp2 hpe CJ
                  go_wp2_with fail
                  refine (CH.out w5).mono ?_
                  rintro e w6 ⟨rfl, b6⟩
                  have I6 := Lib.hid (I5.out.up (b6.mono I5.out.gr))
                  have HO6 : Hid (w6.ownsRow H1 3 1 u7 ((List.range (s + 1)).filter (isSpanP N M E)).length (ints ((List.range (s + 1)).filter (isSpanP N M E)))) := by
                    show World.ownsRow _ _ _ _ _ _ _
                    rw [HFS.out]; exact I6.out.row
                  have BB6 := Lib.hid I6.out.belowB
                  have BH6 := Lib.hid I6.out.belowH
                  clear b6 CH I5 E5 p0 p1 p2 p3 p4 e1 e2 hGE5
                  go_wp2
                  go_roundg g
                  case measure => omega
                  case rel => exact ⟨s + 1, by omega, by go_num, HO6, BB6, BH6⟩
                · rw [decide_eq_false hpe] at CH sp2
                  have HF2 := Lib.hid sp2
                  clear hpe sp2
                  go_wp2_with fail
                  refine (CH.out w5).mono ?_
                  rintro e w6 ⟨rfl, b6⟩
                  have I6 := Lib.hid (I5.out.up (b6.mono I5.out.gr))
                  have E6 : Hid (w6.heap[GE]? = some (.cells #[.int .i64 (y.1 : Int), .int .i64 (y.2 : Int)] 50 (0, 0)) ∧ GR < GE) := ⟨(b6.block GE hGE5).trans E5.out.1, E5.out.2⟩
                  clear b6 CH I5 E5 p0 p1 p2 p3 p4 e1 e2 hGE5
                  have p0 : w6.cell? ⟨GR, 0, none⟩ = some (.int .i64 (P 0 : Int)) := pv_cell I6.out.parts (show 0 < 5 by omega)
                  have p1 : w6.cell? ⟨GR, 1, none⟩ = some (.int .i64 (P 1 : Int)) := pv_cell I6.out.parts (show 1 < 5 by omega)
                  have p2 : w6.cell? ⟨GR, 2, none⟩ = some (.int .i64 (P 2 : Int)) := pv_cell I6.out.parts (show 2 < 5 by omega)
                  have p3 : w6.cell? ⟨GR, 3, none⟩ = some (.int .i64 (P 3 : Int)) := pv_cell I6.out.parts (show 3 < 5 by omega)
                  have p4 : w6.cell? ⟨GR, 4, none⟩ = some (.int .i64 (P 4 : Int)) := pv_cell I6.out.parts (show 4 < 5 by omega)
                  have e1 : w6.cell? ⟨GE, 0, none⟩ = some (.int .i64 (y.1 : Int)) := by simp [World.cell?, E6.out.1]
                  have e2 : w6.cell? ⟨GE, 1, none⟩ = some (.int .i64 (y.2 : Int)) := by simp [World.cell?, E6.out.1]
                  go_wp2_with fail
                  refine (CJ.out w6).mono ?_
                  rintro e w7 ⟨rfl, b7⟩
                  have I7 := Lib.hid (I6.out.up (b7.mono I6.out.gr))
                  clear b7 CJ I6 E6 p0 p1 p2 p3 p4 e1 e2
                  have p0 : w7.cell? ⟨GR, 0, none⟩ = some (.int .i64 (P 0 : Int)) := pv_cell I7.out.parts (show 0 < 5 by omega)
                  have p1 : w7.cell? ⟨GR, 1, none⟩ = some (.int .i64 (P 1 : Int)) := pv_cell I7.out.parts (show 1 < 5 by omega)
                  have p2 : w7.cell? ⟨GR, 2, none⟩ = some (.int .i64 (P 2 : Int)) := pv_cell I7.out.parts (show 2 < 5 by omega)
                  have p3 : w7.cell? ⟨GR, 3, none⟩ = some (.int .i64 (P 3 : Int)) := pv_cell I7.out.parts (show 3 < 5 by omega)
                  have p4 : w7.cell? ⟨GR, 4, none⟩ = some (.int .i64 (P 4 : Int)) := pv_cell I7.out.parts (show 4 < 5 by omega)
                  have f0 := frozen_of_row w7 GR 0 _ _ I7.out.parts
                  have f1 := frozen_of_row w7 GR 1 _ _ I7.out.parts
                  have f2 := frozen_of_row w7 GR 2 _ _ I7.out.parts
                  have f3 := frozen_of_row w7 GR 3 _ _ I7.out.parts
                  have f4 := frozen_of_row w7 GR 4 _ _ I7.out.parts
                  have HQ8 : Hid (InP w w1 (((((w7.setCell ⟨GR, 0, none⟩ (.int .i64 (Q 0 : Int))).setCell ⟨GR, 1, none⟩ (.int .i64 (Q 1 : Int))).setCell ⟨GR, 2, none⟩ (.int .i64 (Q 2 : Int))).setCell ⟨GR, 3, none⟩ (.int .i64 (Q 3 : Int))).setCell ⟨GR, 4, none⟩ (.int .i64 (Q 4 : Int))) B H1 GR u7 S (partsK E s (k + 1))) := by
                    have I8 := I7.out.store Q
                    show InP _ _ _ _ _ _ _ _ _
                    rw [HS1.out]
                    exact I8
                  clear I7
                  go_wp2
                  go_roundg g2
                  case measure => omega
                  case rel => exact ⟨k + 1, by omega, by go_num, HF2, HQ8⟩
              · rw [decide_eq_false hbit] at CI
                obtain ⟨sp1, sp2⟩ := (SOh.out hbit).out
                have HF2 : Hid (freeK E s (k + 1) = true) := sp2.trans HF.out
                rw [← sp1] at I5
                clear hbit sp1 sp2 SOh SIh CJ CH
                go_wp2_with fail
                refine (CI.out w5).mono ?_
                rintro e w6 ⟨rfl, rfl⟩
                clear CI
                go_wp2
                go_roundg g2
                case measure => omega
                case rel => exact ⟨k + 1, by omega, by go_num, HF2, I5⟩
        · have q1 : ((z : Int) == (N : Int) - 1) = false := by rw [beq_eq_false_iff_ne]; omega
          have q2 : ((z : Int) != (N : Int) - 1) = true := by rw [bne, q1]; rfl
          have hno : ¬ isSpanP N M E s = true := by unfold isSpanP; rw [← HZ.out, decide_eq_false hzN]; simp
          rw [if_neg hno] at FS
          have HO2 := HO
          rw [← FS] at HO2
          clear hzN hno FS HO
          go_wp2_with fail
          refine (CO.out wr).mono ?_
          rintro e w2 ⟨rfl, rfl⟩
          clear CO
          go_wp2
          go_roundg g
          case measure => omega
          case rel => exact ⟨s + 1, by omega, by go_num, HO2, HBw, HBr⟩
end Go.Proofs.Ytohbkpccfhciaaa
