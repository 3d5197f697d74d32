/-
  What a branch weighs, as the program finds it: most pairs.
  What the join of weights answers: most pairs.
-/
import Derived.Test.YtafdlilojlmchaaZBP
import Derived.Test.YtafdlilojlmchaaZW
import Derived.Test.YtafdlilojlmchaaZJA
namespace Go.Proofs.Ytafdlilojlmchaa
open Go.RowKit

def valP (E : Edges) (d u : Nat) (fr : Int) : List Int := [(((pairF E d u fr).2 : Nat) : Int), (((pairF E d u fr).1 : Nat) : Int)]
theorem valP_len (E : Edges) (d u : Nat) (fr : Int) (k : Nat) : ∀ x ∈ wgK (valP E) E d u fr k, x.length = 2 := by
  intro x hx
  obtain ⟨y, _, rfl⟩ := List.mem_map.1 hx
  rfl
theorem Try.infoWP : (Try.prog.info? 82).map (fun i => (i.zero, i.size, i.bytes)) = some (some (.agg #[.int .i64 0, .int .i64 0]), 2, 16) := by kernel_rfl
/-- what the join of branches' weights answers -/
def JoinP (n : Nat) (E : Edges) : Prop := ∀ (d u : Nat) (fr : Int), u < n → Brn E (d + 1) u fr → sz E (d + 1) u fr ≤ 7 → ∀ (m : Nat) (v : Value) (w : World) (B H : Nat), m = (away E u fr).length → m ≤ 128 → Hid (SRow w B H 82 2 v m (wgK (valP E) E d u fr m)) → H ≤ w.heap.size →
  Calls Try.prog 52 #[v] w fun e w' => e = .returned (.agg #[.int .i64 (((pairF E (d + 1) u fr).2 : Nat) : Int), .int .i64 (((pairF E (d + 1) u fr).1 : Nat) : Int)]) ∧ Below w.heap.size w w'

set_option maxHeartbeats 3200000 in
set_option maxRecDepth 100000 in
theorem weighP_p (n : Nat) (E : Edges) (ho : Hid (∀ e ∈ E, e.1 < n ∧ e.2 < n)) (hE : E.length ≤ 64) (HJ : Hid (JoinP n E)) : ∀ (d u : Nat) (fr : Int), u < n → d ≤ 64 → Hid (Brn E d u fr) → Hid (sz E d u fr ≤ 7) → ∀ (tv : Value) (RV : List Value) (w : World) (B0 H0 : Nat), Hid (Grid w B0 H0 tv RV (nbR n E)) → H0 ≤ w.heap.size →
    Calls Try.prog 73 #[tv, .agg #[.int .i64 (u : Int), .int .i64 fr], .func (.func 52) #[] #[]] w fun e w' => e = .returned (.agg #[.int .i64 (((pairF E d u fr).2 : Nat) : Int), .int .i64 (((pairF E d u fr).1 : Nat) : Int)]) ∧ Below w.heap.size w w' := by
  obtain ⟨i0, hi, hz0, hz1, hz2⟩ := info_parts Try.infoWP
  intro d
  induction d with
  | zero => intro u fr _ _ h; exact h.out.elim
  | succ d ih =>
    intro u fr hu hd hB h7 tv RV w B0 H0 hG hH
    have CP := Lib.hid (fun (W : World) (hW : Below w.heap.size w W) => parts_p n E tv RV W (Lib.hid (hG.out.below (hW.mono hH))) (Nat.le_trans hH hW.size) u fr hu hE)
    have CL := Lib.hid (fun (x : Nat) (hx : x < n) (hb : Hid (Brn E d x u)) (hs : Hid (sz E d x u ≤ 7)) (W : World) (hW : Below w.heap.size w W) => ih x u hx (by omega) hb hs tv RV W B0 H0 (Lib.hid (hG.out.below (hW.mono hH))) (Nat.le_trans hH hW.size))
    obtain ⟨ga, cv, au, cu, rfl, _⟩ := tree_row hG.out hu
    have HBK : Hid (∀ x ∈ away E u fr, Brn E d x u ∧ x < n ∧ sz E d x u ≤ 7) := fun x hx => ⟨hB.out x hx, (away_lt ho.out hx).1, Nat.le_trans (kid_sz (b := 7) (by have := h7.out; omega) hx) (Nat.le_refl _)⟩
    have CJ := Lib.hid (HJ.out d u fr hu hB.out h7.out)
    have hpl := prt_length E u fr
    have hal := away_len E u fr
    have h128 : (away E u fr).length ≤ 128 := by omega
    obtain ⟨m, hm⟩ : ∃ m, m = (away E u fr).length := ⟨_, rfl⟩
    have HM := Lib.hid hm
    have VL := Lib.hid (valP_len E d u fr)
    rw [← hm] at hpl h128
    have HPL := Lib.hid hpl
    obtain ⟨SZ, hSZ⟩ : ∃ SZ, SZ = w.heap.size := ⟨_, rfl⟩
    have HSZ := Lib.hid hSZ
    rw [← hSZ] at CP CL
    have R0 : Hid (((w.alloc (.cells #[.int .i64 (u : Int), .int .i64 fr] 92)).alloc (.cells #[.int .i64 0, .int .i64 0] 82)).heap[SZ + 1]? = some (.cells #[.int .i64 0, .int .i64 0] 82 (0, 0))) := by
      show _ = _; rw [hSZ]; exact heap_alloc2_new w _ _
    obtain ⟨GR, hGR⟩ : ∃ GR, GR = SZ + 1 := ⟨_, rfl⟩
    have HGR := Lib.hid hGR
    rw [← hGR] at R0
    clear hB hal hm hpl ih hG hH h7 HJ
    go_enter Try.func73, Try.ntmps73
    go_wp2_with fail
    have B1 : Hid (Below SZ w ((w.alloc (.cells #[.int .i64 (u : Int), .int .i64 fr] 92)).alloc (.cells #[.int .i64 0, .int .i64 0] 82))) := by
      show Below _ _ _; rw [HSZ.out]; exact ((Below.refl _ _).alloc (Nat.le_refl _) _).alloc (by rw [World.size_alloc]; omega) _
    refine (CP.out _ B1.out).mono ?_
    rintro e w1 ⟨v, rfl, hr, hb1⟩
    have S1 : Hid (SZ + 2 ≤ ((w.alloc (.cells #[.int .i64 (u : Int), .int .i64 fr] 92)).alloc (.cells #[.int .i64 0, .int .i64 0] 82)).heap.size) := by show _ ≤ _; rw [HSZ.out, World.size_alloc, World.size_alloc]; omega
    have B2 : Hid (Below SZ w w1) := B1.out.trans (hb1.mono (by have := S1.out; omega))
    have R2 := Lib.hid (hr.lo (B' := SZ) (by have := S1.out; omega))
    have RR := Lib.hid (zero_block R0.out hb1)
    obtain ⟨ao, c6, rfl, _⟩ := hr.slice
    rw [HPL.out] at R2 ⊢
    have S2 : Hid (SZ + 2 ≤ w1.heap.size) := Nat.le_trans S1.out hb1.size
    obtain ⟨C, hC⟩ : ∃ C, C = w1.heap.size := ⟨_, rfl⟩
    have HC := Lib.hid hC
    have O0 : Hid (w1.ownsRow C 82 2 (.slice none 0 0) 0 (flatS (wgK (valP E) E d u fr 0))) := World.ownsRow_nil _ _ _ _
    have e5 : w.heap.size + 1 = GR := by rw [hGR, hSZ]
    try rw [e5]
    clear hr hb1 B1 S1 CP hC R0 e5 hGR hSZ
    go_wp2_with fail
    go_loopw [7, 9, 14] (fun e7 e9 ii wr => ∃ (k : Nat) (a : Option Addr) (c : Nat), k ≤ m ∧ ii = .int .i64 k ∧ e7 = .slice a k c ∧ Hid (wr.ownsRow C 82 2 (.slice a k c) k (flatS (wgK (valP E) E d u fr k))) ∧ Hid (Below C w1 wr)) (fun _ _ ii _ => m - (intOf ii).toNat)
    case atStart => exact ⟨0, none, 0, Nat.zero_le _, rfl, rfl, O0, Below.refl _ _⟩
    case round =>
      clear O0
      obtain ⟨k, a, c, hk, rfl, rfl, HO, HB⟩ := hrel
      by_cases hlt : k < m
      · have b1 : (k : Int) < (m : Int) := by omega
        have hka : k < (away E u fr).length := by rw [← HM.out]; exact hlt
        have hkp : k < (prt E (u, fr)).length := by rw [HPL.out]; exact hlt
        obtain ⟨g, c', e1, _, _, hg, c1, c2⟩ := (R2.out.below (HB.out.mono (by rw [HC.out]; exact Nat.le_refl _))).at_ k hkp
        rw [HPL.out] at e1
        simp only [Value.slice.injEq] at e1
        obtain ⟨rfl, _, rfl⟩ := e1
        rw [prt_at hkp] at c1 c2
        have FN := wgK_next (V := valP E) (d := d) hka
        have hx1 := HBK.out _ (List.getElem_mem hka)
        obtain ⟨x, hx⟩ : ∃ x, x = (away E u fr)[k] := ⟨_, rfl⟩
        rw [← hx] at c1 FN hx1
        replace c1 : wr.cell? ⟨g, k * 2, none⟩ = some (.int .i64 (x : Int)) := c1
        replace c2 : wr.cell? ⟨g, k * 2 + 1, none⟩ = some (.int .i64 (u : Int)) := c2
        have CX := CL.out x hx1.2.1 (Lib.hid hx1.1) (Lib.hid hx1.2.2)
        have FV : Hid (flatS (wgK (valP E) E d u fr (k + 1)) = flatS (wgK (valP E) E d u fr k) ++ [.int .i64 (((pairF E d x u).2 : Nat) : Int), .int .i64 (((pairF E d x u).1 : Nat) : Int)]) := by show _ = _; rw [FN, flatS_append, flatS_one]; rfl
        obtain ⟨p0, hp0⟩ : ∃ p0 : Int, p0 = (((pairF E d x u).2 : Nat) : Int) := ⟨_, rfl⟩
        rw [← hp0] at CX FV
        obtain ⟨p1, hp1⟩ : ∃ p1 : Int, p1 = (((pairF E d x u).1 : Nat) : Int) := ⟨_, rfl⟩
        rw [← hp1] at CX FV
        have CX := Lib.hid CX
        have sC : Hid (C ≤ wr.heap.size) := by have := HB.out.size; show _ ≤ _; rw [HC.out]; rw [HC.out] at *; exact this
        have sS : Hid (SZ ≤ C) := by have := S2.out; show _ ≤ _; rw [HC.out]; omega
        have BW : Hid (Below SZ w (wr.alloc (.cells #[.int .i64 (x : Int), .int .i64 (u : Int)] 92))) := (B2.out.trans (HB.out.mono sS.out)).alloc (Nat.le_trans sS.out sC.out) _
        have z1 : k + 1 ≤ maxLen := by unfold maxLen; omega
        have z2 : (k + 1) * 16 ≤ 140737488355328 := by omega
        clear hp0 hp1 hx hx1 hka hkp CL FN
        go_wp2_with fail
        refine (CX.out _ BW.out).mono ?_
        rintro e w2 ⟨rfl, hb2⟩
        have hb3 : Below wr.heap.size wr w2 := ((Below.refl _ wr).alloc (Nat.le_refl _) _).trans (hb2.mono (by rw [World.size_alloc]; omega))
        have HB3 : Hid (Below C w1 w2) := HB.out.trans (hb3.mono sC.out)
        have HO3 : Hid (w2.ownsRow C 82 2 (.slice a k c) k (flatS (wgK (valP E) E d u fr k))) := own_blocks2 HO.out fun q hq => hb3.block q (HO.out.lt q hq).2
        have Y3 : Hid (∀ o : Obj, C ≤ (w2.alloc o).heap.size) := fun o => by have := hb3.size; have := sC.out; rw [World.size_alloc]; omega
        have Y4 : Hid (∀ o : Obj, (w2.alloc o).heap.size = w2.heap.size + 1) := fun o => World.size_alloc _ _
        have sC2 : Hid (C ≤ w2.heap.size) := Nat.le_trans sC.out hb3.size
        have NW := Lib.hid (World.news_of_block (heap_alloc_new w2 (.cells #[.int .i64 p0, .int .i64 p1] 82)))
        have ON : Hid (∀ y ∈ [Value.int .i64 p0, Value.int .i64 p1], y.oneCell' = true) := by intro y hy; simp at hy; rcases hy with rfl | rfl <;> rfl
        clear hb2 hb3 HB HO CX c1 c2 BW sC
        go_wp2_with (at_builtin; refine wpList_append_lies _ rfl (.tmp 18) (.tmp 23) 118 rfl C 82 i0 (.agg #[.int .i64 0, .int .i64 0]) 2 16 Try.underlying118 hi hz0 hz1 hz2 rfl (by decide) _ k (flatS (wgK (valP E) E d u fr k)) rfl (HO3.out.alloc _) ⟨w2.heap.size, 0, none⟩ 1 1 [.int .i64 p0, .int .i64 p1] rfl rfl NW.out ON.out (by decide) z1 z2 (Y3.out _) (w2.heap.size + 1) (Y4.out _) ?_)
        intro g5 c5 w5 hv5 hg5 _ _
        have HO5 : Hid (w5.ownsRow C 82 2 (.slice (some ⟨g5, 0, none⟩) (k + 1) c5) (k + 1) (flatS (wgK (valP E) E d u fr (k + 1)))) := by
          show World.ownsRow _ _ _ _ _ _ _
          rw [FV.out]; exact hv5
        have HB5 : Hid (Below C w1 w5) := (HB3.out.alloc sC2.out _).grown hg5 (Y3.out _) (fun q hq => (HO3.out.lt q hq).1)
        clear hv5 hg5 HB3 HO3 Y3 Y4 sC2 NW ON
        go_wp2
        go_roundw
        case rel => exact ⟨k + 1, _, _, by omega, by go_num, rfl, HO5, HB5⟩
        case measure => simp [intOf]; omega
      · obtain rfl : k = m := by omega
        have sC : Hid (C ≤ wr.heap.size) := by have := HB.out.size; show _ ≤ _; rw [HC.out]; rw [HC.out] at *; exact this
        have sS : Hid (SZ + 2 ≤ C) := by have := S2.out; show _ ≤ _; rw [HC.out]; omega
        have hml : (wgK (valP E) E d u fr k).length = k := by unfold wgK; rw [List.length_map, List.length_take, ← HM.out]; omega
        have HS := Lib.hid (SRow.of HO.out hml (VL.out k))
        have BFW : Hid (Below SZ w wr) := B2.out.trans (HB.out.mono (by have := sS.out; omega))
        have RW : Hid (wr.heap[GR]? = some (.cells #[.int .i64 0, .int .i64 0] 82 (0, 0))) := zero_below RR.out (by have := HGR.out; have := sS.out; omega) HB.out
        have CJ2 := Lib.hid (CJ.out k (.slice a k c) wr C wr.heap.size HM.out h128 HS (Nat.le_refl _))
        clear CL HBK R2 CJ HO hml HS VL HPL S2 RR
        go_wp2_with fail
        refine CJ2.out.mono ?_
        rintro e w9 ⟨rfl, hb9⟩
        have BF9 : Hid (Below SZ w w9) := BFW.out.trans (hb9.mono (by have := sS.out; have := sC.out; omega))
        have hrz := zero_block RW.out hb9
        obtain ⟨p0, hp0⟩ : ∃ p0 : Int, p0 = (((pairF E (d + 1) u fr).2 : Nat) : Int) := ⟨_, rfl⟩
        obtain ⟨p1, hp1⟩ : ∃ p1 : Int, p1 = (((pairF E (d + 1) u fr).1 : Nat) : Int) := ⟨_, rfl⟩
        have HP0 := Lib.hid hp0
        have HP1 := Lib.hid hp1
        simp only [← hp0, ← hp1]
        have y0 : w9.cell? ⟨GR, 0, none⟩ = some (.int .i64 0) := by simp [World.cell?, hrz]
        have f0 := frozen_of_row w9 GR 0 _ _ hrz
        have y1 : w9.cell? ⟨GR, 1, none⟩ = some (.int .i64 0) := by simp [World.cell?, hrz]
        have f1 := frozen_of_row w9 GR 1 _ _ hrz
        have r0 := heap_setCell_same _ GR 0 _ _ (.int .i64 p0) hrz
        have r1 := heap_setCell_same _ GR 1 _ _ (.int .i64 p1) r0
        have RL := Lib.hid r1
        have hge : SZ ≤ GR := by have := HGR.out; omega
        have D0 := BF9.out
        have D1 := D0.setCell (p := ⟨GR, 0, none⟩) hge (.int .i64 p0)
        have D2 := D1.setCell (p := ⟨GR, 1, none⟩) hge (.int .i64 p1)
        have BB := Lib.hid D2
        clear hrz r0 r1 D0 D1 D2 hp0 hp1 hge BF9 BFW RW hb9 CJ2
        go_wp2
        refine bodyPost_ret (results_cell_row rfl _ _ GR _ _ _ _ rfl RL.out Try.underlying82 rfl (by kernel_rfl)) rfl ?_
        exact ⟨by rw [← HP0.out]; rw [← HP1.out]; rfl, by rw [← HSZ.out]; exact BB.out⟩
end Go.Proofs.Ytafdlilojlmchaa

namespace Go.Proofs.Ytafdlilojlmchaa
open Go.RowKit

def fsK (E : Edges) (d u : Nat) (fr : Int) (k : Nat) : Nat := (((away E u fr).take k).map fun x => (pairF E d x u).1).sum
def msK (E : Edges) (d u : Nat) (fr : Int) (k : Nat) : Nat := ((away E u fr).map fun x => (pairF E d x u).1).sum + if (((away E u fr).take k).any fun x => decide ((pairF E d x u).2 = (pairF E d x u).1)) = true then 1 else 0
theorem fsK_next {E : Edges} {d u k : Nat} {fr : Int} (hk : k < (away E u fr).length) : fsK E d u fr (k + 1) = fsK E d u fr k + (pairF E d (away E u fr)[k] u).1 := by
  unfold fsK
  rw [List.take_succ_eq_append_getElem hk, List.map_append, List.sum_append]; simp
theorem msK_next {E : Edges} {d u k m : Nat} {fr : Int} (hm : m = (away E u fr).length) (hB : Brn E (d + 1) u fr) (hk : k < (away E u fr).length) : (msK E d u fr (k + 1) : Int) = max (msK E d u fr k : Int) ((fsK E d u fr m : Int) - (pairF E d (away E u fr)[k] u).1 + (pairF E d (away E u fr)[k] u).2 + 1) := by
  have h1 := (alone_pair d _ _ (hB _ (List.getElem_mem hk))).2.2.1
  unfold msK fsK
  rw [hm, List.take_length, List.take_succ_eq_append_getElem hk, List.any_append]
  generalize ((away E u fr).map fun x => (pairF E d x u).1).sum = F
  generalize (((away E u fr).take k).any fun x => decide ((pairF E d x u).2 = (pairF E d x u).1)) = b
  simp only [List.any_cons, List.any_nil, Bool.or_false, Bool.or_eq_true, decide_eq_true_eq]
  generalize pairF E d (away E u fr)[k] u = p at h1 ⊢
  rcases h1 with h1 | h1
  · rw [if_pos (.inr h1.symm)]
    split <;> omega
  · cases b with
    | true => rw [if_pos (.inl rfl), if_pos rfl]; omega
    | false => rw [if_neg (by rintro (q | q); exact absurd q (by decide); omega), if_neg (by decide)]; omega
theorem fsK_le {E : Edges} {d u : Nat} {fr : Int} (hB : Brn E (d + 1) u fr) (h7 : sz E (d + 1) u fr ≤ 7) (k : Nat) : fsK E d u fr k ≤ 6 := by
  have h0 := kids_szT (E := E) (d := d) (u := u) (fr := fr) k (b := 6) h7
  have hm := (List.take_sublist k (away E u fr)).subset
  have h1 := sum_le2 (L := (away E u fr).take k) (f := fun x => (pairF E d x u).1) (g := fun x => sz E d x u) fun x hx => (aln_le (hB x (hm hx))).2.2.1
  unfold fsK
  omega
theorem msK_le {E : Edges} {d u : Nat} {fr : Int} (hB : Brn E (d + 1) u fr) (h7 : sz E (d + 1) u fr ≤ 7) (k : Nat) : msK E d u fr k ≤ 7 := by
  have h1 := fsK_le hB h7 (away E u fr).length
  unfold fsK at h1
  rw [List.take_length] at h1
  unfold msK
  split <;> omega
set_option maxRecDepth 100000 in
set_option maxHeartbeats 3200000 in
theorem joinP_p (n : Nat) (E : Edges) : JoinP n E := by
  intro d u fr hu hB h7 m v w B H hm hm128 hR hH
  have FN := Lib.hid (fun k hk => fsK_next (E := E) (d := d) (u := u) (fr := fr) (k := k) hk)
  have MN := Lib.hid (fun k hk => msK_next (E := E) (d := d) (u := u) (fr := fr) (k := k) hm hB hk)
  have FL := Lib.hid (fsK_le hB h7)
  have ML := Lib.hid (msK_le hB h7)
  have M0 : Hid (msK E d u fr 0 = fsK E d u fr m) := by show _ = _; unfold msK fsK; rw [hm, List.take_length]; simp
  have HF : Hid (pairF E (d + 1) u fr = (msK E d u fr m, fsK E d u fr m)) := by show _ = _; rw [pairF_at]; unfold msK fsK freeK; rw [hm, List.take_length]
  have PL : Hid (∀ x ∈ away E u fr, (pairF E d x u).1 ≤ 7 ∧ (pairF E d x u).2 ≤ 7) := fun x hx => by
    have h1 := aln_le (hB x hx)
    have h2 := kid_sz (b := 7) (by omega : sz E (d + 1) u fr ≤ 8) hx
    omega
  have HM := Lib.hid hm
  have hml : (wgK (valP E) E d u fr m).length = m := by unfold wgK; rw [List.length_map, List.length_take]; omega
  have HML := Lib.hid hml
  obtain ⟨ao, cap, rfl⟩ := hR.out.slice
  obtain ⟨SZ, hSZ⟩ : ∃ SZ, SZ = w.heap.size := ⟨_, rfl⟩
  have HSZ := Lib.hid hSZ
  have HH : Hid (H ≤ SZ) := by show _ ≤ _; omega
  obtain ⟨W0, hW0⟩ : ∃ W0, W0 = w.alloc (.cells #[.int .i64 0, .int .i64 0] 82) := ⟨_, rfl⟩
  have B0 : Hid (Below SZ w W0) := by show Below _ _ _; rw [hW0, hSZ]; exact (Below.refl _ _).alloc (Nat.le_refl _) _
  have R0 : Hid (W0.heap[SZ]? = some (.cells #[.int .i64 0, .int .i64 0] 82 (0, 0))) := by show _ = _; rw [hW0, hSZ]; exact heap_alloc_new w _
  have S0 : Hid (SZ + 1 ≤ W0.heap.size) := by show _ ≤ _; rw [hW0, World.size_alloc, hSZ]; exact Nat.le_refl _
  clear hH hml hm hB h7 hu
  go_enter Try.func52, Try.ntmps52
  go_wp2_with fail
  simp only [← hW0, ← hSZ]
  clear hW0 hSZ
  go_loopw [3, 5, 11] (fun e3 e5 ii wr => ∃ (k a : Nat), k ≤ m ∧ ii = .int .i64 k ∧ e3 = .int .i64 (a : Int) ∧ Hid (a = fsK E d u fr k) ∧ Hid (wr.heap[SZ]? = some (.cells #[.int .i64 0, .int .i64 0] 82 (0, 0))) ∧ Hid (Below SZ w wr) ∧ Hid (SZ + 1 ≤ wr.heap.size)) (fun _ _ ii _ => m - (intOf ii).toNat)
  case atStart => exact ⟨0, 0, Nat.zero_le _, rfl, rfl, by show _ = _; simp [fsK], R0, B0, S0⟩
  case round =>
    clear R0 B0 S0
    obtain ⟨k, a, hk, rfl, rfl, HA, HRZ, HB, HS⟩ := hrel
    by_cases hlt : k < m
    · skip
      have b1 : (k : Int) < (m : Int) := by omega
      have hka : k < (away E u fr).length := by rw [← HM.out]; exact hlt
      have hkl : k < (wgK (valP E) E d u fr m).length := by rw [HML.out]; exact hlt
      obtain ⟨g, c', e1, hg, hc⟩ := (hR.out.below (HB.out.mono HH.out)).at_ k hlt hkl
      simp only [Value.slice.injEq] at e1
      obtain ⟨rfl, _, rfl⟩ := e1
      rw [wgK_at (by rw [HM.out]; exact Nat.le_refl _) hkl] at hc
      have c0 : wr.cell? ⟨g, k * 2, none⟩ = some (.int .i64 ((((pairF E d (away E u fr)[k] u).2) : Nat) : Int)) := hc 0 (by decide)
      have c1 : wr.cell? ⟨g, k * 2 + 1, none⟩ = some (.int .i64 ((((pairF E d (away E u fr)[k] u).1) : Nat) : Int)) := hc 1 (by decide)
      have hp := PL.out _ (List.getElem_mem hka)
      have hn := FN.out k hka
      have hl := FL.out k
      rw [← HA.out] at hn hl
      obtain ⟨⟨y, x⟩, hyx⟩ : ∃ z, z = pairF E d (away E u fr)[k] u := ⟨_, rfl⟩
      rw [← hyx] at c0 c1 hp hn
      replace c0 : wr.cell? ⟨g, k * 2, none⟩ = some (.int .i64 (x : Int)) := c0
      replace c1 : wr.cell? ⟨g, k * 2 + 1, none⟩ = some (.int .i64 (y : Int)) := c1
      have hy7 : y ≤ 7 := hp.1
      have e2 : IntKind.i64.wrap ((a : Int) + (y : Int)) = ((a + y : Nat) : Int) := by rw [IntKind.wrap_i64]; omega
      obtain ⟨a2, ha2⟩ : ∃ a2, a2 = a + y := ⟨_, rfl⟩
      have HN : Hid (a2 = fsK E d u fr (k + 1)) := by show _ = _; rw [hn, ha2]
      rw [← ha2] at e2
      clear ha2 hyx hn hp hl hka hkl hc hy7 FN MN FL ML PL HF M0
      go_upto_region 5 with fail
      obtain ⟨GP, hGP⟩ : ∃ GP, GP = wr.heap.size := ⟨_, rfl⟩
      obtain ⟨w1, hw1⟩ : ∃ w1, w1 = wr.alloc (.cells #[.int .i64 (x : Int), .int .i64 (y : Int)] 82) := ⟨_, rfl⟩
      have P1 : Hid (w1.heap[GP]? = some (.cells #[.int .i64 (x : Int), .int .i64 (y : Int)] 82 (0, 0))) := by show _ = _; rw [hw1, hGP]; exact heap_alloc_new _ _
      have R1 : Hid (w1.heap[SZ]? = some (.cells #[.int .i64 0, .int .i64 0] 82 (0, 0))) := by show _ = _; rw [hw1]; exact (Below.heap_alloc _ _ _ (Array.getElem?_eq_some_iff.1 HRZ.out).1).trans HRZ.out
      have B1 : Hid (Below SZ w w1) := by show Below _ _ _; rw [hw1]; exact HB.out.alloc (by have := HS.out; omega) _
      have S1 : Hid (SZ + 1 ≤ w1.heap.size) := by show _ ≤ _; rw [hw1, World.size_alloc]; have := HS.out; omega
      simp only [← hGP, ← hw1]
      clear hGP hw1 HRZ HB HS c0 c1
      have p0 : w1.cell? ⟨GP, 0, none⟩ = some (.int .i64 (x : Int)) := by simp [World.cell?, P1.out]
      have p1 : w1.cell? ⟨GP, 1, none⟩ = some (.int .i64 (y : Int)) := by simp [World.cell?, P1.out]
      clear P1
      go_wp2
      go_roundw
      case rel => exact ⟨k + 1, a2, by omega, by go_num, by first | rfl | rw [e2], HN, R1, B1, S1⟩
      case measure => simp [intOf]; omega
    · obtain rfl : k = m := by omega
      have R0 := HRZ
      have B0 := HB
      have S0 := HS
      have hfl := FL.out k
      rw [← HA.out] at MN M0 HF hfl
      have hfl : a ≤ 6 := hfl
      obtain ⟨w2, hw2⟩ : ∃ w2, w2 = wr := ⟨_, rfl⟩
      rw [← hw2] at R0 B0 S0 ⊢
      clear HRZ HB HS FN FL HA hw2
      go_wp2_with fail
      go_loopw [6, 8, 23] (fun e6 e8 ii wr => ∃ (q b : Nat), q ≤ k ∧ ii = .int .i64 q ∧ e6 = .int .i64 (b : Int) ∧ Hid (b = msK E d u fr q) ∧ Hid (wr.heap[SZ]? = some (.cells #[.int .i64 0, .int .i64 0] 82 (0, 0))) ∧ Hid (Below SZ w wr) ∧ Hid (SZ + 1 ≤ wr.heap.size)) (fun _ _ ii _ => k - (intOf ii).toNat)
      case atStart => exact ⟨0, a, Nat.zero_le _, rfl, rfl, M0.out.symm, R0, B0, S0⟩
      case round =>
        clear R0 B0 S0 M0
        obtain ⟨q, b, hq, rfl, rfl, HA, HRZ, HB, HS⟩ := hrel
        obtain ⟨m, hmk⟩ : ∃ m, m = k := ⟨_, rfl⟩
        subst hmk
        obtain ⟨k, hkq⟩ : ∃ k, k = q := ⟨_, rfl⟩
        subst hkq
        by_cases hlt : k < m
        · skip
          have b1 : (k : Int) < (m : Int) := by omega
          have hka : k < (away E u fr).length := by rw [← HM.out]; exact hlt
          have hkl : k < (wgK (valP E) E d u fr m).length := by rw [HML.out]; exact hlt
          obtain ⟨g, c', e1, hg, hc⟩ := (hR.out.below (HB.out.mono HH.out)).at_ k hlt hkl
          simp only [Value.slice.injEq] at e1
          obtain ⟨rfl, _, rfl⟩ := e1
          rw [wgK_at (by rw [HM.out]; exact Nat.le_refl _) hkl] at hc
          have c0 : wr.cell? ⟨g, k * 2, none⟩ = some (.int .i64 ((((pairF E d (away E u fr)[k] u).2) : Nat) : Int)) := hc 0 (by decide)
          have c1 : wr.cell? ⟨g, k * 2 + 1, none⟩ = some (.int .i64 ((((pairF E d (away E u fr)[k] u).1) : Nat) : Int)) := hc 1 (by decide)
          have hp := PL.out _ (List.getElem_mem hka)
          have hn := MN.out k hka
          have hl := ML.out k
          rw [← HA.out] at hn hl
          obtain ⟨⟨y, x⟩, hyx⟩ : ∃ z, z = pairF E d (away E u fr)[k] u := ⟨_, rfl⟩
          rw [← hyx] at c0 c1 hp hn
          replace c0 : wr.cell? ⟨g, k * 2, none⟩ = some (.int .i64 (x : Int)) := c0
          replace c1 : wr.cell? ⟨g, k * 2 + 1, none⟩ = some (.int .i64 (y : Int)) := c1
          replace hn : (msK E d u fr (k + 1) : Int) = max (b : Int) ((a : Int) - (y : Int) + (x : Int) + 1) := hn
          obtain ⟨hy7, hx7⟩ : y ≤ 7 ∧ x ≤ 7 := hp
          obtain ⟨x1, hx1⟩ : ∃ x1, x1 = (a : Int) - (y : Int) := ⟨_, rfl⟩
          obtain ⟨x2, hx2⟩ : ∃ x2, x2 = x1 + (x : Int) := ⟨_, rfl⟩
          obtain ⟨x3, hx3⟩ : ∃ x3, x3 = x2 + 1 := ⟨_, rfl⟩
          have e1 : IntKind.i64.wrap ((a : Int) - (y : Int)) = x1 := by rw [IntKind.wrap_i64]; omega
          have e2 : IntKind.i64.wrap (x1 + (x : Int)) = x2 := by rw [IntKind.wrap_i64]; omega
          have e3 : IntKind.i64.wrap (x2 + 1) = x3 := by rw [IntKind.wrap_i64]; omega
          rw [← hx1, ← hx2, ← hx3] at hn
          obtain ⟨b2, hb2⟩ : ∃ b2, b2 = msK E d u fr (k + 1) := ⟨_, rfl⟩
          have HN := Lib.hid hb2
          rw [← hb2] at hn
          have HX := Lib.hid hn
          clear hb2 hyx hn hl hka hkl hc hy7 hx7 hx1 hx2 hx3 MN ML PL HF
          go_upto_region 11 with fail
          obtain ⟨GP, hGP⟩ : ∃ GP, GP = wr.heap.size := ⟨_, rfl⟩
          obtain ⟨w1, hw1⟩ : ∃ w1, w1 = wr.alloc (.cells #[.int .i64 (x : Int), .int .i64 (y : Int)] 82) := ⟨_, rfl⟩
          have P1 : Hid (w1.heap[GP]? = some (.cells #[.int .i64 (x : Int), .int .i64 (y : Int)] 82 (0, 0))) := by show _ = _; rw [hw1, hGP]; exact heap_alloc_new _ _
          have R1 : Hid (w1.heap[SZ]? = some (.cells #[.int .i64 0, .int .i64 0] 82 (0, 0))) := by show _ = _; rw [hw1]; exact (Below.heap_alloc _ _ _ (Array.getElem?_eq_some_iff.1 HRZ.out).1).trans HRZ.out
          have B1 : Hid (Below SZ w w1) := by show Below _ _ _; rw [hw1]; exact HB.out.alloc (by have := HS.out; omega) _
          have S1 : Hid (SZ + 1 ≤ w1.heap.size) := by show _ ≤ _; rw [hw1, World.size_alloc]; have := HS.out; omega
          simp only [← hGP, ← hw1]
          clear hGP hw1 HRZ HB HS c0 c1
          have p0 : w1.cell? ⟨GP, 0, none⟩ = some (.int .i64 (x : Int)) := by simp [World.cell?, P1.out]
          have p1 : w1.cell? ⟨GP, 1, none⟩ = some (.int .i64 (y : Int)) := by simp [World.cell?, P1.out]
          clear P1
          rcases Int.lt_trichotomy (b : Int) x3 with h9 | h9 | h9
          · have e9 : (b2 : Int) = x3 := by have := HX.out; omega
            have E9 := Lib.hid e9
            clear e9
            go_wp2
            go_roundw
            case rel => exact ⟨k + 1, b2, by omega, by go_num, by rw [E9.out], HN, R1, B1, S1⟩
            case measure => simp [intOf]; omega
          · have e9 : (b2 : Int) = x3 := by have := HX.out; omega
            have E9 := Lib.hid e9
            subst h9
            clear e9
            go_wp2
            go_roundw
            case rel => exact ⟨k + 1, b2, by omega, by go_num, by rw [E9.out], HN, R1, B1, S1⟩
            case measure => simp [intOf]; omega
          · have e9 : (b2 : Int) = b := by have := HX.out; omega
            have E9 := Lib.hid e9
            clear e9
            go_wp2
            go_roundw
            case rel => exact ⟨k + 1, b2, by omega, by go_num, by rw [E9.out], HN, R1, B1, S1⟩
            case measure => simp [intOf]; omega
        · obtain rfl : k = m := by omega
          rw [← HA.out] at HF
          clear MN ML PL
          have hrz := HRZ.out
          have y0 : wr.cell? ⟨SZ, 0, none⟩ = some (.int .i64 0) := by simp [World.cell?, hrz]
          have f0 := frozen_of_row wr SZ 0 _ _ hrz
          have y1 : wr.cell? ⟨SZ, 1, none⟩ = some (.int .i64 0) := by simp [World.cell?, hrz]
          have f1 := frozen_of_row wr SZ 1 _ _ hrz
          have r0 := heap_setCell_same _ SZ 0 _ _ (.int .i64 (a : Int)) hrz
          have r1 := heap_setCell_same _ SZ 1 _ _ (.int .i64 (b : Int)) r0
          have RL := Lib.hid r1
          have D0 := HB.out
          have D1 := D0.setCell (p := ⟨SZ, 0, none⟩) (Nat.le_refl SZ) (.int .i64 (a : Int))
          have D2 := D1.setCell (p := ⟨SZ, 1, none⟩) (Nat.le_refl SZ) (.int .i64 (b : Int))
          have BB := Lib.hid D2
          clear hrz r0 r1 D0 D1 D2 HRZ HB HS
          go_wp2
          refine bodyPost_ret (results_cell_row rfl _ _ SZ _ _ _ _ rfl RL.out Try.underlying82 rfl (by kernel_rfl)) rfl ?_
          exact ⟨by rw [HF.out]; rfl, by rw [← HSZ.out]; exact BB.out⟩
end Go.Proofs.Ytafdlilojlmchaa
