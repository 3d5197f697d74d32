/-
  The contract of the model's count of spans, edge by edge.
-/
import Derived.Test.YtgboecnfghhooaaCCodeE
import Derived.Test.YtgboecnfghhooaaCVTree
import Derived.Test.YtgboecnfghhooaaZW
import Derived.Test.YtgboecnfghhooaaCGridA
namespace Go.Proofs.Ytgboecnfghhooaa
open Go.RowKit

theorem cutF_le : ∀ (f n : Nat) (E : Edges), cutF f n E ≤ 2 ^ f := by
  intro f
  induction f with
  | zero =>
    intro n E
    by_cases hn : n = 1
    · subst hn; rw [cutF_one]; decide
    · cases E with
      | nil => rw [cutF_nil _ _ hn]; decide
      | cons e r => unfold cutF; rw [if_neg hn]; exact Nat.zero_le _
  | succ f ih =>
    intro n E
    have hp : 2 ^ (f + 1) = 2 ^ f + 2 ^ f := by rw [Nat.pow_succ]; omega
    have h1 : 1 ≤ 2 ^ f := Nat.one_le_two_pow
    by_cases hn : n = 1
    · subst hn; rw [cutF_one]; omega
    · cases E with
      | nil => rw [cutF_nil _ _ hn]; omega
      | cons e r =>
        by_cases he : e.1 = e.2
        · rw [cutF_loop hn he]; have := ih n r; omega
        · rw [cutF_edge hn he]
          have := ih n r
          have := ih (n - 1) (r.map (joinE (min e.1 e.2) (max e.1 e.2)))
          omega
/-- rows of two numbers that can be read -/
def RdE (w : World) (H : Nat) (a : Option Addr) (E : Edges) : Prop :=
  ∀ (k : Nat) (hk : k < E.length), ∃ b off gr cr, a = some ⟨b, off, none⟩ ∧ b < H ∧ gr < H ∧ 2 ≤ cr ∧ w.cell? ⟨b, off + k, none⟩ = some (.slice (some ⟨gr, 0, none⟩) 2 cr) ∧ w.cell? ⟨gr, 0, none⟩ = some (.int .i64 (E[k].1 : Int)) ∧ w.cell? ⟨gr, 1, none⟩ = some (.int .i64 (E[k].2 : Int))
theorem RdE.below {w w' : World} {H : Nat} {a : Option Addr} {E : Edges} (h : RdE w H a E) (hb : Below H w w') : RdE w' H a E := fun k hk => by
  obtain ⟨b, off, gr, cr, h1, h2, h3, h4, c1, c2, c3⟩ := h k hk
  exact ⟨b, off, gr, cr, h1, h2, h3, h4, (hb.cell (p := ⟨b, off + k, none⟩) h2).trans c1, (hb.cell (p := ⟨gr, 0, none⟩) h3).trans c2, (hb.cell (p := ⟨gr, 1, none⟩) h3).trans c3⟩
theorem RdE.nil (w : World) (H : Nat) (a : Option Addr) : RdE w H a [] := fun k hk => absurd hk (by simp)
theorem RdE.tail {w : World} {H b off : Nat} {e : Nat × Nat} {r : Edges} (h : RdE w H (some ⟨b, off, none⟩) (e :: r)) : RdE w H (some ⟨b, off + 1, none⟩) r := fun k hk => by
  obtain ⟨b', off', gr, cr, h1, h2, h3, h4, c1, c2, c3⟩ := h (k + 1) (by simpa using hk)
  simp only [Option.some.injEq, Addr.mk.injEq] at h1
  obtain ⟨rfl, rfl, _⟩ := h1
  exact ⟨b, off + 1, gr, cr, rfl, h2, h3, h4, by rw [show off + 1 + k = off + (k + 1) by omega]; exact c1, c2, c3⟩
theorem RdE.of {w : World} {B H n c : Nat} {a : Option Addr} {RV : List Value} {E : Edges} (h : Grid w B H (.slice a n c) RV (rowsE E)) : RdE w H a E := fun k hk => by
  obtain ⟨ga, c', gr, cr, e1, h1, h2, _, _, h3, c1, c2, c3⟩ := edge_at h hk
  simp only [Value.slice.injEq] at e1
  exact ⟨ga, 0, gr, cr, e1.1, h1, h2, h3, by rw [Nat.zero_add]; exact c1, c2, c3⟩
/-- rows of the call's own that are filled -/
structure Jn (w0 w : World) (N g m c : Nat) (LV : List Value) (F : Edges) : Prop where
  grid : Grid w N w.heap.size (.slice (some ⟨g, 0, none⟩) m c) LV (rowsE F)
  len : F.length = m
  below : Below N w0 w
theorem pair_cell {w : World} {gr s x y : Nat} (hs : s < 2) (h0 : w.cell? ⟨gr, 0, none⟩ = some (.int .i64 (x : Int))) (h1 : w.cell? ⟨gr, 1, none⟩ = some (.int .i64 (y : Int))) : w.cell? ⟨gr, s, none⟩ = some (.int .i64 ((if s = 0 then x else y : Nat) : Int)) := by
  match s, hs with
  | 0, _ => exact h0
  | 1, _ => exact h1
theorem join_two (a b : Nat) (e : Nat × Nat) : ([e.1, e.2].take 2).map (phi a b) = [(joinE a b e).1, (joinE a b e).2] := rfl
theorem map_take (f : Nat × Nat → Nat × Nat) (r : Edges) (k : Nat) (h : k < r.length) : (r.take (k + 1)).map f = (r.take k).map f ++ [f r[k]] := by
  rw [List.take_succ_eq_append_getElem h, List.map_append]; rfl
theorem phi_lt {a b x n : Nat} (ha : a < n) (hx : x < n) : phi a b x < n := by unfold phi; split <;> (try split) <;> omega
theorem two_step (f : Nat → Nat) (x y s : Nat) (hs : s < 2) : (([x, y].take s).map f) ++ [f (if s = 0 then x else y)] = ([x, y].take (s + 1)).map f := by
  match s, hs with
  | 0, _ => rfl
  | 1, _ => rfl

set_option maxHeartbeats 6400000 in
set_option maxRecDepth 100000 in
theorem spanCut_any : ∀ (f n : Nat) (E : Edges) (a : Option Addr) (len cap H : Nat) (w : World), E.length = len → len ≤ f → f ≤ 8 → len ≤ cap → cap ≤ maxLen → (1 ≤ n ∧ n ≤ 5) → Hid (∀ e ∈ E, e.1 < n ∧ e.2 < n) → H ≤ w.heap.size → Hid (RdE w H a E) →
    Calls Try.prog 55 #[.int .i64 (n : Int), .slice a len cap] w fun e w' => e = .returned (.int .i64 (cutF f n E : Int)) ∧ Below w.heap.size w w' := by
  obtain ⟨i0, hi, hz0, hz1, hz2⟩ := info_parts Try.infoIntR
  obtain ⟨j0, hj, hy0, hy1, hy2⟩ := info_parts Try.infoRowR
  intro f
  induction f with
  | zero =>
    intro n E a len cap H w hE hlf hf8 hlc hcm hn hlt hH hR
    obtain rfl : len = 0 := by omega
    have : E = [] := List.eq_nil_of_length_eq_zero hE
    subst this
    by_cases h1 : n = 1
    · subst h1
      rw [cutF_one]
      clear hR hlt hE
      go_enter Try.func55, Try.ntmps55
      go_wp2
      go_ret
      exact ⟨rfl, Below.refl _ _⟩
    · rw [cutF_nil _ _ h1]
      have q1 : ((n : Int) == 1) = false := by rw [beq_eq_false_iff_ne]; omega
      clear hR hlt hE h1
      go_enter Try.func55, Try.ntmps55
      go_wp2
      go_ret
      exact ⟨rfl, Below.refl _ _⟩
  | succ f ih =>
    intro n E a len cap H w hE hlf hf8 hlc hcm hn hlt hH hR
    by_cases h1 : n = 1
    · subst h1
      rw [cutF_one]
      clear hR hlt hE ih
      go_enter Try.func55, Try.ntmps55
      go_wp2
      go_ret
      exact ⟨rfl, Below.refl _ _⟩
    · have q1 : ((n : Int) == 1) = false := by rw [beq_eq_false_iff_ne]; omega
      cases E with
      | nil =>
        rw [cutF_nil _ _ h1]
        simp only [List.length_nil] at hE
        subst hE
        clear hR hlt h1 ih
        go_enter Try.func55, Try.ntmps55
        go_wp2
        go_ret
        exact ⟨rfl, Below.refl _ _⟩
      | cons e r =>
        obtain ⟨m, hm⟩ : ∃ m, m = r.length := ⟨_, rfl⟩
        have hlen : len = m + 1 := by rw [List.length_cons] at hE; omega
        subst hlen
        have q2 : (((m + 1 : Nat) : Int) == 0) = false := by rw [beq_eq_false_iff_ne]; omega
        have q3 : ((m : Int) + 1 == 0) = false := by rw [beq_eq_false_iff_ne]; omega
        obtain ⟨b, off, gr, cr, rfl, hbH, hgH, hcr, c1, c2, c3⟩ := hR.out 0 (by simp)
        rw [Nat.add_zero] at c1
        have c2 : w.cell? ⟨gr, 0, none⟩ = some (.int .i64 (e.1 : Int)) := c2
        have c3 : w.cell? ⟨gr, 1, none⟩ = some (.int .i64 (e.2 : Int)) := c3
        have RT := Lib.hid hR.out.tail
        have HLT := Lib.hid (show ∀ x ∈ r, x.1 < n ∧ x.2 < n from fun x hx => hlt.out x (by simp [hx]))
        have HE := Lib.hid (hlt.out e (by simp))
        have HMr := Lib.hid hm
        have h1' := Lib.hid h1
        have i1 : (1 : Int) ≤ ((m + 1 : Nat) : Int) := by omega
        have i2 : (1 : Int) ≤ (m : Int) + 1 := by omega
        clear hE hR hlt hm h1
        obtain ⟨x0, y0⟩ := e
        have HB := Lib.hid (cutF_le f n r)
        rcases Nat.lt_trichotomy x0 y0 with hxy | hxy | hxy
        · have d1 : (x0 : Int) < (y0 : Int) := by omega
          have d2 : ¬ ((y0 : Int) < (x0 : Int)) := by omega
          go_enter Try.func55, Try.ntmps55
          go_wp2_with fail
          go_quiet (fail)
          obtain ⟨wa, hwa⟩ : ∃ wa, wa = w.drewN nq := ⟨_, rfl⟩
          rw [← hwa]
          have hb1 : Below w.heap.size w wa := by rw [hwa]; exact ⟨rfl, rfl, rfl, Nat.le_refl _, fun _ _ => rfl⟩
          have hs1 : wa.heap.size = w.heap.size := by rw [hwa]; rfl
          have c1 : wa.cell? ⟨b, off, none⟩ = some (.slice (some ⟨gr, 0, none⟩) 2 cr) := by rw [hwa]; exact c1
          have c2 : wa.cell? ⟨gr, 0, none⟩ = some (.int .i64 (x0 : Int)) := by rw [hwa]; exact c2
          have c3 : wa.cell? ⟨gr, 1, none⟩ = some (.int .i64 (y0 : Int)) := by rw [hwa]; exact c3
          clear hwa
          go_wp2_with fail
          go_quiet (fail)
          obtain ⟨wb, hwb⟩ : ∃ wb, wb = wa.drewN nq := ⟨_, rfl⟩
          rw [← hwb]
          have hb2 : Below wa.heap.size wa wb := by rw [hwb]; exact ⟨rfl, rfl, rfl, Nat.le_refl _, fun _ _ => rfl⟩
          have hs2 : wb.heap.size = wa.heap.size := by rw [hwb]; rfl
          have c1 : wb.cell? ⟨b, off, none⟩ = some (.slice (some ⟨gr, 0, none⟩) 2 cr) := by rw [hwb]; exact c1
          have c2 : wb.cell? ⟨gr, 0, none⟩ = some (.int .i64 (x0 : Int)) := by rw [hwb]; exact c2
          have c3 : wb.cell? ⟨gr, 1, none⟩ = some (.int .i64 (y0 : Int)) := by rw [hwb]; exact c3
          clear hwb
          have HS := Lib.hid (show wb.heap.size = w.heap.size by omega)
          have RT := Lib.hid ((RT.out.below (hb1.mono hH)).below (hb2.mono (by omega)))
          have BW := Lib.hid (hb1.trans (hb2.mono (by omega)))
          have HHb : H ≤ wb.heap.size := by omega
          clear hb1 hb2 hs1 hs2 c1 c2 c3
          have RR : Hid (RdE wb H (if cap = 1 then some ⟨b, off, none⟩ else some ⟨b, off + 1, none⟩) r) := by
            by_cases hc : cap = 1
            · rw [if_pos hc]
              have : r = [] := List.eq_nil_of_length_eq_zero (by have := HMr.out; omega)
              rw [this]; exact RdE.nil _ _ _
            · rw [if_neg hc]; exact RT.out
          go_upto_region 8 with fail
          obtain ⟨a1, ha1⟩ : ∃ a1 : Option Addr, a1 = (if cap = 1 then some ⟨b, off, none⟩ else some ⟨b, off + 1, none⟩) := ⟨_, rfl⟩
          rw [← ha1] at RR ⊢
          obtain ⟨cp1, hcp⟩ : ∃ cp1, cp1 = cap - 1 := ⟨_, rfl⟩
          rw [← hcp]
          have hmc : m ≤ cp1 := by omega
          have hcpm : cp1 ≤ maxLen := by omega
          clear ha1 RT hcp
          have I1 := Lib.hid (ih n r a1 m cp1 H wb HMr.out.symm (by omega) (by omega) hmc hcpm hn HLT HHb RR)
          obtain ⟨C1, hC1⟩ : ∃ C1, C1 = cutF f n r := ⟨_, rfl⟩
          rw [← hC1] at I1 HB
          have HC1 := Lib.hid hC1
          clear hC1
          go_wp2_with fail
          refine I1.out.mono ?_
          rintro e w2 ⟨rfl, b2⟩
          have R2 := Lib.hid (RR.out.below (b2.mono HHb))
          have B2 := Lib.hid (BW.out.trans (b2.mono (Nat.le_of_eq HS.out.symm)))
          have z2 := b2.size
          clear b2 I1 RR BW
          have q4 : ((x0 : Int) == (y0 : Int)) = false := by rw [beq_eq_false_iff_ne]; omega
          have hst := World.ownsRow_lit (base := w2.heap.size) (e := 32) (size := 1) w2 #[] 0 (Nat.le_refl _) (by decide) rfl
          have J0 : Hid (Jn w2 (w2.alloc (.cells #[] 32)) w2.heap.size w2.heap.size 0 0 [] []) := ⟨⟨⟨hst, fun q hq => (hst.lt q hq).2⟩, RowsI.nil⟩, rfl, (Below.refl _ _).alloc (Nat.le_refl _) _⟩
          clear hst
          go_wp2
          obtain ⟨w3, hw3⟩ : ∃ w3, w3 = w2.alloc (.cells #[] 32) := ⟨_, rfl⟩
          obtain ⟨N, hN⟩ : ∃ N, N = w2.heap.size := ⟨_, rfl⟩
          rw [← hw3] at J0 ⊢
          rw [← hN] at J0 ⊢
          have HN := Lib.hid hN
          have hHN : H ≤ N := by rw [hN]; omega
          clear hw3 hN z2
          go_loopw [9, 10] (fun jo ii wr => ∃ (k g c : Nat) (LV : List Value), k ≤ m ∧ jo = .slice (some ⟨g, 0, none⟩) k c ∧ ii = .int .i64 (k : Int) ∧ Hid (Jn w2 wr N g k c LV ((r.take k).map (joinE x0 y0)))) (fun _ ii _ => m - (intOf ii).toNat)
          case atStart => exact ⟨0, N, 0, [], Nat.zero_le _, rfl, rfl, J0⟩
          case round =>
            clear J0
            obtain ⟨k, g, c, LV, hk, rfl, rfl, J⟩ := hrel
            have hNw : N ≤ wr.heap.size := by have := J.out.below.size; rw [← HN.out] at this; exact this
            by_cases hkm : k < m
            · have k1 : (k : Int) < (m : Int) := by omega
              have hkr : k < r.length := by rw [← HMr.out]; exact hkm
              obtain ⟨b', off', gr', cr', rfl, hb', hgr', hcr', d1', d2', d3'⟩ := R2.out k hkr
              obtain ⟨en1, en2⟩ := HLT.out _ (List.getElem_mem hkr)
              have MT := Lib.hid (map_take (joinE x0 y0) r k hkr)
              obtain ⟨ek, hek⟩ : ∃ ek, ek = r[k] := ⟨_, rfl⟩
              rw [← hek] at d2' d3' en1 en2 MT
              have CE : Hid (∀ W, Below N w2 W → W.cell? ⟨b', off' + k, none⟩ = some (.slice (some ⟨gr', 0, none⟩) 2 cr') ∧ W.cell? ⟨gr', 0, none⟩ = some (.int .i64 (ek.1 : Int)) ∧ W.cell? ⟨gr', 1, none⟩ = some (.int .i64 (ek.2 : Int))) := fun W hW =>
                ⟨(hW.cell (p := ⟨b', off' + k, none⟩) (by show b' < N; omega)).trans d1', (hW.cell (p := ⟨gr', 0, none⟩) (by show gr' < N; omega)).trans d2', (hW.cell (p := ⟨gr', 1, none⟩) (by show gr' < N; omega)).trans d3'⟩
              have hst := World.ownsRow_lit (base := wr.heap.size) (e := 3) (size := 1) wr #[] 0 (Nat.le_refl _) (by decide) rfl
              have L0 : Hid (Ils wr (wr.alloc (.cells #[] 3)) wr.heap.size wr.heap.size 0 0 []) := ⟨rfl, hst, (Below.refl _ _).alloc (Nat.le_refl _) _⟩
              obtain ⟨w4, hw4⟩ : ∃ w4, w4 = wr := ⟨_, rfl⟩
              subst hw4
              clear hst d1' d2' d3' hek
              go_wp2
              obtain ⟨w5, hw5⟩ : ∃ w5, w5 = w4.alloc (.cells #[] 3) := ⟨_, rfl⟩
              obtain ⟨R0, hR0⟩ : ∃ R0, R0 = w4.heap.size := ⟨_, rfl⟩
              rw [← hw5] at L0 ⊢
              rw [← hR0] at L0 ⊢
              have HR0 := Lib.hid hR0
              have hNR : N ≤ R0 := by rw [hR0]; exact hNw
              clear hw5 hR0 hNw
              go_loopw [11, 12] (fun row ss wi => ∃ (s g' c' : Nat), s ≤ 2 ∧ row = .slice (some ⟨g', 0, none⟩) s c' ∧ ss = .int .i64 (s : Int) ∧ Hid (Ils w4 wi R0 g' s c' (([ek.1, ek.2].take s).map (phi x0 y0)))) (fun _ ss _ => 2 - (intOf ss).toNat)
              case atStart => exact ⟨0, R0, 0, by omega, rfl, rfl, L0⟩
              case round =>
                clear L0
                obtain ⟨s, g', c', hs2, rfl, rfl, L⟩ := hrel
                have hRw := Lib.hid (show R0 ≤ wr.heap.size by have := L.out.below.size; rw [← HR0.out] at this; exact this)
                have hBW := J.out.below.trans (L.out.below.mono hNR)
                by_cases hs : s < 2
                · have s1 : (s : Int) < 2 := by omega
                  obtain ⟨d1', d2', d3'⟩ := CE.out wr hBW
                  have dz := pair_cell hs d2' d3'
                  have T2 := Lib.hid (two_step (phi x0 y0) ek.1 ek.2 s hs)
                  obtain ⟨LL, hLL⟩ : ∃ LL, LL = ([ek.1, ek.2].take s).map (phi x0 y0) := ⟨_, rfl⟩
                  rw [← hLL] at L T2
                  clear hLL
                  obtain ⟨z, hz⟩ : ∃ z, z = (if s = 0 then ek.1 else ek.2) := ⟨_, rfl⟩
                  rw [← hz] at dz T2
                  have hzn : z < n := by rw [hz]; split <;> omega
                  clear d2' d3' hz hBW
                  have y1 : s + 1 ≤ maxLen := by unfold maxLen; omega
                  have y2 : (s + 1) * 8 ≤ 140737488355328 := by omega
                  have Y3 := Lib.hid (show ∀ o : Obj, R0 ≤ (wr.alloc o).heap.size by intro o; have := hRw.out; simp; omega)
                  by_cases hzb : z = y0
                  · have hph : phi x0 y0 z = x0 := by unfold phi; rw [if_pos hzb]
                    rw [hph] at T2
                    have p1 : ((z : Int) == (y0 : Int)) = true := by rw [hzb]; simp
                    clear hzb
                    clear hph
                    go_wp2_with (at_builtin; refine wpList_append_lies _ rfl (.tmp 78) (.tmp 80) 32 rfl R0 3 i0 (.int .i64 0) 1 8 Try.underlying32 hi hz0 hz1 hz2 rfl (by decide) _ s (ints LL) rfl (L.out.own.alloc _) ⟨wr.heap.size, 0, none⟩ 1 1 [_] rfl rfl (cell_one_new _ _ _) (one_intR _) (by decide) y1 y2 (Y3.out _) _ rfl ?_)
                    intro g7 c7 w7 hv7 hg7 _ _
                    have L7 := Lib.hid (L.out.app hRw.out hv7 hg7)
                    rw [T2.out] at L7
                    clear hv7 hg7 L Y3 dz d1'
                    go_wp2
                    go_roundw
                    case rel => exact ⟨s + 1, g7, c7, by omega, rfl, by go_num, L7⟩
                    case measure => simp [intOf]; omega
                  · by_cases hzb2 : y0 < z
                    · have hph : phi x0 y0 z = z - 1 := by unfold phi; rw [if_neg hzb, if_pos hzb2]
                      rw [hph] at T2
                      have p1 : ((z : Int) == (y0 : Int)) = false := by rw [beq_eq_false_iff_ne]; omega
                      have p2 : (y0 : Int) < (z : Int) := by omega
                      have ez : ((z - 1 : Nat) : Int) = (z : Int) - 1 := by omega
                      have ewz : IntKind.i64.wrap ((z : Int) - 1) = (z : Int) - 1 := by rw [IntKind.wrap_i64]; omega
                      have EZ := Lib.hid ez
                      clear hzb hzb2 ez
                      clear hph
                      go_wp2_with (at_builtin; refine wpList_append_lies _ rfl (.tmp 78) (.tmp 80) 32 rfl R0 3 i0 (.int .i64 0) 1 8 Try.underlying32 hi hz0 hz1 hz2 rfl (by decide) _ s (ints LL) rfl (L.out.own.alloc _) ⟨wr.heap.size, 0, none⟩ 1 1 [_] rfl rfl (cell_one_new _ _ _) (one_intR _) (by decide) y1 y2 (Y3.out _) _ rfl ?_)
                      intro g7 c7 w7 hv7 hg7 _ _
                      have L7 := Lib.hid (L.out.app hRw.out (x := z - 1) (by rw [EZ.out]; exact hv7) (by rw [EZ.out]; exact hg7))
                      rw [T2.out] at L7
                      clear hv7 hg7 L Y3 dz d1'
                      go_wp2
                      go_roundw
                      case rel => exact ⟨s + 1, g7, c7, by omega, rfl, by go_num, L7⟩
                      case measure => simp [intOf]; omega
                    · have hph : phi x0 y0 z = z := by unfold phi; rw [if_neg hzb, if_neg hzb2]
                      rw [hph] at T2
                      have p1 : ((z : Int) == (y0 : Int)) = false := by rw [beq_eq_false_iff_ne]; omega
                      have p2 : ¬ ((y0 : Int) < (z : Int)) := by omega
                      clear hzb hzb2
                      clear hph
                      go_wp2_with (at_builtin; refine wpList_append_lies _ rfl (.tmp 78) (.tmp 80) 32 rfl R0 3 i0 (.int .i64 0) 1 8 Try.underlying32 hi hz0 hz1 hz2 rfl (by decide) _ s (ints LL) rfl (L.out.own.alloc _) ⟨wr.heap.size, 0, none⟩ 1 1 [_] rfl rfl (cell_one_new _ _ _) (one_intR _) (by decide) y1 y2 (Y3.out _) _ rfl ?_)
                      intro g7 c7 w7 hv7 hg7 _ _
                      have L7 := Lib.hid (L.out.app hRw.out hv7 hg7)
                      rw [T2.out] at L7
                      clear hv7 hg7 L Y3 dz d1'
                      go_wp2
                      go_roundw
                      case rel => exact ⟨s + 1, g7, c7, by omega, rfl, by go_num, L7⟩
                      case measure => simp [intOf]; omega
                · obtain rfl : s = 2 := by omega
                  have s1 : ¬ ((2 : Int) < 2) := by omega
                  rw [join_two] at L
                  have HB4 := Lib.hid L.out.below
                  have GJ := Lib.hid (J.out.grid.below (by rw [← HR0.out]; exact L.out.below))
                  have JL := J.out.len
                  rw [List.length_map, List.length_take] at JL
                  have OW : wr.ownsRow N 32 1 (.slice (some ⟨g, 0, none⟩) k c) k LV := by
                    have h1 := GJ.out.1.1
                    rwa [GJ.out.2.1, rowsE_length, J.out.len] at h1
                  have OW := Lib.hid OW
                  have HJL := Lib.hid J.out.len
                  have y1 : k + 1 ≤ maxLen := by unfold maxLen; omega
                  have y2 : (k + 1) * 24 ≤ 140737488355328 := by omega
                  have Y3 := Lib.hid (show ∀ o : Obj, N ≤ (wr.alloc o).heap.size by intro o; have := hRw.out; simp; omega)
                  have SW := Lib.hid (show w4.heap.size ≤ wr.heap.size by rw [← HR0.out]; exact hRw.out)
                  clear JL s1
                  go_wp2_with (at_builtin; refine wpList_append_lies _ rfl (.tmp 82) (.tmp 84) 26 rfl N 32 j0 (.slice none 0 0) 1 24 Try.underlying26 hj hy0 hy1 hy2 rfl (by decide) _ k LV rfl (OW.out.alloc _) ⟨wr.heap.size, 0, none⟩ 1 1 [_] rfl rfl (cell_one_new _ _ _) (one_rowR _ _ _ _ rfl) (by decide) y1 y2 (Y3.out _) _ rfl ?_)
                  intro g7 c7 w7 hv7 hg7 _ _
                  have hb1 : Below wr.heap.size wr (wr.alloc (.cells #[.slice (some ⟨g', 0, none⟩) 2 c'] 32)) := (Below.refl _ _).alloc (Nat.le_refl _) _
                  have s7 := hg7.size
                  rw [World.size_alloc] at s7
                  have G1 := (GJ.out.more SW.out).below hb1
                  have r1 := G1.2.grown G1.1 (by decide) hg7
                  have o2 : Own wr R0 wr.heap.size 3 (.slice (some ⟨g', 0, none⟩) 2 c') (iv [((joinE x0 y0 ek).1 : Int), ((joinE x0 y0 ek).2 : Int)]) := L.out.ownN
                  have r2 := (o2.alloc (.cells #[.slice (some ⟨g', 0, none⟩) 2 c'] 32)).grown hg7 (o2.ne GJ.out.1 (by decide))
                  have J7 : Hid (Jn w2 w7 N g7 (k + 1) c7 (LV ++ [.slice (some ⟨g', 0, none⟩) 2 c']) ((r.take (k + 1)).map (joinE x0 y0))) := by
                    rw [MT.out]
                    refine ⟨⟨Own.of_own ?_, ?_⟩, by rw [List.length_append, HJL.out]; rfl, ?_⟩
                    · have e : (LV ++ [Value.slice (some ⟨g', 0, none⟩) 2 c']).length = k + 1 := by rw [List.length_append, GJ.out.2.1, rowsE_length, HJL.out]; rfl
                      rw [e]; exact hv7
                    · rw [rowsE_append]
                      exact (r1.more (by omega)).append (RowsI.one (own_lo (r2.more (by omega)) hNR))
                    · exact ((J.out.below.trans (HB4.out.mono hNR)).trans (hb1.mono (by have := hRw.out; omega))).grown hg7 (by have := hRw.out; simp; omega) (fun z hz => (OW.out.lt z hz).1)
                  clear hv7 hg7 hb1 s7 G1 r1 o2 r2 GJ OW L J HB4
                  go_wp2
                  go_roundw
                  case rel => exact ⟨k + 1, g7, c7, _, by omega, rfl, by go_num, J7⟩
                  case measure => simp [intOf]; omega
            · obtain rfl : k = m := by omega
              have htk : r.take k = r := List.take_of_length_le (by rw [HMr.out]; exact Nat.le_refl _)
              rw [htk] at J
              obtain ⟨_, _, _, hkc, hkm2, _⟩ : ∃ (x y z : Nat), k ≤ c ∧ c ≤ maxLen ∧ True := by
                obtain ⟨a9, c9, e9, _, h1, h2, _⟩ := J.out.grid.1.slice
                simp only [Value.slice.injEq] at e9
                exact ⟨0, 0, 0, by omega, by omega, trivial⟩
              have ewn : IntKind.i64.wrap ((n : Int) - 1) = (n : Int) - 1 := by rw [IntKind.wrap_i64]; omega
              have I2 := Lib.hid (ih (n - 1) (r.map (joinE x0 y0)) (some ⟨g, 0, none⟩) k c wr.heap.size wr (by rw [List.length_map]; exact HMr.out.symm) (by omega) (by omega) hkc hkm2 (by have := h1'.out; omega) (Lib.hid fun x hx => by
                obtain ⟨y, hy, rfl⟩ := List.mem_map.1 hx
                have h3 := HLT.out y hy
                have h4 := HE.out
                exact ⟨join_lt (by omega) h4.2 h3.1, join_lt (by omega) h4.2 h3.2⟩) (Nat.le_refl _) (Lib.hid (RdE.of J.out.grid)))
              rw [show ((n - 1 : Nat) : Int) = (n : Int) - 1 by omega] at I2
              have HB2 := cutF_le f (n - 1) (r.map (joinE x0 y0))
              have HFIN : Hid (cutF (f + 1) n ((x0, y0) :: r) = C1 + cutF f (n - 1) (r.map (joinE x0 y0))) := by
                show _ = _
                rw [cutF_edge h1'.out (by show x0 ≠ y0; omega), HC1.out]
                show _ + cutF f (n - 1) (r.map (joinE (min x0 y0) (max x0 y0))) = _
                rw [show min x0 y0 = x0 by omega, show max x0 y0 = y0 by omega]
              obtain ⟨C2, hC2⟩ : ∃ C2, C2 = cutF f (n - 1) (r.map (joinE x0 y0)) := ⟨_, rfl⟩
              rw [← hC2] at I2 HB2 HFIN
              have hpw : 2 ^ f ≤ 256 := Nat.pow_le_pow_right (by omega) (show f ≤ 8 by omega)
              have hC1 := HB.out
              have ewc : IntKind.i64.wrap ((C1 : Int) + (C2 : Int)) = (C1 : Int) + (C2 : Int) := by rw [IntKind.wrap_i64]; omega
              have BJ := Lib.hid (B2.out.trans (J.out.below.mono (show w.heap.size ≤ N by rw [HN.out]; exact B2.out.size)))
              clear hC2 htk J hpw hC1 HB2
              go_wp2_with fail
              refine I2.out.mono ?_
              rintro e w8 ⟨rfl, b8⟩
              have B8 := Lib.hid (BJ.out.trans (b8.mono BJ.out.size))
              clear b8 I2
              go_wp2
              go_ret
              exact ⟨by rw [HFIN.out]; push_cast; rfl, B8.out⟩
        · subst hxy
          have d1 : ¬ ((x0 : Int) < (x0 : Int)) := by omega
          have HEQ : Hid (cutF (f + 1) n ((x0, x0) :: r) = cutF f n r) := cutF_loop h1'.out rfl
          go_enter Try.func55, Try.ntmps55
          go_wp2_with fail
          go_quiet (fail)
          obtain ⟨wa, hwa⟩ : ∃ wa, wa = w.drewN nq := ⟨_, rfl⟩
          rw [← hwa]
          have hb1 : Below w.heap.size w wa := by rw [hwa]; exact ⟨rfl, rfl, rfl, Nat.le_refl _, fun _ _ => rfl⟩
          have hs1 : wa.heap.size = w.heap.size := by rw [hwa]; rfl
          have c1 : wa.cell? ⟨b, off, none⟩ = some (.slice (some ⟨gr, 0, none⟩) 2 cr) := by rw [hwa]; exact c1
          have c2 : wa.cell? ⟨gr, 0, none⟩ = some (.int .i64 (x0 : Int)) := by rw [hwa]; exact c2
          have c3 : wa.cell? ⟨gr, 1, none⟩ = some (.int .i64 (x0 : Int)) := by rw [hwa]; exact c3
          clear hwa
          go_wp2_with fail
          go_quiet (fail)
          obtain ⟨wb, hwb⟩ : ∃ wb, wb = wa.drewN nq := ⟨_, rfl⟩
          rw [← hwb]
          have hb2 : Below wa.heap.size wa wb := by rw [hwb]; exact ⟨rfl, rfl, rfl, Nat.le_refl _, fun _ _ => rfl⟩
          have hs2 : wb.heap.size = wa.heap.size := by rw [hwb]; rfl
          have c1 : wb.cell? ⟨b, off, none⟩ = some (.slice (some ⟨gr, 0, none⟩) 2 cr) := by rw [hwb]; exact c1
          have c2 : wb.cell? ⟨gr, 0, none⟩ = some (.int .i64 (x0 : Int)) := by rw [hwb]; exact c2
          have c3 : wb.cell? ⟨gr, 1, none⟩ = some (.int .i64 (x0 : Int)) := by rw [hwb]; exact c3
          clear hwb
          have HS := Lib.hid (show wb.heap.size = w.heap.size by omega)
          have RT := Lib.hid ((RT.out.below (hb1.mono hH)).below (hb2.mono (by omega)))
          have BW := Lib.hid (hb1.trans (hb2.mono (by omega)))
          have HHb : H ≤ wb.heap.size := by omega
          clear hb1 hb2 hs1 hs2 c1 c2 c3
          have RR : Hid (RdE wb H (if cap = 1 then some ⟨b, off, none⟩ else some ⟨b, off + 1, none⟩) r) := by
            by_cases hc : cap = 1
            · rw [if_pos hc]
              have : r = [] := List.eq_nil_of_length_eq_zero (by have := HMr.out; omega)
              rw [this]; exact RdE.nil _ _ _
            · rw [if_neg hc]; exact RT.out
          go_upto_region 8 with fail
          obtain ⟨a1, ha1⟩ : ∃ a1 : Option Addr, a1 = (if cap = 1 then some ⟨b, off, none⟩ else some ⟨b, off + 1, none⟩) := ⟨_, rfl⟩
          rw [← ha1] at RR ⊢
          obtain ⟨cp1, hcp⟩ : ∃ cp1, cp1 = cap - 1 := ⟨_, rfl⟩
          rw [← hcp]
          have hmc : m ≤ cp1 := by omega
          have hcpm : cp1 ≤ maxLen := by omega
          clear ha1 RT hcp
          have I1 := Lib.hid (ih n r a1 m cp1 H wb HMr.out.symm (by omega) (by omega) hmc hcpm hn HLT HHb RR)
          obtain ⟨C1, hC1⟩ : ∃ C1, C1 = cutF f n r := ⟨_, rfl⟩
          rw [← hC1] at I1 HB
          have HC1 := Lib.hid hC1
          clear hC1
          go_wp2_with fail
          refine I1.out.mono ?_
          rintro e w2 ⟨rfl, b2⟩
          have R2 := Lib.hid (RR.out.below (b2.mono HHb))
          have B2 := Lib.hid (BW.out.trans (b2.mono (Nat.le_of_eq HS.out.symm)))
          have z2 := b2.size
          clear b2 I1 RR BW
          have q4 : ((x0 : Int) == (x0 : Int)) = true := by simp
          go_wp2
          go_ret
          exact ⟨by rw [HEQ.out, HC1.out]; rfl, B2.out⟩
        · have d1 : (y0 : Int) < (x0 : Int) := by omega
          have d2 : ¬ ((x0 : Int) < (y0 : Int)) := by omega
          go_enter Try.func55, Try.ntmps55
          go_wp2_with fail
          go_quiet (fail)
          obtain ⟨wa, hwa⟩ : ∃ wa, wa = w.drewN nq := ⟨_, rfl⟩
          rw [← hwa]
          have hb1 : Below w.heap.size w wa := by rw [hwa]; exact ⟨rfl, rfl, rfl, Nat.le_refl _, fun _ _ => rfl⟩
          have hs1 : wa.heap.size = w.heap.size := by rw [hwa]; rfl
          have c1 : wa.cell? ⟨b, off, none⟩ = some (.slice (some ⟨gr, 0, none⟩) 2 cr) := by rw [hwa]; exact c1
          have c2 : wa.cell? ⟨gr, 0, none⟩ = some (.int .i64 (x0 : Int)) := by rw [hwa]; exact c2
          have c3 : wa.cell? ⟨gr, 1, none⟩ = some (.int .i64 (y0 : Int)) := by rw [hwa]; exact c3
          clear hwa
          go_wp2_with fail
          go_quiet (fail)
          obtain ⟨wb, hwb⟩ : ∃ wb, wb = wa.drewN nq := ⟨_, rfl⟩
          rw [← hwb]
          have hb2 : Below wa.heap.size wa wb := by rw [hwb]; exact ⟨rfl, rfl, rfl, Nat.le_refl _, fun _ _ => rfl⟩
          have hs2 : wb.heap.size = wa.heap.size := by rw [hwb]; rfl
          have c1 : wb.cell? ⟨b, off, none⟩ = some (.slice (some ⟨gr, 0, none⟩) 2 cr) := by rw [hwb]; exact c1
          have c2 : wb.cell? ⟨gr, 0, none⟩ = some (.int .i64 (x0 : Int)) := by rw [hwb]; exact c2
          have c3 : wb.cell? ⟨gr, 1, none⟩ = some (.int .i64 (y0 : Int)) := by rw [hwb]; exact c3
          clear hwb
          have HS := Lib.hid (show wb.heap.size = w.heap.size by omega)
          have RT := Lib.hid ((RT.out.below (hb1.mono hH)).below (hb2.mono (by omega)))
          have BW := Lib.hid (hb1.trans (hb2.mono (by omega)))
          have HHb : H ≤ wb.heap.size := by omega
          clear hb1 hb2 hs1 hs2 c1 c2 c3
          have RR : Hid (RdE wb H (if cap = 1 then some ⟨b, off, none⟩ else some ⟨b, off + 1, none⟩) r) := by
            by_cases hc : cap = 1
            · rw [if_pos hc]
              have : r = [] := List.eq_nil_of_length_eq_zero (by have := HMr.out; omega)
              rw [this]; exact RdE.nil _ _ _
            · rw [if_neg hc]; exact RT.out
          go_upto_region 8 with fail
          obtain ⟨a1, ha1⟩ : ∃ a1 : Option Addr, a1 = (if cap = 1 then some ⟨b, off, none⟩ else some ⟨b, off + 1, none⟩) := ⟨_, rfl⟩
          rw [← ha1] at RR ⊢
          obtain ⟨cp1, hcp⟩ : ∃ cp1, cp1 = cap - 1 := ⟨_, rfl⟩
          rw [← hcp]
          have hmc : m ≤ cp1 := by omega
          have hcpm : cp1 ≤ maxLen := by omega
          clear ha1 RT hcp
          have I1 := Lib.hid (ih n r a1 m cp1 H wb HMr.out.symm (by omega) (by omega) hmc hcpm hn HLT HHb RR)
          obtain ⟨C1, hC1⟩ : ∃ C1, C1 = cutF f n r := ⟨_, rfl⟩
          rw [← hC1] at I1 HB
          have HC1 := Lib.hid hC1
          clear hC1
          go_wp2_with fail
          refine I1.out.mono ?_
          rintro e w2 ⟨rfl, b2⟩
          have R2 := Lib.hid (RR.out.below (b2.mono HHb))
          have B2 := Lib.hid (BW.out.trans (b2.mono (Nat.le_of_eq HS.out.symm)))
          have z2 := b2.size
          clear b2 I1 RR BW
          have q4 : ((y0 : Int) == (x0 : Int)) = false := by rw [beq_eq_false_iff_ne]; omega
          have hst := World.ownsRow_lit (base := w2.heap.size) (e := 32) (size := 1) w2 #[] 0 (Nat.le_refl _) (by decide) rfl
          have J0 : Hid (Jn w2 (w2.alloc (.cells #[] 32)) w2.heap.size w2.heap.size 0 0 [] []) := ⟨⟨⟨hst, fun q hq => (hst.lt q hq).2⟩, RowsI.nil⟩, rfl, (Below.refl _ _).alloc (Nat.le_refl _) _⟩
          clear hst
          go_wp2
          obtain ⟨w3, hw3⟩ : ∃ w3, w3 = w2.alloc (.cells #[] 32) := ⟨_, rfl⟩
          obtain ⟨N, hN⟩ : ∃ N, N = w2.heap.size := ⟨_, rfl⟩
          rw [← hw3] at J0 ⊢
          rw [← hN] at J0 ⊢
          have HN := Lib.hid hN
          have hHN : H ≤ N := by rw [hN]; omega
          clear hw3 hN z2
          go_loopw [9, 10] (fun jo ii wr => ∃ (k g c : Nat) (LV : List Value), k ≤ m ∧ jo = .slice (some ⟨g, 0, none⟩) k c ∧ ii = .int .i64 (k : Int) ∧ Hid (Jn w2 wr N g k c LV ((r.take k).map (joinE y0 x0)))) (fun _ ii _ => m - (intOf ii).toNat)
          case atStart => exact ⟨0, N, 0, [], Nat.zero_le _, rfl, rfl, J0⟩
          case round =>
            clear J0
            obtain ⟨k, g, c, LV, hk, rfl, rfl, J⟩ := hrel
            have hNw : N ≤ wr.heap.size := by have := J.out.below.size; rw [← HN.out] at this; exact this
            by_cases hkm : k < m
            · have k1 : (k : Int) < (m : Int) := by omega
              have hkr : k < r.length := by rw [← HMr.out]; exact hkm
              obtain ⟨b', off', gr', cr', rfl, hb', hgr', hcr', d1', d2', d3'⟩ := R2.out k hkr
              obtain ⟨en1, en2⟩ := HLT.out _ (List.getElem_mem hkr)
              have MT := Lib.hid (map_take (joinE y0 x0) r k hkr)
              obtain ⟨ek, hek⟩ : ∃ ek, ek = r[k] := ⟨_, rfl⟩
              rw [← hek] at d2' d3' en1 en2 MT
              have CE : Hid (∀ W, Below N w2 W → W.cell? ⟨b', off' + k, none⟩ = some (.slice (some ⟨gr', 0, none⟩) 2 cr') ∧ W.cell? ⟨gr', 0, none⟩ = some (.int .i64 (ek.1 : Int)) ∧ W.cell? ⟨gr', 1, none⟩ = some (.int .i64 (ek.2 : Int))) := fun W hW =>
                ⟨(hW.cell (p := ⟨b', off' + k, none⟩) (by show b' < N; omega)).trans d1', (hW.cell (p := ⟨gr', 0, none⟩) (by show gr' < N; omega)).trans d2', (hW.cell (p := ⟨gr', 1, none⟩) (by show gr' < N; omega)).trans d3'⟩
              have hst := World.ownsRow_lit (base := wr.heap.size) (e := 3) (size := 1) wr #[] 0 (Nat.le_refl _) (by decide) rfl
              have L0 : Hid (Ils wr (wr.alloc (.cells #[] 3)) wr.heap.size wr.heap.size 0 0 []) := ⟨rfl, hst, (Below.refl _ _).alloc (Nat.le_refl _) _⟩
              obtain ⟨w4, hw4⟩ : ∃ w4, w4 = wr := ⟨_, rfl⟩
              subst hw4
              clear hst d1' d2' d3' hek
              go_wp2
              obtain ⟨w5, hw5⟩ : ∃ w5, w5 = w4.alloc (.cells #[] 3) := ⟨_, rfl⟩
              obtain ⟨R0, hR0⟩ : ∃ R0, R0 = w4.heap.size := ⟨_, rfl⟩
              rw [← hw5] at L0 ⊢
              rw [← hR0] at L0 ⊢
              have HR0 := Lib.hid hR0
              have hNR : N ≤ R0 := by rw [hR0]; exact hNw
              clear hw5 hR0 hNw
              go_loopw [11, 12] (fun row ss wi => ∃ (s g' c' : Nat), s ≤ 2 ∧ row = .slice (some ⟨g', 0, none⟩) s c' ∧ ss = .int .i64 (s : Int) ∧ Hid (Ils w4 wi R0 g' s c' (([ek.1, ek.2].take s).map (phi y0 x0)))) (fun _ ss _ => 2 - (intOf ss).toNat)
              case atStart => exact ⟨0, R0, 0, by omega, rfl, rfl, L0⟩
              case round =>
                clear L0
                obtain ⟨s, g', c', hs2, rfl, rfl, L⟩ := hrel
                have hRw := Lib.hid (show R0 ≤ wr.heap.size by have := L.out.below.size; rw [← HR0.out] at this; exact this)
                have hBW := J.out.below.trans (L.out.below.mono hNR)
                by_cases hs : s < 2
                · have s1 : (s : Int) < 2 := by omega
                  obtain ⟨d1', d2', d3'⟩ := CE.out wr hBW
                  have dz := pair_cell hs d2' d3'
                  have T2 := Lib.hid (two_step (phi y0 x0) ek.1 ek.2 s hs)
                  obtain ⟨LL, hLL⟩ : ∃ LL, LL = ([ek.1, ek.2].take s).map (phi y0 x0) := ⟨_, rfl⟩
                  rw [← hLL] at L T2
                  clear hLL
                  obtain ⟨z, hz⟩ : ∃ z, z = (if s = 0 then ek.1 else ek.2) := ⟨_, rfl⟩
                  rw [← hz] at dz T2
                  have hzn : z < n := by rw [hz]; split <;> omega
                  clear d2' d3' hz hBW
                  have y1 : s + 1 ≤ maxLen := by unfold maxLen; omega
                  have y2 : (s + 1) * 8 ≤ 140737488355328 := by omega
                  have Y3 := Lib.hid (show ∀ o : Obj, R0 ≤ (wr.alloc o).heap.size by intro o; have := hRw.out; simp; omega)
                  by_cases hzb : z = x0
                  · have hph : phi y0 x0 z = y0 := by unfold phi; rw [if_pos hzb]
                    rw [hph] at T2
                    have p1 : ((z : Int) == (x0 : Int)) = true := by rw [hzb]; simp
                    clear hzb
                    clear hph
                    go_wp2_with (at_builtin; refine wpList_append_lies _ rfl (.tmp 78) (.tmp 80) 32 rfl R0 3 i0 (.int .i64 0) 1 8 Try.underlying32 hi hz0 hz1 hz2 rfl (by decide) _ s (ints LL) rfl (L.out.own.alloc _) ⟨wr.heap.size, 0, none⟩ 1 1 [_] rfl rfl (cell_one_new _ _ _) (one_intR _) (by decide) y1 y2 (Y3.out _) _ rfl ?_)
                    intro g7 c7 w7 hv7 hg7 _ _
                    have L7 := Lib.hid (L.out.app hRw.out hv7 hg7)
                    rw [T2.out] at L7
                    clear hv7 hg7 L Y3 dz d1'
                    go_wp2
                    go_roundw
                    case rel => exact ⟨s + 1, g7, c7, by omega, rfl, by go_num, L7⟩
                    case measure => simp [intOf]; omega
                  · by_cases hzb2 : x0 < z
                    · have hph : phi y0 x0 z = z - 1 := by unfold phi; rw [if_neg hzb, if_pos hzb2]
                      rw [hph] at T2
                      have p1 : ((z : Int) == (x0 : Int)) = false := by rw [beq_eq_false_iff_ne]; omega
                      have p2 : (x0 : Int) < (z : Int) := by omega
                      have ez : ((z - 1 : Nat) : Int) = (z : Int) - 1 := by omega
                      have ewz : IntKind.i64.wrap ((z : Int) - 1) = (z : Int) - 1 := by rw [IntKind.wrap_i64]; omega
                      have EZ := Lib.hid ez
                      clear hzb hzb2 ez
                      clear hph
                      go_wp2_with (at_builtin; refine wpList_append_lies _ rfl (.tmp 78) (.tmp 80) 32 rfl R0 3 i0 (.int .i64 0) 1 8 Try.underlying32 hi hz0 hz1 hz2 rfl (by decide) _ s (ints LL) rfl (L.out.own.alloc _) ⟨wr.heap.size, 0, none⟩ 1 1 [_] rfl rfl (cell_one_new _ _ _) (one_intR _) (by decide) y1 y2 (Y3.out _) _ rfl ?_)
                      intro g7 c7 w7 hv7 hg7 _ _
                      have L7 := Lib.hid (L.out.app hRw.out (x := z - 1) (by rw [EZ.out]; exact hv7) (by rw [EZ.out]; exact hg7))
                      rw [T2.out] at L7
                      clear hv7 hg7 L Y3 dz d1'
                      go_wp2
                      go_roundw
                      case rel => exact ⟨s + 1, g7, c7, by omega, rfl, by go_num, L7⟩
                      case measure => simp [intOf]; omega
                    · have hph : phi y0 x0 z = z := by unfold phi; rw [if_neg hzb, if_neg hzb2]
                      rw [hph] at T2
                      have p1 : ((z : Int) == (x0 : Int)) = false := by rw [beq_eq_false_iff_ne]; omega
                      have p2 : ¬ ((x0 : Int) < (z : Int)) := by omega
                      clear hzb hzb2
                      clear hph
                      go_wp2_with (at_builtin; refine wpList_append_lies _ rfl (.tmp 78) (.tmp 80) 32 rfl R0 3 i0 (.int .i64 0) 1 8 Try.underlying32 hi hz0 hz1 hz2 rfl (by decide) _ s (ints LL) rfl (L.out.own.alloc _) ⟨wr.heap.size, 0, none⟩ 1 1 [_] rfl rfl (cell_one_new _ _ _) (one_intR _) (by decide) y1 y2 (Y3.out _) _ rfl ?_)
                      intro g7 c7 w7 hv7 hg7 _ _
                      have L7 := Lib.hid (L.out.app hRw.out hv7 hg7)
                      rw [T2.out] at L7
                      clear hv7 hg7 L Y3 dz d1'
                      go_wp2
                      go_roundw
                      case rel => exact ⟨s + 1, g7, c7, by omega, rfl, by go_num, L7⟩
                      case measure => simp [intOf]; omega
                · obtain rfl : s = 2 := by omega
                  have s1 : ¬ ((2 : Int) < 2) := by omega
                  rw [join_two] at L
                  have HB4 := Lib.hid L.out.below
                  have GJ := Lib.hid (J.out.grid.below (by rw [← HR0.out]; exact L.out.below))
                  have JL := J.out.len
                  rw [List.length_map, List.length_take] at JL
                  have OW : wr.ownsRow N 32 1 (.slice (some ⟨g, 0, none⟩) k c) k LV := by
                    have h1 := GJ.out.1.1
                    rwa [GJ.out.2.1, rowsE_length, J.out.len] at h1
                  have OW := Lib.hid OW
                  have HJL := Lib.hid J.out.len
                  have y1 : k + 1 ≤ maxLen := by unfold maxLen; omega
                  have y2 : (k + 1) * 24 ≤ 140737488355328 := by omega
                  have Y3 := Lib.hid (show ∀ o : Obj, N ≤ (wr.alloc o).heap.size by intro o; have := hRw.out; simp; omega)
                  have SW := Lib.hid (show w4.heap.size ≤ wr.heap.size by rw [← HR0.out]; exact hRw.out)
                  clear JL s1
                  go_wp2_with (at_builtin; refine wpList_append_lies _ rfl (.tmp 82) (.tmp 84) 26 rfl N 32 j0 (.slice none 0 0) 1 24 Try.underlying26 hj hy0 hy1 hy2 rfl (by decide) _ k LV rfl (OW.out.alloc _) ⟨wr.heap.size, 0, none⟩ 1 1 [_] rfl rfl (cell_one_new _ _ _) (one_rowR _ _ _ _ rfl) (by decide) y1 y2 (Y3.out _) _ rfl ?_)
                  intro g7 c7 w7 hv7 hg7 _ _
                  have hb1 : Below wr.heap.size wr (wr.alloc (.cells #[.slice (some ⟨g', 0, none⟩) 2 c'] 32)) := (Below.refl _ _).alloc (Nat.le_refl _) _
                  have s7 := hg7.size
                  rw [World.size_alloc] at s7
                  have G1 := (GJ.out.more SW.out).below hb1
                  have r1 := G1.2.grown G1.1 (by decide) hg7
                  have o2 : Own wr R0 wr.heap.size 3 (.slice (some ⟨g', 0, none⟩) 2 c') (iv [((joinE y0 x0 ek).1 : Int), ((joinE y0 x0 ek).2 : Int)]) := L.out.ownN
                  have r2 := (o2.alloc (.cells #[.slice (some ⟨g', 0, none⟩) 2 c'] 32)).grown hg7 (o2.ne GJ.out.1 (by decide))
                  have J7 : Hid (Jn w2 w7 N g7 (k + 1) c7 (LV ++ [.slice (some ⟨g', 0, none⟩) 2 c']) ((r.take (k + 1)).map (joinE y0 x0))) := by
                    rw [MT.out]
                    refine ⟨⟨Own.of_own ?_, ?_⟩, by rw [List.length_append, HJL.out]; rfl, ?_⟩
                    · have e : (LV ++ [Value.slice (some ⟨g', 0, none⟩) 2 c']).length = k + 1 := by rw [List.length_append, GJ.out.2.1, rowsE_length, HJL.out]; rfl
                      rw [e]; exact hv7
                    · rw [rowsE_append]
                      exact (r1.more (by omega)).append (RowsI.one (own_lo (r2.more (by omega)) hNR))
                    · exact ((J.out.below.trans (HB4.out.mono hNR)).trans (hb1.mono (by have := hRw.out; omega))).grown hg7 (by have := hRw.out; simp; omega) (fun z hz => (OW.out.lt z hz).1)
                  clear hv7 hg7 hb1 s7 G1 r1 o2 r2 GJ OW L J HB4
                  go_wp2
                  go_roundw
                  case rel => exact ⟨k + 1, g7, c7, _, by omega, rfl, by go_num, J7⟩
                  case measure => simp [intOf]; omega
            · obtain rfl : k = m := by omega
              have htk : r.take k = r := List.take_of_length_le (by rw [HMr.out]; exact Nat.le_refl _)
              rw [htk] at J
              obtain ⟨_, _, _, hkc, hkm2, _⟩ : ∃ (x y z : Nat), k ≤ c ∧ c ≤ maxLen ∧ True := by
                obtain ⟨a9, c9, e9, _, h1, h2, _⟩ := J.out.grid.1.slice
                simp only [Value.slice.injEq] at e9
                exact ⟨0, 0, 0, by omega, by omega, trivial⟩
              have ewn : IntKind.i64.wrap ((n : Int) - 1) = (n : Int) - 1 := by rw [IntKind.wrap_i64]; omega
              have I2 := Lib.hid (ih (n - 1) (r.map (joinE y0 x0)) (some ⟨g, 0, none⟩) k c wr.heap.size wr (by rw [List.length_map]; exact HMr.out.symm) (by omega) (by omega) hkc hkm2 (by have := h1'.out; omega) (Lib.hid fun x hx => by
                obtain ⟨y, hy, rfl⟩ := List.mem_map.1 hx
                have h3 := HLT.out y hy
                have h4 := HE.out
                exact ⟨join_lt (by omega) h4.1 h3.1, join_lt (by omega) h4.1 h3.2⟩) (Nat.le_refl _) (Lib.hid (RdE.of J.out.grid)))
              rw [show ((n - 1 : Nat) : Int) = (n : Int) - 1 by omega] at I2
              have HB2 := cutF_le f (n - 1) (r.map (joinE y0 x0))
              have HFIN : Hid (cutF (f + 1) n ((x0, y0) :: r) = C1 + cutF f (n - 1) (r.map (joinE y0 x0))) := by
                show _ = _
                rw [cutF_edge h1'.out (by show x0 ≠ y0; omega), HC1.out]
                show _ + cutF f (n - 1) (r.map (joinE (min x0 y0) (max x0 y0))) = _
                rw [show min x0 y0 = y0 by omega, show max x0 y0 = x0 by omega]
              obtain ⟨C2, hC2⟩ : ∃ C2, C2 = cutF f (n - 1) (r.map (joinE y0 x0)) := ⟨_, rfl⟩
              rw [← hC2] at I2 HB2 HFIN
              have hpw : 2 ^ f ≤ 256 := Nat.pow_le_pow_right (by omega) (show f ≤ 8 by omega)
              have hC1 := HB.out
              have ewc : IntKind.i64.wrap ((C1 : Int) + (C2 : Int)) = (C1 : Int) + (C2 : Int) := by rw [IntKind.wrap_i64]; omega
              have BJ := Lib.hid (B2.out.trans (J.out.below.mono (show w.heap.size ≤ N by rw [HN.out]; exact B2.out.size)))
              clear hC2 htk J hpw hC1 HB2
              go_wp2_with fail
              refine I2.out.mono ?_
              rintro e w8 ⟨rfl, b8⟩
              have B8 := Lib.hid (BJ.out.trans (b8.mono BJ.out.size))
              clear b8 I2
              go_wp2
              go_ret
              exact ⟨by rw [HFIN.out]; push_cast; rfl, B8.out⟩
end Go.Proofs.Ytgboecnfghhooaa
