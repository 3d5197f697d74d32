/-
  The program's count of spans, edge by edge, over parts.
-/
import Derived.Test.YtohbkpccfhciaaaCParts
import Derived.Test.YtohbkpccfhciaaaCWebE
import Derived.StillTailTactics
namespace Go.Proofs.Ytohbkpccfhciaaa
open Go.RowKit

/-- edges that can be read, from an address on -/
def RdF (w : World) (H : Nat) (a : Option Addr) (E : Edges) : Prop :=
  ∀ (k : Nat) (hk : k < E.length), ∃ b off, a = some ⟨b, off, none⟩ ∧ b < H ∧ w.cell? ⟨b, off + k * 2, none⟩ = some (.int .i64 (E[k].1 : Int)) ∧ w.cell? ⟨b, off + k * 2 + 1, none⟩ = some (.int .i64 (E[k].2 : Int))
theorem RdF.below {w w' : World} {H : Nat} {a : Option Addr} {E : Edges} (h : RdF w H a E) (hb : Below H w w') : RdF w' H a E := fun k hk => by
  obtain ⟨b, off, h1, h2, c1, c2⟩ := h k hk
  exact ⟨b, off, h1, h2, (hb.cell (p := ⟨b, off + k * 2, none⟩) h2).trans c1, (hb.cell (p := ⟨b, off + k * 2 + 1, none⟩) h2).trans c2⟩
theorem RdF.more {w : World} {H H' : Nat} {a : Option Addr} {E : Edges} (h : RdF w H a E) (hH : H ≤ H') : RdF w H' a E := fun k hk => by
  obtain ⟨b, off, h1, h2, c1, c2⟩ := h k hk
  exact ⟨b, off, h1, by omega, c1, c2⟩
theorem RdF.tail {w : World} {H b off : Nat} {e : Nat × Nat} {r : Edges} (h : RdF w H (some ⟨b, off, none⟩) (e :: r)) : RdF w H (some ⟨b, off + 2, none⟩) r := fun k hk => by
  obtain ⟨b', off', h1, h2, c1, c2⟩ := h (k + 1) (by simpa using hk)
  simp only [Option.some.injEq, Addr.mk.injEq] at h1
  obtain ⟨rfl, rfl, _⟩ := h1
  exact ⟨b, off + 2, rfl, h2, by rw [show off + 2 + k * 2 = off + (k + 1) * 2 by omega]; exact c1, by rw [show off + 2 + k * 2 + 1 = off + (k + 1) * 2 + 1 by omega]; exact c2⟩
theorem RdF.of {w : World} {B H : Nat} {v : Value} {E : Edges} (h : ERow w B H v E) : ∃ a cap, v = .slice a E.length cap ∧ E.length ≤ cap ∧ cap ≤ maxLen ∧ RdF w H a E := by
  obtain ⟨ao, cap, rfl, _, h1, h2, _⟩ := h.slice
  refine ⟨ao, cap, rfl, h1, h2, fun k hk => ?_⟩
  obtain ⟨g, c', e1, _, e3, _, c1, c2⟩ := h.at_ k hk
  simp only [Value.slice.injEq] at e1
  exact ⟨g, 0, e1.1, e3, by rw [Nat.zero_add]; exact c1, by rw [Nat.zero_add]; exact c2⟩
theorem cutP_le : ∀ (E : Edges) (c : Nat) (p : Nat → Nat), cutP c p E ≤ 2 ^ E.length
  | [], c, p => by rw [cutP]; split <;> simp
  | e :: r, c, p => by
    rw [cutP, List.length_cons, Nat.pow_succ]
    have h1 := cutP_le r c p
    have h2 := cutP_le r (c - 1) (joinP p e)
    split <;> omega

set_option maxHeartbeats 3200000 in
set_option maxRecDepth 100000 in
theorem cutSpans_p {n : Nat} (hn : n ≤ 5) : ∀ (E : Edges) (m c cap : Nat) (p : Nat → Nat) (a : Option Addr) (w : World) (H : Nat), E.length = m → m ≤ 8 → m ≤ cap → cap ≤ maxLen → c ≤ 5 → Hid (∃ lab, Lab n p lab ∧ ∀ v, v < n → lab v < c) → Hid (∀ e ∈ E, e.1 < n ∧ e.2 < n) → H ≤ w.heap.size → Hid (RdF w H a E) →
    Calls Try.prog 39 #[.int .i64 (c : Int), partsV p, .slice a m cap] w fun e w' => e = .returned (.int .i64 (cutP c p E : Int)) ∧ Below w.heap.size w w'
  | [], m, c, cap, p, a, w, H, hm, h8, hcap, hcm, hc5, HL, hE, hH, hR => by
    obtain rfl : m = 0 := hm.symm
    by_cases hc : c = 1
    · have q1 : ((c : Int) == 1) = true := by rw [hc]; rfl
      have hv : cutP c p [] = 1 := by rw [cutP, if_pos hc]
      rw [hv]
      clear hv hc hm
      go_enter Try.func39, Try.ntmps39
      simp only [partsV]
      go_wp2
      go_ret
      exact ⟨rfl, (Below.refl _ _).alloc (Nat.le_refl _) _⟩
    · have q1 : ((c : Int) == 1) = false := by rw [beq_eq_false_iff_ne]; omega
      have hv : cutP c p [] = 0 := by rw [cutP, if_neg hc]
      rw [hv]
      clear hv hc hm
      go_enter Try.func39, Try.ntmps39
      simp only [partsV]
      go_wp2
      go_ret
      exact ⟨rfl, (Below.refl _ _).alloc (Nat.le_refl _) _⟩
  | e :: r, m, c, cap, p, a, w, H, hm, h8, hcap, hcm, hc5, HL, hE, hH, hR => by
    simp only [List.length_cons] at hm
    obtain ⟨l1, l2⟩ := hE.out e (by simp)
    have hr : Hid (∀ x ∈ r, x.1 < n ∧ x.2 < n) := fun x hx => hE.out x (by simp [hx])
    obtain ⟨b, off, rfl, hbH, c1, c2⟩ := hR.out 0 (by simp)
    simp only [List.getElem_cons_zero, Nat.zero_mul, Nat.add_zero] at c1 c2
    have RT := Lib.hid hR.out.tail
    obtain ⟨t, rfl⟩ : ∃ t, m = t + 1 := ⟨m - 1, by omega⟩
    have hrt : r.length = t := by omega
    have hb1 : cutP c p r ≤ 256 := Nat.le_trans (cutP_le r c p) (by rw [hrt]; exact Nat.le_trans (Nat.pow_le_pow_right (by omega) (show t ≤ 8 by omega)) (by decide))
    have hb2 : cutP (c - 1) (joinP p e) r ≤ 256 := Nat.le_trans (cutP_le r _ _) (by rw [hrt]; exact Nat.le_trans (Nat.pow_le_pow_right (by omega) (show t ≤ 8 by omega)) (by decide))
    have HC : cutP c p (e :: r) = cutP c p r + if p e.1 = p e.2 then 0 else cutP (c - 1) (joinP p e) r := by rw [cutP]
    obtain ⟨Y, hY⟩ : ∃ Y, Y = cutP c p r := ⟨_, rfl⟩
    obtain ⟨Z, hZ⟩ : ∃ Z, Z = cutP (c - 1) (joinP p e) r := ⟨_, rfl⟩
    obtain ⟨X, hX⟩ : ∃ X, X = cutP c p (e :: r) := ⟨_, rfl⟩
    rw [← hX, ← hY, ← hZ] at HC
    rw [← hY] at hb1
    rw [← hZ] at hb2
    rw [← hX]
    have HXYZ := Lib.hid HC
    have HYe := Lib.hid hY
    have HZe := Lib.hid hZ
    clear hX hY hZ HC
    have q0 : (((t + 1 : Nat) : Int) == 0) = false := by rw [beq_eq_false_iff_ne]; omega
    have q00 : ((t : Int) + 1 == 0) = false := by rw [beq_eq_false_iff_ne]; omega
    go_enter Try.func39, Try.ntmps39
    simp only [partsV]
    go_wp2_with fail
    obtain ⟨G, hG⟩ : ∃ G, G = w.heap.size := ⟨_, rfl⟩
    obtain ⟨W, hW⟩ : ∃ W, W = w.alloc (.cells (pvL p).toArray 56) := ⟨_, rfl⟩
    have r1 : W.heap[G]? = some (.cells (pvL p).toArray 56 (0, 0)) := by rw [hW, hG]; exact heap_alloc_new w _
    have hWb : Below G w W := by rw [hW, hG]; exact (Below.refl _ w).alloc (Nat.le_refl _) _
    have hsW : G < W.heap.size := by rw [hW, hG, World.size_alloc]; omega
    have d1 := (hWb.cell (p := ⟨b, off, none⟩) (by show b < G; omega)).trans c1
    have d2 := (hWb.cell (p := ⟨b, off + 1, none⟩) (by show b < G; omega)).trans c2
    simp only [← hG, ← hW]
    have HGs := Lib.hid hG
    have R1 := Lib.hid r1
    have HWb := Lib.hid hWb
    have HsW := Lib.hid hsW
    have hbW : b < W.heap.size := by omega
    have d3 : ∀ o, (W.alloc o).cell? ⟨b, off, none⟩ = some (.int .i64 (e.1 : Int)) := fun o => (((Below.refl W.heap.size W).alloc (Nat.le_refl _) o).cell (p := ⟨b, off, none⟩) hbW).trans d1
    have d4 : ∀ o, (W.alloc o).cell? ⟨b, off + 1, none⟩ = some (.int .i64 (e.2 : Int)) := fun o => (((Below.refl W.heap.size W).alloc (Nat.le_refl _) o).cell (p := ⟨b, off + 1, none⟩) hbW).trans d2
    clear hG hW c1 c2 r1 hWb hsW
    have u1 : (1 : Int) ≤ (t : Int) + 1 := by omega
    obtain ⟨aa, haa⟩ : ∃ aa, aa = if cap = 1 then some (Addr.mk b off none) else some (Addr.mk b (off + 2) none) := ⟨_, rfl⟩
    have RA : Hid (RdF w H aa r) := by
      show RdF _ _ _ _
      rw [haa]
      by_cases hcap1 : cap = 1
      · have : r = [] := List.eq_nil_of_length_eq_zero (by omega)
        rw [this]
        exact fun k hk => absurd hk (by simp)
      · rw [if_neg hcap1]; exact RT.out
    have IH1 : Hid (∀ (W' : World) (_ : Below H w W') (_ : H ≤ W'.heap.size), Calls Try.prog 39 #[.int .i64 (c : Int), .agg #[.int .i64 (p 0 : Int), .int .i64 (p 1 : Int), .int .i64 (p 2 : Int), .int .i64 (p 3 : Int), .int .i64 (p 4 : Int)], .slice aa t (cap - 1)] W' fun e' w' => e' = .returned (.int .i64 (Y : Int)) ∧ Below W'.heap.size W' w') := fun W' hb hz => by
      have := cutSpans_p hn r t c (cap - 1) p aa W' H hrt (by omega) (by omega) (by omega) hc5 HL hr hz (Lib.hid (RA.out.below hb))
      rw [← HYe.out] at this
      exact this
    have HLj : p e.1 ≠ p e.2 → 2 ≤ c ∧ Hid (∃ lab, Lab n (joinP p e) lab ∧ ∀ v, v < n → lab v < c - 1) := fun hne => by
      obtain ⟨lab, hl, hlt⟩ := HL.out
      have hle : lab e.1 ≠ lab e.2 := fun h => hne ((hl e.1 e.2 l1 l2).2 h)
      have b1 := hlt e.1 l1
      have b2 := hlt e.2 l2
      exact ⟨by omega, _, lab_join hl ⟨l1, l2⟩ hle, fun v hv => join_lt (by omega) (by omega) (hlt v hv)⟩
    have IH2 : p e.1 ≠ p e.2 → Hid (2 ≤ c ∧ ∀ (W' : World) (_ : Below H w W') (_ : H ≤ W'.heap.size), Calls Try.prog 39 #[.int .i64 ((c : Int) - 1), partsV (joinP p e), .slice aa t (cap - 1)] W' fun e' w' => e' = .returned (.int .i64 (Z : Int)) ∧ Below W'.heap.size W' w') := fun hne => ⟨(HLj hne).1, fun W' hb hz => by
      have := cutSpans_p hn r t (c - 1) (cap - 1) (joinP p e) aa W' H hrt (by omega) (by omega) (by omega) (by omega) (HLj hne).2 hr hz (Lib.hid (RA.out.below hb))
      have h2 := (HLj hne).1
      rw [← HZe.out, show (((c - 1 : Nat)) : Int) = (c : Int) - 1 by omega] at this
      exact this⟩
    have CHO : Hid (∀ W' : World, Calls Try.prog 37 #[.agg #[.int .i64 (p 0 : Int), .int .i64 (p 1 : Int), .int .i64 (p 2 : Int), .int .i64 (p 3 : Int), .int .i64 (p 4 : Int)], .agg #[.int .i64 (e.1 : Int), .int .i64 (e.2 : Int)]] W' fun r w' => r = .returned (.bool (decide (p e.1 = p e.2))) ∧ Below W'.heap.size W' w') := fun W' => holds_p p e W' (by omega)
    have CJ : Hid (∀ W' : World, Calls Try.prog 38 #[.agg #[.int .i64 (p 0 : Int), .int .i64 (p 1 : Int), .int .i64 (p 2 : Int), .int .i64 (p 3 : Int), .int .i64 (p 4 : Int)], .agg #[.int .i64 (e.1 : Int), .int .i64 (e.2 : Int)]] W' fun r w' => r = .returned (partsV (joinP p e)) ∧ Below W'.heap.size W' w') := fun W' => joined_p p e W' (by omega)
    obtain ⟨GE, hGE⟩ : ∃ GE, GE = W.heap.size := ⟨_, rfl⟩
    have HGE := Lib.hid hGE
    clear HLj
    rw [← hGE] at hbW
    go_region_law (fail)
    all_goals
      go_simp
      try simp only [← haa]
      try simp only [← hGE]
      obtain ⟨w2, hw2⟩ : ∃ w2, w2 = (W.alloc (.cells #[.int .i64 (e.1 : Int), .int .i64 (e.2 : Int)] 50)).drew := ⟨_, rfl⟩
      have AH : Hid (w2.heap[G]? = some (.cells (pvL p).toArray 56 (0, 0)) ∧ w2.heap[GE]? = some (.cells #[.int .i64 (e.1 : Int), .int .i64 (e.2 : Int)] 50 (0, 0)) ∧ Below G w w2 ∧ GE < w2.heap.size) := by
        show _ ∧ _ ∧ _ ∧ _
        rw [hw2]
        refine ⟨(heap_alloc_old _ _ HsW.out).trans R1.out, by rw [HGE.out]; exact heap_alloc_new _ _, Below.drew (HWb.out.alloc (Nat.le_of_lt HsW.out) _), ?_⟩
        show GE < (W.alloc _).heap.size
        rw [World.size_alloc, HGE.out]; omega
      rw [← hw2]
      clear hw2
      have a0 : w2.cell? ⟨G, 0, none⟩ = some (.int .i64 (p 0 : Int)) := pv_cell AH.out.1 (show 0 < 5 by omega)
      have a1 : w2.cell? ⟨G, 1, none⟩ = some (.int .i64 (p 1 : Int)) := pv_cell AH.out.1 (show 1 < 5 by omega)
      have a2 : w2.cell? ⟨G, 2, none⟩ = some (.int .i64 (p 2 : Int)) := pv_cell AH.out.1 (show 2 < 5 by omega)
      have a3 : w2.cell? ⟨G, 3, none⟩ = some (.int .i64 (p 3 : Int)) := pv_cell AH.out.1 (show 3 < 5 by omega)
      have a4 : w2.cell? ⟨G, 4, none⟩ = some (.int .i64 (p 4 : Int)) := pv_cell AH.out.1 (show 4 < 5 by omega)
      have ae1 : w2.cell? ⟨GE, 0, none⟩ = some (.int .i64 (e.1 : Int)) := by simp [World.cell?, AH.out.2.1]
      have ae2 : w2.cell? ⟨GE, 1, none⟩ = some (.int .i64 (e.2 : Int)) := by simp [World.cell?, AH.out.2.1]
      clear hGE haa d1 d2 d3 d4
      have HHG : H ≤ G := by have := HGs.out; omega
      have GGE : G < GE := by have := HGE.out; have := HsW.out; omega
      go_wp2_with fail
      refine (IH1.out w2 (AH.out.2.2.1.mono HHG) (by have := AH.out.2.2.2; omega)).mono ?_
      rintro e6 w3 ⟨rfl, b3⟩
      have BH : Hid (w3.heap[G]? = some (.cells (pvL p).toArray 56 (0, 0)) ∧ w3.heap[GE]? = some (.cells #[.int .i64 (e.1 : Int), .int .i64 (e.2 : Int)] 50 (0, 0)) ∧ Below G w w3 ∧ GE < w3.heap.size) := ⟨(b3.block G (Nat.lt_trans (by have := HGE.out; have := HsW.out; omega : G < GE) AH.out.2.2.2)).trans AH.out.1, (b3.block GE AH.out.2.2.2).trans AH.out.2.1, AH.out.2.2.1.trans (b3.mono (by have := AH.out.2.2.2; have := HGE.out; have := HsW.out; omega)), Nat.lt_of_lt_of_le AH.out.2.2.2 b3.size⟩
      clear a0 a1 a2 a3 a4 ae1 ae2
      clear b3 AH IH1
      have b0 : w3.cell? ⟨G, 0, none⟩ = some (.int .i64 (p 0 : Int)) := pv_cell BH.out.1 (show 0 < 5 by omega)
      have b1 : w3.cell? ⟨G, 1, none⟩ = some (.int .i64 (p 1 : Int)) := pv_cell BH.out.1 (show 1 < 5 by omega)
      have b2 : w3.cell? ⟨G, 2, none⟩ = some (.int .i64 (p 2 : Int)) := pv_cell BH.out.1 (show 2 < 5 by omega)
      have b3 : w3.cell? ⟨G, 3, none⟩ = some (.int .i64 (p 3 : Int)) := pv_cell BH.out.1 (show 3 < 5 by omega)
      have b4 : w3.cell? ⟨G, 4, none⟩ = some (.int .i64 (p 4 : Int)) := pv_cell BH.out.1 (show 4 < 5 by omega)
      have be1 : w3.cell? ⟨GE, 0, none⟩ = some (.int .i64 (e.1 : Int)) := by simp [World.cell?, BH.out.2.1]
      have be2 : w3.cell? ⟨GE, 1, none⟩ = some (.int .i64 (e.2 : Int)) := by simp [World.cell?, BH.out.2.1]
      by_cases hpe : p e.1 = p e.2
      · have HX : Hid (X = Y) := by show _ = _; rw [HXYZ.out, if_pos hpe]; rfl
        rw [decide_eq_true hpe] at CHO
        clear IH2 CJ hpe
        go_wp2_with fail
        refine (CHO.out w3).mono ?_
        rintro e7 w4 ⟨rfl, b4⟩
        have B4 : Hid (Below w.heap.size w w4) := by have := BH.out.2.2.1; show Below _ _ _; rw [← HGs.out]; exact this.trans (b4.mono (by have := BH.out.2.2.2; omega))
        clear b0 b1 b2 b3 b4 be1 be2
        clear b4 CHO
        go_wp2
        go_ret
        exact ⟨by rw [HX.out]; rfl, B4.out⟩
      · have HX : Hid (X = Y + Z) := by show _ = _; rw [HXYZ.out, if_neg hpe]
        have I2 := IH2 hpe
        obtain ⟨hc2, _⟩ := I2.out
        rw [decide_eq_false hpe] at CHO
        have ewc : IntKind.i64.wrap ((c : Int) - 1) = (c : Int) - 1 := by rw [IntKind.wrap_i64]; omega
        have ews : IntKind.i64.wrap ((Y : Int) + (Z : Int)) = (Y : Int) + (Z : Int) := by rw [IntKind.wrap_i64]; omega
        clear IH2 hpe
        go_wp2_with fail
        refine (CHO.out w3).mono ?_
        rintro e7 w4 ⟨rfl, b4⟩
        have CH : Hid (w4.heap[G]? = some (.cells (pvL p).toArray 56 (0, 0)) ∧ w4.heap[GE]? = some (.cells #[.int .i64 (e.1 : Int), .int .i64 (e.2 : Int)] 50 (0, 0)) ∧ Below G w w4 ∧ GE < w4.heap.size) := ⟨(b4.block G (Nat.lt_trans (by have := HGE.out; have := HsW.out; omega : G < GE) BH.out.2.2.2)).trans BH.out.1, (b4.block GE BH.out.2.2.2).trans BH.out.2.1, BH.out.2.2.1.trans (b4.mono (by have := BH.out.2.2.2; have := HGE.out; have := HsW.out; omega)), Nat.lt_of_lt_of_le BH.out.2.2.2 b4.size⟩
        clear b0 b1 b2 b3 b4 be1 be2
        clear b4 BH CHO
        have c0 : w4.cell? ⟨G, 0, none⟩ = some (.int .i64 (p 0 : Int)) := pv_cell CH.out.1 (show 0 < 5 by omega)
        have c1 : w4.cell? ⟨G, 1, none⟩ = some (.int .i64 (p 1 : Int)) := pv_cell CH.out.1 (show 1 < 5 by omega)
        have c2 : w4.cell? ⟨G, 2, none⟩ = some (.int .i64 (p 2 : Int)) := pv_cell CH.out.1 (show 2 < 5 by omega)
        have c3 : w4.cell? ⟨G, 3, none⟩ = some (.int .i64 (p 3 : Int)) := pv_cell CH.out.1 (show 3 < 5 by omega)
        have c4 : w4.cell? ⟨G, 4, none⟩ = some (.int .i64 (p 4 : Int)) := pv_cell CH.out.1 (show 4 < 5 by omega)
        have ce1 : w4.cell? ⟨GE, 0, none⟩ = some (.int .i64 (e.1 : Int)) := by simp [World.cell?, CH.out.2.1]
        have ce2 : w4.cell? ⟨GE, 1, none⟩ = some (.int .i64 (e.2 : Int)) := by simp [World.cell?, CH.out.2.1]
        go_wp2_with fail
        refine (CJ.out w4).mono ?_
        rintro e8 w5 ⟨rfl, b5⟩
        have DH : Hid (w5.heap[G]? = some (.cells (pvL p).toArray 56 (0, 0)) ∧ w5.heap[GE]? = some (.cells #[.int .i64 (e.1 : Int), .int .i64 (e.2 : Int)] 50 (0, 0)) ∧ Below G w w5 ∧ GE < w5.heap.size) := ⟨(b5.block G (Nat.lt_trans (by have := HGE.out; have := HsW.out; omega : G < GE) CH.out.2.2.2)).trans CH.out.1, (b5.block GE CH.out.2.2.2).trans CH.out.2.1, CH.out.2.2.1.trans (b5.mono (by have := CH.out.2.2.2; have := HGE.out; have := HsW.out; omega)), Nat.lt_of_lt_of_le CH.out.2.2.2 b5.size⟩
        clear c0 c1 c2 c3 c4 ce1 ce2
        clear b5 CH CJ
        go_wp2_with fail
        refine (I2.out.2 w5 (DH.out.2.2.1.mono HHG) (by have := DH.out.2.2.2; omega)).mono ?_
        rintro e9 w6 ⟨rfl, b6⟩
        have B6 : Hid (Below w.heap.size w w6) := by have := DH.out.2.2.1; show Below _ _ _; rw [← HGs.out]; exact this.trans (b6.mono (by have := DH.out.2.2.2; omega))
        clear b6 DH
        go_wp2
        go_ret
        exact ⟨by rw [HX.out]; rfl, B6.out⟩
end Go.Proofs.Ytohbkpccfhciaaa
