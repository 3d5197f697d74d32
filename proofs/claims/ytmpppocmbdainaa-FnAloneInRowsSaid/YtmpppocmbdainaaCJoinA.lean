/-
  What the joins of weights answer: nodes alone.
-/
import Derived.Test.YtmpppocmbdainaaCWghA
import Derived.Test.YtmpppocmbdainaaCWghS
import Derived.Deep.RegionHeld3
namespace Go.Proofs.Ytmpppocmbdainaa
open Go.RowKit

theorem greater_p (a b : Int) (w : World) : Calls Try.prog 37 #[.agg #[.int .i64 a, .int .i64 b]] w fun e w' => e = .returned (.int .i64 (max a b)) ∧ Below w.heap.size w w' := by
  obtain ⟨m, hm⟩ : ∃ m, m = max a b := ⟨_, rfl⟩
  rw [← hm]
  have HM := Lib.hid hm
  clear hm
  rcases Int.lt_trichotomy a b with h | h | h
  · have e9 : m = b := by have := HM.out; omega
    subst e9
    go_enter Try.func37, Try.ntmps37
    go_wp2
    go_ret
    exact ⟨rfl, (Below.refl _ _).alloc (Nat.le_refl _) _⟩
  · subst h
    have e9 : m = a := by have := HM.out; omega
    subst e9
    go_enter Try.func37, Try.ntmps37
    go_wp2
    go_ret
    exact ⟨rfl, (Below.refl _ _).alloc (Nat.le_refl _) _⟩
  · have e9 : m = a := by have := HM.out; omega
    subst e9
    go_enter Try.func37, Try.ntmps37
    go_wp2
    go_ret
    exact ⟨rfl, (Below.refl _ _).alloc (Nat.le_refl _) _⟩
theorem sum_p (a b z : Int) (hz : IntKind.i64.wrap (a + b) = z) (w : World) : Calls Try.prog 44 #[.agg #[.int .i64 a, .int .i64 b]] w fun e w' => e = .returned (.int .i64 z) ∧ Below w.heap.size w w' := by
  go_enter Try.func44, Try.ntmps44
  go_wp2
  go_ret
  exact ⟨rfl, (Below.refl _ _).alloc (Nat.le_refl _) _⟩
/-- the state behind the first k branches -/
def dpT (E : Edges) (st : Nat × Nat → Nat × Nat → Nat × Nat) (s0 : Nat × Nat) (fin : Nat × Nat → Nat × Nat) (d u : Nat) (fr : Int) (k : Nat) : Nat × Nat := ((away E u fr).take k).foldl (fun s x => st s (dpF E st s0 fin d x u)) s0
section
variable {E : Edges} {st : Nat × Nat → Nat × Nat → Nat × Nat} {s0 : Nat × Nat} {fin : Nat × Nat → Nat × Nat} {d u : Nat} {fr : Int} {k : Nat}
theorem dpT_next (hk : k < (away E u fr).length) : dpT E st s0 fin d u fr (k + 1) = st (dpT E st s0 fin d u fr k) (dpF E st s0 fin d (away E u fr)[k] u) := by
  unfold dpT
  rw [List.take_succ_eq_append_getElem hk, List.foldl_append]; rfl
theorem dpT_all : fin (dpT E st s0 fin d u fr (away E u fr).length) = dpF E st s0 fin (d + 1) u fr := by
  unfold dpT
  rw [List.take_length]; rfl
end
theorem kids_szT {E : Edges} {d u : Nat} {fr : Int} (k : Nat) {b : Nat} (h : sz E (d + 1) u fr ≤ b + 1) : (((away E u fr).take k).map fun x => sz E d x u).sum ≤ b := by
  have h1 := sub_sum (fun x => sz E d x u) (List.take_sublist k (away E u fr))
  rw [sz_at] at h
  omega
theorem dpT_A {E : Edges} {d u : Nat} {fr : Int} (h : Brn E (d + 1) u fr) (h7 : sz E (d + 1) u fr ≤ 7) (k : Nat) : (dpT E stA (0, 1) id d u fr k).1 ≤ 6 ∧ (dpT E stA (0, 1) id d u fr k).2 ≤ 7 := by
  have h0 := kids_szT (E := E) (d := d) (u := u) (fr := fr) k (b := 6) h7
  have hm := (List.take_sublist k (away E u fr)).subset
  have h1 := sum_le2 (L := (away E u fr).take k) (f := fun x => max (dpF E stA (0, 1) id d x u).1 (dpF E stA (0, 1) id d x u).2) (g := fun x => sz E d x u) fun x hx => by
    have := aln_le (h x (hm hx)); have e : alnF E d x u = dpF E stA (0, 1) id d x u := rfl; rw [e] at this; omega
  have h2 := sum_le2 (L := (away E u fr).take k) (f := fun x => (dpF E stA (0, 1) id d x u).1) (g := fun x => sz E d x u) fun x hx => by
    have := aln_le (h x (hm hx)); have e : alnF E d x u = dpF E stA (0, 1) id d x u := rfl; rw [e] at this; omega
  unfold dpT
  rw [fold_A (fun x => dpF E stA (0, 1) id d x u)]
  simp only
  omega
theorem dpT_S {E : Edges} {d u : Nat} {fr : Int} (h : Brn E (d + 1) u fr) (h7 : sz E (d + 1) u fr ≤ 7) (k : Nat) : (dpT E stS (1, 1) id d u fr k).1 ≤ 64 ∧ (dpT E stS (1, 1) id d u fr k).2 ≤ 64 := by
  have h0 := kids_szT (E := E) (d := d) (u := u) (fr := fr) k (b := 6) h7
  have hm := (List.take_sublist k (away E u fr)).subset
  have h1 := prod_le (L := (away E u fr).take k) (f := fun x => (dpF E stS (1, 1) id d x u).1 + (dpF E stS (1, 1) id d x u).2) (g := fun x => 2 ^ sz E d x u) fun x hx => set_le d x u (h x (hm hx))
  have h2 := prod_le (L := (away E u fr).take k) (f := fun x => (dpF E stS (1, 1) id d x u).1) (g := fun x => 2 ^ sz E d x u) fun x hx => by
    have : (dpF E stS (1, 1) id d x u).1 + (dpF E stS (1, 1) id d x u).2 ≤ _ := set_le d x u (h x (hm hx)); omega
  rw [prod_pow] at h1 h2
  have h3 : 2 ^ (((away E u fr).take k).map fun x => sz E d x u).sum ≤ 2 ^ 6 := Nat.pow_le_pow_right (by decide) h0
  unfold dpT
  rw [fold_S (fun x => dpF E stS (1, 1) id d x u)]
  simp only
  omega
theorem set_le7 {E : Edges} {d u : Nat} {fr : Int} (h : Brn E d u fr) (h7 : sz E d u fr ≤ 7) : (setF E d u fr).1 + (setF E d u fr).2 ≤ 128 := by
  have h1 := set_le d u fr h
  have h2 : 2 ^ sz E d u fr ≤ 2 ^ 7 := Nat.pow_le_pow_right (by decide) h7
  omega
theorem wgK_at {V : Nat → Nat → Int → List Int} {E : Edges} {d u m j : Nat} {fr : Int} (hm : m ≤ (away E u fr).length) (hj : j < (wgK V E d u fr m).length) : (wgK V E d u fr m)[j] = V d ((away E u fr)[j]'(by unfold wgK at hj; rw [List.length_map, List.length_take] at hj; omega)) u := by
  unfold wgK
  simp [List.getElem_map]

--GEN
set_option maxRecDepth 100000 in
set_option maxHeartbeats 3200000 in
theorem joinA_p (n : Nat) (E : Edges) : JoinA n E := by
  intro d u fr hu hB h7 m v w B H hm hm128 hR hH
  have DN := Lib.hid (fun k hk => dpT_next (E := E) (st := stA) (s0 := (0, 1)) (fin := id) (d := d) (u := u) (fr := fr) (k := k) hk)
  have DA : Hid (alnF E (d + 1) u fr = dpT E stA (0, 1) id d u fr m) := by show _ = _; rw [hm]; exact (dpT_all (fin := id)).symm
  have DL := Lib.hid (dpT_A hB h7)
  have D0 : Hid (dpT E stA (0, 1) id d u fr 0 = (0, 1)) := by show _ = _; unfold dpT; simp
  have PL : Hid (∀ x ∈ away E u fr, (alnF E d x u).1 ≤ 7 ∧ (alnF E d x u).2 ≤ 7) := fun x hx => by
    have h1 := aln_le (hB x hx)
    have h2 := kid_sz (b := 7) (by omega : sz E (d + 1) u fr ≤ 8) hx
    omega
  have HM := Lib.hid hm
  have hml : (wgK (valA E) E d u fr m).length = m := by unfold wgK; rw [List.length_map, List.length_take]; omega
  have HML := Lib.hid hml
  obtain ⟨ao, cap, rfl⟩ := hR.out.slice
  obtain ⟨SZ, hSZ⟩ : ∃ SZ, SZ = w.heap.size := ⟨_, rfl⟩
  have HSZ := Lib.hid hSZ
  have HH : Hid (H ≤ SZ) := by show _ ≤ _; omega
  obtain ⟨W0, hW0⟩ : ∃ W0, W0 = (w.alloc (.cells #[.int .i64 0, .int .i64 0] 38)).alloc (.cells #[.int .i64 1, .int .i64 0] 38) := ⟨_, rfl⟩
  have B0 : Hid (Below SZ w W0) := by show Below _ _ _; rw [hW0, hSZ]; exact ((Below.refl _ _).alloc (Nat.le_refl _) _).alloc (by rw [World.size_alloc]; omega) _
  have R0 : Hid (W0.heap[SZ]? = some (.cells #[.int .i64 0, .int .i64 0] 38 (0, 0))) := by show _ = _; rw [hW0, hSZ]; exact heap_alloc2_old w _ _
  have M0 : Hid (W0.heap[SZ + 1]? = some (.cells #[.int .i64 1, .int .i64 0] 38 (0, 0))) := by show _ = _; rw [hW0, hSZ]; exact heap_alloc2_new w _ _
  have S0 : Hid (W0.heap.size = SZ + 2) := by show _ = _; rw [hW0, World.size_alloc, World.size_alloc, hSZ]
  obtain ⟨GM, hGM⟩ : ∃ GM, GM = SZ + 1 := ⟨_, rfl⟩
  have HGM := Lib.hid hGM
  rw [← hGM] at M0
  clear hH hml hm hB h7 hu
  go_enter Try.func36, Try.ntmps36
  go_wp2_with fail
  simp only [← hW0, ← hSZ, ← hGM]
  clear hW0 hSZ hGM
  go_loopw [5, 9] (fun e5 ii wr => ∃ (k a b : Nat), k ≤ m ∧ ii = .int .i64 k ∧ Hid (dpT E stA (0, 1) id d u fr k = (b, a)) ∧ Hid (wr.heap[GM]? = some (.cells #[.int .i64 (a : Int), .int .i64 (b : Int)] 38 (0, 0))) ∧ Hid (wr.heap[SZ]? = some (.cells #[.int .i64 0, .int .i64 0] 38 (0, 0))) ∧ Hid (Below SZ w wr) ∧ Hid (SZ + 2 ≤ wr.heap.size)) (fun _ ii _ => m - (intOf ii).toNat)
  case atStart => exact ⟨0, 1, 0, Nat.zero_le _, rfl, D0, M0, R0, B0, by show _ ≤ _; rw [S0.out]; omega⟩
  case round =>
    clear M0 R0 B0 S0 D0
    obtain ⟨k, a, b, hk, rfl, HD, HMO, HRZ, HB, HS⟩ := hrel
    by_cases hlt : k < m
    · have b1 : (k : Int) < (m : Int) := by omega
      have hka : k < (away E u fr).length := by rw [← HM.out]; exact hlt
      have hkl : k < (wgK (valA E) E d u fr m).length := by rw [HML.out]; exact hlt
      obtain ⟨g, c', e1, hg, hc⟩ := (hR.out.below (HB.out.mono HH.out)).at_ k hlt hkl
      simp only [Value.slice.injEq] at e1
      obtain ⟨rfl, _, rfl⟩ := e1
      rw [wgK_at (by rw [HM.out]; exact Nat.le_refl _) hkl] at hc
      have c1 : wr.cell? ⟨g, k * 2, none⟩ = some (.int .i64 ((alnF E d (away E u fr)[k] u).2 : Nat)) := hc 0 (by decide)
      have c2 : wr.cell? ⟨g, k * 2 + 1, none⟩ = some (.int .i64 ((alnF E d (away E u fr)[k] u).1 : Nat)) := hc 1 (by decide)
      have hp := PL.out _ (List.getElem_mem hka)
      have hn := DN.out k hka
      rw [HD.out] at hn
      have hl0 := DL.out k
      rw [HD.out] at hl0
      obtain ⟨⟨q, p⟩, hpq⟩ : ∃ z, z = alnF E d (away E u fr)[k] u := ⟨_, rfl⟩
      rw [← hpq] at c1 c2 hp
      have hpq' : dpF E stA (0, 1) id d (away E u fr)[k] u = (q, p) := hpq.symm
      rw [hpq'] at hn
      replace c1 : wr.cell? ⟨g, k * 2, none⟩ = some (.int .i64 (p : Int)) := c1
      replace c2 : wr.cell? ⟨g, k * 2 + 1, none⟩ = some (.int .i64 (q : Int)) := c2
      obtain ⟨hq7, hp7⟩ : q ≤ 128 ∧ p ≤ 128 := by have h1 := hp.1; have h2 := hp.2; simp only at h1 h2; omega
      obtain ⟨hb7, ha7⟩ : b ≤ 64 ∧ a ≤ 64 := by have h1 := hl0.1; have h2 := hl0.2; simp only at h1 h2; omega
      have e3 : IntKind.i64.wrap ((a : Int) + (q : Int)) = ((a + q : Nat) : Int) := by rw [IntKind.wrap_i64]; omega
      have e4 : IntKind.i64.wrap ((b : Int) + max (p : Int) (q : Int)) = ((b + max q p : Nat) : Int) := by rw [IntKind.wrap_i64]; omega
      obtain ⟨z, hz⟩ : ∃ z, z = max (p : Int) (q : Int) := ⟨_, rfl⟩
      rw [← hz] at e4
      have CG := Lib.hid (fun W => greater_p (p : Int) (q : Int) W)
      rw [← hz] at CG
      have HN : Hid (dpT E stA (0, 1) id d u fr (k + 1) = (b + max q p, a + q)) := hn
      obtain ⟨a2, ha2⟩ : ∃ a2, a2 = a + q := ⟨_, rfl⟩
      obtain ⟨b2, hb2⟩ : ∃ b2, b2 = b + max q p := ⟨_, rfl⟩
      rw [← ha2] at e3 HN
      rw [← hb2] at e4 HN
      have hgw : g < wr.heap.size := World.block_lt_of_cell? wr _ c1
      clear hz ha2 hb2 hpq hpq' hn hp hl0 hka hkl hc hq7 hp7 hb7 ha7 DN DL PL hgw
      go_upto_region 5 with fail
      obtain ⟨GP, hGP⟩ : ∃ GP, GP = wr.heap.size := ⟨_, rfl⟩
      obtain ⟨w1, hw1⟩ : ∃ w1, w1 = wr.alloc (.cells #[.int .i64 (p : Int), .int .i64 (q : Int)] 38) := ⟨_, rfl⟩
      have P1 : Hid (w1.heap[GP]? = some (.cells #[.int .i64 (p : Int), .int .i64 (q : Int)] 38 (0, 0))) := by show _ = _; rw [hw1, hGP]; exact heap_alloc_new _ _
      have M1 : Hid (w1.heap[GM]? = some (.cells #[.int .i64 (a : Int), .int .i64 (b : Int)] 38 (0, 0))) := by show _ = _; rw [hw1]; exact (Below.heap_alloc _ _ _ (Array.getElem?_eq_some_iff.1 HMO.out).1).trans HMO.out
      have R1 : Hid (w1.heap[SZ]? = some (.cells #[.int .i64 0, .int .i64 0] 38 (0, 0))) := by show _ = _; rw [hw1]; exact (Below.heap_alloc _ _ _ (Array.getElem?_eq_some_iff.1 HRZ.out).1).trans HRZ.out
      have B1 : Hid (Below SZ w w1) := by show Below _ _ _; rw [hw1]; exact HB.out.alloc (by have := HS.out; omega) _
      have S1 : Hid (SZ + 2 ≤ w1.heap.size) := by show _ ≤ _; rw [hw1, World.size_alloc]; have := HS.out; omega
      have HGP : Hid (SZ + 2 ≤ GP) := by show _ ≤ _; rw [hGP]; exact HS.out
      simp only [← hGP, ← hw1]
      clear hGP hw1 HMO HRZ HB HS c1 c2
      have p0 : w1.cell? ⟨GP, 0, none⟩ = some (.int .i64 (p : Int)) := by simp [World.cell?, P1.out]
      have p1 : w1.cell? ⟨GP, 1, none⟩ = some (.int .i64 (q : Int)) := by simp [World.cell?, P1.out]
      have m0 : w1.cell? ⟨GM, 0, none⟩ = some (.int .i64 (a : Int)) := by simp [World.cell?, M1.out]
      have mf := frozen_of_row w1 GM 0 _ _ M1.out
      have M2 := Lib.hid (heap_setCell_same _ GM 0 _ _ (.int .i64 (a2 : Int)) M1.out)
      go_upto_region 6 with fail
      obtain ⟨w2, hw2⟩ : ∃ w2, w2 = w1.setCell ⟨GM, 0, none⟩ (.int .i64 (a2 : Int)) := ⟨_, rfl⟩
      have gm : GM ≠ GP ∧ GM ≠ SZ ∧ SZ ≤ GM := by have := HGM.out; have := HGP.out; omega
      have M3 : Hid (w2.heap[GM]? = some (.cells #[.int .i64 (a2 : Int), .int .i64 (b : Int)] 38 (0, 0))) := by show _ = _; rw [hw2]; exact M2.out
      have P3 : Hid (w2.heap[GP]? = some (.cells #[.int .i64 (p : Int), .int .i64 (q : Int)] 38 (0, 0))) := by show _ = _; rw [hw2, Below.heap_setCell _ _ _ _ (fun e => gm.1 e.symm)]; exact P1.out
      have R3 : Hid (w2.heap[SZ]? = some (.cells #[.int .i64 0, .int .i64 0] 38 (0, 0))) := by show _ = _; rw [hw2, Below.heap_setCell _ _ _ _ (fun e => gm.2.1 e.symm)]; exact R1.out
      have B3 : Hid (Below SZ w w2) := by show Below _ _ _; rw [hw2]; exact B1.out.setCell (p := ⟨GM, 0, none⟩) gm.2.2 _
      have S3 : Hid (SZ + 2 ≤ w2.heap.size) := by show _ ≤ _; rw [hw2]; simpa [World.setCell] using S1.out
      try rw [← hw2]
      clear hw2 M2 M1 P1 R1 B1 S1 p0 p1 m0 mf gm
      have p0 : w2.cell? ⟨GP, 0, none⟩ = some (.int .i64 (p : Int)) := by simp [World.cell?, P3.out]
      have p1 : w2.cell? ⟨GP, 1, none⟩ = some (.int .i64 (q : Int)) := by simp [World.cell?, P3.out]
      have m1 : w2.cell? ⟨GM, 1, none⟩ = some (.int .i64 (b : Int)) := by simp [World.cell?, M3.out]
      have mf := frozen_of_row w2 GM 1 _ _ M3.out
      go_region_law (first
        | ((try go_simp); go_at_call 37; refine (CG.out _).mono ?_
           rintro e w4 ⟨rfl, hb4⟩
           have hB4 : Below w2.heap.size w2 w4 := by
             first
               | exact hb4
               | exact Below.trans (Below.drew (Below.refl _ _)) hb4
               | exact Below.trans (Below.drew (Below.drew (Below.refl _ _))) hb4
           have m4 := (hB4.cell (p := ⟨GM, 1, none⟩) (World.block_lt_of_cell? w2 _ m1)).trans m1
           have mf4 := frozen_of_row w4 GM 1 _ _ (zero_block M3.out hB4)))
      all_goals
        have M5 : Hid ((w4.setCell ⟨GM, 1, none⟩ (.int .i64 (b2 : Int))).heap[GM]? = some (.cells #[.int .i64 (a2 : Int), .int .i64 (b2 : Int)] 38 (0, 0))) := heap_setCell_same _ GM 1 _ _ (.int .i64 (b2 : Int)) (zero_block M3.out hB4)
        have R5 : Hid ((w4.setCell ⟨GM, 1, none⟩ (.int .i64 (b2 : Int))).heap[SZ]? = some (.cells #[.int .i64 0, .int .i64 0] 38 (0, 0))) := by show _ = _; rw [Below.heap_setCell _ _ _ _ (by have := HGM.out; show SZ ≠ GM; omega)]; exact zero_block R3.out hB4
        have B5 : Hid (Below SZ w (w4.setCell ⟨GM, 1, none⟩ (.int .i64 (b2 : Int)))) := (B3.out.trans (hB4.mono (by have := S3.out; omega))).setCell (p := ⟨GM, 1, none⟩) (by have := HGM.out; show SZ ≤ GM; omega) _
        have S5 : Hid (SZ + 2 ≤ (w4.setCell ⟨GM, 1, none⟩ (.int .i64 (b2 : Int))).heap.size) := by show _ ≤ _; have h1 := hB4.size; have h2 := S3.out; simp [World.setCell]; omega
        clear M3 P3 R3 B3 S3 p0 p1 m1 mf hb4 hB4 m4 mf4 CG HD e3 e4
        go_simp
        obtain ⟨w5, hw5⟩ : ∃ w5, w5 = w4.setCell ⟨GM, 1, none⟩ (.int .i64 (b2 : Int)) := ⟨_, rfl⟩
        rw [← hw5] at M5 R5 B5 S5
        try rw [← hw5]
        clear hw5
        go_wp2
        go_roundw
        case rel => exact ⟨k + 1, a2, b2, by omega, by go_num, HN, M5, R5, B5, S5⟩
        case measure => simp [intOf]; omega
    · obtain rfl : k = m := by omega
      have hF : alnF E (d + 1) u fr = (b, a) := by rw [DA.out]; exact HD.out
      have HF := Lib.hid hF
      have hrz := HRZ.out
      have hmo := HMO.out
      have m0 : wr.cell? ⟨GM, 0, none⟩ = some (.int .i64 (a : Int)) := by simp [World.cell?, hmo]
      have m1 : wr.cell? ⟨GM, 1, none⟩ = some (.int .i64 (b : Int)) := by simp [World.cell?, hmo]
      have y0 : wr.cell? ⟨SZ, 0, none⟩ = some (.int .i64 0) := by simp [World.cell?, hrz]
      have f0 := frozen_of_row wr SZ 0 _ _ hrz
      have y1 : wr.cell? ⟨SZ, 1, none⟩ = some (.int .i64 0) := by simp [World.cell?, hrz]
      have f1 := frozen_of_row wr SZ 1 _ _ hrz
      have r0 := heap_setCell_same _ SZ 0 _ _ (.int .i64 (a : Int)) hrz
      have r1 := heap_setCell_same _ SZ 1 _ _ (.int .i64 (b : Int)) r0
      have RL := Lib.hid r1
      have D1 := HB.out.setCell (p := ⟨SZ, 0, none⟩) (Nat.le_refl SZ) (.int .i64 (a : Int))
      have D2 := D1.setCell (p := ⟨SZ, 1, none⟩) (Nat.le_refl SZ) (.int .i64 (b : Int))
      have BB := Lib.hid D2
      clear hrz hmo r0 r1 D1 D2 hF HD HMO HRZ HB HS DN DA DL PL
      go_wp2
      refine bodyPost_ret (results_cell_row rfl _ _ SZ _ _ _ _ rfl RL.out Try.underlying38 rfl (by kernel_rfl)) rfl ?_
      exact ⟨by rw [HF.out]; rfl, by rw [← HSZ.out]; exact BB.out⟩


--GEN
set_option maxRecDepth 100000 in
set_option maxHeartbeats 3200000 in
theorem joinS_p (n : Nat) (E : Edges) : JoinS n E := by
  intro d u fr hu hB h7 m v w B H hm hm128 hR hH
  have DN := Lib.hid (fun k hk => dpT_next (E := E) (st := stS) (s0 := (1, 1)) (fin := id) (d := d) (u := u) (fr := fr) (k := k) hk)
  have DA : Hid (setF E (d + 1) u fr = dpT E stS (1, 1) id d u fr m) := by show _ = _; rw [hm]; exact (dpT_all (fin := id)).symm
  have DL := Lib.hid (dpT_S hB h7)
  have D0 : Hid (dpT E stS (1, 1) id d u fr 0 = (1, 1)) := by show _ = _; unfold dpT; simp
  have PL : Hid (∀ x ∈ away E u fr, (setF E d x u).1 ≤ 128 ∧ (setF E d x u).2 ≤ 128) := fun x hx => by
    have h1 := set_le7 (hB x hx) (kid_sz (b := 7) (by omega : sz E (d + 1) u fr ≤ 8) hx)
    omega
  have HM := Lib.hid hm
  have hml : (wgK (valS E) E d u fr m).length = m := by unfold wgK; rw [List.length_map, List.length_take]; omega
  have HML := Lib.hid hml
  obtain ⟨ao, cap, rfl⟩ := hR.out.slice
  obtain ⟨SZ, hSZ⟩ : ∃ SZ, SZ = w.heap.size := ⟨_, rfl⟩
  have HSZ := Lib.hid hSZ
  have HH : Hid (H ≤ SZ) := by show _ ≤ _; omega
  obtain ⟨W0, hW0⟩ : ∃ W0, W0 = (w.alloc (.cells #[.int .i64 0, .int .i64 0] 38)).alloc (.cells #[.int .i64 1, .int .i64 1] 38) := ⟨_, rfl⟩
  have B0 : Hid (Below SZ w W0) := by show Below _ _ _; rw [hW0, hSZ]; exact ((Below.refl _ _).alloc (Nat.le_refl _) _).alloc (by rw [World.size_alloc]; omega) _
  have R0 : Hid (W0.heap[SZ]? = some (.cells #[.int .i64 0, .int .i64 0] 38 (0, 0))) := by show _ = _; rw [hW0, hSZ]; exact heap_alloc2_old w _ _
  have M0 : Hid (W0.heap[SZ + 1]? = some (.cells #[.int .i64 1, .int .i64 1] 38 (0, 0))) := by show _ = _; rw [hW0, hSZ]; exact heap_alloc2_new w _ _
  have S0 : Hid (W0.heap.size = SZ + 2) := by show _ = _; rw [hW0, World.size_alloc, World.size_alloc, hSZ]
  obtain ⟨GM, hGM⟩ : ∃ GM, GM = SZ + 1 := ⟨_, rfl⟩
  have HGM := Lib.hid hGM
  rw [← hGM] at M0
  clear hH hml hm hB h7 hu
  go_enter Try.func43, Try.ntmps43
  go_wp2_with fail
  simp only [← hW0, ← hSZ, ← hGM]
  clear hW0 hSZ hGM
  go_loopw [5, 9] (fun e5 ii wr => ∃ (k a b : Nat), k ≤ m ∧ ii = .int .i64 k ∧ Hid (dpT E stS (1, 1) id d u fr k = (b, a)) ∧ Hid (wr.heap[GM]? = some (.cells #[.int .i64 (a : Int), .int .i64 (b : Int)] 38 (0, 0))) ∧ Hid (wr.heap[SZ]? = some (.cells #[.int .i64 0, .int .i64 0] 38 (0, 0))) ∧ Hid (Below SZ w wr) ∧ Hid (SZ + 2 ≤ wr.heap.size)) (fun _ ii _ => m - (intOf ii).toNat)
  case atStart => exact ⟨0, 1, 1, Nat.zero_le _, rfl, D0, M0, R0, B0, by show _ ≤ _; rw [S0.out]; omega⟩
  case round =>
    clear M0 R0 B0 S0 D0
    obtain ⟨k, a, b, hk, rfl, HD, HMO, HRZ, HB, HS⟩ := hrel
    by_cases hlt : k < m
    · have b1 : (k : Int) < (m : Int) := by omega
      have hka : k < (away E u fr).length := by rw [← HM.out]; exact hlt
      have hkl : k < (wgK (valS E) E d u fr m).length := by rw [HML.out]; exact hlt
      obtain ⟨g, c', e1, hg, hc⟩ := (hR.out.below (HB.out.mono HH.out)).at_ k hlt hkl
      simp only [Value.slice.injEq] at e1
      obtain ⟨rfl, _, rfl⟩ := e1
      rw [wgK_at (by rw [HM.out]; exact Nat.le_refl _) hkl] at hc
      have c1 : wr.cell? ⟨g, k * 2, none⟩ = some (.int .i64 ((setF E d (away E u fr)[k] u).2 : Nat)) := hc 0 (by decide)
      have c2 : wr.cell? ⟨g, k * 2 + 1, none⟩ = some (.int .i64 ((setF E d (away E u fr)[k] u).1 : Nat)) := hc 1 (by decide)
      have hp := PL.out _ (List.getElem_mem hka)
      have hn := DN.out k hka
      rw [HD.out] at hn
      have hl0 := DL.out k
      rw [HD.out] at hl0
      obtain ⟨⟨q, p⟩, hpq⟩ : ∃ z, z = setF E d (away E u fr)[k] u := ⟨_, rfl⟩
      rw [← hpq] at c1 c2 hp
      have hpq' : dpF E stS (1, 1) id d (away E u fr)[k] u = (q, p) := hpq.symm
      rw [hpq'] at hn
      replace c1 : wr.cell? ⟨g, k * 2, none⟩ = some (.int .i64 (p : Int)) := c1
      replace c2 : wr.cell? ⟨g, k * 2 + 1, none⟩ = some (.int .i64 (q : Int)) := c2
      obtain ⟨hq7, hp7⟩ : q ≤ 128 ∧ p ≤ 128 := by have h1 := hp.1; have h2 := hp.2; simp only at h1 h2; omega
      obtain ⟨hb7, ha7⟩ : b ≤ 64 ∧ a ≤ 64 := by have h1 := hl0.1; have h2 := hl0.2; simp only at h1 h2; omega
      have hm1 : a * q ≤ 64 * 128 := Nat.mul_le_mul ha7 hq7
      have hm2 : b * (p + q) ≤ 64 * 256 := Nat.mul_le_mul hb7 (by omega)
      have e3 : IntKind.i64.wrap ((a : Int) * (q : Int)) = ((a * q : Nat) : Int) := by rw [← Int.natCast_mul, IntKind.wrap_i64]; omega
      have e5 : IntKind.i64.wrap ((p : Int) + (q : Int)) = ((p + q : Nat) : Int) := by rw [IntKind.wrap_i64]; omega
      have e4 : IntKind.i64.wrap ((b : Int) * ((p + q : Nat) : Int)) = ((b * (p + q) : Nat) : Int) := by rw [← Int.natCast_mul, IntKind.wrap_i64]; omega
      have CG := Lib.hid (fun W => sum_p (p : Int) (q : Int) _ e5 W)
      obtain ⟨z, hz⟩ : ∃ z : Int, z = ((p + q : Nat) : Int) := ⟨_, rfl⟩
      rw [← hz] at e4 CG
      have HN : Hid (dpT E stS (1, 1) id d u fr (k + 1) = (b * (p + q), a * q)) := by show _ = _; rw [hn, stS, Nat.add_comm q p]
      obtain ⟨a2, ha2⟩ : ∃ a2, a2 = a * q := ⟨_, rfl⟩
      obtain ⟨b2, hb2⟩ : ∃ b2, b2 = b * (p + q) := ⟨_, rfl⟩
      rw [← ha2] at e3 HN
      rw [← hb2] at e4 HN
      clear e5 hm1 hm2
      have hgw : g < wr.heap.size := World.block_lt_of_cell? wr _ c1
      clear hz ha2 hb2 hpq hpq' hn hp hl0 hka hkl hc hq7 hp7 hb7 ha7 DN DL PL hgw
      go_upto_region 5 with fail
      obtain ⟨GP, hGP⟩ : ∃ GP, GP = wr.heap.size := ⟨_, rfl⟩
      obtain ⟨w1, hw1⟩ : ∃ w1, w1 = wr.alloc (.cells #[.int .i64 (p : Int), .int .i64 (q : Int)] 38) := ⟨_, rfl⟩
      have P1 : Hid (w1.heap[GP]? = some (.cells #[.int .i64 (p : Int), .int .i64 (q : Int)] 38 (0, 0))) := by show _ = _; rw [hw1, hGP]; exact heap_alloc_new _ _
      have M1 : Hid (w1.heap[GM]? = some (.cells #[.int .i64 (a : Int), .int .i64 (b : Int)] 38 (0, 0))) := by show _ = _; rw [hw1]; exact (Below.heap_alloc _ _ _ (Array.getElem?_eq_some_iff.1 HMO.out).1).trans HMO.out
      have R1 : Hid (w1.heap[SZ]? = some (.cells #[.int .i64 0, .int .i64 0] 38 (0, 0))) := by show _ = _; rw [hw1]; exact (Below.heap_alloc _ _ _ (Array.getElem?_eq_some_iff.1 HRZ.out).1).trans HRZ.out
      have B1 : Hid (Below SZ w w1) := by show Below _ _ _; rw [hw1]; exact HB.out.alloc (by have := HS.out; omega) _
      have S1 : Hid (SZ + 2 ≤ w1.heap.size) := by show _ ≤ _; rw [hw1, World.size_alloc]; have := HS.out; omega
      have HGP : Hid (SZ + 2 ≤ GP) := by show _ ≤ _; rw [hGP]; exact HS.out
      simp only [← hGP, ← hw1]
      clear hGP hw1 HMO HRZ HB HS c1 c2
      have p0 : w1.cell? ⟨GP, 0, none⟩ = some (.int .i64 (p : Int)) := by simp [World.cell?, P1.out]
      have p1 : w1.cell? ⟨GP, 1, none⟩ = some (.int .i64 (q : Int)) := by simp [World.cell?, P1.out]
      have m0 : w1.cell? ⟨GM, 0, none⟩ = some (.int .i64 (a : Int)) := by simp [World.cell?, M1.out]
      have mf := frozen_of_row w1 GM 0 _ _ M1.out
      have M2 := Lib.hid (heap_setCell_same _ GM 0 _ _ (.int .i64 (a2 : Int)) M1.out)
      go_upto_region 6 with fail
      obtain ⟨w2, hw2⟩ : ∃ w2, w2 = w1.setCell ⟨GM, 0, none⟩ (.int .i64 (a2 : Int)) := ⟨_, rfl⟩
      have gm : GM ≠ GP ∧ GM ≠ SZ ∧ SZ ≤ GM := by have := HGM.out; have := HGP.out; omega
      have M3 : Hid (w2.heap[GM]? = some (.cells #[.int .i64 (a2 : Int), .int .i64 (b : Int)] 38 (0, 0))) := by show _ = _; rw [hw2]; exact M2.out
      have P3 : Hid (w2.heap[GP]? = some (.cells #[.int .i64 (p : Int), .int .i64 (q : Int)] 38 (0, 0))) := by show _ = _; rw [hw2, Below.heap_setCell _ _ _ _ (fun e => gm.1 e.symm)]; exact P1.out
      have R3 : Hid (w2.heap[SZ]? = some (.cells #[.int .i64 0, .int .i64 0] 38 (0, 0))) := by show _ = _; rw [hw2, Below.heap_setCell _ _ _ _ (fun e => gm.2.1 e.symm)]; exact R1.out
      have B3 : Hid (Below SZ w w2) := by show Below _ _ _; rw [hw2]; exact B1.out.setCell (p := ⟨GM, 0, none⟩) gm.2.2 _
      have S3 : Hid (SZ + 2 ≤ w2.heap.size) := by show _ ≤ _; rw [hw2]; simpa [World.setCell] using S1.out
      try rw [← hw2]
      clear hw2 M2 M1 P1 R1 B1 S1 p0 p1 m0 mf gm
      have p0 : w2.cell? ⟨GP, 0, none⟩ = some (.int .i64 (p : Int)) := by simp [World.cell?, P3.out]
      have p1 : w2.cell? ⟨GP, 1, none⟩ = some (.int .i64 (q : Int)) := by simp [World.cell?, P3.out]
      have m1 : w2.cell? ⟨GM, 1, none⟩ = some (.int .i64 (b : Int)) := by simp [World.cell?, M3.out]
      have mf := frozen_of_row w2 GM 1 _ _ M3.out
      go_region_law (first
        | ((try go_simp); go_at_call 44; refine (CG.out _).mono ?_
           rintro e w4 ⟨rfl, hb4⟩
           have hB4 : Below w2.heap.size w2 w4 := by
             first
               | exact hb4
               | exact Below.trans (Below.drew (Below.refl _ _)) hb4
               | exact Below.trans (Below.drew (Below.drew (Below.refl _ _))) hb4
           have m4 := (hB4.cell (p := ⟨GM, 1, none⟩) (World.block_lt_of_cell? w2 _ m1)).trans m1
           have mf4 := frozen_of_row w4 GM 1 _ _ (zero_block M3.out hB4)))
      all_goals
        have M5 : Hid ((w4.setCell ⟨GM, 1, none⟩ (.int .i64 (b2 : Int))).heap[GM]? = some (.cells #[.int .i64 (a2 : Int), .int .i64 (b2 : Int)] 38 (0, 0))) := heap_setCell_same _ GM 1 _ _ (.int .i64 (b2 : Int)) (zero_block M3.out hB4)
        have R5 : Hid ((w4.setCell ⟨GM, 1, none⟩ (.int .i64 (b2 : Int))).heap[SZ]? = some (.cells #[.int .i64 0, .int .i64 0] 38 (0, 0))) := by show _ = _; rw [Below.heap_setCell _ _ _ _ (by have := HGM.out; show SZ ≠ GM; omega)]; exact zero_block R3.out hB4
        have B5 : Hid (Below SZ w (w4.setCell ⟨GM, 1, none⟩ (.int .i64 (b2 : Int)))) := (B3.out.trans (hB4.mono (by have := S3.out; omega))).setCell (p := ⟨GM, 1, none⟩) (by have := HGM.out; show SZ ≤ GM; omega) _
        have S5 : Hid (SZ + 2 ≤ (w4.setCell ⟨GM, 1, none⟩ (.int .i64 (b2 : Int))).heap.size) := by show _ ≤ _; have h1 := hB4.size; have h2 := S3.out; simp [World.setCell]; omega
        clear M3 P3 R3 B3 S3 p0 p1 m1 mf hb4 hB4 m4 mf4 CG HD e3 e4
        go_simp
        obtain ⟨w5, hw5⟩ : ∃ w5, w5 = w4.setCell ⟨GM, 1, none⟩ (.int .i64 (b2 : Int)) := ⟨_, rfl⟩
        rw [← hw5] at M5 R5 B5 S5
        try rw [← hw5]
        clear hw5
        go_wp2
        go_roundw
        case rel => exact ⟨k + 1, a2, b2, by omega, by go_num, HN, M5, R5, B5, S5⟩
        case measure => simp [intOf]; omega
    · obtain rfl : k = m := by omega
      have hF : setF E (d + 1) u fr = (b, a) := by rw [DA.out]; exact HD.out
      have HF := Lib.hid hF
      have hrz := HRZ.out
      have hmo := HMO.out
      have m0 : wr.cell? ⟨GM, 0, none⟩ = some (.int .i64 (a : Int)) := by simp [World.cell?, hmo]
      have m1 : wr.cell? ⟨GM, 1, none⟩ = some (.int .i64 (b : Int)) := by simp [World.cell?, hmo]
      have y0 : wr.cell? ⟨SZ, 0, none⟩ = some (.int .i64 0) := by simp [World.cell?, hrz]
      have f0 := frozen_of_row wr SZ 0 _ _ hrz
      have y1 : wr.cell? ⟨SZ, 1, none⟩ = some (.int .i64 0) := by simp [World.cell?, hrz]
      have f1 := frozen_of_row wr SZ 1 _ _ hrz
      have r0 := heap_setCell_same _ SZ 0 _ _ (.int .i64 (a : Int)) hrz
      have r1 := heap_setCell_same _ SZ 1 _ _ (.int .i64 (b : Int)) r0
      have RL := Lib.hid r1
      have D1 := HB.out.setCell (p := ⟨SZ, 0, none⟩) (Nat.le_refl SZ) (.int .i64 (a : Int))
      have D2 := D1.setCell (p := ⟨SZ, 1, none⟩) (Nat.le_refl SZ) (.int .i64 (b : Int))
      have BB := Lib.hid D2
      clear hrz hmo r0 r1 D1 D2 hF HD HMO HRZ HB HS DN DA DL PL
      go_wp2
      refine bodyPost_ret (results_cell_row rfl _ _ SZ _ _ _ _ rfl RL.out Try.underlying38 rfl (by kernel_rfl)) rfl ?_
      exact ⟨by rw [HF.out]; rfl, by rw [← HSZ.out]; exact BB.out⟩

end Go.Proofs.Ytmpppocmbdainaa
