/-
  The walk of the law of even loads, with the program's functions of loads as premises.
-/
import Derived.Test.YtakpbnkncjddeaaKFndL
import Derived.Test.YtakpbnkncjddeaaZEV
import Derived.Test.YtakpbnkncjddeaaZCA
import Derived.Test.YtakpbnkncjddeaaZLP
import Derived.Deep.RegionLaw
import Derived.StillTailTactics
namespace Go.Proofs.Ytakpbnkncjddeaa
open Go.RowKit

def onesL (k : Nat) : List Nat := List.replicate k 1
theorem onesL_snoc (k : Nat) : iv (ldI (onesL k)) ++ iv [(1 : Int)] = iv (ldI (onesL (k + 1))) := by
  unfold onesL
  rw [List.replicate_succ', ldI_app, iv_app]; rfl
theorem degV_none (n : Nat) : List.replicate n (Value.int .i64 0) = degV n (fun _ => 0) := degV_zero n
/-- the depths of all nodes that hang on the first i are told -/
def Told (rows : List (List Int)) (N : Nat) (p : Nat → Nat) (i : Nat) (d : Nat → Nat) : Prop :=
  ∀ j, j < N → (j = 0 ∨ ∃ q, q < i ∧ (armA rows q = (j : Int) ∨ armB rows q = (j : Int))) → d j = p j
theorem Told.at_ {rows : List (List Int)} {N i : Nat} {p d : Nat → Nat} (h : Told rows N p i d) (hE : Evn rows N p) (hi : i < N) : d i = p i := by
  refine h i hi ?_
  rcases Nat.eq_zero_or_pos i with h0 | h0
  · exact .inl h0
  · exact .inr (hE.par i h0 hi)
/-- the same, and j of the node's own two arms -/
def Told2 (rows : List (List Int)) (N : Nat) (p : Nat → Nat) (i j : Nat) (d : Nat → Nat) : Prop :=
  Told rows N p i d ∧ ∀ c, c < N → ((1 ≤ j ∧ armA rows i = (c : Int)) ∨ (2 ≤ j ∧ armB rows i = (c : Int))) → d c = p c
theorem Told2.next {rows : List (List Int)} {N i : Nat} {p d : Nat → Nat} (h : Told2 rows N p i 2 d) : Told rows N p (i + 1) d := fun j hj hq => by
  rcases hq with h0 | ⟨q, hq, ha⟩
  · exact h.1 j hj (.inl h0)
  · by_cases e : q = i
    · subst e
      exact h.2 j hj (ha.imp (fun a => ⟨by omega, a⟩) (fun a => ⟨by omega, a⟩))
    · exact h.1 j hj (.inr ⟨q, by omega, ha⟩)
def armK (rows : List (List Int)) (i j : Nat) : Int := if j = 0 then armA rows i else armB rows i
theorem Told2.skip {rows : List (List Int)} {N i j : Nat} {p d : Nat → Nat} (h : Told2 rows N p i j d) (hj : j < 2) (hx : armK rows i j < 0) : Told2 rows N p i (j + 1) d := by
  refine ⟨h.1, fun c hc hq => ?_⟩
  unfold armK at hx
  rcases (show j = 0 ∨ j = 1 by omega) with rfl | rfl
  · rw [if_pos rfl] at hx
    rcases hq with ⟨_, q⟩ | ⟨q, _⟩
    · omega
    · omega
  · rw [if_neg (by omega)] at hx
    rcases hq with ⟨_, q⟩ | ⟨_, q⟩
    · exact h.2 c hc (.inl ⟨by omega, q⟩)
    · omega
theorem Told2.put {rows : List (List Int)} {N i j x : Nat} {p d : Nat → Nat} (h : Told2 rows N p i j d) (hj : j < 2) (hx : armK rows i j = (x : Int)) (hp : p x = p i + 1) : Told2 rows N p i (j + 1) (fun v => if v = x then p i + 1 else d v) := by
  have key : ∀ c, (c ≠ x → d c = p c) → (if c = x then p i + 1 else d c) = p c := fun c hc => by
    by_cases e : c = x
    · rw [if_pos e, e, hp]
    · rw [if_neg e]; exact hc e
  refine ⟨fun c hc hq => key c fun _ => h.1 c hc hq, fun c hc hq => key c fun hne => ?_⟩
  unfold armK at hx
  rcases (show j = 0 ∨ j = 1 by omega) with rfl | rfl
  · rw [if_pos rfl] at hx
    rcases hq with ⟨_, q⟩ | ⟨q, _⟩
    · exact absurd (by omega) hne
    · omega
  · rw [if_neg (by omega)] at hx
    rcases hq with ⟨_, q⟩ | ⟨_, q⟩
    · exact h.2 c hc (.inl ⟨by omega, q⟩)
    · exact absurd (by omega) hne
theorem armK_is {rows : List (List Int)} {N i j : Nat} {p : Nat → Nat} (hE : Evn rows N p) (hi : i < N) : armK rows i j < 0 ∨ ∃ x : Nat, armK rows i j = (x : Int) ∧ x < N ∧ p x = p i + 1 := by
  unfold armK
  split
  · rcases (hE.arm i hi).1 with h | h
    · exact .inl (by omega)
    · exact .inr h
  · rcases (hE.arm i hi).2 with h | h
    · exact .inl (by omega)
    · exact .inr h
theorem evnS_le {rows : List (List Int)} {N : Nat} {p : Nat → Nat} (hE : Evn rows N p) : ∀ k, k ≤ N → evnS p k ≤ k * (N + 1)
  | 0, _ => Nat.zero_le _
  | k + 1, h => by
    have h1 := evnS_le hE k (by omega)
    have h2 := hE.low k (by omega)
    rw [evnS, Nat.add_mul]; omega
/-- what is drawn: a word of as many pairs as loads, or none -/
theorem even_facts {l : List Int} {s : List UInt8} (h : fbI l s ≠ -1) : ∃ p, Evn (binOut s) l.length p ∧ l.length ≤ 7 ∧ fbI (ldI (onesL l.length)) s = ((evnS p l.length : Nat) : Int) ∧ fcI (ldI (onesL l.length)) ≤ ((evnS p l.length : Nat) : Int) ∧ 0 ≤ fbI l s := by
  by_cases hc : loadB l = true ∧ valid s = true ∧ s.length = 2 * l.length
  · obtain ⟨hw, hv, hl⟩ := hc
    have h0 := (fb_facts h).2.2.2.1
    have h7 := loadB_len hw
    obtain ⟨t, ht, h9⟩ := tree_ofP hv
    have hts : t.size = l.length := by rw [← ht, Tw.lst_length] at hl; omega
    have eb : binOut s = Tw.arms t 0 := by rw [binOut, if_pos hv, ← ht, Tw.binL_lst 18 t 0 (by rw [Tw.lst_length]; omega)]
    have o7 : (onesL l.length).length ≤ 7 := by rw [onesL, List.length_replicate]; exact h7
    have o20 : ∀ x ∈ onesL l.length, x ≤ 20 := fun x hx => by rw [onesL, List.mem_replicate] at hx; omega
    have e1 := fbI_yes o7 o20 hv (by rw [onesL, List.length_replicate]; exact hl)
    have e2 : fbW s (onesL l.length) = evnS (Tw.pd t 0) l.length := by rw [← hts, evn_sum t, ← ht, fbW_lst (by omega)]; rfl
    rw [e2] at e1
    have e3 := fb_facts (l := ldI (onesL l.length)) (s := s) (by rw [e1]; omega)
    refine ⟨Tw.pd t 0, by rw [eb, ← hts]; exact evn_arms t, h7, e1, by rw [← e1]; exact e3.2.1, h0⟩
  · exact absurd (fbI_no hc) h

set_option maxHeartbeats 6400000 in
set_option maxRecDepth 100000 in
theorem fnEvenLoads_law (PF : FindFn 31) (PC : LoadFn 26 fcI) (a : Option Addr) (len cap : Nat) (zs : List Int) (w : World) (hr0 : IsRow .u8 w a len cap zs) :
    Calls Try.prog 11 #[.slice a len cap] w fun e w' => e = .returned (.bool true) ∧ Below w.heap.size w w' := by
  obtain ⟨i0, hi0, hz0, hz1, hz2⟩ := info_parts Try.infoIntQ
  have hr := Lib.hid hr0
  clear hr0
  by_cases hbig : (1048576 : Int) < (len : Int)
  · go_enter Try.func11, Try.ntmps11
    go_wp2
    go_ret
    exact ⟨rfl, Below.refl _ _⟩
  · go_enter Try.func11, Try.ntmps11
    go_wp2_with fail
    refine (drawFindBy a len cap zs w hr (by omega)).mono ?_
    rintro e w1 ⟨v, l, s, rfl, o, hl7, hs, b1⟩
    obtain ⟨av, cv, rfl, _, hcv, _, _⟩ := o.slice
    rw [iv_length] at o hcv
    have RL := own_rd o
    have s01 := b1.size
    have hsm : s.size ≤ maxLen := by unfold maxLen; omega
    have EF := fun h => even_facts (l := l) (s := s.data.toList) h
    obtain ⟨n, hn⟩ : ∃ n, l.length = n := ⟨_, rfl⟩
    rw [iv_length, hn]
    rw [hn] at o hcv hl7 EF
    have B1 := Lib.hid b1
    have r0 : Hid (Below w1.heap.size w1 w1) := Below.refl _ _
    have CF := PF.at_ (B := w.heap.size) RL hn (by omega) hcv hsm s01
    have CS := specFindBy_fn.at_ (B := w.heap.size) RL hn (by omega) hcv hsm s01
    by_cases hj : fbI l s.data.toList = -1
    · rw [hj] at CF CS
      clear PF PC RL hj hn o b1 hr EF
      go_wp2_with fail
      refine (CF.out w _ r0.out B1.out).mono ?_
      rintro e w2 ⟨rfl, r2, b2⟩
      have R2 := Lib.hid r2
      have B2 := Lib.hid b2
      clear r2 b2
      go_wp2_with fail
      refine (CS.out w _ R2.out B2.out).mono ?_
      rintro e w3 ⟨rfl, r3, b3⟩
      have R3 := Lib.hid r3
      have B3 := Lib.hid b3
      clear r3 b3
      go_wp2_with fail
      refine (CF.out w _ R3.out B3.out).mono ?_
      rintro e w4 ⟨rfl, r4, b4⟩
      have B4 := Lib.hid b4
      clear r4 b4
      go_wp2
      go_ret
      exact ⟨rfl, B4.out⟩
    · obtain ⟨p, hE0, h7, e1, e2, e3⟩ := EF hj
      obtain ⟨z, hz⟩ : ∃ z, z = fbI l s.data.toList := ⟨_, rfl⟩
      rw [← hz] at CF CS e3
      have q1 : (z == z) = true := beq_self_eq_true _
      have q2 : ¬ z < 0 := by omega
      have HE := Lib.hid hE0
      have E1 := Lib.hid e1
      have E2 := Lib.hid e2
      have CBin := Lib.hid (fun W => implBinOf_any s W hsm)
      obtain ⟨rows, hrows⟩ : ∃ rows, rows = binOut s.data.toList := ⟨_, rfl⟩
      rw [← hrows] at HE CBin
      clear hE0 e1 e2 e3 hz hj EF RL hn o b1 hr hrows
      go_wp2_with fail
      refine (CF.out w _ r0.out B1.out).mono ?_
      rintro e w2 ⟨rfl, r2, b2⟩
      have R2 := Lib.hid r2
      have B2 := Lib.hid b2
      clear r2 b2
      go_wp2_with fail
      refine (CS.out w _ R2.out B2.out).mono ?_
      rintro e w3 ⟨rfl, r3, b3⟩
      have R3 := Lib.hid r3
      have B3 := Lib.hid b3
      clear r3 b3
      go_wp2_with fail
      refine (CF.out w _ R3.out B3.out).mono ?_
      rintro e w4 ⟨rfl, r4, b4⟩
      have B4 := Lib.hid b4
      clear r4 b4 CF CS B1 B2 B3 R2 R3 r0
      have S4 : Hid (w.heap.size ≤ w4.heap.size) := B4.out.size
      have hst : (w4.alloc (.cells #[] 3)).ownsRow w4.heap.size 3 1 (.slice (some ⟨w4.heap.size, 0, none⟩) 0 0) 0 (iv (ldI (onesL 0))) := World.ownsRow_lit (base := w4.heap.size) (e := 3) (size := 1) w4 #[] 0 (Nat.le_refl _) (by decide) rfl
      have b0 : Below w4.heap.size w4 (w4.alloc (.cells #[] 3)) := (Below.refl _ _).alloc (Nat.le_refl _) _
      obtain ⟨G, hG⟩ : ∃ G, G = w4.heap.size := ⟨_, rfl⟩
      rw [← hG] at hst b0 S4
      have GW : Hid (∀ W, Below G w4 W → G ≤ W.heap.size) := fun W hW => by rw [hG] at hW ⊢; exact hW.size
      have O0 := Lib.hid hst
      have B0 := Lib.hid b0
      clear hst b0
      go_wp2_with fail
      rw [← hG]
      clear hG
      go_loopw [5, 6] (fun out i wr => ∃ (k : Nat) (a5 : Option Addr) (c5 : Nat), k ≤ n ∧ out = .slice a5 k c5 ∧ i = .int .i64 (k : Int) ∧ Hid (wr.ownsRow G 3 1 (.slice a5 k c5) k (iv (ldI (onesL k)))) ∧ Hid (Below G w4 wr)) (fun _ i _ => n - (intOf i).toNat)
      case atStart => exact ⟨0, _, 0, Nat.zero_le _, rfl, rfl, O0, B0⟩
      case round =>
        clear O0 B0
        obtain ⟨k, a5, c5, hk, rfl, rfl, OW, BW⟩ := hrel
        by_cases hlt : k < n
        · have g1 : (k : Int) < (n : Int) := by omega
          have OA := Lib.hid (OW.out.alloc (.cells #[.int .i64 1] 3))
          have B3 : Hid (G ≤ wr.heap.size) := GW.out _ BW.out
          have hk9 : k ≤ 1000 := by omega
          have e4 : IntKind.i64.wrap ((k : Int) + 1) = (k : Int) + 1 := by rw [IntKind.wrap_i64]; omega
          go_wp2_with (at_builtin; refine wpList_append_rd rfl (.tmp 38) (.tmp 39) rfl G _ k _ rfl OA.out (some ⟨_, 0, none⟩) 1 1 rfl (l := [(1 : Int)]) rfl (lit_rdP _ _) hk9 (by omega) (by have := B3.out; simp; omega) ?_)
          intro v3 w5 ho hg
          obtain ⟨a3, c3, rfl⟩ := own_formN ho
          rw [onesL_snoc] at ho
          have B5 : Hid (Below G w4 w5) := Below.grown (BW.out.alloc B3.out _) hg (by have := B3.out; simp; omega) (fun j hj => (OA.out.lt j hj).1)
          have O5 := Lib.hid ho
          clear ho hg OA B3 OW BW
          go_wp2
          go_roundw
          case rel => exact ⟨k + 1, a3, c3, by omega, rfl, by go_num, O5, B5⟩
          case measure => simp [intOf]; omega
        · obtain rfl : k = n := by omega
          have B5 : Hid (Below w.heap.size w wr) := B4.out.trans (BW.out.mono S4.out)
          obtain ⟨wo, hwo⟩ : ∃ wo, wo = wr := ⟨_, rfl⟩
          subst hwo
          go_wp2_with fail
          refine (CBin.out wo).mono ?_
          rintro e w6 ⟨v6, RV, rfl, g6, b6⟩
          have G6 := Lib.hid g6.grid
          have O6 := Lib.hid (own_of_blocks OW.out (fun q hq => b6.block q (OW.out.lt q hq).2))
          have B6 := Lib.hid (B5.out.trans (b6.mono B5.out.size))
          obtain ⟨a6, c6, rfl⟩ := grid_val G6.out
          have hRL := HE.out.len
          rw [hRL] at G6 ⊢
          have hRLh := Lib.hid hRL
          clear g6 b6 hRL OW BW B5 GW S4 B4 CBin
          go_wp2_with (at_make; refine wpList_make_full _ rfl _ _ 23 rfl w6.heap.size 3 i0 (.int .i64 0) 1 Try.underlying23 hi0 hz0 hz1 _ _ _ _ k rfl rfl rfl rfl ?b2 ?b3 (Nat.le_refl _) ?_)
          case b2 => rw [hz2]; omega
          case b3 => unfold maxLen; omega
          intro w7 hown hgrow
          have hb7 : Below w6.heap.size w6 w7 := (Below.refl _ _).grown hgrow (Nat.le_refl _) (fun k hk => by cases hk)
          rw [show (madeCells #[Value.int .i64 0] k).toList = List.replicate k (Value.int .i64 0) from toList_madeCells_one _ _, degV_none] at hown
          obtain ⟨G2, hG2⟩ : ∃ G2, G2 = w6.heap.size := ⟨_, rfl⟩
          have T0 : Told rows k p 0 (fun _ => 0) := fun j hj hq => by
            rcases hq with rfl | ⟨q, hq, _⟩
            · exact (HE.out.top hj).symm
            · omega
          rw [← hG2] at hown hb7 G6 ⊢
          have S0 : Hid (Dg w6 w7 G2 G2 k (fun _ => 0) ∧ Told rows k p 0 (fun _ => 0)) := ⟨⟨hown, hb7, Nat.le_refl _⟩, T0⟩
          have B6W : Hid (∀ W, Below G2 w6 W → Below w.heap.size w W) := fun W hW => by rw [hG2] at hW; exact B6.out.trans (hW.mono B6.out.size)
          have OO : Hid (∀ W, Below G2 w6 W → W.ownsRow G 3 1 (.slice a5 k c5) k (iv (ldI (onesL k)))) := fun W hW => own_of_blocks O6.out (fun q hq => hW.block q (by rw [hG2]; exact (O6.out.lt q hq).2))
          clear hown hgrow hb7 hG2 T0 O6 B6
          go_wp2
          go_loopw [9, 10] (fun sm ii wr => ∃ (i : Nat) (d : Nat → Nat), i ≤ k ∧ ii = .int .i64 (i : Int) ∧ sm = .int .i64 ((evnS p i : Nat) : Int) ∧ Hid (Dg w6 wr G2 G2 k d ∧ Told rows k p i d)) (fun _ ii _ => k - (intOf ii).toNat)
          case atStart => exact ⟨0, _, Nat.zero_le _, rfl, rfl, S0⟩
          case round =>
            clear S0
            obtain ⟨i, d, hi, rfl, rfl, DT⟩ := hrel
            by_cases hlt2 : i < k
            · have g1 : (i : Int) < (k : Int) := by omega
              have hdi := DT.out.2.at_ HE.out hlt2
              have cD := (DT.out.1.own.cellAt i (by omega)).trans (degV_at d hlt2)
              rw [hdi] at cD
              have hlow := HE.out.low i hlt2
              have hSB := evnS_le HE.out i (by omega)
              have hSB2 : evnS p i ≤ 7 * 8 := Nat.le_trans hSB (Nat.mul_le_mul (by omega) (by omega))
              have ES : Hid (evnS p (i + 1) = evnS p i + 1 + p i) := rfl
              obtain ⟨S, hS⟩ : ∃ S, S = evnS p i := ⟨_, rfl⟩
              obtain ⟨P, hP⟩ : ∃ P, P = p i := ⟨_, rfl⟩
              rw [← hS] at hSB2 ES ⊢
              rw [← hP] at cD hlow ES
              have HP := Lib.hid hP
              have e5 : IntKind.i64.wrap ((S : Int) + 1) = (S : Int) + 1 := by rw [IntKind.wrap_i64]; omega
              have e6 : IntKind.i64.wrap ((S : Int) + 1 + (P : Int)) = ((S + 1 + P : Nat) : Int) := by rw [IntKind.wrap_i64]; omega
              have e7 : IntKind.i64.wrap ((i : Int) + 1) = (i : Int) + 1 := by rw [IntKind.wrap_i64]; omega
              have T2 : Hid (Dg w6 wr G2 G2 k d ∧ Told2 rows k p i 0 d) := ⟨DT.out.1, DT.out.2, fun c _ hq => by rcases hq with ⟨q, _⟩ | ⟨q, _⟩ <;> omega⟩
              obtain ⟨wi, hwi⟩ : ∃ wi, wi = wr := ⟨_, rfl⟩
              subst hwi
              clear hdi hSB hS hP DT
              go_wp2
              go_loopw [11] (fun ar wr => ∃ (j : Nat) (d : Nat → Nat), j ≤ 2 ∧ ar = .int .i64 (j : Int) ∧ Hid (Dg w6 wr G2 G2 k d ∧ Told2 rows k p i j d)) (fun ar _ => 2 - (intOf ar).toNat)
              case atStart => exact ⟨0, d, by omega, rfl, T2⟩
              case round =>
                clear T2 cD
                obtain ⟨j, d2, hj, rfl, D2⟩ := hrel
                by_cases hj2 : j < 2
                · have g2 : (j : Int) < 2 := by omega
                  obtain ⟨g, cap2, gr, cr, eg, h1, h3, h4⟩ := grid_row (G6.out.below D2.out.1.below) i (by rw [hRLh.out]; exact hlt2) (HE.out.two i hlt2)
                  simp only [Value.slice.injEq] at eg
                  obtain ⟨rfl, hkr, rfl⟩ := eg
                  clear hkr
                  have ha : wr.cell? ⟨gr, j, none⟩ = some (.int .i64 (armK rows i j)) := by
                    unfold armK
                    rcases (show j = 0 ∨ j = 1 by omega) with rfl | rfl
                    · exact h3
                    · exact h4
                  have hAK := armK_is (j := j) HE.out hlt2
                  have NX := Lib.hid (fun hx => D2.out.2.skip hj2 hx)
                  have PX := Lib.hid (fun (x : Nat) (hx : armK rows i j = (x : Int)) (hp : p x = p i + 1) => D2.out.2.put hj2 hx hp)
                  have e8 : IntKind.i64.wrap ((j : Int) + 1) = (j : Int) + 1 := by rw [IntKind.wrap_i64]; omega
                  rcases hAK with hx | ⟨x, hx, hxk, hpx⟩
                  · have NX2 : Hid (Dg w6 wr G2 G2 k d2 ∧ Told2 rows k p i (j + 1) d2) := ⟨D2.out.1, NX.out hx⟩
                    obtain ⟨y, hy⟩ : ∃ y, y = armK rows i j := ⟨_, rfl⟩
                    rw [← hy] at ha hx
                    have g3 : ¬ 0 ≤ y := by omega
                    clear NX PX hy h3 h4 D2
                    go_wp2
                    go_roundw
                    case rel => exact ⟨j + 1, d2, by omega, by go_num, NX2⟩
                    case measure => simp [intOf]; omega
                  · rw [hx] at ha
                    have T3 := PX.out x hx hpx
                    have dI := D2.out.2.1.at_ HE.out hlt2
                    have c1 := (D2.out.1.own.cellAt i (by omega)).trans (degV_at d2 hlt2)
                    rw [dI, ← HP.out] at c1
                    have c2 := (D2.out.1.own.cellAt x (by omega)).trans (degV_at d2 hxk)
                    have f2 := D2.out.1.own.frozenAt x
                    rw [← HP.out] at T3
                    have D3 := D2.out.1.drew.store (i := x) (x := P + 1)
                    have ec : ((P + 1 : Nat) : Int) = (P : Int) + 1 := by omega
                    rw [ec] at D3
                    have DT3 : Hid (Dg w6 ((wr.drew).setCell ⟨G2, x, none⟩ (.int .i64 ((P : Int) + 1))) G2 G2 k (fun v => if v = x then P + 1 else d2 v) ∧ Told2 rows k p i (j + 1) (fun v => if v = x then P + 1 else d2 v)) := ⟨D3, T3⟩
                    have g3 : 0 ≤ (x : Int) := by omega
                    have g4 : (x : Int) < (k : Int) := by omega
                    have e9 : IntKind.i64.wrap ((P : Int) + 1) = (P : Int) + 1 := by rw [IntKind.wrap_i64]; omega
                    clear NX PX h3 h4 D2 D3 T3 dI hx hpx
                    go_wp2_with fail
                    go_still_tail 14, (by kernel_rfl)
                    change wpList _ _ _ _ _ wr.drew
                    go_wp2
                    go_roundw
                    case rel => exact ⟨j + 1, _, by omega, by go_num, DT3⟩
                    case measure => simp [intOf]; omega
                · obtain rfl : j = 2 := by omega
                  have D4 : Hid (Dg w6 wr G2 G2 k d2 ∧ Told rows k p (i + 1) d2) := ⟨D2.out.1, D2.out.2.next⟩
                  clear D2
                  go_wp2
                  go_roundw
                  case rel => exact ⟨i + 1, d2, by omega, by go_num, by rw [ES.out]; go_num, D4⟩
                  case measure => simp [intOf]; omega
            · obtain rfl : i = k := by omega
              have OO1 := OO.out wr DT.out.1.below
              have RO := row_rdP OO1
              have B8 := Lib.hid (B6W.out wr DT.out.1.below)
              have hc5 : i ≤ c5 := by
                rcases OO1.2 with ⟨_, h0⟩ | ⟨_, _, _, e, _, _, h, _⟩
                · omega
                · cases e; exact h
              have ll : (ldI (onesL i)).length = i := by rw [ldI_len, onesL, List.length_replicate]
              have C7 := PF (ldI (onesL i)) a5 c5 s wr wr.heap.size (Lib.hid RO) (Nat.le_refl _) (by omega) (by omega) hsm
              have C8 := Lib.hid (fun W (hW : Below wr.heap.size wr W) => PC (ldI (onesL i)) a5 c5 W wr.heap.size (Lib.hid (RO.below hW)) hW.size (by omega) (by omega))
              rw [ll] at C7 C8
              rw [E1.out] at C7
              have C7 := Lib.hid C7
              have f1 := E2.out
              obtain ⟨S, hS⟩ : ∃ S : Int, S = ((evnS p i : Nat) : Int) := ⟨_, rfl⟩
              obtain ⟨y, hy⟩ : ∃ y, y = fcI (ldI (onesL i)) := ⟨_, rfl⟩
              rw [← hS] at C7 f1 ⊢
              rw [← hy] at C8 f1
              have q5 : (S == S) = true := beq_self_eq_true _
              clear hS hy ll hc5 OO1 RO DT PF PC
              go_wp2_with fail
              refine C7.out.mono ?_
              rintro e w9 ⟨rfl, b9⟩
              have B9 := Lib.hid (B8.out.trans (b9.mono B8.out.size))
              have C9 := Lib.hid (C8.out _ b9)
              clear b9 C8 C7
              go_wp2_with fail
              refine C9.out.mono ?_
              rintro e w10 ⟨rfl, b10⟩
              have B10 := Lib.hid (B9.out.trans (b10.mono B9.out.size))
              clear b10 C9
              go_wp2
              go_ret
              exact ⟨(by first | rfl | (simp [f1]; done) | (rw [decide_eq_true f1]; rfl)), B10.out⟩
end Go.Proofs.Ytakpbnkncjddeaa
