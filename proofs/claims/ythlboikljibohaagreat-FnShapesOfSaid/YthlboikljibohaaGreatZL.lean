/-
  Products that come round. Nothing of the program is named here.
  In how many ways branches go to each other, as the program counts them: texts are counted in a map.
-/
import Derived.WalkKit
import Derived.Test.YthlboikljibohaaGreatCText
import Derived.Maps.OwnOps
import Derived.Maps.Views
import Derived.Maps.RangeWalk
import Derived.Deep.RegionLaw
namespace Go.Proofs.YthlboikljibohaaGreat
open Go.RowKit
theorem wrap_dvd (x : Int) : (18446744073709551616 : Int) ∣ IntKind.i64.wrap x - x := by
  rw [IntKind.wrap_i64]; omega
theorem wrap_of {x y : Int} (h : (18446744073709551616 : Int) ∣ x - y) : IntKind.i64.wrap x = IntKind.i64.wrap y := by
  rw [IntKind.wrap_i64, IntKind.wrap_i64]; omega
theorem wrap_mul (a b : Int) : IntKind.i64.wrap (IntKind.i64.wrap a * IntKind.i64.wrap b) = IntKind.i64.wrap (a * b) := by
  apply wrap_of
  have e : IntKind.i64.wrap a * IntKind.i64.wrap b - a * b = IntKind.i64.wrap a * (IntKind.i64.wrap b - b) + (IntKind.i64.wrap a - a) * b := by
    rw [Int.mul_sub, Int.sub_mul]; omega
  rw [e]
  exact Int.dvd_add (Int.dvd_mul_of_dvd_right (wrap_dvd b)) (Int.dvd_mul_of_dvd_left (wrap_dvd a))
theorem wrap_three (P s C : Int) (hs : IntKind.i64.wrap s = s) : IntKind.i64.wrap (IntKind.i64.wrap P * IntKind.i64.wrap (s * IntKind.i64.wrap C)) = IntKind.i64.wrap (P * (s * C)) := by
  have h1 : IntKind.i64.wrap (s * IntKind.i64.wrap C) = IntKind.i64.wrap (s * C) := by
    have := wrap_mul s C
    rwa [hs] at this
  rw [h1, wrap_mul]
end Go.Proofs.YthlboikljibohaaGreat

namespace Go.Proofs.YthlboikljibohaaGreat
open Go.RowKit

theorem lawS7 : Maps.Keyed Tryz.prog 9 := Maps.string_keyed Tryz.underlying9
theorem strKey7 (y : List UInt8) : WideAt.IsKeyLit (.string y) := trivial
theorem below_grown7 {w w' : World} (h : Below w.heap.size w w') : w.grownBy w' none := ⟨h.os, h.tape, h.output, h.size, fun i hi _ => h.block i hi⟩
theorem zeroI7 (w : World) : (zeroValue 3).run Tryz.prog w = .ok (.int .i64 0) w := by kernel_rfl
theorem wf_smallC3 (x : Int) (h : -1000 ≤ x ∧ x ≤ 100000) : (Lit.int .i64 x).wf = true := by
  have h1 : IntKind.i64.min = -9223372036854775808 := rfl
  have h2 : IntKind.i64.max = 9223372036854775807 := rfl
  simp [Lit.wf]; omega
/-! ### numbers come round -/
/-- how often each text was met -/
def CntAre (D : DataW Unit) (L : List (List UInt8)) : Prop := Maps.IsMap D ∧ ∀ t, D.atKey (.string t) (.lit (.int .i64 0)) = .lit (.int .i64 (L.count t : Int))
theorem cnt_none : CntAre (.map [] : DataW Unit) [] := ⟨Maps.isMap_empty, fun _ => rfl⟩
theorem CntAre.add {D : DataW Unit} {L : List (List UInt8)} (h : CntAre D L) (t : List UInt8) : CntAre (D.put (.string t) (.lit (.int .i64 ((L.count t : Int) + 1)))) (L ++ [t]) := by
  refine ⟨h.1.put _ _, fun s => ?_⟩
  rw [List.count_append, List.count_singleton]
  by_cases e : s = t
  · subst e
    rw [Maps.atKey_put_same h.1 (strKey7 s)]
    simp
  · rw [Maps.atKey_put_other (fun q => e (by cases q; rfl)), h.2 s]
    have : (t == s) = false := by simpa using fun q => e q.symm
    simp [this]
theorem txts_next {E : Edges} {d : Nat} {L : List (Nat × Int)} {k : Nat} (hk : k < L.length) : txts E d (L.take (k + 1)) = txts E d (L.take k) ++ [txt E d L[k].1 L[k].2] := by
  unfold txts
  rw [List.take_succ_eq_append_getElem hk, List.map_append]; rfl
/-- what a look-up tells -/
theorem look7 {W : World} {G nm q : Nat} {D : DataW Unit} {L : List (List UInt8)} {t : List UInt8} (h : W.ownsMap Tryz.prog 9 (plainElem (H := Unit) Tryz.prog 3) G nm D) (hC : CntAre D L) (hq : L.count t = q) (hk : keyOf Tryz.prog 9 (.string ⟨t.toArray⟩) = some (.string t)) :
    (Instr.lookup 84 (.map (some G)) (.string ⟨t.toArray⟩) false).run Tryz.prog W = .ok (.int .i64 (q : Int)) W := by
  obtain ⟨c, hrun, hat, _⟩ := h.lookup_int lawS7 Tryz.underlying84 Tryz.underlying3 (zeroI7 W) hk
  rw [hC.2 t, hq] at hat
  have : c = (q : Int) := by simpa using hat.symm
  rw [this] at hrun
  exact hrun
/-- the branches that are counted -/
def GoodB (n : Nat) (E : Edges) (d : Nat) (L : List (Nat × Int)) : Prop := L.length ≤ 128 ∧ ∀ b ∈ L, b.1 < n ∧ Brn E d b.1 b.2 ∧ (nds E d b.1 b.2).length ≤ 64
theorem GoodB.parts {n : Nat} {E : Edges} {d : Nat} {L : List (Nat × Int)} (ho : ∀ e ∈ E, e.1 < n ∧ e.2 < n) (hE : E.length ≤ 64) (h : GoodB n E (d + 1) L) {b : Nat × Int} (hb : b ∈ L) : GoodB n E d (prt E b) := by
  obtain ⟨_, h2, h3⟩ := h.2 b hb
  refine ⟨?_, fun c hc => ?_⟩
  · have h1 := prt_length E b.1 b.2
    have h2 := away_len E b.1 b.2
    have : (prt E b).length = (away E b.1 b.2).length := h1
    omega
  · unfold Go.Proofs.YthlboikljibohaaGreat.prt at hc
    obtain ⟨x, hx, rfl⟩ := List.mem_map.1 hc
    exact ⟨(away_lt ho hx).1, h2 x hx, by have := nds_sub (d := d) hx; simp only; omega⟩

/-- what is said of the count -/
def MapsP (n : Nat) (E : Edges) (d : Nat) : Prop := ∀ (L : List (Nat × Int)), GoodB n E d L → ∀ (tv : Value) (RV : List Value) (v : Value) (w : World) (B0 H0 B1 H1 : Nat), Hid (Grid w B0 H0 tv RV (nbR n E)) → H0 ≤ w.heap.size → Hid (BRow w B1 H1 v L) → H1 ≤ w.heap.size →
    Calls Tryz.prog 36 #[tv, v] w fun e w' => e = .returned (.int .i64 (IntKind.i64.wrap (cm E (d + 1) L : Int))) ∧ Below w.heap.size w w'
set_option maxHeartbeats 6400000 in
set_option maxRecDepth 100000 in
theorem maps_body (n : Nat) (E : Edges) (ho : Hid (∀ e ∈ E, e.1 < n ∧ e.2 < n)) (hE : E.length ≤ 64) (d : Nat) (hd : d ≤ 64) (ih : ∀ d', d' + 1 = d → MapsP n E d') : MapsP n E d := by
  intro L hL tv RV v w B0 H0 B1 H1 hG hH hR hH1
  have hmm := @run_makeMap Tryz.prog
  have hGW : Hid (∀ W : World, Below w.heap.size w W → Grid W B0 H0 tv RV (nbR n E) ∧ H0 ≤ W.heap.size) := fun W hW => ⟨hG.out.below (hW.mono hH), Nat.le_trans hH hW.size⟩
  have hRW : Hid (∀ W : World, Below w.heap.size w W → BRow W B1 H1 v L) := fun W hW => hR.out.below (hW.mono hH1)
  have CT := Lib.hid (fun (b : Nat × Int) (hb : b ∈ L) (W : World) (hW : Below w.heap.size w W) => text_p n E ho hE d b.1 b.2 (hL.2 b hb).1 hd (Lib.hid (hL.2 b hb).2.1) (hL.2 b hb).2.2 tv RV W B0 H0 (Lib.hid (hGW.out W hW).1) (hGW.out W hW).2)
  have CP := Lib.hid (fun (b : Nat × Int) (hb : b ∈ L) (W : World) (hW : Below w.heap.size w W) => parts_p n E tv RV W (Lib.hid (hGW.out W hW).1) (hGW.out W hW).2 b.1 b.2 (hL.2 b hb).1 hE)
  have CC : Hid (∀ (b : Nat × Int) (_ : b ∈ L) (x : Value) (W : World) (B2 : Nat), Below w.heap.size w W → Hid (BRow W B2 W.heap.size x (prt E b)) →
      Calls Tryz.prog 36 #[tv, x] W fun e w' => e = .returned (.int .i64 (IntKind.i64.wrap (cm E d (prt E b) : Int))) ∧ Below W.heap.size W w') := fun b hb x W B2 hW hx => by
    have h1 := hL.2 b hb
    cases d with
    | zero => exact h1.2.1.elim
    | succ d' => exact ih d' rfl (prt E b) (hL.parts ho.out hE hb) tv RV x W B0 H0 B2 W.heap.size (Lib.hid (hGW.out W hW).1) (hGW.out W hW).2 hx (Nat.le_refl _)
  have h128 := hL.1
  have LB : Hid (∀ b ∈ L, (txt E d b.1 b.2).length ≤ 128) := fun b hb => by rw [txt_len]; have := (hL.2 b hb).2.2; omega
  have CA := Lib.hid (cms_all E d L)
  obtain ⟨ao, c6, rfl, _⟩ := hR.out.slice
  obtain ⟨at_, ct, rfl⟩ : ∃ a c, tv = .slice a RV.length c := by
    obtain ⟨a, c, h, _⟩ := hG.out.1.slice; exact ⟨a, c, h⟩
  obtain ⟨m, hm⟩ : ∃ m, m = L.length := ⟨_, rfl⟩
  have HM := Lib.hid hm
  rw [← hm] at h128 hRW CA ⊢
  obtain ⟨SZ, hSZ⟩ : ∃ SZ, SZ = w.heap.size := ⟨_, rfl⟩
  have HSZ := Lib.hid hSZ
  have M0 : Hid ((w.alloc (.map #[] 0)).ownsMap Tryz.prog 9 (plainElem (H := Unit) Tryz.prog 3) SZ 0 (.map [])) := by
    show World.ownsMap _ _ _ _ _ _ _
    rw [hSZ]; exact World.ownsMap_made (H := Unit) w Tryz.prog 9 (plainElem Tryz.prog 3)
  have B1' : Hid (Below SZ w (w.alloc (.map #[] 0))) := by show Below _ _ _; rw [hSZ]; exact (Below.refl _ _).alloc (Nat.le_refl _) _
  have Z0 : Hid ((1 : Int) = IntKind.i64.wrap (cms E d L 0 : Int)) := rfl
  rw [← hSZ] at hGW hRW CT CP CC
  clear hG hH hR hH1 hm hSZ ih hL hd
  go_enter Tryz.func36, Tryz.ntmps36
  go_wp2_with fail
  clear hmm
  rw [← HSZ.out]
  go_loopw [5, 8, 9, 13] (fun e5 e8 e9 ii wr => ∃ (k nm : Nat) (z : Int) (D : DataW Unit), k ≤ m ∧ ii = .int .i64 k ∧ e5 = .int .i64 z ∧ nm ≤ k ∧ Hid (z = IntKind.i64.wrap (cms E d L k : Int)) ∧ Hid (wr.ownsMap Tryz.prog 9 (plainElem (H := Unit) Tryz.prog 3) SZ nm D) ∧ Hid (CntAre D (txts E d (L.take k))) ∧ Hid (Below SZ w wr)) (fun _ _ _ ii _ => m - (intOf ii).toNat)
  case atStart => exact ⟨0, 0, 1, _, Nat.zero_le _, rfl, rfl, Nat.le_refl _, Z0, M0, cnt_none, B1'⟩
  case round =>
    clear M0 B1' Z0
    obtain ⟨k, nm, z, D, hk, rfl, rfl, hnm, HZ, HD, HC, HB⟩ := hrel
    by_cases hlt : k < m
    · have b1 : (k : Int) < (m : Int) := by omega
      have hkL : k < L.length := by rw [← HM.out]; exact hlt
      obtain ⟨g, c', e1, _, _, hg, c1, c2⟩ := (hRW.out _ HB.out).at_ k hkL
      rw [← HM.out] at e1
      simp only [Value.slice.injEq] at e1
      obtain ⟨rfl, _, rfl⟩ := e1
      have hbL := List.getElem_mem hkL
      have CN := cms_next E d L hkL
      have TN := txts_next (E := E) (d := d) hkL
      obtain ⟨b, hb⟩ : ∃ b, b = L[k] := ⟨_, rfl⟩
      rw [← hb] at c1 c2 CN TN hbL
      have CT1 := CT.out b hbL
      have CP1 := Lib.hid (CP.out b hbL)
      have CC1 := Lib.hid (CC.out b hbL)
      have lb := LB.out b hbL
      obtain ⟨t, ht⟩ : ∃ t, t = txt E d b.1 b.2 := ⟨_, rfl⟩
      rw [← ht] at CT1 CN TN lb
      have CT1 := Lib.hid CT1
      obtain ⟨x, fr⟩ := b
      replace c1 : wr.cell? ⟨g, k * 2, none⟩ = some (.int .i64 (x : Int)) := c1
      replace c2 : wr.cell? ⟨g, k * 2 + 1, none⟩ = some (.int .i64 fr) := c2
      have HCN := Lib.hid CN
      have HTN := Lib.hid TN
      have HBL := Lib.hid hbL
      replace CT1 : Hid (∀ W : World, Below SZ w W → Calls Tryz.prog 39 #[.slice at_ RV.length ct, .agg #[.int .i64 (x : Int), .int .i64 fr]] W fun e w' => e = .returned (.string ⟨t.toArray⟩) ∧ Below W.heap.size W w') := CT1
      replace CP1 : Hid (∀ W : World, Below SZ w W → Calls Tryz.prog 53 #[.slice at_ RV.length ct, .agg #[.int .i64 (x : Int), .int .i64 fr]] W fun e w' => ∃ y, e = .returned y ∧ BRow w' W.heap.size w'.heap.size y (prt E (x, fr)) ∧ Below W.heap.size W w') := CP1
      obtain ⟨C, hCe⟩ : ∃ C, C = cm E d (prt E (x, fr)) := ⟨_, rfl⟩
      rw [← hCe] at CC1 HCN
      clear hkL hbL hb ht CN TN CT CP CC LB hCe
      go_upto_region 6 with fail
      obtain ⟨GE, hGE⟩ : ∃ GE, GE = wr.heap.size := ⟨_, rfl⟩
      obtain ⟨W2, hW2⟩ : ∃ W2, W2 = wr.alloc (.cells #[.int .i64 (x : Int), .int .i64 fr] 67) := ⟨_, rfl⟩
      have sR : SZ ≤ wr.heap.size := by have := HB.out.size; rw [HSZ.out]; rw [HSZ.out] at *; exact this
      have hb2 : Below wr.heap.size wr W2 := by rw [hW2]; exact (Below.refl _ _).alloc (Nat.le_refl _) _
      have BW2 : Hid (Below SZ w W2) := HB.out.trans (hb2.mono sR)
      have D2 : Hid (W2.ownsMap Tryz.prog 9 (plainElem (H := Unit) Tryz.prog 3) SZ nm D) := HD.out.kept (below_grown7 hb2) (by simp)
      have a1 : W2.cell? ⟨GE, 0, none⟩ = some (.int .i64 (x : Int)) := by rw [hW2, hGE]; simp
      have a2 : W2.cell? ⟨GE, 1, none⟩ = some (.int .i64 fr) := by rw [hW2, hGE]; simp
      have hGE2 : GE < W2.heap.size := World.block_lt_of_cell? W2 _ a1
      have s2 : SZ ≤ W2.heap.size := Nat.le_trans sR hb2.size
      have S2 := Lib.hid s2
      have HGE2 := Lib.hid hGE2
      have hGS : SZ < GE := by rw [hGE]; exact HD.out.lt
      have HGS := Lib.hid hGS
      rw [← hGE, ← hW2]
      clear hGE hW2 c1 c2 hg HB HD hb2 sR s2 hGE2 hGS
      go_wp2_with fail
      refine (CT1.out _ BW2.out).mono ?_
      rintro e w3 ⟨rfl, hb3⟩
      have BW3 : Hid (Below SZ w w3) := BW2.out.trans (hb3.mono S2.out)
      have hD3 := D2.out.kept (below_grown7 hb3) (by simp)
      have d1 := (hb3.cell (p := ⟨GE, 0, none⟩) HGE2.out).trans a1
      have d2 := (hb3.cell (p := ⟨GE, 1, none⟩) HGE2.out).trans a2
      have S3 : Hid (SZ ≤ w3.heap.size) := Nat.le_trans S2.out hb3.size
      have HGE3 : Hid (GE < w3.heap.size) := Nat.lt_of_lt_of_le HGE2.out hb3.size
      have hsz : (⟨t.toArray⟩ : ByteArray).size ≤ maxLen := by unfold maxLen; simp [ByteArray.size]; omega
      have KY := Lib.hid (Go.WideMaps.keyOf_string_mk (P := Tryz.prog) Tryz.underlying9 hsz)
      obtain ⟨q, hq⟩ : ∃ q, q = (txts E d (L.take k)).count t := ⟨_, rfl⟩
      have hq128 : q ≤ 128 := by
        have h1 : (txts E d (L.take k)).count t ≤ (txts E d (L.take k)).length := List.count_le_length
        have h2 : (txts E d (L.take k)).length ≤ k := by unfold txts; rw [List.length_map, List.length_take]; omega
        omega
      have hat0 := HC.out.2 t
      have HC2 := Lib.hid (HC.out.add t)
      rw [← hq] at hat0 HC2 HCN
      rw [← HTN.out] at HC2
      have HAT := Lib.hid hat0
      have ew1 : IntKind.i64.wrap ((q : Int) + 1) = (q : Int) + 1 := by rw [IntKind.wrap_i64]; omega
      have hwf1 : (Lit.int .i64 ((q : Int) + 1)).wf = true := wf_smallC3 _ (by omega)
      have hnm2 : nm < maxLen := by unfold maxLen; omega
      clear hb3 a1 a2 hsz hq hat0 HC HTN CT1 D2 BW2 S2 HGE2 lb
      go_wp2_with (first
        | (at_lookup; refine wpList_lookup_own_int _ rfl _ _ 84 rfl 9 3 .i64 lawS7 Tryz.underlying84 Tryz.underlying3 (zeroI7 _) SZ nm D rfl hD3 _ _ rfl KY.out ?_; intro c hat hwc; obtain rfl : c = (q : Int) := by (have hh := HAT.out; rw [hh] at hat; simpa using hat.symm))
        | (at_mapUpdate; refine wpList_mapUpdate_own _ rfl _ _ _ 84 rfl 9 3 lawS7 Tryz.underlying84 _ SZ nm D rfl hD3 hnm2 _ _ _ rfl rfl KY.out _ [] (plainElem_int Tryz.underlying3 hwf1) ?_; intro w5 hown5 hg5; go_frame)
        | fail)
      obtain ⟨D', hD'⟩ : ∃ D', D' = D.put (.string t) (.lit (.int .i64 ((q : Int) + 1))) := ⟨_, rfl⟩
      rw [← hD'] at hown5 HC2
      have hcq : (txts E d (L.take (k + 1))).count t = q + 1 := by
        have h1 := HC2.out.2 t
        have hm := (show Maps.IsMap D' from HC2.out.1)
        rw [hD', Maps.atKey_put_same hD3.isMap (strKey7 t)] at h1
        simp only [DataW.lit.injEq, Lit.int.injEq] at h1
        have := h1.2; omega
      have D5 : Hid (w5.ownsMap Tryz.prog 9 (plainElem (H := Unit) Tryz.prog 3) SZ (nm + 1) D') := hown5
      have BW5 : Hid (Below SZ w w5.drew) := Below.drew (BW3.out.grown hg5 S3.out (fun j hj => by cases hj; exact Nat.le_refl _))
      have S5 : Hid (SZ ≤ w5.drew.heap.size) := Nat.le_trans S3.out hg5.size
      have f1 := (hg5.cell_far ⟨GE, 0, none⟩ HGE3.out (fun e => by have h1 : GE = SZ := Option.some.inj e; have := HGS.out; omega)).trans d1
      have f2 := (hg5.cell_far ⟨GE, 1, none⟩ HGE3.out (fun e => by have h1 : GE = SZ := Option.some.inj e; have := HGS.out; omega)).trans d2
      have LK : Hid (∀ W : World, W.ownsMap Tryz.prog 9 (plainElem (H := Unit) Tryz.prog 3) SZ (nm + 1) D' → (Instr.lookup 84 (.map (some SZ)) (.string ⟨t.toArray⟩) false).run Tryz.prog W = .ok (.int .i64 ((q + 1 : Nat) : Int)) W) := fun W hW => look7 hW HC2.out hcq KY.out
      have l5 := LK.out _ D5.out.drew
      obtain ⟨s, hs⟩ : ∃ s : Int, s = ((q + 1 : Nat) : Int) := ⟨_, rfl⟩
      rw [← hs] at l5 LK
      have ews : IntKind.i64.wrap s = s := by rw [hs, IntKind.wrap_i64]; omega
      have ZN : Hid (IntKind.i64.wrap (z * IntKind.i64.wrap (s * IntKind.i64.wrap (C : Int))) = IntKind.i64.wrap (cms E d L (k + 1) : Int)) := by
        show _ = _
        rw [HZ.out, wrap_three _ _ _ ews, HCN.out, hs]
        congr 1
      clear hD' hown5 hg5 hD3 d1 d2 HCN HAT ew1 hwf1 hnm2 hcq hs ews BW3 S3 HGE3 HZ
      obtain ⟨cz, hcz⟩ : ∃ cz : Int, cz = IntKind.i64.wrap (C : Int) := ⟨_, rfl⟩
      rw [← hcz] at CC1 ZN
      clear hcz
      go_region_law (first
        | ((try go_simp); go_at_call 53; refine (CP1.out _ BW5.out).mono ?_
           rintro e w6 ⟨y, rfl, hr6, hb6⟩
           have BW6 : Below SZ w w6 := BW5.out.trans (hb6.mono S5.out)
           have D6 : w6.ownsMap Tryz.prog 9 (plainElem (H := Unit) Tryz.prog 3) SZ (nm + 1) D' := D5.out.drew.kept (below_grown7 hb6) (by simp)
           have l6 := LK.out _ D6)
        | ((try go_simp); go_at_call 36; refine (CC1.out y _ _ BW6 (Lib.hid hr6)).mono ?_
           rintro e w7 ⟨rfl, hb7⟩
           have BW7 : Below SZ w w7 := BW6.trans (hb7.mono (Nat.le_trans S5.out hb6.size))
           have D7 : w7.ownsMap Tryz.prog 9 (plainElem (H := Unit) Tryz.prog 3) SZ (nm + 1) D' := D6.kept (below_grown7 hb7) (by simp)
           have l7 := LK.out _ D7))
      all_goals
        go_simp
        have HB7 := Lib.hid BW7
        have HD7 := Lib.hid D7
        clear BW7 D7 BW6 D6 l5 l6 l7 hr6 hb6 hb7 D5 BW5 S5 f1 f2 LK CP1 CC1
        go_wp2
        go_roundw
        case rel => exact ⟨k + 1, nm + 1, _, D', by omega, by go_num, rfl, by omega, ZN, HD7, HC2, HB7⟩
        case measure => simp [intOf]; omega
    · obtain rfl : k = m := by omega
      have HF : Hid (z = IntKind.i64.wrap (cm E (d + 1) L : Int)) := by show _ = _; rw [HZ.out, CA.out]
      clear HZ HD HC CT CP CC LB
      go_wp2
      go_ret
      rw [HF.out]
      exact ⟨rfl, by rw [← HSZ.out]; exact HB.out⟩
theorem maps_p (n : Nat) (E : Edges) (ho : Hid (∀ e ∈ E, e.1 < n ∧ e.2 < n)) (hE : E.length ≤ 64) : ∀ d, d ≤ 64 → MapsP n E d := by
  intro d
  induction d with
  | zero => intro h; exact maps_body n E ho hE 0 h (fun d' e => by omega)
  | succ d ih =>
    intro h
    refine maps_body n E ho hE (d + 1) h (fun d' e => ?_)
    have q : d' = d := by omega
    rw [q]
    exact ih (by omega)
end Go.Proofs.YthlboikljibohaaGreat
