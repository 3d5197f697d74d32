/-
  The program's maps of a tree to itself, tried one by one.
-/
import Derived.Test.YtnepfbellbmgeaaCBrn
import Derived.Test.YtnepfbellbmgeaaCTreeE
import Derived.Test.YtnepfbellbmgeaaZW
import Derived.Test.YtnepfbellbmgeaaShelfS
import Derived.Laws.StructEq
namespace Go.Proofs.Ytnepfbellbmgeaa
open Go.RowKit

theorem eq_edge7 (x y : Nat × Nat) (w : World) : (Op.equalIn 10000 74 (.agg #[.int .i64 (x.1 : Int), .int .i64 (x.2 : Int)]) (.agg #[.int .i64 (y.1 : Int), .int .i64 (y.2 : Int)])).run Try.prog w = .ok (decide (x = y)) w := by
  have hu := Try.underlying74
  have hi0 := Try.infoIntR
  rw [show (10000 : Nat) = 9999 + 1 from rfl]
  obtain ⟨i, hi, _, _, _⟩ := info_parts hi0
  have hc : Try.prog.cellsOf 3 = 1 := by kernel_rfl
  rw [run_equalIn_array w 9999 _ _ hu hi, hc]
  have e2 : List.range 2 = [0, 1] := rfl
  rw [e2, show (9999 : Nat) = 9998 + 1 from rfl]
  have hp : ∀ (z : Nat × Nat) (i : Nat) (v : Nat), (i = 0 ∧ v = z.1) ∨ (i = 1 ∧ v = z.2) → (part 3 #[.int .i64 (z.1 : Int), .int .i64 (z.2 : Int)] i).run Try.prog w = .ok (.int .i64 (v : Int)) w := fun z i v h => by
    rcases h with ⟨rfl, rfl⟩ | ⟨rfl, rfl⟩ <;> simp [part, isAgg, run_underlying Try.underlying3]
  have p1 := hp x 0 x.1 (.inl ⟨rfl, rfl⟩)
  have p2 := hp y 0 y.1 (.inl ⟨rfl, rfl⟩)
  have p3 := hp x 1 x.2 (.inr ⟨rfl, rfl⟩)
  have p4 := hp y 1 y.2 (.inr ⟨rfl, rfl⟩)
  have q := fun a b => run_equalIn_int (P := Try.prog) w 9998 3 .i64 _ a b Try.underlying3
  obtain ⟨a, b⟩ := x
  obtain ⟨c, d⟩ := y
  simp only at p1 p2 p3 p4
  by_cases h1 : a = c
  · by_cases h2 : b = d
    · subst h1; subst h2
      simp [Op.eqItems, p1, p3, q]
    · have q1 : ((b : Int) == (d : Int)) = false := by rw [beq_eq_false_iff_ne]; omega
      subst h1
      simp [Op.eqItems, p1, p2, p3, p4, q, h2, q1]
  · have q1 : ((a : Int) == (c : Int)) = false := by rw [beq_eq_false_iff_ne]; omega
    simp [Op.eqItems, p1, p2, q, q1, h1]
theorem eql_edge7 (x y : Nat × Nat) (w : World) : (binOp .eql 74 (.agg #[.int .i64 (x.1 : Int), .int .i64 (x.2 : Int)]) (.agg #[.int .i64 (y.1 : Int), .int .i64 (y.2 : Int)])).run Try.prog w = .ok (.bool (decide (x = y))) w := by
  rw [run_eql_struct, eq_edge7]; rfl
set_option maxHeartbeats 1600000 in
set_option maxRecDepth 100000 in
theorem indexE_p (x : Nat × Nat) (E : Edges) (v : Value) (w : World) {B0 H0 : Nat} (hE : Hid (ERow w B0 H0 v E)) (hH : H0 ≤ w.heap.size) (hel : E.length ≤ 64) :
    Calls Try.prog 110 #[v, .agg #[.int .i64 (x.1 : Int), .int .i64 (x.2 : Int)]] w fun e w' => ∃ z : Int, e = .returned (.int .i64 z) ∧ decide (0 ≤ z) = decide (x ∈ E) ∧ Below w.heap.size w w' := by
  obtain ⟨ao, cap, rfl, _, hcap, _, _⟩ := hE.out.slice
  obtain ⟨G, hG⟩ : ∃ G, G = w.heap.size := ⟨_, rfl⟩
  have HE : Hid (∀ W, Below G w W → ERow W B0 H0 (.slice ao E.length cap) E) := fun W hW => hE.out.below (hW.mono (by rw [hG]; exact hH))
  have S0 : Hid ((w.alloc (.cells #[.int .i64 (x.1 : Int), .int .i64 (x.2 : Int)] 74)).cell? ⟨G, 0, none⟩ = some (.int .i64 (x.1 : Int)) ∧ (w.alloc (.cells #[.int .i64 (x.1 : Int), .int .i64 (x.2 : Int)] 74)).cell? ⟨G, 1, none⟩ = some (.int .i64 (x.2 : Int)) ∧ Below G w (w.alloc (.cells #[.int .i64 (x.1 : Int), .int .i64 (x.2 : Int)] 74))) := by
    rw [hG]; exact ⟨by simp, by simp, (Below.refl _ _).alloc (Nat.le_refl _) _⟩
  obtain ⟨M, hM⟩ : ∃ M, M = E.length := ⟨_, rfl⟩
  have HM := Lib.hid hM
  rw [← hM] at HE hel ⊢
  clear hE hM
  go_enter Try.func110, Try.ntmps110
  go_wp2_with fail
  rw [← hG]
  have HG := Lib.hid hG
  clear hG
  go_loopw [5, 8] (fun e5 i wr => ∃ k : Nat, k ≤ M ∧ i = .int .i64 (k : Int) ∧ Hid (x ∉ E.take k) ∧ Hid (wr.cell? ⟨G, 0, none⟩ = some (.int .i64 (x.1 : Int)) ∧ wr.cell? ⟨G, 1, none⟩ = some (.int .i64 (x.2 : Int)) ∧ Below G w wr)) (fun _ i _ => M - (intOf i).toNat)
  case atStart => exact ⟨0, Nat.zero_le _, rfl, by show _ ∉ _; simp, S0⟩
  case round =>
    clear S0
    obtain ⟨k, hk, rfl, HK, HS⟩ := hrel
    by_cases hlt : k < M
    · have b1 : (k : Int) < (M : Int) := by omega
      have hkE : k < E.length := by rw [← HM.out]; exact hlt
      obtain ⟨g, c', e1, _, _, hg, c1, c2⟩ := (HE.out _ HS.out.2.2).at_ k hkE
      rw [← HM.out] at e1
      simp only [Value.slice.injEq] at e1
      obtain ⟨rfl, _, rfl⟩ := e1
      have hmem : E[k] ∈ E := List.getElem_mem hkE
      have htk : E.take (k + 1) = E.take k ++ [E[k]] := List.take_succ_eq_append_getElem hkE
      obtain ⟨y, hy⟩ : ∃ y, y = E[k] := ⟨_, rfl⟩
      rw [← hy] at c1 c2 hmem htk
      have HTK := Lib.hid htk
      have HME := Lib.hid hmem
      obtain ⟨d1, d2, _⟩ := HS.out
      have nq1 := fun W => eql_edge7 x y W
      clear hy hg hmem htk hkE
      by_cases hxy : x = y
      · have hd : decide (x = y) = true := decide_eq_true hxy
        rw [hd] at nq1
        have HIN : Hid (x ∈ E) := by show _ ∈ _; rw [hxy]; exact HME.out
        clear hd hxy
        go_wp2_with fail
        go_quiet (fail)
        go_wp2
        go_ret
        refine ⟨_, rfl, ?_, by rw [← HG.out]; exact HS.out.2.2.trans ⟨rfl, rfl, rfl, Nat.le_refl _, fun _ _ => rfl⟩⟩
        rw [decide_eq_true HIN.out]; simp
      · have hd : decide (x = y) = false := decide_eq_false hxy
        rw [hd] at nq1
        have HK2 : Hid (x ∉ E.take (k + 1)) := by
          show _ ∉ _
          rw [HTK.out]
          intro h
          rcases List.mem_append.1 h with h | h
          · exact HK.out h
          · simp only [List.mem_singleton] at h; exact hxy h
        clear hd hxy HK
        go_wp2_with fail
        go_quiet (fail)
        have HS2 : Hid ((wr.drewN nq).cell? ⟨G, 0, none⟩ = some (.int .i64 (x.1 : Int)) ∧ (wr.drewN nq).cell? ⟨G, 1, none⟩ = some (.int .i64 (x.2 : Int)) ∧ Below G w (wr.drewN nq)) := ⟨HS.out.1, HS.out.2.1, HS.out.2.2.trans ⟨rfl, rfl, rfl, Nat.le_refl _, fun _ _ => rfl⟩⟩
        obtain ⟨wa, hwa⟩ : ∃ wa, wa = wr.drewN nq := ⟨_, rfl⟩
        rw [← hwa] at HS2 ⊢
        clear hwa HS d1 d2 c1 c2 nq1
        go_wp2
        go_roundw
        case rel => exact ⟨k + 1, by omega, by go_num, HK2, HS2⟩
        case measure => simp [intOf]; omega
    · obtain rfl : k = M := by omega
      have HNI : Hid (x ∉ E) := by
        have := HK.out
        rwa [HM.out, List.take_length] at this
      clear HK
      go_wp2
      go_ret
      refine ⟨_, rfl, ?_, by rw [← HG.out]; exact HS.out.2.2⟩
      rw [decide_eq_false HNI.out]; rfl
theorem containsE_p (x : Nat × Nat) (E : Edges) (v : Value) (w : World) {B0 H0 : Nat} (hE : Hid (ERow w B0 H0 v E)) (hH : H0 ≤ w.heap.size) (hel : E.length ≤ 64) :
    Calls Try.prog 92 #[v, .agg #[.int .i64 (x.1 : Int), .int .i64 (x.2 : Int)]] w fun e w' => e = .returned (.bool (decide (x ∈ E))) ∧ Below w.heap.size w w' := by
  have CI := Lib.hid (fun (W : World) (hW : Below w.heap.size w W) => indexE_p x E v W (Lib.hid (hE.out.below (hW.mono hH))) (Nat.le_trans hH hW.size) hel)
  obtain ⟨ao, cap, rfl, _⟩ := hE.out.slice
  clear hE hH
  go_enter Try.func92, Try.ntmps92
  have B1 : Hid (∀ o : Obj, Below w.heap.size w (w.alloc o)) := fun o => (Below.refl _ _).alloc (Nat.le_refl _) o
  go_wp2_with fail
  refine (CI.out _ (B1.out _)).mono ?_
  rintro e w1 ⟨z, rfl, hz, hb⟩
  have HB : Hid (Below w.heap.size w w1) := (B1.out _).trans (hb.mono (B1.out _).size)
  have HZ := Lib.hid hz
  clear hb hz CI B1
  by_cases h0 : 0 ≤ z
  · go_wp2
    go_ret
    exact ⟨by rw [← HZ.out]; simp [h0], HB.out⟩
  · go_wp2
    go_ret
    exact ⟨by rw [← HZ.out]; simp, HB.out⟩
def intsT (L : List Nat) : List Int := L.map fun (x : Nat) => (x : Int)
def keeps1 (E : Edges) (im : List Nat) (e : Nat × Nat) : Bool := !decide (e.2 < im.length) || decide (norm (im.getD e.1 0, im.getD e.2 0) ∈ E)
theorem keeps_all (E : Edges) (im : List Nat) : keepsB E im = E.all (keeps1 E im) := rfl
set_option maxHeartbeats 1600000 in
set_option maxRecDepth 100000 in
theorem keepsEdges_p (n : Nat) (E : Edges) (ho : Hid (∀ e ∈ E, e.1 < e.2 ∧ e.2 < n)) (hel : E.length ≤ 64) (im : List Nat) (v u : Value) (w : World) {B0 H0 B1 H1 : Nat} (hE : Hid (ERow w B0 H0 v E)) (hH : H0 ≤ w.heap.size) (hI : Hid (Own w B1 H1 3 u (iv (intsT im)))) (hH1 : H1 ≤ w.heap.size) :
    Calls Try.prog 76 #[v, u] w fun e w' => e = .returned (.bool (keepsB E im)) ∧ Below w.heap.size w w' := by
  have CC := Lib.hid (fun (x : Nat × Nat) (W : World) (hW : Below w.heap.size w W) => containsE_p x E v W (Lib.hid (hE.out.below (hW.mono hH))) (Nat.le_trans hH hW.size) hel)
  have HE : Hid (∀ W, Below w.heap.size w W → ERow W B0 H0 v E) := fun W hW => hE.out.below (hW.mono hH)
  have HI : Hid (∀ W, Below w.heap.size w W → Own W B1 H1 3 u (iv (intsT im))) := fun W hW => hI.out.below (hW.mono hH1)
  obtain ⟨ao, cap, rfl, _⟩ := hE.out.slice
  have hiL : (iv (intsT im)).length = im.length := by simp [iv, intsT]
  obtain ⟨au, cu, rfl, _⟩ := hI.out.slice
  rw [hiL] at HI ⊢
  obtain ⟨M, hM⟩ : ∃ M, M = E.length := ⟨_, rfl⟩
  have HM := Lib.hid hM
  rw [← hM] at HE hel CC ⊢
  obtain ⟨l, hl⟩ : ∃ l, l = im.length := ⟨_, rfl⟩
  have HL := Lib.hid hl
  rw [← hl] at HI ⊢
  have KA := Lib.hid (keeps_all E im)
  have K0 : Hid ((E.take 0).all (keeps1 E im) = true) := rfl
  clear hE hM hI hl hiL hH hH1
  go_enter Try.func76, Try.ntmps76
  go_wp2_with fail
  go_loopw [6, 9] (fun e6 ii wr => ∃ k : Nat, k ≤ M ∧ ii = .int .i64 (k : Int) ∧ Hid ((E.take k).all (keeps1 E im) = true) ∧ Hid (Below w.heap.size w wr)) (fun _ ii _ => M - (intOf ii).toNat)
  case atStart => exact ⟨0, Nat.zero_le _, rfl, K0, Below.refl _ _⟩
  case round =>
    clear K0
    obtain ⟨k, hk, rfl, HK, HB⟩ := hrel
    by_cases hlt : k < M
    · have b1 : (k : Int) < (M : Int) := by omega
      have hkE : k < E.length := by rw [← HM.out]; exact hlt
      obtain ⟨g, c', e1, _, _, hg, c1, c2⟩ := (HE.out _ HB.out).at_ k hkE
      rw [← HM.out] at e1
      simp only [Value.slice.injEq] at e1
      obtain ⟨rfl, _, rfl⟩ := e1
      obtain ⟨o1, o2⟩ := ho.out _ (List.getElem_mem hkE)
      have hmem := List.getElem_mem hkE
      have htk : E.take (k + 1) = E.take k ++ [E[k]] := List.take_succ_eq_append_getElem hkE
      obtain ⟨⟨a, b⟩, hy⟩ : ∃ y, y = E[k] := ⟨_, rfl⟩
      rw [← hy] at c1 c2 htk o1 hmem
      have HTK := Lib.hid htk
      have HME := Lib.hid hmem
      replace c1 : wr.cell? ⟨g, k * 2, none⟩ = some (.int .i64 (a : Int)) := c1
      replace c2 : wr.cell? ⟨g, k * 2 + 1, none⟩ = some (.int .i64 (b : Int)) := c2
      replace o1 : a < b := o1
      clear hy htk hmem hkE o2
      obtain ⟨GE, hGE⟩ : ∃ GE, GE = wr.heap.size := ⟨_, rfl⟩
      have hsr : w.heap.size ≤ wr.heap.size := HB.out.size
      by_cases hbl : b < l
      · have d1 : (b : Int) < (l : Int) := by omega
        obtain ⟨gi, rfl, _, hgi, i1, _⟩ := (HI.out _ HB.out).at_ a (by simp [iv, intsT]; rw [← HL.out]; omega)
        obtain ⟨gi', e5, _, _, i2, _⟩ := (HI.out _ HB.out).at_ b (by simp [iv, intsT]; rw [← HL.out]; omega)
        cases e5
        have la : a < im.length := by rw [← HL.out]; omega
        have lb : b < im.length := by rw [← HL.out]; exact hbl
        have ea : (iv (intsT im))[a]? = some (.int .i64 ((im.getD a 0 : Nat) : Int)) := by
          rw [List.getD_eq_getElem?_getD, List.getElem?_eq_getElem la]; simp [iv, intsT, la]
        have eb : (iv (intsT im))[b]? = some (.int .i64 ((im.getD b 0 : Nat) : Int)) := by
          rw [List.getD_eq_getElem?_getD, List.getElem?_eq_getElem lb]; simp [iv, intsT, lb]
        rw [ea] at i1
        rw [eb] at i2
        have K1 : Hid (keeps1 E im (a, b) = decide (norm (im.getD a 0, im.getD b 0) ∈ E)) := by
          show _ = _
          unfold keeps1
          rw [decide_eq_true lb]; rfl
        obtain ⟨p, hp⟩ : ∃ p, p = im.getD a 0 := ⟨_, rfl⟩
        obtain ⟨q, hq⟩ : ∃ q, q = im.getD b 0 := ⟨_, rfl⟩
        rw [← hp] at i1 K1
        rw [← hq] at i2 K1
        have hgw : gi < wr.heap.size := World.block_lt_of_cell? wr _ i1
        have j1 := ((Below.refl wr.heap.size wr).alloc (Nat.le_refl _) (.cells #[.int .i64 (a : Int), .int .i64 (b : Int)] 74)).cell (p := ⟨gi, a, none⟩) hgw |>.trans i1
        have j2 := ((Below.refl wr.heap.size wr).alloc (Nat.le_refl _) (.cells #[.int .i64 (a : Int), .int .i64 (b : Int)] 74)).cell (p := ⟨gi, b, none⟩) hgw |>.trans i2
        have BA : Hid (Below w.heap.size w (wr.alloc (.cells #[.int .i64 (a : Int), .int .i64 (b : Int)] 74))) := HB.out.alloc hsr _
        have CE := Lib.hid (fun (W : World) => edgeOf_any p q W)
        have ll : (a : Int) < (l : Int) := by omega
        have al : a < l := by omega
        clear ea eb hp hq la lb hgw hgi
        obtain ⟨z, hz⟩ : ∃ z, z = norm (p, q) := ⟨_, rfl⟩
        rw [← hz] at K1 CE
        clear hz
        go_upto_region 4 with fail
        obtain ⟨W0, hW0⟩ : ∃ W0, W0 = wr.alloc (.cells #[.int .i64 (a : Int), .int .i64 (b : Int)] 74) := ⟨_, rfl⟩
        have k1 : W0.cell? ⟨GE, 0, none⟩ = some (.int .i64 (a : Int)) := by rw [hW0, hGE]; simp
        have k2 : W0.cell? ⟨GE, 1, none⟩ = some (.int .i64 (b : Int)) := by rw [hW0, hGE]; simp
        rw [← hW0] at j1 j2 BA
        rw [← hW0, ← hGE]
        have BD : Hid (Below w.heap.size w W0.drew) := Below.drew BA.out
        obtain ⟨t, ht⟩ : ∃ t, t = decide (z ∈ E) := ⟨_, rfl⟩
        have CZ : Hid (∀ W : World, Below w.heap.size w W → Calls Try.prog 92 #[.slice (some ⟨g, 0, none⟩) M cap, .agg #[.int .i64 (z.1 : Int), .int .i64 (z.2 : Int)]] W fun e w' => e = .returned (.bool t) ∧ Below W.heap.size W w') := by
          rw [ht]; exact fun W hW => CC.out z W hW
        rw [← ht] at K1
        clear hW0 c1 c2 i1 i2 hg ht hGE hsr BA
        go_region_law (first
          | ((try go_simp); go_at_call 82; refine (CE.out _).mono ?_
             rintro e w2 ⟨rfl, hb2⟩
             have B2 : Below w.heap.size w w2 := BD.out.trans (hb2.mono BD.out.size))
          | ((try go_simp); go_at_call 92; refine (CZ.out _ B2).mono ?_
             rintro e w3 ⟨rfl, hb3⟩
             have B3' : Below w.heap.size w w3 := B2.trans (hb3.mono B2.size)))
        all_goals
          go_simp
          have B3 := Lib.hid B3'
          clear B3' B2 hb2 hb3 CZ CE BD j1 j2 k1 k2
          cases t with
          | false =>
            have KF : Hid (keepsB E im = false) := by
              show _ = _
              rw [KA.out]
              cases hb : E.all (keeps1 E im) with
              | false => rfl
              | true =>
                have := (List.all_eq_true.1 hb) _ HME.out
                rw [K1.out] at this; cases this
            go_wp2
            go_ret
            rw [KF.out]
            exact ⟨rfl, B3.out⟩
          | true =>
            have HK2 : Hid ((E.take (k + 1)).all (keeps1 E im) = true) := by
              show _ = _
              rw [HTK.out, List.all_append, HK.out, List.all_cons, K1.out]; rfl
            clear HK K1
            go_wp2
            go_roundw
            case rel => exact ⟨k + 1, by omega, by go_num, HK2, B3⟩
            case measure => simp [intOf]; omega
      · have d1 : ¬ (b : Int) < (l : Int) := by omega
        have K1 : keeps1 E im (a, b) = true := by unfold keeps1; rw [decide_eq_false (by rw [← HL.out]; exact hbl)]; rfl
        have HK2 : Hid ((E.take (k + 1)).all (keeps1 E im) = true) := by
          show _ = _
          rw [HTK.out, List.all_append, HK.out, List.all_cons, K1]; rfl
        have BA : Hid (Below w.heap.size w (wr.alloc (.cells #[.int .i64 (a : Int), .int .i64 (b : Int)] 74))) := HB.out.alloc hsr _
        clear K1 HK
        go_upto_region 4 with fail
        obtain ⟨W0, hW0⟩ : ∃ W0, W0 = wr.alloc (.cells #[.int .i64 (a : Int), .int .i64 (b : Int)] 74) := ⟨_, rfl⟩
        have k1 : W0.cell? ⟨GE, 0, none⟩ = some (.int .i64 (a : Int)) := by rw [hW0, hGE]; simp
        have k2 : W0.cell? ⟨GE, 1, none⟩ = some (.int .i64 (b : Int)) := by rw [hW0, hGE]; simp
        rw [← hW0] at BA
        rw [← hW0, ← hGE]
        clear hW0 hGE c1 c2 hg hsr
        go_quiet (fail)
        have BQ : Hid (Below w.heap.size w (W0.drewN nq)) := BA.out.trans ⟨rfl, rfl, rfl, Nat.le_refl _, fun _ _ => rfl⟩
        obtain ⟨wa, hwa⟩ : ∃ wa, wa = W0.drewN nq := ⟨_, rfl⟩
        rw [← hwa] at BQ ⊢
        clear hwa BA k1 k2
        go_wp2
        go_roundw
        case rel => exact ⟨k + 1, by omega, by go_num, HK2, BQ⟩
        case measure => simp [intOf]; omega
    · obtain rfl : k = M := by omega
      have KT : Hid (keepsB E im = true) := by
        show _ = _
        rw [KA.out]
        have := HK.out
        rwa [HM.out, List.take_length] at this
      clear HK
      go_wp2
      go_ret
      rw [KT.out]
      exact ⟨rfl, HB.out⟩
end Go.Proofs.Ytnepfbellbmgeaa
