/-
  The program's maps of a tree to itself, tried one by one.
  The program's count of the maps of a tree to itself, tried one by one.
-/
import Derived.Test.YthlboikljibohaaZBP
import Derived.Test.YthlboikljibohaaCTreeE
import Derived.Test.YthlboikljibohaaZM
import Derived.Test.YthlboikljibohaaShelfS
import Derived.Laws.StructEq
import Derived.Test.YthlboikljibohaaZQ
namespace Go.Proofs.Ythlboikljibohaa
open Go.RowKit

theorem eq_edge7 (x y : Nat × Nat) (w : World) : (Op.equalIn 10000 79 (.agg #[.int .i64 (x.1 : Int), .int .i64 (x.2 : Int)]) (.agg #[.int .i64 (y.1 : Int), .int .i64 (y.2 : Int)])).run Try.prog w = .ok (decide (x = y)) w := by
  have hu := Try.underlying79
  have hi0 := Try.infoIntR
  rw [show (10000 : Nat) = 9999 + 1 from rfl]
  obtain ⟨i, hi, _, _, _⟩ := info_parts hi0
  have hc : Try.prog.cellsOf 3 = 1 := by kernel_rfl
  rw [run_equalIn_array w 9999 _ _ hu hi, hc]
  have e2 : List.range 2 = [0, 1] := rfl
  rw [e2, show (9999 : Nat) = 9998 + 1 from rfl]
  have hp : ∀ (z : Nat × Nat) (i : Nat) (v : Nat), (i = 0 ∧ v = z.1) ∨ (i = 1 ∧ v = z.2) → (part 3 #[.int .i64 (z.1 : Int), .int .i64 (z.2 : Int)] i).run Try.prog w = .ok (.int .i64 (v : Int)) w := fun z i v h => by
    rcases h with ⟨rfl, rfl⟩ | ⟨rfl, rfl⟩ <;> simp [part, isAgg, run_underlying Try.underlying3]
  have p1 := hp x 0 x.1 (.inl ⟨rfl, rfl⟩)
  have p2 := hp y 0 y.1 (.inl ⟨rfl, rfl⟩)
  have p3 := hp x 1 x.2 (.inr ⟨rfl, rfl⟩)
  have p4 := hp y 1 y.2 (.inr ⟨rfl, rfl⟩)
  have q := fun a b => run_equalIn_int (P := Try.prog) w 9998 3 .i64 _ a b Try.underlying3
  obtain ⟨a, b⟩ := x
  obtain ⟨c, d⟩ := y
  simp only at p1 p2 p3 p4
  by_cases h1 : a = c
  · by_cases h2 : b = d
    · subst h1; subst h2
      simp [Op.eqItems, p1, p3, q]
    · have q1 : ((b : Int) == (d : Int)) = false := by rw [beq_eq_false_iff_ne]; omega
      subst h1
      simp [Op.eqItems, p1, p2, p3, p4, q, h2, q1]
  · have q1 : ((a : Int) == (c : Int)) = false := by rw [beq_eq_false_iff_ne]; omega
    simp [Op.eqItems, p1, p2, q, q1, h1]
theorem eql_edge7 (x y : Nat × Nat) (w : World) : (binOp .eql 79 (.agg #[.int .i64 (x.1 : Int), .int .i64 (x.2 : Int)]) (.agg #[.int .i64 (y.1 : Int), .int .i64 (y.2 : Int)])).run Try.prog w = .ok (.bool (decide (x = y))) w := by
  rw [run_eql_struct, eq_edge7]; rfl
set_option maxHeartbeats 1600000 in
set_option maxRecDepth 100000 in
theorem indexE_p (x : Nat × Nat) (E : Edges) (v : Value) (w : World) {B0 H0 : Nat} (hE : Hid (ERow w B0 H0 v E)) (hH : H0 ≤ w.heap.size) (hel : E.length ≤ 64) :
    Calls Try.prog 113 #[v, .agg #[.int .i64 (x.1 : Int), .int .i64 (x.2 : Int)]] w fun e w' => ∃ z : Int, e = .returned (.int .i64 z) ∧ decide (0 ≤ z) = decide (x ∈ E) ∧ Below w.heap.size w w' := by
  obtain ⟨ao, cap, rfl, _, hcap, _, _⟩ := hE.out.slice
  obtain ⟨G, hG⟩ : ∃ G, G = w.heap.size := ⟨_, rfl⟩
  have HE : Hid (∀ W, Below G w W → ERow W B0 H0 (.slice ao E.length cap) E) := fun W hW => hE.out.below (hW.mono (by rw [hG]; exact hH))
  have S0 : Hid ((w.alloc (.cells #[.int .i64 (x.1 : Int), .int .i64 (x.2 : Int)] 79)).cell? ⟨G, 0, none⟩ = some (.int .i64 (x.1 : Int)) ∧ (w.alloc (.cells #[.int .i64 (x.1 : Int), .int .i64 (x.2 : Int)] 79)).cell? ⟨G, 1, none⟩ = some (.int .i64 (x.2 : Int)) ∧ Below G w (w.alloc (.cells #[.int .i64 (x.1 : Int), .int .i64 (x.2 : Int)] 79))) := by
    rw [hG]; exact ⟨by simp, by simp, (Below.refl _ _).alloc (Nat.le_refl _) _⟩
  obtain ⟨M, hM⟩ : ∃ M, M = E.length := ⟨_, rfl⟩
  have HM := Lib.hid hM
  rw [← hM] at HE hel ⊢
  clear hE hM
  go_enter Try.func113, Try.ntmps113
  go_wp2_with fail
  rw [← hG]
  have HG := Lib.hid hG
  clear hG
  go_loopw [5, 8] (fun e5 i wr => ∃ k : Nat, k ≤ M ∧ i = .int .i64 (k : Int) ∧ Hid (x ∉ E.take k) ∧ Hid (wr.cell? ⟨G, 0, none⟩ = some (.int .i64 (x.1 : Int)) ∧ wr.cell? ⟨G, 1, none⟩ = some (.int .i64 (x.2 : Int)) ∧ Below G w wr)) (fun _ i _ => M - (intOf i).toNat)
  case atStart => exact ⟨0, Nat.zero_le _, rfl, by show _ ∉ _; simp, S0⟩
  case round =>
    clear S0
    obtain ⟨k, hk, rfl, HK, HS⟩ := hrel
    by_cases hlt : k < M
    · have b1 : (k : Int) < (M : Int) := by omega
      have hkE : k < E.length := by rw [← HM.out]; exact hlt
      obtain ⟨g, c', e1, _, _, hg, c1, c2⟩ := (HE.out _ HS.out.2.2).at_ k hkE
      rw [← HM.out] at e1
      simp only [Value.slice.injEq] at e1
      obtain ⟨rfl, _, rfl⟩ := e1
      have hmem : E[k] ∈ E := List.getElem_mem hkE
      have htk : E.take (k + 1) = E.take k ++ [E[k]] := List.take_succ_eq_append_getElem hkE
      obtain ⟨y, hy⟩ : ∃ y, y = E[k] := ⟨_, rfl⟩
      rw [← hy] at c1 c2 hmem htk
      have HTK := Lib.hid htk
      have HME := Lib.hid hmem
      obtain ⟨d1, d2, _⟩ := HS.out
      have nq1 := fun W => eql_edge7 x y W
      clear hy hg hmem htk hkE
      by_cases hxy : x = y
      · have hd : decide (x = y) = true := decide_eq_true hxy
        rw [hd] at nq1
        have HIN : Hid (x ∈ E) := by show _ ∈ _; rw [hxy]; exact HME.out
        clear hd hxy
        go_wp2_with fail
        go_quiet (fail)
        go_wp2
        go_ret
        refine ⟨_, rfl, ?_, by rw [← HG.out]; exact HS.out.2.2.trans ⟨rfl, rfl, rfl, Nat.le_refl _, fun _ _ => rfl⟩⟩
        rw [decide_eq_true HIN.out]; simp
      · have hd : decide (x = y) = false := decide_eq_false hxy
        rw [hd] at nq1
        have HK2 : Hid (x ∉ E.take (k + 1)) := by
          show _ ∉ _
          rw [HTK.out]
          intro h
          rcases List.mem_append.1 h with h | h
          · exact HK.out h
          · simp only [List.mem_singleton] at h; exact hxy h
        clear hd hxy HK
        go_wp2_with fail
        go_quiet (fail)
        have HS2 : Hid ((wr.drewN nq).cell? ⟨G, 0, none⟩ = some (.int .i64 (x.1 : Int)) ∧ (wr.drewN nq).cell? ⟨G, 1, none⟩ = some (.int .i64 (x.2 : Int)) ∧ Below G w (wr.drewN nq)) := ⟨HS.out.1, HS.out.2.1, HS.out.2.2.trans ⟨rfl, rfl, rfl, Nat.le_refl _, fun _ _ => rfl⟩⟩
        obtain ⟨wa, hwa⟩ : ∃ wa, wa = wr.drewN nq := ⟨_, rfl⟩
        rw [← hwa] at HS2 ⊢
        clear hwa HS d1 d2 c1 c2 nq1
        go_wp2
        go_roundw
        case rel => exact ⟨k + 1, by omega, by go_num, HK2, HS2⟩
        case measure => simp [intOf]; omega
    · obtain rfl : k = M := by omega
      have HNI : Hid (x ∉ E) := by
        have := HK.out
        rwa [HM.out, List.take_length] at this
      clear HK
      go_wp2
      go_ret
      refine ⟨_, rfl, ?_, by rw [← HG.out]; exact HS.out.2.2⟩
      rw [decide_eq_false HNI.out]; rfl
theorem containsE_p (x : Nat × Nat) (E : Edges) (v : Value) (w : World) {B0 H0 : Nat} (hE : Hid (ERow w B0 H0 v E)) (hH : H0 ≤ w.heap.size) (hel : E.length ≤ 64) :
    Calls Try.prog 93 #[v, .agg #[.int .i64 (x.1 : Int), .int .i64 (x.2 : Int)]] w fun e w' => e = .returned (.bool (decide (x ∈ E))) ∧ Below w.heap.size w w' := by
  have CI := Lib.hid (fun (W : World) (hW : Below w.heap.size w W) => indexE_p x E v W (Lib.hid (hE.out.below (hW.mono hH))) (Nat.le_trans hH hW.size) hel)
  obtain ⟨ao, cap, rfl, _⟩ := hE.out.slice
  clear hE hH
  go_enter Try.func93, Try.ntmps93
  have B1 : Hid (∀ o : Obj, Below w.heap.size w (w.alloc o)) := fun o => (Below.refl _ _).alloc (Nat.le_refl _) o
  go_wp2_with fail
  refine (CI.out _ (B1.out _)).mono ?_
  rintro e w1 ⟨z, rfl, hz, hb⟩
  have HB : Hid (Below w.heap.size w w1) := (B1.out _).trans (hb.mono (B1.out _).size)
  have HZ := Lib.hid hz
  clear hb hz CI B1
  by_cases h0 : 0 ≤ z
  · go_wp2
    go_ret
    exact ⟨by rw [← HZ.out]; simp [h0], HB.out⟩
  · go_wp2
    go_ret
    exact ⟨by rw [← HZ.out]; simp, HB.out⟩
def intsT (L : List Nat) : List Int := L.map fun (x : Nat) => (x : Int)
def keeps1 (E : Edges) (im : List Nat) (e : Nat × Nat) : Bool := !decide (e.2 < im.length) || decide (norm (im.getD e.1 0, im.getD e.2 0) ∈ E)
theorem keeps_all (E : Edges) (im : List Nat) : keepsB E im = E.all (keeps1 E im) := rfl
set_option maxHeartbeats 1600000 in
set_option maxRecDepth 100000 in
theorem keepsEdges_p (n : Nat) (E : Edges) (ho : Hid (∀ e ∈ E, e.1 < e.2 ∧ e.2 < n)) (hel : E.length ≤ 64) (im : List Nat) (v u : Value) (w : World) {B0 H0 B1 H1 : Nat} (hE : Hid (ERow w B0 H0 v E)) (hH : H0 ≤ w.heap.size) (hI : Hid (Own w B1 H1 3 u (iv (intsT im)))) (hH1 : H1 ≤ w.heap.size) :
    Calls Try.prog 76 #[v, u] w fun e w' => e = .returned (.bool (keepsB E im)) ∧ Below w.heap.size w w' := by
  have CC := Lib.hid (fun (x : Nat × Nat) (W : World) (hW : Below w.heap.size w W) => containsE_p x E v W (Lib.hid (hE.out.below (hW.mono hH))) (Nat.le_trans hH hW.size) hel)
  have HE : Hid (∀ W, Below w.heap.size w W → ERow W B0 H0 v E) := fun W hW => hE.out.below (hW.mono hH)
  have HI : Hid (∀ W, Below w.heap.size w W → Own W B1 H1 3 u (iv (intsT im))) := fun W hW => hI.out.below (hW.mono hH1)
  obtain ⟨ao, cap, rfl, _⟩ := hE.out.slice
  have hiL : (iv (intsT im)).length = im.length := by simp [iv, intsT]
  obtain ⟨au, cu, rfl, _⟩ := hI.out.slice
  rw [hiL] at HI ⊢
  obtain ⟨M, hM⟩ : ∃ M, M = E.length := ⟨_, rfl⟩
  have HM := Lib.hid hM
  rw [← hM] at HE hel CC ⊢
  obtain ⟨l, hl⟩ : ∃ l, l = im.length := ⟨_, rfl⟩
  have HL := Lib.hid hl
  rw [← hl] at HI ⊢
  have KA := Lib.hid (keeps_all E im)
  have K0 : Hid ((E.take 0).all (keeps1 E im) = true) := rfl
  clear hE hM hI hl hiL hH hH1
  go_enter Try.func76, Try.ntmps76
  go_wp2_with fail
  go_loopw [6, 9] (fun e6 ii wr => ∃ k : Nat, k ≤ M ∧ ii = .int .i64 (k : Int) ∧ Hid ((E.take k).all (keeps1 E im) = true) ∧ Hid (Below w.heap.size w wr)) (fun _ ii _ => M - (intOf ii).toNat)
  case atStart => exact ⟨0, Nat.zero_le _, rfl, K0, Below.refl _ _⟩
  case round =>
    clear K0
    obtain ⟨k, hk, rfl, HK, HB⟩ := hrel
    by_cases hlt : k < M
    · have b1 : (k : Int) < (M : Int) := by omega
      have hkE : k < E.length := by rw [← HM.out]; exact hlt
      obtain ⟨g, c', e1, _, _, hg, c1, c2⟩ := (HE.out _ HB.out).at_ k hkE
      rw [← HM.out] at e1
      simp only [Value.slice.injEq] at e1
      obtain ⟨rfl, _, rfl⟩ := e1
      obtain ⟨o1, o2⟩ := ho.out _ (List.getElem_mem hkE)
      have hmem := List.getElem_mem hkE
      have htk : E.take (k + 1) = E.take k ++ [E[k]] := List.take_succ_eq_append_getElem hkE
      obtain ⟨⟨a, b⟩, hy⟩ : ∃ y, y = E[k] := ⟨_, rfl⟩
      rw [← hy] at c1 c2 htk o1 hmem
      have HTK := Lib.hid htk
      have HME := Lib.hid hmem
      replace c1 : wr.cell? ⟨g, k * 2, none⟩ = some (.int .i64 (a : Int)) := c1
      replace c2 : wr.cell? ⟨g, k * 2 + 1, none⟩ = some (.int .i64 (b : Int)) := c2
      replace o1 : a < b := o1
      clear hy htk hmem hkE o2
      obtain ⟨GE, hGE⟩ : ∃ GE, GE = wr.heap.size := ⟨_, rfl⟩
      have hsr : w.heap.size ≤ wr.heap.size := HB.out.size
      by_cases hbl : b < l
      · have d1 : (b : Int) < (l : Int) := by omega
        obtain ⟨gi, rfl, _, hgi, i1, _⟩ := (HI.out _ HB.out).at_ a (by simp [iv, intsT]; rw [← HL.out]; omega)
        obtain ⟨gi', e5, _, _, i2, _⟩ := (HI.out _ HB.out).at_ b (by simp [iv, intsT]; rw [← HL.out]; omega)
        cases e5
        have la : a < im.length := by rw [← HL.out]; omega
        have lb : b < im.length := by rw [← HL.out]; exact hbl
        have ea : (iv (intsT im))[a]? = some (.int .i64 ((im.getD a 0 : Nat) : Int)) := by
          rw [List.getD_eq_getElem?_getD, List.getElem?_eq_getElem la]; simp [iv, intsT, la]
        have eb : (iv (intsT im))[b]? = some (.int .i64 ((im.getD b 0 : Nat) : Int)) := by
          rw [List.getD_eq_getElem?_getD, List.getElem?_eq_getElem lb]; simp [iv, intsT, lb]
        rw [ea] at i1
        rw [eb] at i2
        have K1 : Hid (keeps1 E im (a, b) = decide (norm (im.getD a 0, im.getD b 0) ∈ E)) := by
          show _ = _
          unfold keeps1
          rw [decide_eq_true lb]; rfl
        obtain ⟨p, hp⟩ : ∃ p, p = im.getD a 0 := ⟨_, rfl⟩
        obtain ⟨q, hq⟩ : ∃ q, q = im.getD b 0 := ⟨_, rfl⟩
        rw [← hp] at i1 K1
        rw [← hq] at i2 K1
        have hgw : gi < wr.heap.size := World.block_lt_of_cell? wr _ i1
        have j1 := ((Below.refl wr.heap.size wr).alloc (Nat.le_refl _) (.cells #[.int .i64 (a : Int), .int .i64 (b : Int)] 79)).cell (p := ⟨gi, a, none⟩) hgw |>.trans i1
        have j2 := ((Below.refl wr.heap.size wr).alloc (Nat.le_refl _) (.cells #[.int .i64 (a : Int), .int .i64 (b : Int)] 79)).cell (p := ⟨gi, b, none⟩) hgw |>.trans i2
        have BA : Hid (Below w.heap.size w (wr.alloc (.cells #[.int .i64 (a : Int), .int .i64 (b : Int)] 79))) := HB.out.alloc hsr _
        have CE := Lib.hid (fun (W : World) => edgeOf_any p q W)
        have ll : (a : Int) < (l : Int) := by omega
        have al : a < l := by omega
        clear ea eb hp hq la lb hgw hgi
        obtain ⟨z, hz⟩ : ∃ z, z = norm (p, q) := ⟨_, rfl⟩
        rw [← hz] at K1 CE
        clear hz
        go_upto_region 4 with fail
        obtain ⟨W0, hW0⟩ : ∃ W0, W0 = wr.alloc (.cells #[.int .i64 (a : Int), .int .i64 (b : Int)] 79) := ⟨_, rfl⟩
        have k1 : W0.cell? ⟨GE, 0, none⟩ = some (.int .i64 (a : Int)) := by rw [hW0, hGE]; simp
        have k2 : W0.cell? ⟨GE, 1, none⟩ = some (.int .i64 (b : Int)) := by rw [hW0, hGE]; simp
        rw [← hW0] at j1 j2 BA
        rw [← hW0, ← hGE]
        have BD : Hid (Below w.heap.size w W0.drew) := Below.drew BA.out
        obtain ⟨t, ht⟩ : ∃ t, t = decide (z ∈ E) := ⟨_, rfl⟩
        have CZ : Hid (∀ W : World, Below w.heap.size w W → Calls Try.prog 93 #[.slice (some ⟨g, 0, none⟩) M cap, .agg #[.int .i64 (z.1 : Int), .int .i64 (z.2 : Int)]] W fun e w' => e = .returned (.bool t) ∧ Below W.heap.size W w') := by
          rw [ht]; exact fun W hW => CC.out z W hW
        rw [← ht] at K1
        clear hW0 c1 c2 i1 i2 hg ht hGE hsr BA
        go_region_law (first
          | ((try go_simp); go_at_call 60; refine (CE.out _).mono ?_
             rintro e w2 ⟨rfl, hb2⟩
             have B2 : Below w.heap.size w w2 := BD.out.trans (hb2.mono BD.out.size))
          | ((try go_simp); go_at_call 93; refine (CZ.out _ B2).mono ?_
             rintro e w3 ⟨rfl, hb3⟩
             have B3' : Below w.heap.size w w3 := B2.trans (hb3.mono B2.size)))
        all_goals
          go_simp
          have B3 := Lib.hid B3'
          clear B3' B2 hb2 hb3 CZ CE BD j1 j2 k1 k2
          cases t with
          | false =>
            have KF : Hid (keepsB E im = false) := by
              show _ = _
              rw [KA.out]
              cases hb : E.all (keeps1 E im) with
              | false => rfl
              | true =>
                have := (List.all_eq_true.1 hb) _ HME.out
                rw [K1.out] at this; cases this
            go_wp2
            go_ret
            rw [KF.out]
            exact ⟨rfl, B3.out⟩
          | true =>
            have HK2 : Hid ((E.take (k + 1)).all (keeps1 E im) = true) := by
              show _ = _
              rw [HTK.out, List.all_append, HK.out, List.all_cons, K1.out]; rfl
            clear HK K1
            go_wp2
            go_roundw
            case rel => exact ⟨k + 1, by omega, by go_num, HK2, B3⟩
            case measure => simp [intOf]; omega
      · have d1 : ¬ (b : Int) < (l : Int) := by omega
        have K1 : keeps1 E im (a, b) = true := by unfold keeps1; rw [decide_eq_false (by rw [← HL.out]; exact hbl)]; rfl
        have HK2 : Hid ((E.take (k + 1)).all (keeps1 E im) = true) := by
          show _ = _
          rw [HTK.out, List.all_append, HK.out, List.all_cons, K1]; rfl
        have BA : Hid (Below w.heap.size w (wr.alloc (.cells #[.int .i64 (a : Int), .int .i64 (b : Int)] 79))) := HB.out.alloc hsr _
        clear K1 HK
        go_upto_region 4 with fail
        obtain ⟨W0, hW0⟩ : ∃ W0, W0 = wr.alloc (.cells #[.int .i64 (a : Int), .int .i64 (b : Int)] 79) := ⟨_, rfl⟩
        have k1 : W0.cell? ⟨GE, 0, none⟩ = some (.int .i64 (a : Int)) := by rw [hW0, hGE]; simp
        have k2 : W0.cell? ⟨GE, 1, none⟩ = some (.int .i64 (b : Int)) := by rw [hW0, hGE]; simp
        rw [← hW0] at BA
        rw [← hW0, ← hGE]
        clear hW0 hGE c1 c2 hg hsr
        go_quiet (fail)
        have BQ : Hid (Below w.heap.size w (W0.drewN nq)) := BA.out.trans ⟨rfl, rfl, rfl, Nat.le_refl _, fun _ _ => rfl⟩
        obtain ⟨wa, hwa⟩ : ∃ wa, wa = W0.drewN nq := ⟨_, rfl⟩
        rw [← hwa] at BQ ⊢
        clear hwa BA k1 k2
        go_wp2
        go_roundw
        case rel => exact ⟨k + 1, by omega, by go_num, HK2, BQ⟩
        case measure => simp [intOf]; omega
    · obtain rfl : k = M := by omega
      have KT : Hid (keepsB E im = true) := by
        show _ = _
        rw [KA.out]
        have := HK.out
        rwa [HM.out, List.take_length] at this
      clear HK
      go_wp2
      go_ret
      rw [KT.out]
      exact ⟨rfl, HB.out⟩
end Go.Proofs.Ythlboikljibohaa

namespace Go.Proofs.Ythlboikljibohaa
open Go.RowKit

theorem clone7_p (xs : List Int) (v : Value) (w : World) {B H : Nat} (hv : Hid (Own w B H 3 v (iv xs))) (hl : xs.length ≤ 64) :
    Calls Try.prog 58 #[v] w fun e w' => ∃ u, e = .returned u ∧ Own w' w.heap.size w'.heap.size 3 u (iv xs) ∧ Below w.heap.size w w' := by
  obtain ⟨av, cv, rfl, h0, _, _, h1⟩ := hv.out.slice
  rw [iv_length] at hv h0 ⊢
  cases av with
  | none =>
    obtain ⟨e0, rfl⟩ := h0 rfl
    have : xs = [] := List.eq_nil_of_length_eq_zero e0
    subst this
    refine (Try.slices_Clone_int_nil 0 0 w).mono ?_
    rintro e w' ⟨rfl, rfl⟩
    exact ⟨_, rfl, ⟨World.ownsRow_nil _ _ _ _, fun q hq => by simp [Value.ownBlock] at hq⟩, Below.refl _ _⟩
  | some a =>
    obtain ⟨g, rfl, _, _⟩ := h1 a rfl
    by_cases hx : xs.length = 0
    · have : xs = [] := List.eq_nil_of_length_eq_zero hx
      subst this
      refine (Try.slices_Clone_int_zero _ cv w).mono ?_
      rintro e w' ⟨u, rfl, h, _, hb⟩
      exact ⟨u, rfl, Own.of_own h, hb⟩
    · refine (Try.slices_Clone_int g 0 xs.length cv xs w (Nat.le_refl _) (by omega) (fun j hj => ?_)).mono ?_
      · obtain ⟨g', e, _, _, h, _⟩ := hv.out.at_ j (by rw [iv_length]; exact hj)
        cases e
        rw [Nat.zero_add]
        rw [h, iv_at xs j hj, List.getD_eq_getElem?_getD, List.getElem?_eq_getElem hj]; rfl
      · rintro e w' ⟨u, rfl, h, _, hb⟩
        rw [List.take_length] at h
        exact ⟨u, rfl, Own.of_own (by rw [iv_length]; exact h), hb⟩
set_option maxHeartbeats 800000 in
theorem indexI7_p (xs : List Nat) (x : Nat) (v : Value) (w : World) {B H : Nat} (hv : Hid (Own w B H 3 v (iv (intsT xs)))) (hl : xs.length ≤ 64) :
    Calls Try.prog 59 #[v, .int .i64 (x : Int)] w fun e w' => ∃ z : Int, e = .returned (.int .i64 z) ∧ decide (0 ≤ z) = decide (x ∈ xs) ∧ w = w' := by
  have hiL : (iv (intsT xs)).length = xs.length := by simp [iv, intsT]
  obtain ⟨ao, cap, rfl, _⟩ := hv.out.slice
  rw [hiL] at hv ⊢
  obtain ⟨m, hm⟩ : ∃ m, m = xs.length := ⟨_, rfl⟩
  have HM := Lib.hid hm
  rw [← hm] at hv hl ⊢
  have HI : Hid (∀ (j : Nat) (hj : j < xs.length), ∃ g, ao = some ⟨g, 0, none⟩ ∧ w.cell? ⟨g, j, none⟩ = some (.int .i64 (xs[j] : Int))) := fun j hj => by
    obtain ⟨g, e, _, _, c, _⟩ := hv.out.at_ j (by rw [hiL]; exact hj)
    exact ⟨g, e, by rw [c]; simp [iv, intsT, hj]⟩
  have K0 : Hid (x ∉ xs.take 0) := by show _ ∉ _; simp
  clear hv hm hiL
  go_enter Try.func59, Try.ntmps59
  go_wp2
  go_loop [8] (fun i => ∃ k : Nat, k ≤ m ∧ i = .int .i64 (k : Int) ∧ Hid (x ∉ xs.take k)) (fun i => m - (intOf i).toNat)
  case atStart => exact ⟨0, Nat.zero_le _, rfl, K0⟩
  case round =>
    clear K0
    obtain ⟨k, hk, rfl, HK⟩ := hrel
    by_cases hlt : k < m
    · have b1 : (k : Int) < (m : Int) := by omega
      have hkx : k < xs.length := by rw [← HM.out]; exact hlt
      obtain ⟨g, rfl, c1⟩ := HI.out k hkx
      have htk : xs.take (k + 1) = xs.take k ++ [xs[k]] := List.take_succ_eq_append_getElem hkx
      have hmem : xs[k] ∈ xs := List.getElem_mem hkx
      obtain ⟨y, hy⟩ : ∃ y, y = xs[k] := ⟨_, rfl⟩
      rw [← hy] at c1 htk hmem
      have HTK := Lib.hid htk
      have HME := Lib.hid hmem
      clear hy htk hmem hkx
      by_cases hxy : x = y
      · have q1 : ((x : Int) == (y : Int)) = true := by rw [hxy]; simp
        have HIN : Hid (x ∈ xs) := by show _ ∈ _; rw [hxy]; exact HME.out
        clear hxy
        go_wp2
        go_ret
        exact ⟨_, rfl, by simp [HIN.out], rfl⟩
      · have q1 : ((x : Int) == (y : Int)) = false := by rw [beq_eq_false_iff_ne]; omega
        have HK2 : Hid (x ∉ xs.take (k + 1)) := by
          show _ ∉ _
          rw [HTK.out]
          intro h
          rcases List.mem_append.1 h with h | h
          · exact HK.out h
          · simp only [List.mem_singleton] at h; exact hxy h
        clear hxy HK
        go_wp2
        go_round
        case rel => exact ⟨k + 1, by omega, by go_num, HK2⟩
        case measure => simp [intOf]; omega
    · obtain rfl : k = m := by omega
      have HNI : Hid (x ∉ xs) := by
        have := HK.out
        rwa [HM.out, List.take_length] at this
      clear HK
      go_wp2
      go_ret
      exact ⟨_, rfl, by simp [HNI.out], rfl⟩
theorem containsI7_p (xs : List Nat) (x : Nat) (v : Value) (w : World) {B H : Nat} (hv : Hid (Own w B H 3 v (iv (intsT xs)))) (hl : xs.length ≤ 64) :
    Calls Try.prog 77 #[v, .int .i64 (x : Int)] w fun e w' => e = .returned (.bool (decide (x ∈ xs))) ∧ w = w' := by
  have CI := Lib.hid (indexI7_p xs x v w hv hl)
  obtain ⟨ao, cap, rfl, _⟩ := hv.out.slice
  clear hv
  go_enter Try.func77, Try.ntmps77
  go_wp2_with fail
  refine CI.out.mono ?_
  rintro e w1 ⟨z, rfl, hz, rfl⟩
  have HZ := Lib.hid hz
  clear hz CI
  by_cases h0 : 0 ≤ z
  · go_wp2
    go_ret
    exact ⟨by rw [← HZ.out]; simp [h0], rfl⟩
  · go_wp2
    go_ret
    exact ⟨by rw [← HZ.out]; simp, rfl⟩
/-- the count over the first images -/
def sumP (E : Edges) (n k : Nat) (im : List Nat) (j : Nat) : Nat := ((List.range j).map fun x => if x ∈ im then 0 else tryP E n k (im ++ [x])).sum
theorem sumP_next (E : Edges) (n k : Nat) (im : List Nat) (j : Nat) : sumP E n k im (j + 1) = sumP E n k im j + (if j ∈ im then 0 else tryP E n k (im ++ [j])) := by
  unfold sumP; rw [List.range_succ, List.map_append, List.sum_append]; simp
theorem sumP_le (E : Edges) (n k : Nat) (im : List Nat) (j : Nat) : sumP E n k im j ≤ j * n ^ k := by
  have := sum_le_mul (L := List.range j) (f := fun x => if x ∈ im then 0 else tryP E n k (im ++ [x])) (b := n ^ k) (fun x _ => by
    split
    · exact Nat.zero_le _
    · exact tryP_le E n k _)
  rwa [List.length_range] at this
theorem intsT_snoc (im : List Nat) (x : Nat) : iv (intsT (im ++ [x])) = iv (intsT im) ++ [.int .i64 (x : Int)] := by simp [iv, intsT]
set_option maxHeartbeats 3200000 in
set_option maxRecDepth 100000 in
theorem tryMaps_p (n : Nat) (E : Edges) (hn : n ≤ 7) (ho : Hid (∀ e ∈ E, e.1 < e.2 ∧ e.2 < n)) (hel : E.length ≤ 64) : ∀ (k : Nat) (im : List Nat), im.length + k = n → ∀ (v u : Value) (w : World) (B0 H0 B1 H1 : Nat), Hid (ERow w B0 H0 v E) → H0 ≤ w.heap.size → Hid (Own w B1 H1 3 u (iv (intsT im))) → H1 ≤ w.heap.size →
    Calls Try.prog 46 #[.int .i64 (n : Int), v, u] w fun e w' => e = .returned (.int .i64 (tryP E n k im : Int)) ∧ Below w.heap.size w w' := by
  obtain ⟨i0, hi, hz0, hz1, hz2⟩ := info_parts Try.infoIntR
  intro k
  induction k with
  | zero =>
    intro im hl v u w B0 H0 B1 H1 hE hH hI hH1
    have CK := Lib.hid (keepsEdges_p n E ho hel im v u w hE hH hI hH1)
    obtain ⟨ao, cap, rfl, _⟩ := hE.out.slice
    have hiL : (iv (intsT im)).length = n := by simp [iv, intsT]; omega
    obtain ⟨au, cu, rfl, _⟩ := hI.out.slice
    rw [hiL] at CK ⊢
    have TR : Hid (tryP E n 0 im = if keepsB E im = true then 1 else 0) := rfl
    obtain ⟨t, ht⟩ : ∃ t, t = keepsB E im := ⟨_, rfl⟩
    rw [← ht] at CK TR
    clear hE hI hH hH1 hl hiL ht
    go_enter Try.func46, Try.ntmps46
    go_wp2_with fail
    refine CK.out.mono ?_
    rintro e w1 ⟨rfl, hb1⟩
    have HB := Lib.hid hb1
    clear hb1 CK
    cases t with
    | false =>
      go_wp2
      go_ret
      rw [TR.out]
      exact ⟨rfl, HB.out⟩
    | true =>
      go_wp2
      go_ret
      rw [TR.out]
      exact ⟨rfl, HB.out⟩
  | succ k ih =>
    intro im hl v u w B0 H0 B1 H1 hE hH hI hH1
    have CK := Lib.hid (keepsEdges_p n E ho hel im v u w hE hH hI hH1)
    have HE : Hid (∀ W, Below w.heap.size w W → ERow W B0 H0 v E) := fun W hW => hE.out.below (hW.mono hH)
    have HI : Hid (∀ W, Below w.heap.size w W → Own W B1 H1 3 u (iv (intsT im))) := fun W hW => hI.out.below (hW.mono hH1)
    have CC := Lib.hid (fun (x : Nat) (W : World) (hW : Below w.heap.size w W) => containsI7_p im x u W (Lib.hid (HI.out W hW)) (by omega))
    have CL := Lib.hid (fun (W : World) (hW : Below w.heap.size w W) => clone7_p (intsT im) u W (Lib.hid (HI.out W hW)) (by simp [intsT]; omega))
    have CT := Lib.hid (fun (x : Nat) (y : Value) (W : World) (B2 : Nat) (hW : Below w.heap.size w W) (hy : Hid (Own W B2 W.heap.size 3 y (iv (intsT (im ++ [x]))))) => ih (im ++ [x]) (by rw [List.length_append, List.length_singleton]; omega) v y W B0 H0 B2 W.heap.size (Lib.hid (HE.out W hW)) (Nat.le_trans hH hW.size) hy (Nat.le_refl _))
    obtain ⟨ao, cap, rfl, _⟩ := hE.out.slice
    have hiL : (iv (intsT im)).length = im.length := by simp [iv, intsT]
    obtain ⟨au, cu, rfl, _⟩ := hI.out.slice
    rw [hiL] at CK CC CL HI ⊢
    obtain ⟨l, hl'⟩ : ∃ l, l = im.length := ⟨_, rfl⟩
    have HL := Lib.hid hl'
    rw [← hl'] at CK CC CL HI hl ⊢
    have hln : ((l : Int) == (n : Int)) = false := by rw [beq_eq_false_iff_ne]; omega
    have TR : Hid (tryP E n (k + 1) im = if keepsB E im = true then sumP E n k im n else 0) := rfl
    have hk6 : k ≤ 6 := by omega
    have hp7 : n ^ k ≤ 7 ^ 6 := Nat.le_trans (Nat.pow_le_pow_left hn k) (Nat.pow_le_pow_right (by decide) hk6)
    obtain ⟨t, ht⟩ : ∃ t, t = keepsB E im := ⟨_, rfl⟩
    rw [← ht] at CK TR
    have S0 : Hid ((0 : Int) = (sumP E n k im 0 : Int)) := rfl
    clear hE hI hH hH1 hiL ht ih hl'
    go_enter Try.func46, Try.ntmps46
    go_wp2_with fail
    refine CK.out.mono ?_
    rintro e w1 ⟨rfl, hb1⟩
    have HB0 := Lib.hid hb1
    clear hb1 CK
    cases t with
    | false =>
      go_wp2
      go_ret
      rw [TR.out]
      exact ⟨rfl, HB0.out⟩
    | true =>
      go_wp2_with fail
      go_loopw [7, 8, 18] (fun e7 e8 ii wr => ∃ (j : Nat) (z : Int), j ≤ n ∧ ii = .int .i64 (j : Int) ∧ e7 = .int .i64 z ∧ Hid (z = (sumP E n k im j : Int)) ∧ Hid (Below w.heap.size w wr)) (fun _ _ ii _ => n - (intOf ii).toNat)
      case atStart => exact ⟨0, 0, Nat.zero_le _, rfl, rfl, S0, HB0⟩
      case round =>
        clear S0 HB0
        obtain ⟨j, z, hj, rfl, rfl, HZ, HB⟩ := hrel
        by_cases hlt : j < n
        · have b1 : (j : Int) < (n : Int) := by omega
          have SN := sumP_next E n k im j
          have CC1 := Lib.hid (CC.out j wr HB.out)
          by_cases hm : j ∈ im
          · have SN2 : Hid (z = (sumP E n k im (j + 1) : Int)) := by show _ = _; rw [HZ.out, SN, if_pos hm]; rfl
            rw [decide_eq_true hm] at CC1
            clear SN HZ CL CT
            go_wp2_with fail
            refine CC1.out.mono ?_
            rintro e w2 ⟨rfl, rfl⟩
            clear CC1
            go_wp2
            go_roundw
            case rel => exact ⟨j + 1, z, by omega, by go_num, rfl, SN2, HB⟩
            case measure => simp [intOf]; omega
          · rw [decide_eq_false hm] at CC1
            rw [if_neg hm] at SN
            have CL1 := Lib.hid (CL.out wr HB.out)
            have CT1 := CT.out j
            have hle1 := sumP_le E n k im j
            have hle2 := tryP_le E n k (im ++ [j])
            obtain ⟨y, hy⟩ : ∃ y, y = tryP E n k (im ++ [j]) := ⟨_, rfl⟩
            rw [← hy] at CT1 SN hle2
            have CT1 := Lib.hid CT1
            have hjn : j * n ^ k ≤ 7 * n ^ k := Nat.mul_le_mul_right _ (by omega)
            have SN2 : Hid (z + (y : Int) = (sumP E n k im (j + 1) : Int)) := by show _ = _; rw [HZ.out, SN]; omega
            have hzb : 0 ≤ z ∧ z ≤ 1000000 := by rw [HZ.out]; omega
            obtain ⟨hz0', hz1'⟩ := hzb
            have hyb : y ≤ 1000000 := by omega
            have ew : IntKind.i64.wrap (z + (y : Int)) = z + (y : Int) := by rw [IntKind.wrap_i64]; omega
            have ISN := Lib.hid (intsT_snoc im j)
            have z1 : l + 1 ≤ maxLen := by unfold maxLen; omega
            have z2 : (l + 1) * 8 ≤ 140737488355328 := by omega
            clear hy SN HZ hle1 hle2 hjn CL CT hm
            go_wp2_with fail
            refine CC1.out.mono ?_
            rintro e w2 ⟨rfl, rfl⟩
            clear CC1
            go_wp2_with fail
            refine CL1.out.mono ?_
            rintro e w3 ⟨q, rfl, hq, hb3⟩
            have hiL : (iv (intsT im)).length = l := by simp [iv, intsT]; exact HL.out.symm
            obtain ⟨aq, cq, rfl, _⟩ := hq.slice
            rw [hiL] at hq ⊢
            have OQ : Hid (w3.ownsRow wr.heap.size 3 1 (.slice aq l cq) l (iv (intsT im))) := by have := hq.1; rwa [hiL] at this
            have Y3 : Hid (∀ o : Obj, wr.heap.size ≤ (w3.alloc o).heap.size) := fun o => by have := hb3.size; rw [World.size_alloc]; omega
            have S3 : Hid (wr.heap.size ≤ w3.heap.size) := hb3.size
            have SR : Hid (w.heap.size ≤ wr.heap.size) := HB.out.size
            have B3 : Hid (Below wr.heap.size wr w3) := hb3
            clear hq hb3 CL1 hiL
            go_wp2_with (at_builtin; refine wpList_append_lies _ rfl (.tmp 29) (.tmp 31) 34 rfl wr.heap.size 3 i0 (.int .i64 0) 1 8 Try.underlying34 hi hz0 hz1 hz2 rfl (Nat.succ_pos 0) (.slice aq l cq) l (iv (intsT im)) rfl (OQ.out.alloc _) ⟨w3.heap.size, 0, none⟩ 1 1 [.int .i64 (j : Int)] rfl rfl (cell_one_new _ _ _) (one_intR _) (Nat.succ_pos 0) z1 z2 (Y3.out _) _ rfl ?_)
            intro g5 c5 w5 hv5 hg5 _ hgs5
            rw [← ISN.out] at hv5
            have B5 : Hid (Below wr.heap.size wr w5) := (B3.out.alloc S3.out _).grown hg5 (Y3.out _) (fun q hq => (OQ.out.lt q hq).1)
            have O5 : Hid (Own w5 wr.heap.size w5.heap.size 3 (.slice (some ⟨g5, 0, none⟩) (l + 1) c5) (iv (intsT (im ++ [j])))) := by
              refine Own.of_own ?_
              have e : (iv (intsT (im ++ [j]))).length = l + 1 := by simp [iv, intsT]; exact HL.out.symm
              rw [e]; exact hv5
            have BW5 : Hid (Below w.heap.size w w5) := HB.out.trans (B5.out.mono SR.out)
            clear hv5 hg5 hgs5 OQ Y3 S3 B3 B5 SR HB
            go_wp2_with fail
            refine (CT1.out _ _ _ BW5.out O5).mono ?_
            rintro e w6 ⟨rfl, hb6⟩
            have BW6 : Hid (Below w.heap.size w w6) := BW5.out.trans (hb6.mono BW5.out.size)
            clear hb6 CT1 O5 BW5
            go_wp2
            go_roundw
            case rel => exact ⟨j + 1, _, by omega, by go_num, rfl, SN2, BW6⟩
            case measure => simp [intOf]; omega
        · obtain rfl : j = n := by omega
          have HF : Hid (z = (tryP E j (k + 1) im : Int)) := by show _ = _; rw [HZ.out, TR.out]; rfl
          clear HZ CC CL CT
          go_wp2
          go_ret
          rw [HF.out]
          exact ⟨rfl, HB.out⟩
/-! ### of any rows -/
set_option maxHeartbeats 800000 in
theorem selfTried_any (n : Int) (rows : List (List Int)) (v : Value) (RV : List Value) (w : World) {B0 H0 : Nat} (hG : Hid (Grid w B0 H0 v RV rows)) (hH : H0 ≤ w.heap.size) (hrl : rows.length ≤ 1048576) (hrs : ∀ r ∈ rows, r.length ≤ 1048576) (hwf : (Lit.int .i64 n).wf = true) :
    Calls Try.prog 16 #[.int .i64 n, v] w fun e w' => e = .returned (.int .i64 (triedOut n rows)) ∧ Below w.heap.size w w' := by
  have CN := treeEdges_p n rows v RV w hG hH hrl hrs hwf
  obtain ⟨av, cv, rfl⟩ : ∃ a c, v = .slice a RV.length c := by
    obtain ⟨a, c, h, _⟩ := hG.out.1.slice; exact ⟨a, c, h⟩
  cases ht : treeB n rows with
  | true =>
    rw [triedOut, if_pos ht]
    rw [ht] at CN
    have CN := Lib.hid CN
    obtain ⟨hn, _, hv3⟩ := treeB_iff.1 ht
    obtain ⟨N, rfl⟩ : ∃ N : Nat, n = N := ⟨n.toNat, by omega⟩
    rw [Int.toNat_natCast] at hv3 ⊢
    have HV := Lib.hid hv3
    have hN7 : N ≤ 7 := by omega
    obtain ⟨E, hE⟩ : ∃ E, E = edgesR rows := ⟨_, rfl⟩
    rw [← hE] at CN HV ⊢
    clear hG hrs hrl hH ht hv3 hn hE
    go_enter Try.func16, Try.ntmps16
    go_wp2_with fail
    refine CN.out.mono ?_
    rintro e w1 ⟨x, rfl, hx, hb1⟩
    have HX := Lib.hid (hx (by first | exact rfl | trivial))
    have HB1 := Lib.hid hb1
    have hel : E.length ≤ 64 := by have := HV.out.len; omega
    have CT := Lib.hid (tryMaps_p N E hN7 HV.out.ord hel N [] (by simp) x (.slice none 0 0) w1 _ _ 0 0 HX (Nat.le_refl _) (Lib.hid ⟨World.ownsRow_nil _ _ _ _, fun g hg => by simp [Value.ownBlock] at hg⟩) (Nat.zero_le _))
    obtain ⟨ax, cx, rfl, _⟩ := HX.out.slice
    clear hx hb1 CN hel
    go_wp2_with fail
    refine CT.out.mono ?_
    rintro e w2 ⟨rfl, hb2⟩
    have HB2 : Hid (Below w.heap.size w w2) := HB1.out.trans (hb2.mono HB1.out.size)
    clear hb2 CT
    go_wp2
    go_ret
    exact ⟨rfl, HB2.out⟩
  | false =>
    rw [triedOut, if_neg (by rw [ht]; decide)]
    rw [ht] at CN
    have CN := Lib.hid CN
    clear hG hrs hrl hH ht
    go_enter Try.func16, Try.ntmps16
    go_wp2_with fail
    refine CN.out.mono ?_
    rintro e w1 ⟨x, rfl, _, hb1⟩
    have HB1 := Lib.hid hb1
    clear hb1 CN
    go_wp2
    go_ret
    exact ⟨rfl, HB1.out⟩
end Go.Proofs.Ythlboikljibohaa
