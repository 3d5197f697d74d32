/-
  In how many ways a branch goes to itself, as the model counts it, and a tree.
  In how many ways a tree goes to itself, as the model counts it, of any rows.
-/
import Derived.Test.YthlboikljibohaaZK
import Derived.Test.YthlboikljibohaaZL
import Derived.Deep.RegionHeld3
namespace Go.Proofs.Ythlboikljibohaa
open Go.RowKit

def cmL (E : Edges) (d : Nat) (L : List (Nat × Int)) : Nat := (L.foldl (fun (st : Nat × List (List UInt8)) b => (st.1 * (((st.2.count (txt E d b.1 b.2)) + 1) * cm E d (prt E b)), st.2 ++ [txt E d b.1 b.2])) (1, [])).1
theorem cmL_snoc (E : Edges) (d : Nat) (L : List (Nat × Int)) (b : Nat × Int) : cmL E d (L ++ [b]) = cmL E d L * (((txts E d L).count (txt E d b.1 b.2) + 1) * cm E d (prt E b)) := by
  unfold cmL
  rw [List.foldl_append, List.foldl_cons, List.foldl_nil]
  simp only
  rw [cm_texts]; rfl
theorem cm_cmL (E : Edges) (d : Nat) (L : List (Nat × Int)) : cm E (d + 1) L = cmL E d L := rfl
def prtS (E : Edges) (u : Nat) (fr : Int) (k : Nat) : List (Nat × Int) := (((nb E u).take k).filter fun (x : Nat) => !decide ((x : Int) = fr)).map fun x => (x, (u : Int))
theorem prtS_yes {E : Edges} {u k : Nat} {fr : Int} (hk : k < (nb E u).length) (h : ((nb E u)[k] : Int) ≠ fr) : prtS E u fr (k + 1) = prtS E u fr k ++ [((nb E u)[k], (u : Int))] := by
  unfold prtS
  rw [List.take_succ_eq_append_getElem hk, List.filter_append, List.map_append]
  congr 1
  rw [List.filter_cons_of_pos (by simpa using h)]; rfl
theorem prtS_no {E : Edges} {u k : Nat} {fr : Int} (hk : k < (nb E u).length) (h : ((nb E u)[k] : Int) = fr) : prtS E u fr (k + 1) = prtS E u fr k := by
  unfold prtS
  rw [List.take_succ_eq_append_getElem hk, List.filter_append, List.map_append]
  rw [List.filter_cons_of_neg (by simpa using h)]; simp
theorem prtS_all (E : Edges) (u : Nat) (fr : Int) : prtS E u fr (nb E u).length = prt E (u, fr) := by unfold prtS prt away; rw [List.take_length]
theorem prtS_le (E : Edges) (u : Nat) (fr : Int) (k : Nat) : (prtS E u fr k).length ≤ k := by
  unfold prtS
  rw [List.length_map]
  exact Nat.le_trans (List.length_filter_le _ _) (by rw [List.length_take]; omega)
theorem count_next {L : List (List UInt8)} {k : Nat} (hk : k < L.length) (s : List UInt8) : (L.take (k + 1)).count s = (L.take k).count s + (if L[k] = s then 1 else 0) := by
  rw [List.take_succ_eq_append_getElem hk, List.count_append, List.count_singleton]
  by_cases h : L[k] = s <;> simp [h]
theorem one_step (P q C : Nat) (hq : q ≤ 200) : IntKind.i64.wrap (IntKind.i64.wrap (IntKind.i64.wrap (P : Int) * IntKind.i64.wrap (C : Int)) * ((q : Int) + 1)) = IntKind.i64.wrap ((P * ((q + 1) * C) : Nat) : Int) := by
  have hs : IntKind.i64.wrap ((q : Int) + 1) = (q : Int) + 1 := by rw [IntKind.wrap_i64]; omega
  have h1 : IntKind.i64.wrap (IntKind.i64.wrap ((P : Int) * (C : Int)) * ((q : Int) + 1)) = IntKind.i64.wrap ((P : Int) * (C : Int) * ((q : Int) + 1)) := by
    have := wrap_mul ((P : Int) * (C : Int)) ((q : Int) + 1)
    rwa [hs] at this
  rw [wrap_mul, h1]
  congr 1
  rw [Int.natCast_mul, Int.natCast_mul, Int.natCast_add, Int.mul_assoc, Int.mul_comm (C : Int)]; rfl

set_option maxHeartbeats 6400000 in
set_option maxRecDepth 100000 in
theorem selfMapsS_any (n : Nat) (E : Edges) (hT : Hid (TreeS n E)) : ∀ (d u : Nat) (fr : Int), d ≤ 64 → Hid (Brn E d u fr) → (nds E d u fr).length ≤ 64 → ∀ (v : Value) (RV : List Value) (w : World) (B0 H0 : Nat), Hid (Grid w B0 H0 v RV (rowsE E)) → H0 ≤ w.heap.size →
    Calls Try.prog 73 #[.int .i64 (n : Int), v, .int .i64 (u : Int), .int .i64 fr] w fun e w' => e = .returned (.int .i64 (IntKind.i64.wrap (cm E d (prt E (u, fr)) : Int))) ∧ Below w.heap.size w w' := by
  obtain ⟨i0, hi, hz0, hz1, hz2⟩ := info_parts Try.infoStr
  intro d
  induction d with
  | zero => intro u fr _ h; exact h.out.elim
  | succ d ih =>
    intro u fr hd hB hnd v RV w B0 H0 hG hH
    have CB := Lib.hid (beside_nb n E hT u v RV w hG hH)
    have CL := Lib.hid (fun (x : Nat) (hb : Hid (Brn E d x u)) (hl : (nds E d x u).length ≤ 64) (W : World) (hW : Below w.heap.size w W) => ih x u (by omega) hb hl v RV W B0 H0 (Lib.hid (hG.out.below (hW.mono hH))) (Nat.le_trans hH hW.size))
    have CR := Lib.hid (fun (x : Nat) (hb : Hid (Brn E d x u)) (hl : (nds E d x u).length ≤ 64) (W : World) (hW : Below w.heap.size w W) => rootTextS_any n E hT d x u (by omega) hb hl v RV W B0 H0 (Lib.hid (hG.out.below (hW.mono hH))) (Nat.le_trans hH hW.size))
    obtain ⟨av, cv, rfl⟩ : ∃ a c, v = .slice a RV.length c := by
      obtain ⟨a, c, h, _⟩ := hG.out.1.slice; exact ⟨a, c, h⟩
    have HBK : Hid (∀ x ∈ nb E u, (x : Int) ≠ fr → Brn E d x u ∧ (nds E d x u).length ≤ 64) := fun x hx hf => by
      have hm := mem_away.2 ⟨mem_nb.1 hx, hf⟩
      exact ⟨hB.out x hm, by have := nds_subS (d := d) hm; omega⟩
    have FA : Hid (cmL E d (prtS E u fr (nb E u).length) = cm E (d + 1) (prt E (u, fr))) := by show _ = _; rw [prtS_all, cm_cmL]
    have h12 := hT.out.nb12 u
    have hiL := intsB_len (nb E u)
    obtain ⟨M, hm⟩ : ∃ M, M = (nb E u).length := ⟨_, rfl⟩
    have HM := Lib.hid hm
    rw [← hm] at FA h12 hiL
    clear hG hH hB ih hm hnd
    go_enter Try.func73, Try.ntmps73
    go_wp2_with fail
    refine CB.out.mono ?_
    rintro e w1 ⟨y, rfl, hy, hb1⟩
    obtain ⟨ay, cy, rfl, _⟩ := hy.slice
    rw [hiL] at hy ⊢
    have HY := Lib.hid hy
    have HB1 := Lib.hid hb1
    obtain ⟨C, hC⟩ : ∃ C, C = w1.heap.size := ⟨_, rfl⟩
    have HC := Lib.hid hC
    have O0 : Hid ((w1.alloc (.cells #[] 9)).ownsRow C 9 1 (.slice (some ⟨w1.heap.size, 0, none⟩) 0 0) 0 (sv (txts E d (prtS E u fr 0)))) :=
      World.ownsRow_lit (base := C) (e := 9) (size := 1) w1 #[] 0 (by omega) (by unfold maxLen; omega) rfl
    have BA : Hid (Below C w1 (w1.alloc (.cells #[] 9))) := by show Below _ _ _; rw [hC]; exact (Below.refl _ _).alloc (Nat.le_refl _) _
    have Z0 : Hid ((1 : Int) = IntKind.i64.wrap (cmL E d (prtS E u fr 0) : Int)) := rfl
    clear hy hb1 CB hiL hC
    go_wp2_with fail
    go_loopw [9, 11, 12, 13, 14, 15] (fun e9 e11 ii e13 e14 e15 wr => ∃ (k m c : Nat) (z : Int) (a : Option Addr), k ≤ M ∧ ii = .int .i64 k ∧ e9 = .int .i64 z ∧ e11 = .slice a m c ∧ m ≤ k ∧ Hid ((prtS E u fr k).length = m) ∧ Hid (z = IntKind.i64.wrap (cmL E d (prtS E u fr k) : Int)) ∧ Hid (wr.ownsRow C 9 1 (.slice a m c) m (sv (txts E d (prtS E u fr k)))) ∧ Hid (Below C w1 wr)) (fun _ _ ii _ _ _ _ => M - (intOf ii).toNat)
    case atStart => exact ⟨0, 0, 0, 1, _, Nat.zero_le _, rfl, rfl, rfl, Nat.le_refl _, rfl, Z0, O0, BA⟩
    case round =>
      clear O0 BA Z0
      obtain ⟨k, m, c, z, a, hk, rfl, rfl, rfl, hm, HL, HZ, HO, HB⟩ := hrel
      by_cases hlt : k < M
      · have b1 : (k : Int) < (M : Int) := by omega
        have hkn : k < (nb E u).length := by rw [← HM.out]; exact hlt
        obtain ⟨ga, rfl, _, hgl, c0, _⟩ := HY.out.at_ k (by rw [intsB_len]; exact hkn)
        have HCA : Hid (∀ W, Below C w1 W → W.cell? ⟨ga, k, none⟩ = some (.int .i64 (((nb E u)[k] : Nat) : Int))) := fun W hW => by
          rw [(hW.cell (p := ⟨ga, k, none⟩) (by rw [HC.out]; exact hgl)).trans c0]
          simp [iv, intsB, hkn]
        have FY := prtS_yes (fr := fr) hkn
        have FN := prtS_no (fr := fr) hkn
        have hmem := List.getElem_mem hkn
        obtain ⟨x, hz⟩ : ∃ x, x = (nb E u)[k] := ⟨_, rfl⟩
        rw [← hz] at HCA FY FN hmem
        have HBX := HBK.out x hmem
        have c1 := HCA.out _ HB.out
        have sC : Hid (C ≤ wr.heap.size) := by have := HB.out.size; show _ ≤ _; rw [HC.out]; rw [HC.out] at *; exact this
        have sW : Hid (w.heap.size ≤ C) := by have := HB1.out.size; show _ ≤ _; rw [HC.out]; exact this
        have BW : Hid (Below w.heap.size w wr) := HB1.out.trans (HB.out.mono sW.out)
        clear hz hmem hkn c0 hgl
        by_cases hxf : (x : Int) = fr
        · have q1 : ((x : Int) == fr) = true := by rw [hxf]; simp
          have FN := FN hxf
          rw [← FN] at HL HZ HO
          clear FY FN hxf CL CR HBX HCA
          go_wp2
          go_roundw
          case rel => exact ⟨k + 1, m, c, z, a, by omega, by go_num, rfl, rfl, by omega, HL, HZ, HO, HB⟩
          case measure => simp [intOf]; omega
        · have q1 : ((x : Int) == fr) = false := by simpa using hxf
          have HBX := HBX hxf
          have CX := CL.out x (Lib.hid HBX.1) HBX.2
          have CS := CR.out x (Lib.hid HBX.1) HBX.2
          have FY := FY hxf
          have CN := cmL_snoc E d (prtS E u fr k) (x, (u : Int))
          rw [← FY] at CN
          have TXN : txts E d (prtS E u fr (k + 1)) = txts E d (prtS E u fr k) ++ [txt E d x u] := by rw [FY]; simp [txts]
          have LN : (prtS E u fr (k + 1)).length = m + 1 := by rw [FY, List.length_append, HL.out]; rfl
          have hTl : (txts E d (prtS E u fr k)).length = m := by rw [← HL.out]; simp [txts]
          obtain ⟨f, hf⟩ : ∃ f, f = txt E d x u := ⟨_, rfl⟩
          obtain ⟨K, hK⟩ : ∃ K, K = cm E d (prt E (x, (u : Int))) := ⟨_, rfl⟩
          obtain ⟨T, hTe⟩ : ∃ T, T = txts E d (prtS E u fr k) := ⟨_, rfl⟩
          have CN : Hid (cmL E d (prtS E u fr (k + 1)) = cmL E d (prtS E u fr k) * ((T.count f + 1) * K)) := by show _ = _; rw [CN, hf, hK, hTe]
          rw [← hf] at CS TXN
          rw [← hTe] at TXN hTl HO
          rw [← hK] at CX
          have CX := Lib.hid CX
          have CS := Lib.hid CS
          have TXN : Hid (sv (txts E d (prtS E u fr (k + 1))) = sv T ++ [.string ⟨f.toArray⟩]) := by show _ = _; rw [TXN, sv_snoc]
          have HLN := Lib.hid LN
          have HTl := Lib.hid hTl
          have z1 : m + 1 ≤ maxLen := by unfold maxLen; omega
          have z2 : (m + 1) * 16 ≤ 140737488355328 := by omega
          obtain ⟨sm, hsm⟩ : ∃ s : ByteArray, s = ⟨f.toArray⟩ := ⟨_, rfl⟩
          rw [← hsm] at CS TXN
          have hsl : sm.data.toList = f := by rw [hsm]
          have HSL := Lib.hid hsl
          obtain ⟨PK, hPK⟩ : ∃ PK, PK = IntKind.i64.wrap (K : Int) := ⟨_, rfl⟩
          rw [← hPK] at CX
          have HPK := Lib.hid hPK
          clear FY FN hxf HBX hf hK hTe hTl LN CL CR hsm hsl hPK
          go_wp2_with fail
          refine (CX.out _ BW.out).mono ?_
          rintro e w2 ⟨rfl, hb2⟩
          have B2 : Hid (Below C w1 w2) := HB.out.trans (hb2.mono sC.out)
          have BW2 : Hid (Below w.heap.size w w2) := BW.out.trans (hb2.mono BW.out.size)
          have O2 : Hid (w2.ownsRow C 9 1 (.slice a m c) m (sv T)) := own_of_blocks HO.out fun q hq => hb2.block q (HO.out.lt q hq).2
          have c2 := HCA.out _ B2.out
          have s2 : Hid (C ≤ w2.heap.size) := Nat.le_trans sC.out hb2.size
          clear hb2 HB HO CX BW c1 sC
          go_wp2_with fail
          refine (CS.out _ BW2.out).mono ?_
          rintro e w3 ⟨rfl, hb3⟩
          have B3 : Hid (Below C w1 w3) := B2.out.trans (hb3.mono s2.out)
          have O3 : Hid (w3.ownsRow C 9 1 (.slice a m c) m (sv T)) := own_of_blocks O2.out fun q hq => hb3.block q (O2.out.lt q hq).2
          have s3 : Hid (C ≤ w3.heap.size) := Nat.le_trans s2.out hb3.size
          clear hb3 B2 O2 CS BW2 c2 s2 HCA
          have K0 : Hid ((1 : Int) = (((T.take 0).count f : Nat) : Int) + 1) := rfl
          go_wp2_with fail
          go_loopw [14, 15] (fun e14 e15 W => ∃ (j : Nat) (q : Int), j ≤ m ∧ e15 = .int .i64 (j : Int) ∧ e14 = .int .i64 q ∧ Hid (q = (((T.take j).count f : Nat) : Int) + 1) ∧ Hid (W.ownsRow C 9 1 (.slice a m c) m (sv T)) ∧ Hid (Below C w1 W ∧ C ≤ W.heap.size)) (fun _ e15 _ => m - (intOf e15).toNat)
          case atStart => exact ⟨0, 1, Nat.zero_le _, rfl, rfl, K0, O3, B3.out, s3.out⟩
          case round =>
            clear K0 O3 B3 s3
            obtain ⟨j, q, hj, rfl, rfl, HQ, O3, B3⟩ := hrel
            have hqb : (T.take j).count f ≤ j := by
              have h1 : (T.take j).count f ≤ (T.take j).length := List.count_le_length
              rw [List.length_take] at h1; omega
            by_cases hlt2 : j < m
            · have b2 : (j : Int) < (m : Int) := by omega
              have hjT : j < T.length := by rw [HTl.out]; exact hlt2
              obtain ⟨g3, hg3⟩ : ∃ g3, a = some ⟨g3, 0, none⟩ := by
                rcases O3.out.2 with ⟨q1, q2⟩ | ⟨g', cap, cur, q1, _⟩
                · omega
                · simp only [Value.slice.injEq] at q1; exact ⟨g', q1.1⟩
              subst hg3
              have hoc := O3.out.cellAt j (by omega)
              rw [sv_get T j hjT] at hoc
              have CNT := count_next hjT f
              obtain ⟨y, hy⟩ : ∃ y : ByteArray, y = ⟨(T[j]).toArray⟩ := ⟨_, rfl⟩
              have hyl : y.data.toList = T[j] := by rw [hy]
              rw [← hy] at hoc
              by_cases hyf : T[j] = f
              · have m2 : (y.toList == sm.toList) = true := by rw [ByteArray.toList_eq, ByteArray.toList_eq, hyl, HSL.out, hyf]; simp
                rw [if_pos hyf] at CNT
                have hq1 : q = (((T.take j).count f : Nat) : Int) + 1 := HQ.out
                have ewq : IntKind.i64.wrap (q + 1) = q + 1 := by rw [IntKind.wrap_i64]; omega
                have HQ2 : Hid (q + 1 = (((T.take (j + 1)).count f : Nat) : Int) + 1) := by show _ = _; rw [CNT, HQ.out]; omega
                clear CNT hy hyl hyf hq1 HQ hqb hjT
                go_wp2
                go_roundw
                case rel => exact ⟨j + 1, q + 1, by omega, by go_num, rfl, HQ2, O3, B3⟩
                case measure => simp [intOf]; omega
              · have m2 : (y.toList == sm.toList) = false := by
                  rw [ByteArray.toList_eq, ByteArray.toList_eq, hyl, HSL.out, beq_eq_false_iff_ne]; exact hyf
                rw [if_neg hyf] at CNT
                have HQ2 : Hid (q = (((T.take (j + 1)).count f : Nat) : Int) + 1) := by show _ = _; rw [CNT, HQ.out]; omega
                clear CNT hy hyl hyf HQ hqb hjT
                go_wp2
                go_roundw
                case rel => exact ⟨j + 1, q, by omega, by go_num, rfl, HQ2, O3, B3⟩
                case measure => simp [intOf]; omega
            · obtain rfl : j = m := by omega
              have hfull : T.take j = T := by rw [← HTl.out, List.take_length]
              have HQ2 : Hid (q = ((T.count f : Nat) : Int) + 1) := by have := HQ.out; rwa [hfull] at this
              rw [hfull] at hqb
              have ZN : Hid (IntKind.i64.wrap (IntKind.i64.wrap (z * PK) * q) = IntKind.i64.wrap (cmL E d (prtS E u fr (k + 1)) : Int)) := by
                show _ = _
                rw [HZ.out, HPK.out, HQ2.out, CN.out]
                exact one_step _ _ _ (by omega)
              have ZN : Hid (wrap64 (wrap64 (z * PK) * q) = IntKind.i64.wrap (cmL E d (prtS E u fr (k + 1)) : Int)) := by
                show _ = _
                rw [← Go.IntWalk.i64_left, ← Go.IntWalk.i64_left]
                exact ZN.out
              obtain ⟨BB, sB⟩ := B3.out
              have B4 := Lib.hid BB
              have Y3 : Hid (C ≤ (wr.alloc (.cells #[.string sm] 9)).heap.size) := by show _ ≤ _; rw [World.size_alloc]; omega
              have s4 := Lib.hid sB
              clear hfull HQ HQ2 hqb BB sB B3 HZ HPK CN
              go_wp2_with (at_builtin; refine wpList_append_lies _ rfl (.tmp 68) (.tmp 70) 72 rfl C 9 i0 (.string ⟨#[]⟩) 1 16 Try.underlying72 hi hz0 hz1 hz2 rfl (by decide) _ j (sv T) rfl (O3.out.alloc _) ⟨wr.heap.size, 0, none⟩ 1 1 [.string sm] rfl rfl (cell_one_new _ _ _) (one_str _) (by decide) z1 z2 Y3.out _ rfl ?_)
              intro g5 c5 w5 hv5 hg5 _ _
              have B5 : Hid (Below C w1 w5) := (B4.out.alloc s4.out _).grown hg5 Y3.out (fun q hq => (O3.out.lt q hq).1)
              have O5 : Hid (w5.ownsRow C 9 1 (.slice (some ⟨g5, 0, none⟩) (j + 1) c5) (j + 1) (sv (txts E d (prtS E u fr (k + 1))))) := by
                show World.ownsRow _ _ _ _ _ _ _
                rw [TXN.out]; exact hv5
              clear hv5 hg5 B4 O3 Y3 s4
              go_wp2
              go_roundw
              case rel => exact ⟨k + 1, j + 1, c5, _, _, by omega, by go_num, rfl, rfl, by omega, HLN, ZN, O5, B5⟩
              case measure => simp [intOf]; omega
      · obtain rfl : k = M := by omega
        have HF : Hid (z = IntKind.i64.wrap (cm E (d + 1) (prt E (u, fr)) : Int)) := by show _ = _; rw [HZ.out, FA.out]
        have BF : Hid (Below w.heap.size w wr) := HB1.out.trans (HB.out.mono (by have := HB1.out.size; rw [HC.out]; exact this))
        clear HZ HO HB CL CR
        go_wp2
        go_ret
        rw [HF.out]
        exact ⟨rfl, BF.out⟩
end Go.Proofs.Ythlboikljibohaa

namespace Go.Proofs.Ythlboikljibohaa
open Go.RowKit

theorem nds_fromS (E : Edges) (d v : Nat) (fr : Int) : (nds E d v fr).length ≤ (nds E d v (-1)).length := by
  have key : ∀ {p q : Nat → Bool}, (∀ x, p x = true → q x = true) → ∀ (f : Nat → Nat) (L : List Nat), ((L.filter p).map f).sum ≤ ((L.filter q).map f).sum := by
    intro p q h f L
    induction L with
    | nil => exact Nat.le_refl _
    | cons a r ih =>
      by_cases hp : p a = true
      · rw [List.filter_cons_of_pos hp, List.filter_cons_of_pos (h a hp), List.map_cons, List.map_cons, List.sum_cons, List.sum_cons]; omega
      · rw [List.filter_cons_of_neg hp]
        by_cases hq : q a = true
        · rw [List.filter_cons_of_pos hq, List.map_cons, List.sum_cons]; omega
        · rw [List.filter_cons_of_neg hq]; exact ih
  cases d with
  | zero => exact Nat.le_refl _
  | succ d =>
    rw [nds, nds, List.length_cons, List.length_cons, List.length_flatMap, List.length_flatMap]
    refine Nat.succ_le_succ (key (fun x hx => ?_) _ _)
    simp
theorem two_maps (E : Edges) (a b : Nat) : cm E 15 [(a, (b : Int)), (b, (a : Int))] = cm E 14 (prt E (a, (b : Int))) * cm E 14 (prt E (b, (a : Int))) * (if txt E 14 a b = txt E 14 b a then 2 else 1) := by
  have h1 : cm E 15 [(a, (b : Int)), (b, (a : Int))] = cmL E 14 ([] ++ [(a, (b : Int))] ++ [(b, (a : Int))]) := rfl
  rw [h1, cmL_snoc, cmL_snoc]
  have h2 : cmL E 14 [] = 1 := rfl
  have h3 : txts E 14 [] = [] := rfl
  have h4 : txts E 14 ([] ++ [(a, (b : Int))]) = [txt E 14 a b] := rfl
  rw [h2, h3, h4, List.count_nil, List.count_singleton]
  by_cases h : txt E 14 a b = txt E 14 b a
  · simp [h, Nat.mul_comm, Nat.mul_left_comm]
  · simp [h]
set_option maxHeartbeats 1600000 in
set_option maxRecDepth 100000 in
theorem freeMapsS_any (n : Nat) (E : Edges) (hT : Hid (TreeS n E)) (v : Value) (RV : List Value) (w : World) {B0 H0 : Nat} (hG : Hid (Grid w B0 H0 v RV (rowsE E))) (hH : H0 ≤ w.heap.size) :
    Calls Try.prog 44 #[.int .i64 (n : Int), v] w fun e w' => e = .returned (.int .i64 (IntKind.i64.wrap (mapsN n E : Int))) ∧ Below w.heap.size w w' := by
  have CC := Lib.hid (centersS_any n E hT v RV w hG hH)
  have hn7 := hT.out.h7
  have hc2 := cents_two hT.out.v hn7
  have NL : Hid (∀ (u : Nat) (fr : Int), u < n → (nds E 14 u fr).length ≤ 64) := fun u fr hu => by
    have h1 := nds_fromS E 14 u fr
    have h2 := nd_len hT.out.v hn7 hu
    omega
  have CM := Lib.hid (fun (u : Nat) (fr : Int) (hu : u < n) (W : World) (hW : Below w.heap.size w W) => selfMapsS_any n E hT 14 u fr (by omega) (Lib.hid (valid_brn hT.out.v hn7 u fr)) (NL.out u fr hu) v RV W B0 H0 (Lib.hid (hG.out.below (hW.mono hH))) (Nat.le_trans hH hW.size))
  have CR := Lib.hid (fun (u : Nat) (fr : Int) (hu : u < n) (W : World) (hW : Below w.heap.size w W) => rootTextS_any n E hT 14 u fr (by omega) (Lib.hid (valid_brn hT.out.v hn7 u fr)) (NL.out u fr hu) v RV W B0 H0 (Lib.hid (hG.out.below (hW.mono hH))) (Nat.le_trans hH hW.size))
  obtain ⟨av, cv, rfl⟩ : ∃ a c, v = .slice a RV.length c := by
    obtain ⟨a, c, h, _⟩ := hG.out.1.slice; exact ⟨a, c, h⟩
  clear hG hH
  rcases hc2 with ⟨a, hc, ha⟩ | ⟨a, b, hc, hab, hb, _⟩
  · have MN : Hid (mapsN n E = cm E 14 (prt E (a, -1))) := by show _ = _; unfold mapsN; rw [hc]
    rw [hc] at CC
    have CA := CM.out a (-1) ha
    rw [← MN.out] at CA
    obtain ⟨Z, hZ⟩ : ∃ Z, Z = IntKind.i64.wrap (mapsN n E : Int) := ⟨_, rfl⟩
    rw [← hZ] at CA ⊢
    have CA := Lib.hid CA
    clear hc hZ CM CR NL
    go_enter Try.func44, Try.ntmps44
    go_wp2_with fail
    refine CC.out.mono ?_
    rintro e w1 ⟨y, rfl, hy, hb1⟩
    obtain ⟨g, cap, rfl, _, _, c0, _⟩ := hy.cell 0 (by simp [iv, intsB])
    replace c0 : w1.cell? ⟨g, 0, none⟩ = some (.int .i64 (a : Int)) := c0
    have e1 : (iv (intsB [a])).length = 1 := rfl
    rw [e1]
    have HB1 := Lib.hid hb1
    clear hy hb1 CC e1
    go_wp2_with fail
    refine (CA.out _ HB1.out).mono ?_
    rintro e w2 ⟨rfl, hb2⟩
    have HB2 : Hid (Below w.heap.size w w2) := HB1.out.trans (hb2.mono HB1.out.size)
    clear hb2 CA
    go_wp2
    go_ret
    exact ⟨rfl, HB2.out⟩
  · have ha : a < n := by omega
    have MN : Hid (mapsN n E = cm E 14 (prt E (a, (b : Int))) * cm E 14 (prt E (b, (a : Int))) * (if txt E 14 a b = txt E 14 b a then 2 else 1)) := by
      show _ = _; unfold mapsN; rw [hc]; exact two_maps E a b
    rw [hc] at CC
    have CA := CM.out a (b : Int) ha
    have CB := CM.out b (a : Int) hb
    have RA := CR.out a (b : Int) ha
    have RB := CR.out b (a : Int) hb
    obtain ⟨ka, hka⟩ : ∃ k, k = cm E 14 (prt E (a, (b : Int))) := ⟨_, rfl⟩
    obtain ⟨kb, hkb⟩ : ∃ k, k = cm E 14 (prt E (b, (a : Int))) := ⟨_, rfl⟩
    obtain ⟨fa, hfa⟩ : ∃ f, f = txt E 14 a (b : Int) := ⟨_, rfl⟩
    obtain ⟨fb, hfb⟩ : ∃ f, f = txt E 14 b (a : Int) := ⟨_, rfl⟩
    rw [← hka] at CA MN
    rw [← hkb] at CB MN
    rw [← hfa] at RA MN
    rw [← hfb] at RB MN
    obtain ⟨za, hza⟩ : ∃ z, z = IntKind.i64.wrap (ka : Int) := ⟨_, rfl⟩
    obtain ⟨zb, hzb⟩ : ∃ z, z = IntKind.i64.wrap (kb : Int) := ⟨_, rfl⟩
    rw [← hza] at CA
    rw [← hzb] at CB
    have CA := Lib.hid CA
    have CB := Lib.hid CB
    have RA := Lib.hid RA
    have RB := Lib.hid RB
    have ZP : Hid (IntKind.i64.wrap (za * zb) = IntKind.i64.wrap ((ka : Int) * (kb : Int))) := by show _ = _; rw [hza, hzb, wrap_mul]
    clear hc hka hkb hfa hfb hza hzb CM CR NL
    go_enter Try.func44, Try.ntmps44
    go_wp2_with fail
    refine CC.out.mono ?_
    rintro e w1 ⟨y, rfl, hy, hb1⟩
    obtain ⟨g, cap, rfl, _, hg, c0, _⟩ := hy.cell 0 (by simp [iv, intsB])
    obtain ⟨g', cap', e2, _, _, c1, _⟩ := hy.cell 1 (by simp [iv, intsB])
    simp only [Value.slice.injEq, Option.some.injEq, Addr.mk.injEq] at e2
    obtain ⟨⟨rfl, _, _⟩, _, rfl⟩ := e2
    replace c0 : w1.cell? ⟨g, 0, none⟩ = some (.int .i64 (a : Int)) := c0
    replace c1 : w1.cell? ⟨g, 1, none⟩ = some (.int .i64 (b : Int)) := c1
    have e1 : (iv (intsB [a, b])).length = 2 := rfl
    rw [e1]
    have HB1 := Lib.hid hb1
    have HC : Hid (∀ W, Below w1.heap.size w1 W → W.cell? ⟨g, 0, none⟩ = some (.int .i64 (a : Int)) ∧ W.cell? ⟨g, 1, none⟩ = some (.int .i64 (b : Int))) := fun W hW => ⟨(hW.cell (p := ⟨g, 0, none⟩) hg).trans c0, (hW.cell (p := ⟨g, 1, none⟩) hg).trans c1⟩
    clear hy hb1 CC e1 hg
    have KS : Hid (∀ W, Below w1.heap.size w1 W → (Below w1.heap.size w1 W ∧ W.cell? ⟨g, 0, none⟩ = some (.int .i64 (a : Int)) ∧ W.cell? ⟨g, 1, none⟩ = some (.int .i64 (b : Int)))) := fun W h => ⟨h, HC.out W h⟩
    have CA1 := Lib.hid (fun (W : World) (hW : Below w1.heap.size w1 W) => CA.out W (HB1.out.trans (hW.mono HB1.out.size)))
    have CB1 := Lib.hid (fun (W : World) (hW : Below w1.heap.size w1 W) => CB.out W (HB1.out.trans (hW.mono HB1.out.size)))
    have RA1 := Lib.hid (fun (W : World) (hW : Below w1.heap.size w1 W) => RA.out W (HB1.out.trans (hW.mono HB1.out.size)))
    have RB1 := Lib.hid (fun (W : World) (hW : Below w1.heap.size w1 W) => RB.out W (HB1.out.trans (hW.mono HB1.out.size)))
    have hB0 : Below w1.heap.size w1 w1 := Below.refl _ _
    clear CA CB RA RB HC hab hb ha hT
    go_wp2_with fail
    go_region_held3 (fun w' => Below w1.heap.size w1 w' ∧ w'.cell? ⟨g, 0, none⟩ = some (.int .i64 (a : Int)) ∧ w'.cell? ⟨g, 1, none⟩ = some (.int .i64 (b : Int)))
      (first
        | exact KS.out _ (by assumption)
        | exact KS.out _ (Below.drew (by assumption)))
      (first
        | (go_at_call 73; have mk2 := mk1; go_split_ands; refine (CB1.out _ (by assumption)).mono ?_; rintro e w5 ⟨rfl, hb5⟩
           have hB5 : Below w1.heap.size w1 w5 := by
             refine Below.trans (B := w1.heap.size) ?_ (hb5.mono (Below.size (B := w1.heap.size) ?_)) <;> assumption)
        | (go_at_call 73; have mk1 : True := trivial; go_split_ands; refine (CA1.out _ (by assumption)).mono ?_; rintro e w4 ⟨rfl, hb4⟩
           have hB4 : Below w1.heap.size w1 w4 := by
             refine Below.trans (B := w1.heap.size) ?_ (hb4.mono (Below.size (B := w1.heap.size) ?_)) <;> assumption))
    all_goals
      clear CA1 CB1 hb4 hb5 hB0 c0 c1
      have hB0 : Below w1.heap.size w1 w5 := hB5
      have HC5 := KS.out w5 hB5
      obtain ⟨_, c0, c1⟩ := HC5
      clear hB5 hB4
      go_wp2_with fail
      go_region_held3 (fun w' => Below w1.heap.size w1 w' ∧ w'.cell? ⟨g, 0, none⟩ = some (.int .i64 (a : Int)) ∧ w'.cell? ⟨g, 1, none⟩ = some (.int .i64 (b : Int)))
        (first
          | exact KS.out _ (by assumption)
          | exact KS.out _ (Below.drew (by assumption)))
        (first
          | (go_at_call 51; have mk4 := mk3; go_split_ands; refine (RB1.out _ (by assumption)).mono ?_; rintro e w7 ⟨rfl, hb7⟩
             have hB7 : Below w1.heap.size w1 w7 := by
               refine Below.trans (B := w1.heap.size) ?_ (hb7.mono (Below.size (B := w1.heap.size) ?_)) <;> assumption)
          | (go_at_call 51; have mk3 : True := trivial; go_split_ands; refine (RA1.out _ (by assumption)).mono ?_; rintro e w6 ⟨rfl, hb6⟩
             have hB6 : Below w1.heap.size w1 w6 := by
               refine Below.trans (B := w1.heap.size) ?_ (hb6.mono (Below.size (B := w1.heap.size) ?_)) <;> assumption))
      all_goals
        have HF : Hid (Below w.heap.size w w7) := HB1.out.trans (hB7.mono HB1.out.size)
        clear RA1 RB1 hb6 hb7 hB6 hB7 hB0 KS c0 c1
        by_cases hf : fa = fb
        · have MN2 : Hid (IntKind.i64.wrap (2 * IntKind.i64.wrap (za * zb)) = IntKind.i64.wrap (mapsN n E : Int)) := by
            show _ = _
            have h2 : IntKind.i64.wrap 2 = 2 := rfl
            have h3 := wrap_mul 2 ((ka : Int) * (kb : Int))
            rw [h2] at h3
            rw [ZP.out, h3, MN.out, if_pos hf]
            congr 1
            rw [Int.natCast_mul, Int.natCast_mul, Int.mul_comm]; rfl
          subst hf
          have m2 : (fa == fa) = true := beq_self_eq_true fa
          clear MN ZP
          go_wp2
          all_goals first
            | exact absurd ‹(fa == fa) = false› (by rw [m2]; decide)
            | (go_ret
               rw [← MN2.out]
               refine ⟨?_, HF.out⟩
               first
                 | rfl
                 | (rw [Go.IntWalk.i64_left]; rfl)
                 | (rw [Go.IntWalk.i64_left, Go.IntWalk.i64_left]; rfl))
        · have MN2 : Hid (IntKind.i64.wrap (za * zb) = IntKind.i64.wrap (mapsN n E : Int)) := by
            show _ = _
            rw [ZP.out, MN.out, if_neg hf, Nat.mul_one, Int.natCast_mul]
          have m2 : (fa == fb) = false := by
            rw [beq_eq_false_iff_ne]; exact hf
          clear MN ZP
          go_wp2
          all_goals first
            | exact absurd ‹(fa == fb) = true› (by rw [m2]; decide)
            | (go_ret
               rw [← MN2.out]
               refine ⟨?_, HF.out⟩
               first
                 | rfl
                 | (rw [Go.IntWalk.i64_left]; rfl)
                 | (rw [Go.IntWalk.i64_left, Go.IntWalk.i64_left]; rfl))
set_option maxHeartbeats 800000 in
theorem specSelfMaps_any (n : Int) (rows : List (List Int)) (v : Value) (RV : List Value) (w : World) {B0 H0 : Nat} (hG : Hid (Grid w B0 H0 v RV rows)) (hH : H0 ≤ w.heap.size) (hrl : rows.length ≤ 1048576) :
    Calls Try.prog 15 #[.int .i64 n, v] w fun e w' => e = .returned (.int .i64 (mapsOut n rows)) ∧ Below w.heap.size w w' := by
  have CV := Lib.hid (validTree_any n rows v RV w hG hH hrl)
  obtain ⟨av, cv, rfl⟩ : ∃ a c, v = .slice a RV.length c := by
    obtain ⟨a, c, h, _⟩ := hG.out.1.slice; exact ⟨a, c, h⟩
  cases ht : treeB n rows with
  | true =>
    rw [mapsOut, if_pos ht]
    obtain ⟨h1, h2⟩ := rowsE_tree ht
    obtain ⟨N, rfl⟩ : ∃ N : Nat, n = N := ⟨n.toNat, by have := (treeB_iff.1 ht).1; omega⟩
    rw [Int.toNat_natCast] at h2 ⊢
    have CC := Lib.hid (fun (W : World) (hW : Below w.heap.size w W) => freeMapsS_any N (edgesR rows) h2 (.slice av RV.length cv) RV W (Lib.hid (by rw [← h1]; exact hG.out.below (hW.mono hH))) (Nat.le_trans hH hW.size))
    rw [ht] at CV
    clear hG hH hrl h1 h2 ht
    obtain ⟨Z, hZ⟩ : ∃ Z, Z = IntKind.i64.wrap (mapsN N (edgesR rows) : Int) := ⟨_, rfl⟩
    rw [← hZ] at CC ⊢
    clear hZ
    go_enter Try.func15, Try.ntmps15
    go_wp2_with fail
    refine CV.out.mono ?_
    rintro e w1 ⟨rfl, hb1⟩
    have HB1 := Lib.hid hb1
    clear hb1 CV
    go_wp2_with fail
    refine (CC.out _ HB1.out).mono ?_
    rintro e w2 ⟨rfl, hb2⟩
    have HB2 : Hid (Below w.heap.size w w2) := HB1.out.trans (hb2.mono HB1.out.size)
    clear hb2 CC
    go_wp2
    go_ret
    exact ⟨rfl, HB2.out⟩
  | false =>
    rw [mapsOut, if_neg (by rw [ht]; decide)]
    rw [ht] at CV
    clear hG hH hrl ht
    go_enter Try.func15, Try.ntmps15
    go_wp2_with fail
    refine CV.out.mono ?_
    rintro e w1 ⟨rfl, hb1⟩
    have HB1 := Lib.hid hb1
    clear hb1 CV
    go_wp2
    go_ret
    exact ⟨rfl, HB1.out⟩
end Go.Proofs.Ythlboikljibohaa
