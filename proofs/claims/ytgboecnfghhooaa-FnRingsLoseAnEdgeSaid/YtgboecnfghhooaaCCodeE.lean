/-
  The contract of the model's function that tells a tree's code.
-/
import Derived.Test.YtgboecnfghhooaaCDeg
namespace Go.Proofs.Ytgboecnfghhooaa
open Go.RowKit

theorem Try.infoRowR : (Try.prog.info? 32).map (fun i => (i.zero, i.size, i.bytes)) = some (some (.slice none 0 0), 1, 24) := by kernel_rfl
theorem one_rowR (v : Value) (a : Option Addr) (n c : Nat) (h : v = .slice a n c) : ∀ u ∈ [v], u.oneCell' = true := by intro u hu; simp at hu; subst hu; subst h; rfl
theorem rows_one {w : World} {B H : Nat} {RV : List Value} {rows : List (List Int)} (h : RowsI w B H RV rows) : ∀ u ∈ RV, u.oneCell' = true := by
  intro u hu
  obtain ⟨i, hi, rfl⟩ := List.getElem_of_mem hu
  obtain ⟨u', h1, ho⟩ := h.at_ i (by rw [← h.1]; exact hi)
  rw [List.getElem?_eq_getElem hi] at h1
  cases h1
  obtain ⟨a, c, e, _⟩ := ho.slice
  rw [e]; rfl
/-- what is taken away, and what is left, up to an edge -/
def outT (l : Nat) (F : Edges) : List Nat := (F.filter (touches l)).map (other l)
def keepT (l : Nat) (F : Edges) : Edges := F.filter fun e => !touches l e
theorem outT_step {l : Nat} {F : Edges} {i : Nat} (h : i < F.length) : outT l (F.take (i + 1)) = if touches l F[i] then outT l (F.take i) ++ [other l F[i]] else outT l (F.take i) := by
  unfold outT
  rw [List.take_succ_eq_append_getElem h, List.filter_append, List.map_append]
  by_cases ht : touches l F[i] = true
  · rw [if_pos ht, List.filter_cons_of_pos ht]; simp
  · rw [if_neg ht, List.filter_cons_of_neg ht]; simp
theorem keepT_step {l : Nat} {F : Edges} {i : Nat} (h : i < F.length) : keepT l (F.take (i + 1)) = if touches l F[i] then keepT l (F.take i) else keepT l (F.take i) ++ [F[i]] := by
  unfold keepT
  rw [List.take_succ_eq_append_getElem h, List.filter_append]
  by_cases ht : touches l F[i] = true
  · rw [if_pos ht, List.filter_cons_of_neg (by simp [ht])]; simp
  · rw [if_neg ht, List.filter_cons_of_pos (by simp [ht])]; simp
theorem outT_le (l : Nat) (F : Edges) : (outT l F).length ≤ F.length := by unfold outT; rw [List.length_map]; exact List.length_filter_le _ _
theorem keepT_le (l : Nat) (F : Edges) : (keepT l F).length ≤ F.length := List.length_filter_le _ _
/-- the edges that are left: a row of rows of the call's own -/
structure Lft (w : World) (B H B0 H0 g m c : Nat) (LV : List Value) (F : Edges) : Prop where
  own : Own w B H 32 (.slice (some ⟨g, 0, none⟩) m c) LV
  rows : RowsI w B0 H0 LV (rowsE F)
  len : F.length = m
theorem Lft.vlen {w : World} {B H B0 H0 g m c : Nat} {LV : List Value} {F : Edges} (h : Lft w B H B0 H0 g m c LV F) : LV.length = m := by rw [h.rows.1, ← h.len]; simp [rowsE]
theorem Lft.grid {w : World} {B H B0 H0 g m c : Nat} {LV : List Value} {F : Edges} (h : Lft w B H B0 H0 g m c LV F) (hH : H0 ≤ H) : Grid w 0 H (.slice (some ⟨g, 0, none⟩) m c) LV (rowsE F) :=
  ⟨own_lo h.own (Nat.zero_le _), (h.rows.lo (Nat.zero_le _)).more hH⟩
theorem Lft.more {w : World} {B H H' B0 H0 g m c : Nat} {LV : List Value} {F : Edges} (h : Lft w B H B0 H0 g m c LV F) (hH : H ≤ H') : Lft w B H' B0 H0 g m c LV F := ⟨h.own.more hH, h.rows, h.len⟩
theorem Lft.below {w w' : World} {B H B0 H0 g m c : Nat} {LV : List Value} {F : Edges} (h : Lft w B H B0 H0 g m c LV F) (hH : H0 ≤ H) (hb : Below H w w') : Lft w' B H B0 H0 g m c LV F :=
  ⟨h.own.below hb, h.rows.below (hb.mono hH), h.len⟩
theorem own_somR {w : World} {B n : Nat} {t : TypeId} {v : Value} {xs : List Value} (h : w.ownsRow B t 1 v n xs) (hv : v ≠ .slice none 0 0) : ∃ g cap, v = .slice (some ⟨g, 0, none⟩) n cap := by
  rcases h.2 with ⟨h0, _⟩ | ⟨g, cap, cur, h1, _⟩
  · exact absurd h0 hv
  · exact ⟨g, cap, h1⟩
theorem rowsE_length (E : Edges) : (rowsE E).length = E.length := by simp [rowsE]
theorem rowsE_append (A B : Edges) : rowsE (A ++ B) = rowsE A ++ rowsE B := by simp [rowsE]

theorem Ils.ownN {w0 w : World} {B g m c : Nat} {L : List Nat} (h : Ils w0 w B g m c L) : Own w B w.heap.size 3 (.slice (some ⟨g, 0, none⟩) m c) (ints L) :=
  ⟨by rw [ints_length, h.len]; exact h.own, fun q hq => (h.own.lt q hq).2⟩
/-- a row of numbers grows: rows of rows stay -/
theorem Lft.int {w w7 : World} {B' H' B0 H0 gl q cl B1 H1 : Nat} {LV xs : List Value} {F : Edges} {v : Value} {o : Obj} (h : Lft w B' H' B0 H0 gl q cl LV F) (hu : Own w B1 H1 3 v xs) (hB : H0 ≤ B1) (hHs : H0 ≤ w.heap.size)
    (hg : (w.alloc o).grownBy w7 v.ownBlock) : Lft w7 B' H' B0 H0 gl q cl LV F := by
  have hb : Below H0 w w7 := ((Below.refl _ _).alloc hHs o).grown hg (by simp; omega) (fun k hk => by have := (hu.1.lt k hk.symm.symm).1; omega)
  exact ⟨(h.own.alloc o).grown hg (h.own.ne hu (by decide)), h.rows.below hb, h.len⟩
/-- a row of rows grows: a row of numbers stays -/
theorem Ils.row {w0 w w7 : World} {B g m c B1 H1 : Nat} {L : List Nat} {xs : List Value} {v : Value} {o : Obj} (h : Ils w0 w B g m c L) (hu : Own w B1 H1 32 v xs) (hB : B ≤ B1) (hBs : B ≤ w.heap.size)
    (hg : (w.alloc o).grownBy w7 v.ownBlock) : Ils w0 w7 B g m c L := by
  have hk := (h.ownN.alloc o).grown hg (h.ownN.ne hu (by decide))
  refine ⟨h.len, ?_, (h.below.alloc hBs o).grown hg (by simp; omega) (fun k hk => by have := (hu.1.lt k hk.symm.symm).1; omega)⟩
  have := hk.1
  rwa [ints_length, h.len] at this
/-- .. and what lies lower stays -/
theorem Lft.low {w w7 : World} {B' R B0 H0 gl q cl B1 H1 : Nat} {LV xs : List Value} {F : Edges} {v : Value} {o : Obj} (h : Lft w B' R B0 H0 gl q cl LV F) (hu : Own w B1 H1 32 v xs) (hB : R ≤ B1) (hRs : R ≤ w.heap.size) (hH0 : H0 ≤ R)
    (hg : (w.alloc o).grownBy w7 v.ownBlock) : Lft w7 B' R B0 H0 gl q cl LV F := by
  have hb : Below R w w7 := ((Below.refl _ _).alloc hRs o).grown hg (by simp; omega) (fun k hk => by have := (hu.1.lt k hk.symm.symm).1; omega)
  exact h.below hH0 hb
/-- an edge's row is laid to those that are left -/
theorem Lft.add {w w7 : World} {R H' B0 H0 gr mr cr g7 c7 : Nat} {LR : List Value} {F : Edges} {u : Value} {e : Nat × Nat} (h : Lft w R H' B0 H0 gr mr cr LR F) (hR : H0 ≤ R) (hRs : R ≤ w.heap.size) (hu : Own w B0 H0 3 u (iv [(e.1 : Int), (e.2 : Int)]))
    (hv : w7.ownsRow R 32 1 (.slice (some ⟨g7, 0, none⟩) (mr + 1) c7) (mr + 1) (LR ++ [u])) (hg : (w.alloc (.cells #[u] 32)).grownBy w7 (Value.slice (some ⟨gr, 0, none⟩) mr cr).ownBlock) :
    Lft w7 R w7.heap.size B0 H0 g7 (mr + 1) c7 (LR ++ [u]) (F ++ [e]) := by
  have hb : Below H0 w w7 := ((Below.refl _ _).alloc (by omega) _).grown hg (by simp; omega) (fun k hk => by have := (h.own.1.lt k hk.symm.symm).1; omega)
  refine ⟨⟨by rw [List.length_append, h.vlen]; exact hv, fun q hq => (hv.lt q hq).2⟩, ?_, by rw [List.length_append, h.len]; rfl⟩
  rw [rowsE_append]
  exact (h.rows.below hb).append ((RowsI.one hu).below hb)

set_option maxHeartbeats 3200000 in
set_option maxRecDepth 100000 in
theorem codeOf_any (n : Nat) (E : Edges) (v : Value) (RV : List Value) (w : World) {B0 H0 : Nat} (hG : Hid (Grid w B0 H0 v RV (rowsE E))) (hH : H0 ≤ w.heap.size) (hV : Hid (ValidT n E)) (hn : 2 ≤ n ∧ n ≤ 64) :
    Calls Try.prog 66 #[.int .i64 n, v] w fun e w' => ∃ g m c, e = .returned (.slice (some ⟨g, 0, none⟩) m c) ∧ Ils w w' w.heap.size g m c (codeN n E) := by
  obtain ⟨i0, hi, hz0, hz1, hz2⟩ := info_parts Try.infoIntR
  obtain ⟨j0, hj, hy0, hy1, hy2⟩ := info_parts Try.infoRowR
  obtain ⟨hn2, hn64⟩ := hn
  have hEl := hV.out.len
  obtain ⟨av, cv, rfl, _, hcv, hcm, _⟩ := hG.out.1.slice
  have hgl : RV.length = E.length := by rw [hG.out.2.1]; simp [rowsE]
  obtain ⟨ga, rfl, hgaB, hgaH, _⟩ := hG.out.1.at_ 0 (by rw [hgl]; omega)
  rw [hgl] at hG hcv ⊢
  obtain ⟨es, cd, hp, hs, hc, hce⟩ := valid_peel hV.out hn2
  have HP : Hid (∃ es, Pl n es cd ∧ SameE E es) := ⟨es, hp, hs⟩
  rw [hce]
  have HC := Lib.hid hc
  have hst := World.ownsRow_lit (base := w.heap.size) (e := 32) (size := 1) w #[] 0 (Nat.le_refl _) (by decide) rfl
  clear hp hs hce hc
  go_enter Try.func66, Try.ntmps66
  have z1 : 0 + E.length ≤ maxLen := by unfold maxLen; omega
  have z2 : (0 + E.length) * 24 ≤ 140737488355328 := by omega
  have Z3 := Lib.hid (show w.heap.size ≤ (w.alloc (.cells #[] 32)).heap.size by simp)
  have HO1 : Hid (rows_one hG.out.2 = rows_one hG.out.2) := rfl
  have ONE := Lib.hid (rows_one hG.out.2)
  have CELLS : Hid (∀ j u, RV[j]? = some u → (w.alloc (.cells #[] 32)).cell? ((⟨ga, 0, none⟩ : Addr).add j) = some u) := fun j u hu => by
    have hjl : j < RV.length := by
      by_cases h : j < RV.length
      · exact h
      · rw [List.getElem?_eq_none (by omega)] at hu; cases hu
    have h0 : w.ownsRow B0 32 1 (.slice (some ⟨ga, 0, none⟩) E.length cv) E.length RV := by have := hG.out.1.1; rwa [hgl] at this
    have h1 := h0.cellAt j (by omega)
    rw [show (⟨ga, 0, none⟩ : Addr).add j = ⟨ga, j, none⟩ by simp [Addr.add_lit], ((Below.refl w.heap.size w).alloc (Nat.le_refl _) _).cell (p := ⟨ga, j, none⟩) (by show ga < _; omega), h1, hu]
  clear HO1
  go_wp2_with (at_builtin; refine wpList_append_own _ rfl (.tmp 11) (.tmp 12) 26 rfl w.heap.size 32 j0 (.slice none 0 0) 1 24 Try.underlying26 hj hy0 hy1 hy2 rfl (by decide) _ 0 [] rfl hst ⟨ga, 0, none⟩ E.length cv RV rfl (by rw [hgl]; omega) CELLS.out ONE.out z1 z2 Z3.out ?_)
  intro vL w3 hvL hgL hnL
  obtain ⟨gL, cL, rfl⟩ := own_somR hvL hnL
  have hb3 : Below w.heap.size w w3 := ((Below.refl _ _).alloc (Nat.le_refl _) _).grown hgL (by simp) (fun q hq => by simp only [Value.ownBlock, Option.some.injEq] at hq; omega)
  have LF3 : Lft w3 w.heap.size w3.heap.size B0 H0 gL E.length cL RV E :=
    ⟨⟨by rw [hgl]; exact hvL, fun q hq => (hvL.lt q hq).2⟩, (hG.out.2.below (hb3.mono hH)), rfl⟩
  have hst4 := World.ownsRow_lit (base := w.heap.size) (e := 3) (size := 1) w3 #[] 0 hb3.size (by decide) rfl
  have I4 : Hid (Ils w (w3.alloc (.cells #[] 3)) w.heap.size w3.heap.size 0 0 []) := ⟨rfl, hst4, hb3.alloc hb3.size _⟩
  have hs3 := hb3.size
  have LF4 : Hid (Lft (w3.alloc (.cells #[] 3)) w.heap.size (w3.alloc (.cells #[] 3)).heap.size B0 H0 gL E.length cL RV E) :=
    (LF3.below (by omega) ((Below.refl w3.heap.size w3).alloc (Nat.le_refl _) _)).more (by simp)
  have HH3 : Hid (H0 ≤ (w3.alloc (.cells #[] 3)).heap.size) := by show _ ≤ _; simp; omega
  clear hvL hgL hnL hb3 LF3 hst4 hst Z3 CELLS ONE z1 z2
  go_wp2
  obtain ⟨w4, hw4⟩ : ∃ w4, w4 = w3.alloc (.cells #[] 3) := ⟨_, rfl⟩
  obtain ⟨g0, hg0⟩ : ∃ g0, g0 = w3.heap.size := ⟨_, rfl⟩
  rw [← hw4] at I4 LF4 HH3 ⊢
  rw [← hg0] at I4 ⊢
  obtain ⟨B, hB⟩ : ∃ B, B = w.heap.size := ⟨_, rfl⟩
  have HB := Lib.hid hB
  rw [← hB] at I4 LF4 hH
  have hs4 := Lib.hid (show B ≤ w4.heap.size by rw [HB.out]; exact I4.out.below.size)
  clear hw4 hg0 hs3 hB hgaB hgaH
  go_loopw [5, 6] (fun left out wr => ∃ (gl cl m c g q : Nat) (LV : List Value) (F : Edges) (L r : List Nat), left = .slice (some ⟨gl, 0, none⟩) q cl ∧ out = .slice (some ⟨g, 0, none⟩) m c ∧ q ≤ n ∧ m + r.length + 2 = n ∧
      Hid (Ils w wr B g m c L) ∧ Hid (Lft wr B wr.heap.size B0 H0 gl q cl LV F) ∧ Hid (L ++ r = cd) ∧ Hid (∃ es, Pl n es r ∧ SameE F es)) (fun _ out _ => match out with | .slice _ m _ => n - m | _ => 0)
  case atStart => exact ⟨gL, cL, 0, 0, g0, E.length, RV, E, [], cd, rfl, rfl, by omega, by have := HC.out; omega, I4, LF4, rfl, HP⟩
  case round =>
    clear I4 LF4 HP HH3 hs4
    obtain ⟨gl, cl, m, c, g, q, LV, F, L, r, rfl, rfl, hqn, hmr, I, LF, HL, HP⟩ := hrel
    have hsz := Lib.hid (show B ≤ wr.heap.size by rw [HB.out]; exact I.out.below.size)
    have ew : IntKind.i64.wrap ((n : Int) - 2) = (n : Int) - 2 := by rw [IntKind.wrap_i64]; omega
    cases r with
    | nil =>
      have b1 : (n : Int) - 2 ≤ (m : Int) := by simp only [List.length_nil] at hmr; omega
      go_wp2
      go_ret
      refine ⟨g, m, c, rfl, ?_⟩
      have hl := HL.out
      rw [List.append_nil] at hl
      rw [← hl, ← HB.out]
      exact I.out
    | cons x r =>
      simp only [List.length_cons] at hmr
      have b1 : (m : Int) < (n : Int) - 2 := by omega
      obtain ⟨es, hp, hs⟩ := HP.out
      obtain ⟨l, es', hl1, hl2, hp', hs'⟩ := hp.round hs
      obtain ⟨ln, ld, lno⟩ := least_some.1 hl1
      have hFe : Hid (∀ e ∈ F, e.1 < n ∧ e.2 < n) := fun e he => by
        have h1 : (e.1, e.2) ∈ F ∨ (e.2, e.1) ∈ F := .inl he
        rcases (hs.ends e.1 e.2).1 h1 with h | h
        · have := hp.lt _ h; exact ⟨this.1, this.2.1⟩
        · have := hp.lt _ h; exact ⟨this.2.1, this.1⟩
      have HP' : Hid (∃ es, Pl n es r ∧ SameE (keepT l F) es) := ⟨es', hp', hs'⟩
      have HOUT : Hid (outT l F = [x]) := hl2
      have LN := Lib.hid lno
      have LD := Lib.hid ld
      have hqF := LF.out.len
      have CD := degrees_any n F (.slice (some ⟨gl, 0, none⟩) q cl) LV wr (Lib.hid (LF.out.grid (by have := hsz.out; omega))) (Nat.le_refl _) hFe (by omega) (by omega)
      have CD := Lib.hid CD
      clear hp hs hl1 hl2 hp' hs' lno ld HP
      go_wp2_with (go_at_call 78; refine CD.out.mono ?_; rintro e w5 ⟨G, rfl, hD⟩)
      have D5 := Lib.hid hD
      have hs5 := hD.below.size
      have I5 := Lib.hid (show Ils w w5 B g m c L from ⟨I.out.len, own_of_blocks I.out.own fun q hq => hD.below.block q (I.out.own.lt q hq).2, I.out.below.trans (hD.below.mono hsz.out)⟩)
      have LF5 := Lib.hid (((LF.out.below (by have := hsz.out; omega) hD.below).more hs5))
      have hB5 := Lib.hid (show B ≤ w5.heap.size by have := hsz.out; omega)
      have I5L : Hid (L.length = m) := I5.out.len
      have hds := fun v => deg_small F F.length v
      rw [List.take_length] at hds
      clear hD hs5 I LF CD hsz
      go_loopw [8] (fun leaf w' => ∃ k : Nat, k ≤ l ∧ leaf = .int .i64 k ∧ w' = w5) (fun leaf _ => l - (intOf leaf).toNat)
      case atStart => exact ⟨0, Nat.zero_le _, rfl, rfl⟩
      case round =>
        obtain ⟨k, hk, rfl, rfl⟩ := hrel
        have hcell := (D5.out.own.cellAt k (by omega)).trans (degV_at (deg F) (show k < n by omega))
        have b2 : (k : Int) < (n : Int) := by omega
        by_cases hkl : k < l
        · have q1 : ((deg F k : Int) == 1) = false := by rw [beq_eq_false_iff_ne]; have := LN.out k hkl; omega
          have q2 : ((deg F k : Int) != 1) = true := by rw [bne, q1]; rfl
          go_wp2
          go_roundw
          case rel => exact ⟨k + 1, by omega, by go_num, by simp⟩
          case measure => simp [intOf]; omega
        · obtain rfl : k = l := by omega
          have q1 : ((deg F k : Int) == 1) = true := by rw [LD.out]; rfl
          have q2 : ((deg F k : Int) != 1) = false := by rw [bne, q1]; rfl
          go_wp2
          have hst6 := World.ownsRow_lit (base := wr.heap.size) (e := 32) (size := 1) wr #[] 0 (Nat.le_refl _) (by decide) rfl
          have hH6 : H0 ≤ wr.heap.size := by have := hB5.out; omega
          have ha6 : Below wr.heap.size wr (wr.alloc (.cells #[] 32)) := (Below.refl _ _).alloc (Nat.le_refl _) _
          have R6 : Hid (Lft (wr.alloc (.cells #[] 32)) wr.heap.size (wr.alloc (.cells #[] 32)).heap.size B0 H0 wr.heap.size 0 0 [] []) := by
            have h6 : Own (wr.alloc (.cells #[] 32)) wr.heap.size (wr.alloc (.cells #[] 32)).heap.size 32 (.slice (some ⟨wr.heap.size, 0, none⟩) 0 0) [] := ⟨hst6, fun q hq => (hst6.lt q hq).2⟩
            exact ⟨h6, RowsI.nil, rfl⟩
          have I6 : Hid (Ils w (wr.alloc (.cells #[] 32)) B g m c L) := ⟨I5.out.len, own_of_blocks I5.out.own fun q hq => ha6.block q (I5.out.own.lt q hq).2, I5.out.below.alloc hB5.out _⟩
          have L6 : Hid (Lft (wr.alloc (.cells #[] 32)) B wr.heap.size B0 H0 gl q cl LV F) := LF5.out.below hH6 ha6
          have S6 : Hid (wr.heap.size ≤ (wr.alloc (.cells #[] 32)).heap.size) := ha6.size
          obtain ⟨w6, hw6⟩ : ∃ w6, w6 = wr.alloc (.cells #[] 32) := ⟨_, rfl⟩
          obtain ⟨R0, hR0⟩ : ∃ R0, R0 = wr.heap.size := ⟨_, rfl⟩
          rw [← hw6] at R6 I6 L6 S6 ⊢
          rw [← hR0] at R6 L6 S6 hH6 ⊢
          have hBR : B ≤ R0 := by rw [hR0]; exact hB5.out
          have hlF := LF5.out.len
          clear hw6 hR0 hst6 ha6 I5 LF5 D5 hcell hds b2 q1 q2 LN hB5 hk
          go_loopw [6, 9, 10] (fun out rest ii wi => ∃ (i m' c' g' mr cr gr : Nat) (LR : List Value), i ≤ q ∧ out = .slice (some ⟨g', 0, none⟩) m' c' ∧ rest = .slice (some ⟨gr, 0, none⟩) mr cr ∧ ii = .int .i64 i ∧ m' ≤ m + i ∧ mr ≤ i ∧
              Hid (Ils w wi B g' m' c' (L ++ outT k (F.take i))) ∧ Hid (Lft wi R0 wi.heap.size B0 H0 gr mr cr LR (keepT k (F.take i))) ∧ Hid (Lft wi B R0 B0 H0 gl q cl LV F) ∧ Hid (R0 ≤ wi.heap.size)) (fun _ _ ii _ => q - (intOf ii).toNat)
          case atStart => exact ⟨0, m, c, g, 0, 0, _, [], Nat.zero_le _, rfl, rfl, rfl, by omega, Nat.le_refl _, by simpa [outT] using I6, by simpa [keepT] using R6, L6, S6⟩
          case round =>
            clear I6 R6 L6 S6
            obtain ⟨i, m', c', g', mr, cr, gr, LR, hiq, rfl, rfl, rfl, hm', hmr', IO, RL, LL, SS⟩ := hrel
            have hBi := Lib.hid (show B ≤ wr.heap.size by have := SS.out; omega)
            have hsi := SS.out
            by_cases hlt : i < q
            · have b3 : (i : Int) < (q : Int) := by omega
              have hiF : i < F.length := by omega
              have OS := outT_step (l := k) hiF
              have KS := keepT_step (l := k) hiF
              have hLo : Own wr B R0 32 (.slice (some ⟨gl, 0, none⟩) LV.length cl) LV := by have := LL.out.own; rwa [LL.out.vlen]
              obtain ⟨gl', e1, _, _, hc0, _⟩ := hLo.at_ i (by rw [LL.out.vlen]; exact hlt)
              cases e1
              obtain ⟨u, hu, ho⟩ := LL.out.rows.at_ i (by rw [rowsE_length]; exact hiF)
              have er : (rowsE F)[i]'(by rw [rowsE_length]; exact hiF) = [(F[i].1 : Int), (F[i].2 : Int)] := by simp [rowsE]
              rw [er] at ho
              obtain ⟨e, he⟩ : ∃ e, e = F[i] := ⟨_, rfl⟩
              rw [← he] at OS KS ho
              have HO := Lib.hid ho
              obtain ⟨au, cu, rfl, _, hcu0, _, _⟩ := ho.slice
              rw [iv_length] at ho hcu0 hu HO
              obtain ⟨ge, rfl, _, _, hd1, _⟩ := ho.at_ 0 (by rw [iv_length]; simp)
              obtain ⟨ge', e5, _, _, hd2, _⟩ := ho.at_ 1 (by rw [iv_length]; simp)
              cases e5
              rw [hu] at hc0
              have hc1 : wr.cell? ⟨ge, 0, none⟩ = some (.int .i64 (e.1 : Int)) := hd1
              have hc2 : wr.cell? ⟨ge, 1, none⟩ = some (.int .i64 (e.2 : Int)) := hd2
              have hcu : 2 ≤ cu := hcu0
              clear he ho hLo er hd1 hd2 hcu0 hu
              by_cases h1 : e.1 = k
              · have q1 : ((k : Int) == (e.1 : Int)) = true := by rw [h1]; simp
                have ht : touches k e = true := by unfold touches; simp [h1]
                have y1 : m' + 1 ≤ maxLen := by unfold maxLen; omega
                have y2 : (m' + 1) * 8 ≤ 140737488355328 := by omega
                have Y3 := Lib.hid (show ∀ o : Obj, B ≤ (wr.alloc o).heap.size by intro o; have := hBi.out; simp; omega)
                have Y4 := Lib.hid (show ∀ o : Obj, (wr.alloc o).heap.size = wr.heap.size + 1 by intro o; simp)
                have ho : other k e = e.2 := by unfold other; rw [if_pos h1]
                rw [if_pos ht, ho] at OS
                rw [if_pos ht] at KS
                have OS := Lib.hid OS
                have KS := Lib.hid KS
                clear ht ho h1
                go_wp2_with (at_builtin; refine wpList_append_lies _ rfl (.tmp 53) (.tmp 60) 32 rfl B 3 i0 (.int .i64 0) 1 8 Try.underlying32 hi hz0 hz1 hz2 rfl (by decide) _ m' (ints (L ++ outT k (F.take i))) rfl (IO.out.own.alloc _) ⟨wr.heap.size, 0, none⟩ 1 1 [_] rfl rfl (cell_one_new _ _ _) (one_intR _) (by decide) y1 y2 (Y3.out _) (wr.heap.size + 1) (Y4.out _) ?_)
                intro g7 c7 w7 hv7 hg7 hw7 hl7
                have s7 := hg7.size
                have I7 := Lib.hid (IO.out.app hBi.out hv7 hg7)
                have R7 := Lib.hid ((RL.out.int (o := .cells #[.int .i64 (e.2 : Int)] 3) IO.out.ownN hH (by omega) hg7).more (show wr.heap.size ≤ w7.heap.size by simp at s7; omega))
                have L7 := Lib.hid (LL.out.int (o := .cells #[.int .i64 (e.2 : Int)] 3) IO.out.ownN hH (by omega) hg7)
                have S7 := Lib.hid (show R0 ≤ w7.heap.size by simp at s7; omega)
                clear hv7 hg7 hw7 hl7 s7 IO RL LL Y3 Y4
                go_wp2
                go_roundw
                case rel => exact ⟨i + 1, m' + 1, c7, g7, mr, cr, gr, LR, by omega, rfl, rfl, by go_num, by omega, by omega, by rw [OS.out, ← List.append_assoc]; exact I7.out, by rw [KS.out]; exact R7.out, L7.out, S7.out⟩
                case measure => simp [intOf]; omega
              · have q1 : ((k : Int) == (e.1 : Int)) = false := by rw [beq_eq_false_iff_ne]; omega
                by_cases h2 : e.2 = k
                · have q2 : ((k : Int) == (e.2 : Int)) = true := by rw [h2]; simp
                  have ht : touches k e = true := by unfold touches; simp [h2]
                  clear h2
                  have y1 : m' + 1 ≤ maxLen := by unfold maxLen; omega
                  have y2 : (m' + 1) * 8 ≤ 140737488355328 := by omega
                  have Y3 := Lib.hid (show ∀ o : Obj, B ≤ (wr.alloc o).heap.size by intro o; have := hBi.out; simp; omega)
                  have Y4 := Lib.hid (show ∀ o : Obj, (wr.alloc o).heap.size = wr.heap.size + 1 by intro o; simp)
                  have ho : other k e = e.1 := by unfold other; rw [if_neg h1]
                  rw [if_pos ht, ho] at OS
                  rw [if_pos ht] at KS
                  have OS := Lib.hid OS
                  have KS := Lib.hid KS
                  clear ht ho h1
                  go_wp2_with (at_builtin; refine wpList_append_lies _ rfl (.tmp 70) (.tmp 77) 32 rfl B 3 i0 (.int .i64 0) 1 8 Try.underlying32 hi hz0 hz1 hz2 rfl (by decide) _ m' (ints (L ++ outT k (F.take i))) rfl (IO.out.own.alloc _) ⟨wr.heap.size, 0, none⟩ 1 1 [_] rfl rfl (cell_one_new _ _ _) (one_intR _) (by decide) y1 y2 (Y3.out _) (wr.heap.size + 1) (Y4.out _) ?_)
                  intro g7 c7 w7 hv7 hg7 hw7 hl7
                  have s7 := hg7.size
                  have I7 := Lib.hid (IO.out.app hBi.out hv7 hg7)
                  have R7 := Lib.hid ((RL.out.int (o := .cells #[.int .i64 (e.1 : Int)] 3) IO.out.ownN hH (by omega) hg7).more (show wr.heap.size ≤ w7.heap.size by simp at s7; omega))
                  have L7 := Lib.hid (LL.out.int (o := .cells #[.int .i64 (e.1 : Int)] 3) IO.out.ownN hH (by omega) hg7)
                  have S7 := Lib.hid (show R0 ≤ w7.heap.size by simp at s7; omega)
                  clear hv7 hg7 hw7 hl7 s7 IO RL LL Y3 Y4
                  go_wp2
                  go_roundw
                  case rel => exact ⟨i + 1, m' + 1, c7, g7, mr, cr, gr, LR, by omega, rfl, rfl, by go_num, by omega, by omega, by rw [OS.out, ← List.append_assoc]; exact I7.out, by rw [KS.out]; exact R7.out, L7.out, S7.out⟩
                  case measure => simp [intOf]; omega
                · have q2 : ((k : Int) == (e.2 : Int)) = false := by rw [beq_eq_false_iff_ne]; omega
                  have ht : touches k e = false := by unfold touches; simp [h1, h2]
                  rw [ht, if_neg (by decide)] at OS KS
                  have OS := Lib.hid OS
                  have KS := Lib.hid KS
                  have y1 : mr + 1 ≤ maxLen := by unfold maxLen; omega
                  have y2 : (mr + 1) * 24 ≤ 140737488355328 := by omega
                  have Y3 := Lib.hid (show ∀ o : Obj, R0 ≤ (wr.alloc o).heap.size by intro o; simp; omega)
                  have Y4 := Lib.hid (show ∀ o : Obj, (wr.alloc o).heap.size = wr.heap.size + 1 by intro o; simp)
                  have RO := Lib.hid (show (wr.ownsRow R0 32 1 (.slice (some ⟨gr, 0, none⟩) mr cr) mr LR) by have := RL.out.own.1; rwa [RL.out.vlen] at this)
                  clear ht h1 h2
                  go_wp2_with (at_builtin; refine wpList_append_lies _ rfl (.tmp 38) (.tmp 43) 26 rfl R0 32 j0 (.slice none 0 0) 1 24 Try.underlying26 hj hy0 hy1 hy2 rfl (by decide) _ mr LR rfl (RO.out.alloc _) ⟨wr.heap.size, 0, none⟩ 1 1 [_] rfl rfl (cell_one_new _ _ _) (one_rowR _ _ _ _ rfl) (by decide) y1 y2 (Y3.out _) (wr.heap.size + 1) (Y4.out _) ?_)
                  intro g7 c7 w7 hv7 hg7 hw7 hl7
                  have s7 := hg7.size
                  have hRo : Own wr R0 wr.heap.size 32 (.slice (some ⟨gr, 0, none⟩) mr cr) LR := RL.out.own
                  have I7 := Lib.hid (IO.out.row hRo hBR hBi.out hg7)
                  have R7 := Lib.hid (RL.out.add hH6 hsi HO.out hv7 hg7)
                  have L7 := Lib.hid (LL.out.low hRo (Nat.le_refl _) hsi hH6 hg7)
                  have S7 := Lib.hid (show R0 ≤ w7.heap.size by simp at s7; omega)
                  clear hv7 hg7 hw7 hl7 s7 IO RL LL Y3 Y4 RO hRo
                  go_wp2
                  go_roundw
                  case rel => exact ⟨i + 1, m', c', g', mr + 1, c7, g7, _, by omega, rfl, rfl, by go_num, by omega, by omega, by rw [OS.out]; exact I7.out, by rw [KS.out]; exact R7.out, L7.out, S7.out⟩
                  case measure => simp [intOf]; omega
            · obtain rfl : i = q := by omega
              have hFl : F.take i = F := List.take_of_length_le (by omega)
              rw [hFl] at IO RL
              rw [HOUT.out] at IO
              have hm1 : m' = m + 1 := by have h1 := IO.out.len; have h2 := I5L.out; rw [List.length_append] at h1; simp at h1; omega
              subst hm1
              have HL2 : Hid ((L ++ [x]) ++ r = cd) := by show _ = _; rw [List.append_assoc]; exact HL.out
              have RL2 := Lib.hid (show Lft wr B wr.heap.size B0 H0 gr mr cr LR (keepT k F) from ⟨own_lo RL.out.own hBR, RL.out.rows, RL.out.len⟩)
              have hmq : mr ≤ n := by omega
              clear hFl HL HOUT RL LL
              go_wp2
              go_roundw
              case rel => exact ⟨gr, cr, m + 1, c', g', mr, LR, _, _, r, rfl, rfl, hmq, by omega, IO, RL2, HL2, HP'⟩
              case measure => simp; omega
end Go.Proofs.Ytgboecnfghhooaa
