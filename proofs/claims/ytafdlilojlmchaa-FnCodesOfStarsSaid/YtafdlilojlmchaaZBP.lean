/-
  The branches of a tree, as the program tells them: rows of pairs, a tree as rows of neighbours; the parts of a branch.
  The longest way into a branch, as the program finds it.
  Rows of structs of numbers, of a call's own, as the program holds them.
-/
import Derived.Test.YtafdlilojlmchaaZI
import Derived.Test.YtafdlilojlmchaaCVTree
import Derived.Deep.AppendLies
import Derived.Test.YtafdlilojlmchaaZJ
namespace Go.Proofs.Ytafdlilojlmchaa
open Go.RowKit

def encB (b : Nat × Int) : List Value := [.int .i64 (b.1 : Int), .int .i64 b.2]
def aggB (b : Nat × Int) : Value := .agg #[.int .i64 (b.1 : Int), .int .i64 b.2]
def flatB (L : List (Nat × Int)) : List Value := L.flatMap encB
theorem flatB_length (L : List (Nat × Int)) : (flatB L).length = L.length * 2 := by
  induction L with
  | nil => rfl
  | cons e r ih => simp only [flatB, List.flatMap_cons, List.length_append, List.length_cons] at ih ⊢; rw [ih]; simp [encB]; omega
theorem flatB_cons (e : Nat × Int) (L : List (Nat × Int)) : flatB (e :: L) = [.int .i64 (e.1 : Int), .int .i64 e.2] ++ flatB L := rfl
theorem flatB_append (A B : List (Nat × Int)) : flatB (A ++ B) = flatB A ++ flatB B := by simp [flatB]
theorem flatB_at (L : List (Nat × Int)) : ∀ (j : Nat) (h : j < L.length), (flatB L)[j * 2]? = some (.int .i64 (L[j].1 : Int)) ∧ (flatB L)[j * 2 + 1]? = some (.int .i64 L[j].2) := by
  induction L with
  | nil => intro j h; simp at h
  | cons e r ih =>
    intro j h
    cases j with
    | zero => rw [flatB_cons]; exact ⟨rfl, rfl⟩
    | succ j =>
      obtain ⟨i1, i2⟩ := ih j (by simpa using h)
      rw [flatB_cons]
      have e1 : (j + 1) * 2 = (j * 2) + 1 + 1 := by omega
      rw [e1]
      exact ⟨by simpa using i1, by simpa using i2⟩
/-- a row of branches of the call's own, in blocks from B on and below H -/
def BRow (w : World) (B H : Nat) (v : Value) (L : List (Nat × Int)) : Prop := w.ownsRow B 92 2 v L.length (flatB L) ∧ ∀ g, v.ownBlock = some g → g < H
section
variable {w w' : World} {B H : Nat} {v : Value} {L : List (Nat × Int)}
theorem BRow.below (h : BRow w B H v L) (hb : Below H w w') : BRow w' B H v L := ⟨own_blocks2 h.1 fun g hg => hb.block g (h.2 g hg), h.2⟩
theorem BRow.more {H' : Nat} (h : BRow w B H v L) (hH : H ≤ H') : BRow w B H' v L := ⟨h.1, fun g hg => Nat.lt_of_lt_of_le (h.2 g hg) hH⟩
theorem BRow.of (h : w.ownsRow B 92 2 v L.length (flatB L)) : BRow w B w.heap.size v L := ⟨h, fun g hg => (h.lt g hg).2⟩
theorem BRow.nil (w : World) (B H : Nat) : BRow w B H (.slice none 0 0) [] := ⟨⟨rfl, .inl ⟨rfl, rfl⟩⟩, fun g hg => by cases hg⟩
theorem BRow.slice (h : BRow w B H v L) : ∃ ao cap, v = .slice ao L.length cap ∧ (ao = none → L = [] ∧ cap = 0) ∧ L.length ≤ cap ∧ cap ≤ maxLen ∧ ∀ a, ao = some a → ∃ g, a = ⟨g, 0, none⟩ ∧ B ≤ g ∧ g < H := by
  rcases h.1.2 with ⟨rfl, h0⟩ | ⟨g, cap, cur, rfl, h1, h2, h3, h4, _⟩
  · exact ⟨none, 0, by rw [h0], fun _ => ⟨List.eq_nil_of_length_eq_zero h0, rfl⟩, by omega, by simp [maxLen], fun a ha => by cases ha⟩
  · exact ⟨some ⟨g, 0, none⟩, cap, rfl, (fun e => by cases e), h3, h4, fun a ha => ⟨g, by cases ha; rfl, h1, h.2 g rfl⟩⟩
theorem BRow.at_ (h : BRow w B H v L) (j : Nat) (hj : j < L.length) : ∃ g cap, v = .slice (some ⟨g, 0, none⟩) L.length cap ∧ B ≤ g ∧ g < H ∧ g < w.heap.size ∧ w.cell? ⟨g, j * 2, none⟩ = some (.int .i64 (L[j].1 : Int)) ∧ w.cell? ⟨g, j * 2 + 1, none⟩ = some (.int .i64 L[j].2) := by
  have hl := h.1.1
  rcases h.1.2 with ⟨rfl, h0⟩ | ⟨g, cap, cur, rfl, h1, h2, h3, h4, h5, h6⟩
  · omega
  · have hg : g < w.heap.size := (h.1.lt g rfl).2
    obtain ⟨f1, f2⟩ := flatB_at L j hj
    have hc : ∀ i, i < L.length * 2 → w.cell? ⟨g, i, none⟩ = (flatB L)[i]? := fun i hi => by
      rw [← h6, List.getElem?_take_of_lt hi]
      simp [World.cell?, h2]
    exact ⟨g, cap, rfl, h1, h.2 g rfl, hg, (hc _ (by omega)).trans f1, (hc _ (by omega)).trans f2⟩
end
theorem BRow.lo {w : World} {B B' H : Nat} {v : Value} {L : List (Nat × Int)} (h : BRow w B H v L) (hB : B' ≤ B) : BRow w B' H v L :=
  ⟨⟨h.1.1, h.1.2.imp id (fun ⟨g, cap, cur, e1, hg, r⟩ => ⟨g, cap, cur, e1, by omega, r⟩)⟩, h.2⟩
theorem BRow.push {w : World} {B : Nat} {v : Value} {L : List (Nat × Int)} {a : Nat} {b : Int} {k : Nat} (hk : L.length = k) (h : w.ownsRow B 92 2 v (k + 1) (flatB L ++ [.int .i64 (a : Int), .int .i64 b])) : BRow w B w.heap.size v (L ++ [(a, b)]) := by
  refine BRow.of ?_
  rw [flatB_append, List.length_append, hk]
  exact h
theorem Try.infoBr : (Try.prog.info? 92).map (fun i => (i.zero, i.size, i.bytes)) = some (some (.agg #[.int .i64 0, .int .i64 0]), 2, 16) := by kernel_rfl

/-- the rows of neighbours -/
def nbI (E : Edges) (u : Nat) : List Int := (nb E u).map fun (x : Nat) => (x : Int)
def nbR (n : Nat) (E : Edges) : List (List Int) := (List.range n).map (nbI E)
theorem nbR_length (n : Nat) (E : Edges) : (nbR n E).length = n := by simp [nbR]
theorem nbR_at (n : Nat) (E : Edges) (u : Nat) (h : u < (nbR n E).length) : (nbR n E)[u] = nbI E u := by simp [nbR]
/-- a row of numbers at its place -/
theorem row_at {w : World} {B H k : Nat} {av : Option Addr} {cv : Nat} {RV : List Value} {rows : List (List Int)} (hG : Grid w B H (.slice av rows.length cv) RV rows) (hk : k < rows.length) :
    ∃ ga au cu, av = some ⟨ga, 0, none⟩ ∧ ga < H ∧ rows[k].length ≤ cu ∧ cu ≤ maxLen ∧ w.cell? ⟨ga, k, none⟩ = some (.slice au rows[k].length cu) ∧ Own w B H 3 (.slice au rows[k].length cu) (iv rows[k]) := by
  have h1 := hG.1
  have h2 := hG.2
  have hl := h2.1
  rw [← hl] at h1
  obtain ⟨ga, e1, _, hga, hc, _⟩ := h1.at_ k (by rw [hl]; exact hk)
  obtain ⟨u, hu, ho⟩ := h2.at_ k hk
  obtain ⟨au, cu, rfl, _, hcu, hcm, _⟩ := ho.slice
  rw [iv_length] at hcu hu ho
  rw [hu] at hc
  exact ⟨ga, au, cu, e1, hga, hcu, hcm, hc, ho⟩
theorem nb_mem_lt {n : Nat} {E : Edges} (ho : ∀ e ∈ E, e.1 < n ∧ e.2 < n) {u x : Nat} (h : x ∈ nb E u) : x < n ∧ u < n := by
  rcases mem_nb.1 h with q | q <;> (have := ho _ q; simp only at this; omega)
theorem nb_len_le (E : Edges) (u : Nat) : (nb E u).length ≤ 2 * E.length := by
  unfold nb
  induction E with
  | nil => exact Nat.le_refl _
  | cons e r ih =>
    rw [List.flatMap_cons, List.length_append, List.length_cons]
    have : (nb1 u e).length ≤ 2 := by unfold nb1; rw [List.length_append]; split <;> split <;> simp
    omega
/-- the parts, as far as k neighbours tell -/
def prtK (E : Edges) (u : Nat) (fr : Int) (k : Nat) : List (Nat × Int) := (((nb E u).take k).filter fun (x : Nat) => !decide ((x : Int) = fr)).map fun x => (x, (u : Int))
theorem prtK_yes {E : Edges} {u k : Nat} {fr : Int} (hk : k < (nb E u).length) (h : ((nb E u)[k] : Int) ≠ fr) : prtK E u fr (k + 1) = prtK E u fr k ++ [((nb E u)[k], (u : Int))] := by
  unfold prtK
  rw [List.take_succ_eq_append_getElem hk, List.filter_append, List.map_append]
  congr 1
  rw [List.filter_cons_of_pos (by simpa using h)]; rfl
theorem prtK_no {E : Edges} {u k : Nat} {fr : Int} (hk : k < (nb E u).length) (h : ((nb E u)[k] : Int) = fr) : prtK E u fr (k + 1) = prtK E u fr k := by
  unfold prtK
  rw [List.take_succ_eq_append_getElem hk, List.filter_append, List.map_append]
  rw [List.filter_cons_of_neg (by simpa using h)]; simp
theorem prtK_all (E : Edges) (u : Nat) (fr : Int) : prtK E u fr (nb E u).length = prt E (u, fr) := by unfold prtK prt away; rw [List.take_length]
theorem prtK_le (E : Edges) (u : Nat) (fr : Int) (k : Nat) : (prtK E u fr k).length ≤ k := by
  unfold prtK
  rw [List.length_map]
  exact Nat.le_trans (List.length_filter_le _ _) (by rw [List.length_take]; omega)

/-- the neighbours of a node, where they lie -/
theorem tree_row {w : World} {B H n u : Nat} {v : Value} {RV : List Value} {E : Edges} (hG : Grid w B H v RV (nbR n E)) (hu : u < n) :
    ∃ ga cv au cu, v = .slice (some ⟨ga, 0, none⟩) n cv ∧ ga < H ∧ n ≤ cv ∧ (nb E u).length ≤ cu ∧ cu ≤ maxLen ∧ w.cell? ⟨ga, u, none⟩ = some (.slice au (nb E u).length cu) ∧
      ∀ (j : Nat) (hj : j < (nb E u).length), ∃ g, au = some ⟨g, 0, none⟩ ∧ g < H ∧ w.cell? ⟨g, j, none⟩ = some (.int .i64 ((nb E u)[j] : Int)) := by
  have hk : u < (nbR n E).length := by rw [nbR_length]; exact hu
  obtain ⟨av, cv, rfl, _, hcv, _, _⟩ := hG.1.slice
  have hgl := hG.2.1
  rw [hgl] at hG hcv
  obtain ⟨ga, au, cu, rfl, hga, h1, h2, h3, h4⟩ := row_at hG hk
  have e1 : (nbR n E)[u] = nbI E u := nbR_at n E u hk
  have e2 : (nbI E u).length = (nb E u).length := by simp [nbI]
  rw [nbR_length] at hcv hgl
  rw [e1, e2] at h1 h3 h4
  refine ⟨ga, cv, au, cu, by rw [hgl], hga, hcv, h1, h2, h3, fun j hj => ?_⟩
  obtain ⟨g, q1, _, q2, q3, _⟩ := h4.at_ j (by rw [iv_length, e2]; exact hj)
  refine ⟨g, q1, q2, q3.trans ?_⟩
  rw [iv_at _ _ (by rw [e2]; exact hj)]
  simp [nbI]
set_option maxHeartbeats 3200000 in
set_option maxRecDepth 100000 in
theorem parts_p (n : Nat) (E : Edges) (tv : Value) (RV : List Value) (w : World) {B0 H0 : Nat} (hG : Hid (Grid w B0 H0 tv RV (nbR n E))) (hH : H0 ≤ w.heap.size) (u : Nat) (fr : Int) (hu : u < n) (hE : E.length ≤ 64) :
    Calls Try.prog 66 #[tv, .agg #[.int .i64 (u : Int), .int .i64 fr]] w fun e w' => ∃ x, e = .returned x ∧ BRow w' w.heap.size w'.heap.size x (prt E (u, fr)) ∧ Below w.heap.size w w' := by
  obtain ⟨i0, hi0, hz0, hz1, hz2⟩ := info_parts Try.infoBr
  obtain ⟨ga, cv, au, cu, rfl, hga, hcv, hcu, hcm, hc1, hcs⟩ := tree_row hG.out hu
  have hml := nb_len_le E u
  have PA := Lib.hid (prtK_all E u fr)
  obtain ⟨m, hm⟩ : ∃ m, m = (nb E u).length := ⟨_, rfl⟩
  have HM := Lib.hid hm
  rw [← hm] at hcu hc1 hml PA
  have HC : Hid (∀ (j : Nat) (hj : j < (nb E u).length), ∃ g, au = some ⟨g, 0, none⟩ ∧ g < w.heap.size ∧ w.cell? ⟨g, j, none⟩ = some (.int .i64 ((nb E u)[j] : Int))) := fun j hj => by
    obtain ⟨g, a1, a2, a3⟩ := hcs j hj
    exact ⟨g, a1, by omega, a3⟩
  have hm128 : m ≤ 128 := by omega
  obtain ⟨SZ, hSZ⟩ : ∃ SZ, SZ = w.heap.size := ⟨_, rfl⟩
  have hgs : ga < w.heap.size := by omega
  clear hG hcs hml hm hE hga hH
  go_enter Try.func66, Try.ntmps66
  go_wp2_with fail
  obtain ⟨GB, hGB⟩ : ∃ GB, GB = w.heap.size := ⟨_, rfl⟩
  have HGB := Lib.hid hGB
  obtain ⟨W0, hW0⟩ : ∃ W0, W0 = w.alloc (.cells #[.int .i64 (u : Int), .int .i64 fr] 92) := ⟨_, rfl⟩
  have K0 : Hid (W0.cell? ⟨GB, 0, none⟩ = some (.int .i64 (u : Int)) ∧ W0.cell? ⟨GB, 1, none⟩ = some (.int .i64 fr)) := by
    show _ ∧ _; rw [hW0, hGB]; exact ⟨by simp, by simp⟩
  have B0 : Hid (Below SZ w W0) := by show Below _ _ _; rw [hW0, hSZ]; exact (Below.refl _ _).alloc (Nat.le_refl _) _
  have S0 : Hid (GB < W0.heap.size) := by show _ < _; rw [hW0, World.size_alloc]; omega
  have C0 := HC
  rw [← hW0, ← hGB]
  have HSZ : Hid (SZ = GB) := by show _ = _; omega
  clear hW0 hGB hSZ hc1 hgs hcu hcm hcv
  go_loopw [5, 7, 14] (fun e5 e7 ii wr => ∃ k : Nat, k ≤ m ∧ ii = .int .i64 k ∧ Hid (BRow wr (SZ + 1) wr.heap.size e5 (prtK E u fr k)) ∧ Hid (wr.cell? ⟨GB, 0, none⟩ = some (.int .i64 (u : Int)) ∧ wr.cell? ⟨GB, 1, none⟩ = some (.int .i64 fr)) ∧ Hid (Below SZ w wr) ∧ Hid (GB < wr.heap.size)) (fun _ _ ii _ => m - (intOf ii).toNat)
  case atStart => exact ⟨0, Nat.zero_le _, rfl, BRow.nil _ _ _, K0, B0, S0⟩
  case round =>
    clear K0 B0 S0 C0
    obtain ⟨k, hk, rfl, HE, HK, HB, HS⟩ := hrel
    by_cases hlt : k < m
    · have b1 : (k : Int) < (m : Int) := by omega
      have hkn : k < (nb E u).length := by rw [← HM.out]; exact hlt
      obtain ⟨g, hau, hg, hcg⟩ := HC.out k hkn
      have c1 := (HB.out.cell (p := ⟨g, k, none⟩) (by show g < SZ; rw [HSZ.out, HGB.out]; exact hg)).trans hcg
      have k1 := HK.out.1
      have k2 := HK.out.2
      have hpl := prtK_le E u fr k
      have PY := Lib.hid (prtK_yes (fr := fr) hkn)
      have PN := Lib.hid (prtK_no (fr := fr) hkn)
      obtain ⟨x, hx⟩ : ∃ x, x = (nb E u)[k] := ⟨_, rfl⟩
      rw [← hx] at c1 PY PN
      obtain ⟨ao, c6, he6, _⟩ := HE.out.slice
      subst he6
      obtain ⟨L, hL⟩ : ∃ L, L = prtK E u fr k := ⟨_, rfl⟩
      rw [← hL] at HE hpl PY PN
      obtain ⟨l, hl⟩ : ∃ l, l = L.length := ⟨_, rfl⟩
      have HLl := Lib.hid hl
      rw [← hl] at hpl
      rw [← hL, ← hl]
      rw [← hl] at HE
      subst hau
      clear hx hL hl hcg hg hkn
      by_cases hxf : (x : Int) = fr
      · have q1 : ((x : Int) != fr) = false := by rw [hxf]; simp
        have PN2 := Lib.hid (PN.out hxf)
        clear PY PN hxf
        go_wp2
        go_roundw
        case rel => exact ⟨k + 1, by omega, by go_num, by show BRow _ _ _ _ _; rw [PN2.out]; exact HE.out, HK, HB, HS⟩
        case measure => simp [intOf]; omega
      · have q1 : ((x : Int) != fr) = true := by simpa using hxf
        have PY2 := Lib.hid (PY.out hxf)
        have EA : Hid (wr.ownsRow (SZ + 1) 92 2 (.slice ao l c6) l (flatB L)) := by
          have := HE.out.1; rw [← HLl.out] at this; exact this
        have NW := Lib.hid (World.news_of_block (heap_alloc_new wr (.cells #[.int .i64 (x : Int), .int .i64 (u : Int)] 92)))
        have ON : Hid (∀ y ∈ [Value.int .i64 (x : Int), Value.int .i64 (u : Int)], y.oneCell' = true) := by intro y hy; simp at hy; rcases hy with rfl | rfl <;> rfl
        have z1 : l + 1 ≤ maxLen := by unfold maxLen; omega
        have z2 : (l + 1) * 16 ≤ 140737488355328 := by omega
        have hSs : SZ < wr.heap.size := by rw [HSZ.out]; exact HS.out
        have HSb : Hid (SZ + 1 ≤ (wr.alloc (.cells #[.int .i64 (x : Int), .int .i64 (u : Int)] 92)).heap.size) := by
          show _ ≤ _; rw [World.size_alloc]; omega
        have HSs := Lib.hid hSs
        clear PY PN hxf hSs
        go_wp2_with (at_builtin; refine wpList_append_lies _ rfl (.tmp 22) (.tmp 27) 53 rfl (SZ + 1) 92 i0 (.agg #[.int .i64 0, .int .i64 0]) 2 16 Try.underlying53 hi0 hz0 hz1 hz2 rfl (Nat.succ_pos 1) _ l (flatB L) rfl (EA.out.alloc _) ⟨wr.heap.size, 0, none⟩ 1 1 [.int .i64 (x : Int), .int .i64 (u : Int)] rfl rfl NW.out ON.out (Nat.lt_succ_self 0) z1 z2 HSb.out _ rfl ?_)
        intro g2 c2 w2 hv2 hg2 _ _
        have hb2 : Below (SZ + 1) wr w2 := ((Below.refl (SZ + 1) wr).alloc (by have := HSs.out; omega) _).grown hg2 HSb.out (fun q hq => (EA.out.lt q hq).1)
        have BA2 : Hid (Below SZ w w2) := HB.out.trans (hb2.mono (by omega))
        have HK2 : Hid (w2.cell? ⟨GB, 0, none⟩ = some (.int .i64 (u : Int)) ∧ w2.cell? ⟨GB, 1, none⟩ = some (.int .i64 fr)) := ⟨(hb2.cell (p := ⟨GB, 0, none⟩) (by show GB < _; have := HSZ.out; omega)).trans k1, (hb2.cell (p := ⟨GB, 1, none⟩) (by show GB < _; have := HSZ.out; omega)).trans k2⟩
        have HS2 : Hid (GB < w2.heap.size) := Nat.lt_of_lt_of_le HS.out hb2.size
        have EA2 : Hid (BRow w2 (SZ + 1) w2.heap.size (.slice (some ⟨g2, 0, none⟩) (l + 1) c2) (prtK E u fr (k + 1))) := by
          show BRow _ _ _ _ _
          rw [PY2.out]
          exact BRow.push HLl.out.symm hv2
        clear hv2 hg2 EA NW ON HSb HSs hb2 HB HK HS k1 k2 c1
        go_wp2
        go_roundw
        case rel => exact ⟨k + 1, by omega, by go_num, EA2, HK2, BA2, HS2⟩
        case measure => simp [intOf]; omega
    · obtain rfl : k = m := by omega
      have BF := Lib.hid (HE.out.lo (Nat.le_succ SZ))
      rw [PA.out] at BF
      clear HE
      go_wp2
      go_ret
      exact ⟨_, rfl, by rw [← HGB.out, ← HSZ.out]; exact BF.out, by rw [← HGB.out, ← HSZ.out]; exact HB.out⟩
end Go.Proofs.Ytafdlilojlmchaa

namespace Go.Proofs.Ytafdlilojlmchaa
open Go.RowKit

/-- the longest way, as far as k parts tell -/
def farK (E : Edges) (d u : Nat) (fr : Int) (k : Nat) : Nat := ((away E u fr).take k).foldl (fun m x => max m (1 + far E d x u)) 0
theorem farK_next {E : Edges} {d u k : Nat} {fr : Int} (hk : k < (away E u fr).length) : farK E d u fr (k + 1) = max (farK E d u fr k) (1 + far E d (away E u fr)[k] u) := by
  unfold farK
  rw [List.take_succ_eq_append_getElem hk, List.foldl_append]; rfl
theorem farK_all (E : Edges) (d u : Nat) (fr : Int) : farK E d u fr (away E u fr).length = far E (d + 1) u fr := by unfold farK; rw [List.take_length]; rfl
theorem far_fuel (E : Edges) : ∀ (d u : Nat) (fr : Int), far E d u fr ≤ d := by
  intro d
  induction d with
  | zero => intro u fr; exact Nat.le_refl _
  | succ d ih =>
    intro u fr
    rw [far, fold_max]
    exact ⟨by omega, fun x _ => by have := ih x u; omega⟩
theorem farK_le (E : Edges) (d u : Nat) (fr : Int) (k : Nat) : farK E d u fr k ≤ d + 1 := by
  unfold farK
  rw [fold_max]
  exact ⟨by omega, fun x _ => by have := far_fuel E d x u; omega⟩
theorem prt_length (E : Edges) (u : Nat) (fr : Int) : (prt E (u, fr)).length = (away E u fr).length := by simp [prt]
theorem prt_at {E : Edges} {u k : Nat} {fr : Int} (h : k < (prt E (u, fr)).length) : (prt E (u, fr))[k] = ((away E u fr)[k]'(by rw [prt_length] at h; exact h), (u : Int)) := by simp [prt]
theorem away_len (E : Edges) (u : Nat) (fr : Int) : (away E u fr).length ≤ 2 * E.length := Nat.le_trans (List.length_filter_le _ _) (nb_len_le E u)
theorem away_lt {n : Nat} {E : Edges} (ho : ∀ e ∈ E, e.1 < n ∧ e.2 < n) {u x : Nat} {fr : Int} (h : x ∈ away E u fr) : x < n ∧ u < n := nb_mem_lt ho (List.mem_filter.1 h).1

theorem wholeFrom_p (u : Nat) (w : World) : Calls Try.prog 57 #[.int .i64 (u : Int)] w fun e w' => e = .returned (.agg #[.int .i64 (u : Int), .int .i64 (-1)]) ∧ Below w.heap.size w w' := by
  go_enter Try.func57, Try.ntmps57
  go_wp2
  refine bodyPost_ret (results_cell_row rfl _ _ w.heap.size _ _ _ _ rfl (heap_alloc_new w _) Try.underlying92 rfl (by kernel_rfl)) rfl ?_
  exact ⟨rfl, (Below.refl _ _).alloc (Nat.le_refl _) _⟩

set_option maxHeartbeats 3200000 in
set_option maxRecDepth 100000 in
theorem longest_p (n : Nat) (E : Edges) (ho : Hid (∀ e ∈ E, e.1 < n ∧ e.2 < n)) (hE : E.length ≤ 64) : ∀ (d u : Nat) (fr : Int), u < n → d ≤ 64 → Hid (Brn E d u fr) → ∀ (tv : Value) (RV : List Value) (w : World) (B0 H0 : Nat), Hid (Grid w B0 H0 tv RV (nbR n E)) → H0 ≤ w.heap.size →
    Calls Try.prog 67 #[tv, .agg #[.int .i64 (u : Int), .int .i64 fr]] w fun e w' => e = .returned (.int .i64 (far E d u fr : Int)) ∧ Below w.heap.size w w' := by
  intro d
  induction d with
  | zero => intro u fr _ _ h; exact h.out.elim
  | succ d ih =>
    intro u fr hu hd hB tv RV w B0 H0 hG hH
    have CP := Lib.hid (fun (W : World) (hW : Below w.heap.size w W) => parts_p n E tv RV W (Lib.hid (hG.out.below (hW.mono hH))) (Nat.le_trans hH hW.size) u fr hu hE)
    have CL := Lib.hid (fun (x : Nat) (hx : x < n) (hb : Hid (Brn E d x u)) (W : World) (hW : Below w.heap.size w W) => ih x u hx (by omega) hb tv RV W B0 H0 (Lib.hid (hG.out.below (hW.mono hH))) (Nat.le_trans hH hW.size))
    obtain ⟨ga, cv, au, cu, rfl, _⟩ := tree_row hG.out hu
    have FA := Lib.hid (farK_all E d u fr)
    have HBK : Hid (∀ x ∈ away E u fr, Brn E d x u ∧ x < n) := fun x hx => ⟨hB.out x hx, (away_lt ho.out hx).1⟩
    have hpl := prt_length E u fr
    have hal := away_len E u fr
    have h128 : (away E u fr).length ≤ 128 := by omega
    obtain ⟨m, hm⟩ : ∃ m, m = (away E u fr).length := ⟨_, rfl⟩
    have HM := Lib.hid hm
    rw [← hm] at FA hpl h128
    have HPL := Lib.hid hpl
    obtain ⟨SZ, hSZ⟩ : ∃ SZ, SZ = w.heap.size := ⟨_, rfl⟩
    have HSZ := Lib.hid hSZ
    rw [← hSZ] at CP CL
    clear hB hal hm hpl hSZ ih hG hH
    go_enter Try.func67, Try.ntmps67
    go_wp2_with fail
    have B1 : Hid (Below SZ w (w.alloc (.cells #[.int .i64 (u : Int), .int .i64 fr] 92))) := by
      show Below _ _ _; rw [HSZ.out]; exact (Below.refl _ _).alloc (Nat.le_refl _) _
    refine (CP.out _ B1.out).mono ?_
    rintro e w1 ⟨v, rfl, hr, hb1⟩
    have S1 : Hid (SZ ≤ (w.alloc (.cells #[.int .i64 (u : Int), .int .i64 fr] 92)).heap.size) := by show _ ≤ _; rw [HSZ.out, World.size_alloc]; omega
    have B2 : Hid (Below SZ w w1) := B1.out.trans (hb1.mono S1.out)
    have R2 := Lib.hid (hr.lo S1.out)
    obtain ⟨ao, c6, rfl, _⟩ := hr.slice
    rw [HPL.out] at R2 ⊢
    have S2 : Hid (SZ ≤ w1.heap.size) := Nat.le_trans S1.out hb1.size
    clear hr hb1 B1 S1 CP
    go_wp2_with fail
    go_loopw [5, 7, 12] (fun e5 e7 ii wr => ∃ (k : Nat) (z : Int), k ≤ m ∧ ii = .int .i64 k ∧ e5 = .int .i64 z ∧ Hid (z = (farK E d u fr k : Int)) ∧ Hid (Below w1.heap.size w1 wr)) (fun _ _ ii _ => m - (intOf ii).toNat)
    case atStart => exact ⟨0, 0, Nat.zero_le _, rfl, rfl, rfl, Below.refl _ _⟩
    case round =>
      obtain ⟨k, z, hk, rfl, rfl, HZ, HB⟩ := hrel
      by_cases hlt : k < m
      · have b1 : (k : Int) < (m : Int) := by omega
        have hka : k < (away E u fr).length := by rw [← HM.out]; exact hlt
        have hkp : k < (prt E (u, fr)).length := by rw [HPL.out]; exact hlt
        obtain ⟨g, c', e1, _, _, hg, c1, c2⟩ := (R2.out.below HB.out).at_ k hkp
        rw [HPL.out] at e1
        simp only [Value.slice.injEq] at e1
        obtain ⟨rfl, _, rfl⟩ := e1
        rw [prt_at hkp] at c1 c2
        have FN := farK_next (d := d) hka
        have FL := farK_le E d u fr k
        have hx1 := HBK.out _ (List.getElem_mem hka)
        obtain ⟨x, hx⟩ : ∃ x, x = (away E u fr)[k] := ⟨_, rfl⟩
        rw [← hx] at c1 FN hx1
        replace c1 : wr.cell? ⟨g, k * 2, none⟩ = some (.int .i64 (x : Int)) := c1
        replace c2 : wr.cell? ⟨g, k * 2 + 1, none⟩ = some (.int .i64 (u : Int)) := c2
        have F2 := far_fuel E d x u
        obtain ⟨f, hf⟩ : ∃ f, f = far E d x u := ⟨_, rfl⟩
        have CX := CL.out x hx1.2 (Lib.hid hx1.1)
        rw [← hf] at FN F2 CX
        have CX := Lib.hid CX
        have FN : Hid ((farK E d u fr (k + 1) : Int) = max z (1 + (f : Int))) := by show _ = _; rw [FN, HZ.out]; omega
        have hz1 : 0 ≤ z ∧ z ≤ 65 := by rw [HZ.out]; omega
        obtain ⟨hz0, hz2⟩ := hz1
        have ew : IntKind.i64.wrap (1 + (f : Int)) = 1 + (f : Int) := by rw [IntKind.wrap_i64]; omega
        have hsr : Hid (w1.heap.size ≤ wr.heap.size) := HB.out.size
        have BW : Hid (Below SZ w (wr.alloc (.cells #[.int .i64 (x : Int), .int .i64 (u : Int)] 92))) := (B2.out.trans (HB.out.mono S2.out)).alloc (by have := S2.out; have := hsr.out; omega) _
        have BX : Hid (Below w1.heap.size w1 (wr.alloc (.cells #[.int .i64 (x : Int), .int .i64 (u : Int)] 92))) := HB.out.alloc hsr.out _
        have sX : Hid (w1.heap.size ≤ (wr.alloc (.cells #[.int .i64 (x : Int), .int .i64 (u : Int)] 92)).heap.size) := BX.out.size
        clear hx hf hx1 hka hkp FL HZ CL HB
        go_wp2_with fail
        refine (CX.out _ BW.out).mono ?_
        rintro e w2 ⟨rfl, hb2⟩
        have B3 : Hid (Below w1.heap.size w1 w2) := BX.out.trans (hb2.mono sX.out)
        clear hb2 BX sX BW CX c1 c2
        rcases Int.lt_trichotomy z (1 + (f : Int)) with hz | hz | hz
        · go_wp2
          go_roundw
          case rel => exact ⟨k + 1, _, by omega, by go_num, rfl, by show _ = _; rw [FN.out]; omega, B3⟩
          case measure => simp [intOf]; omega
        · subst hz
          go_wp2
          go_roundw
          case rel => exact ⟨k + 1, _, by omega, by go_num, rfl, by show _ = _; rw [FN.out]; omega, B3⟩
          case measure => simp [intOf]; omega
        · go_wp2
          go_roundw
          case rel => exact ⟨k + 1, _, by omega, by go_num, rfl, by show _ = _; rw [FN.out]; omega, B3⟩
          case measure => simp [intOf]; omega
      · obtain rfl : k = m := by omega
        have HZ2 : Hid (z = (far E (d + 1) u fr : Int)) := by show _ = _; rw [HZ.out, FA.out]
        have BF : Hid (Below SZ w wr) := B2.out.trans (HB.out.mono S2.out)
        clear HZ HB CL
        go_wp2
        go_ret
        rw [HZ2.out]
        exact ⟨rfl, by rw [← HSZ.out]; exact BF.out⟩
end Go.Proofs.Ytafdlilojlmchaa

namespace Go.Proofs.Ytafdlilojlmchaa
open Go.RowKit

def flatS (L : List (List Int)) : List Value := L.flatMap iv
theorem flatS_append (A B : List (List Int)) : flatS (A ++ B) = flatS A ++ flatS B := by simp [flatS]
theorem flatS_one (x : List Int) : flatS [x] = iv x := by simp [flatS]
theorem flatS_at {s : Nat} : ∀ (L : List (List Int)), (∀ x ∈ L, x.length = s) → ∀ (j : Nat) (h : j < L.length) (i : Nat), i < s → (flatS L)[j * s + i]? = (iv L[j])[i]?
  | [], _, j, h, _, _ => by simp at h
  | e :: r, hs, j, h, i, hi => by
    have he : (iv e).length = s := by rw [iv_length]; exact hs e (List.mem_cons_self ..)
    show (iv e ++ flatS r)[j * s + i]? = _
    cases j with
    | zero => rw [Nat.zero_mul, Nat.zero_add, List.getElem?_append_left (by omega)]; rfl
    | succ j =>
      have e1 : (j + 1) * s + i = s + (j * s + i) := by rw [Nat.add_mul, Nat.one_mul]; omega
      rw [e1, List.getElem?_append_right (by omega), he, Nat.add_sub_cancel_left]
      exact flatS_at r (fun x hx => hs x (List.mem_cons_of_mem _ hx)) j (by simpa using h) i hi
/-- m structs of s numbers each, in blocks from B on and below H -/
def SRow (w : World) (B H : Nat) (T : TypeId) (s : Nat) (v : Value) (m : Nat) (L : List (List Int)) : Prop :=
  w.ownsRow B T s v m (flatS L) ∧ L.length = m ∧ (∀ x ∈ L, x.length = s) ∧ ∀ g, v.ownBlock = some g → g < H
section
variable {w w' : World} {B H : Nat} {T : TypeId} {s m : Nat} {v : Value} {L : List (List Int)}
theorem SRow.below (h : SRow w B H T s v m L) (hb : Below H w w') : SRow w' B H T s v m L := ⟨own_blocks2 h.1 fun g hg => hb.block g (h.2.2.2 g hg), h.2⟩
theorem SRow.slice (h : SRow w B H T s v m L) : ∃ ao cap, v = .slice ao m cap := by
  rcases h.1.2 with ⟨rfl, h0⟩ | ⟨g, cap, cur, rfl, _⟩
  · exact ⟨none, 0, by rw [h0]⟩
  · exact ⟨_, _, rfl⟩
theorem SRow.at_ (h : SRow w B H T s v m L) (j : Nat) (hj : j < m) (hjl : j < L.length) : ∃ g cap, v = .slice (some ⟨g, 0, none⟩) m cap ∧ g < H ∧ ∀ i, i < s → w.cell? ⟨g, j * s + i, none⟩ = (iv L[j])[i]? := by
  rcases h.1.2 with ⟨rfl, h0⟩ | ⟨g, cap, cur, rfl, h1, h2, h3, h4, h5, h6⟩
  · omega
  · refine ⟨g, cap, rfl, h.2.2.2 g rfl, fun i hi => ?_⟩
    have f1 := flatS_at L h.2.2.1 j hjl i hi
    have hlt : j * s + i < m * s := by
      have : (j + 1) * s ≤ m * s := Nat.mul_le_mul_right _ hj
      rw [Nat.add_mul, Nat.one_mul] at this; omega
    rw [← f1, ← h6, List.getElem?_take_of_lt hlt]
    simp [World.cell?, h2]
end
theorem SRow.of {w : World} {B s m : Nat} {T : TypeId} {v : Value} {L : List (List Int)} (h : w.ownsRow B T s v m (flatS L)) (hm : L.length = m) (hs : ∀ x ∈ L, x.length = s) : SRow w B w.heap.size T s v m L := ⟨h, hm, hs, fun g hg => (h.lt g hg).2⟩
/-- what the first k branches weigh -/
def wgK (V : Nat → Nat → Int → List Int) (E : Edges) (d u : Nat) (fr : Int) (k : Nat) : List (List Int) := ((away E u fr).take k).map fun x => V d x u
theorem wgK_next {V : Nat → Nat → Int → List Int} {E : Edges} {d u k : Nat} {fr : Int} (hk : k < (away E u fr).length) : wgK V E d u fr (k + 1) = wgK V E d u fr k ++ [V d (away E u fr)[k] u] := by
  unfold wgK
  rw [List.take_succ_eq_append_getElem hk, List.map_append]; rfl
theorem wgK_all (V : Nat → Nat → Int → List Int) (E : Edges) (d u : Nat) (fr : Int) : wgK V E d u fr (away E u fr).length = (away E u fr).map fun x => V d x u := by unfold wgK; rw [List.take_length]
theorem zero_block {w w' : World} {g : Nat} {cs : Array Value} {T : TypeId} (h : w.heap[g]? = some (.cells cs T (0, 0))) (hb : Below w.heap.size w w') : w'.heap[g]? = some (.cells cs T (0, 0)) := (hb.block g (Array.getElem?_eq_some_iff.1 h).1).trans h
theorem zero_below {w w' : World} {g H : Nat} {cs : Array Value} {T : TypeId} (h : w.heap[g]? = some (.cells cs T (0, 0))) (hg : g < H) (hb : Below H w w') : w'.heap[g]? = some (.cells cs T (0, 0)) := (hb.block g hg).trans h
end Go.Proofs.Ytafdlilojlmchaa
