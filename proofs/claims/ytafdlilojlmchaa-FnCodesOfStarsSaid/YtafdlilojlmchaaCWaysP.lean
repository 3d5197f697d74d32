/-
  The program's map of all ways, both ways round.
-/
import Derived.Test.YtafdlilojlmchaaZQU
namespace Go.Proofs.Ytafdlilojlmchaa
open Go.RowKit

theorem zeroI10 (w : World) : (zeroValue 3).run Try.prog w = .ok (.int .i64 0) w := by kernel_rfl
theorem Try.infoEn : (Try.prog.info? 61).map (fun i => (i.zero, i.size, i.bytes)) = some (some (.agg #[.int .i64 0, .int .i64 0]), 2, 16) := by kernel_rfl
theorem one_two (a b : Int) : ∀ y ∈ [Value.int .i64 a, Value.int .i64 b], y.oneCell' = true := by intro y hy; simp at hy; rcases hy with rfl | rfl <;> rfl
theorem diag_small {k : Nat} (hk : k ≤ 7) : Small10 (diagW k) := fun p hp => by have := diagW_mem.1 hp; omega
/-- the map of all ways of a tree -/
def WaysOut (n : Nat) (E : Edges) (w : World) (e : Ending) (w' : World) : Prop :=
  ∃ g S D, e = .returned (.map (some g)) ∧ w.heap.size ≤ g ∧ WI n E S S.length ∧ w'.ownsMap Try.prog 61 (plainElem (H := Unit) Try.prog 3) g S.length D ∧ MapIs E D S ∧ Below w.heap.size w w'
set_option maxHeartbeats 6400000 in
set_option maxRecDepth 100000 in
theorem ways_p (n : Nat) (E : Edges) (hT : ValidT n E) (h7 : n ≤ 7) (tv : Value) (RV : List Value) (w : World) {B0 H0 : Nat} (hG : Hid (Grid w B0 H0 tv RV (nbR n E))) (hH : H0 ≤ w.heap.size) :
    Calls Try.prog 38 #[tv] w (WaysOut n E w) := by
  have hmm := @run_makeMap Try.prog
  obtain ⟨i0, hi, hz0, hz1, hz2⟩ := info_parts Try.infoEn
  have hn0 : 0 < n := by have := hT.len; omega
  have HT : Hid (ValidT n E ∧ n ≤ 7) := ⟨hT, h7⟩
  obtain ⟨ga, cv, _, _, rfl, _⟩ := tree_row hG.out hn0
  have TR : Hid (∀ u, u < n → ∃ au cu, (nb E u).length ≤ cu ∧ cu ≤ maxLen ∧ ∀ (W : World), Below w.heap.size w W → ga < W.heap.size ∧ W.cell? ⟨ga, u, none⟩ = some (.slice au (nb E u).length cu) ∧
      ∀ (j : Nat) (hj : j < (nb E u).length), ∃ g, au = some ⟨g, 0, none⟩ ∧ g < w.heap.size ∧ W.cell? ⟨g, j, none⟩ = some (.int .i64 ((nb E u)[j] : Int))) := fun u hu => by
    obtain ⟨ga', cv', au, cu, e, h1, h2, h3, h4, h5, h6⟩ := tree_row hG.out hu
    simp only [Value.slice.injEq, Option.some.injEq, Addr.mk.injEq] at e
    obtain ⟨⟨rfl, _, _⟩, _, _⟩ := e
    refine ⟨au, cu, h3, h4, fun W hW => ⟨by have := hW.size; omega, (hW.cell (p := ⟨ga, u, none⟩) (by show ga < _; omega)).trans h5, fun j hj => ?_⟩⟩
    obtain ⟨g, q1, q2, q3⟩ := h6 j hj
    exact ⟨g, q1, by omega, (hW.cell (p := ⟨g, j, none⟩) (by show g < _; omega)).trans q3⟩
  obtain ⟨SZ, hSZ⟩ : ∃ SZ, SZ = w.heap.size := ⟨_, rfl⟩
  have HSZ := Lib.hid hSZ
  obtain ⟨C, hC⟩ : ∃ C, C = SZ + 1 := ⟨_, rfl⟩
  have W0 : Hid (Wst E w (w.alloc (.map #[] 0)) SZ C (.map []) (diagW 0) (.slice none 0 0) 0 (diagW 0)) := by
    refine ⟨?_, MapIs.none E, QRow.nil _ _ _ _, ?_, by omega, by rw [World.size_alloc]; omega⟩
    · rw [hSZ]; exact World.ownsMap_made (H := Unit) w Try.prog 61 (plainElem Try.prog 3)
    · rw [hSZ]; exact (Below.refl _ _).alloc (Nat.le_refl _) _
  rw [← hSZ] at TR
  clear hG hH hT hSZ hC
  go_enter Try.func38, Try.ntmps38
  go_wp2_with fail
  clear hmm
  rw [← HSZ.out]
  go_loopw [4, 16] (fun e4 ii wr => ∃ (k : Nat) (a : Option Addr) (c : Nat) (D : DataW Unit), k ≤ n ∧ ii = .int .i64 k ∧ e4 = .slice a k c ∧ Hid (Wst E w wr SZ C D (diagW k) (.slice a k c) k (diagW k))) (fun _ ii _ => n - (intOf ii).toNat)
  case atStart => exact ⟨0, none, 0, _, Nat.zero_le _, rfl, rfl, W0⟩
  case round =>
    clear W0
    obtain ⟨k, a, c, D, hk, rfl, rfl, HW⟩ := hrel
    by_cases hlt : k < n
    · have b1 : (k : Int) < (n : Int) := by omega
      have hs : Small10 (diagW k) := diag_small (by omega)
      have KY : Hid (keyOf Try.prog 61 (.agg #[.int .i64 (k : Int), .int .i64 (k : Int)]) = some (keyE (k, k))) := key_ends (p := (k, k)) (by simp only; omega)
      have HD : Hid ((0 : Int) = (dsP E (k, k) : Int)) := by show _ = _; unfold dsP; simp only; rw [dst_self HT.out.1 HT.out.2 hlt]; rfl
      have hw0 : (Lit.int .i64 0).wf = true := by decide
      have hnm : (diagW k).length < maxLen := by rw [diagW_len]; unfold maxLen; omega
      have HS := Lib.hid hs
      have DN := Lib.hid (diagW_next k)
      clear hs
      obtain ⟨S, hS⟩ : ∃ S, S = diagW k := ⟨_, rfl⟩
      rw [← hS] at HW HS DN hnm
      clear hS
      go_upto_region 7 with fail
      obtain ⟨GO, hGO⟩ : ∃ GO, GO = wr.heap.size := ⟨_, rfl⟩
      obtain ⟨w1, hw1⟩ : ∃ w1, w1 = wr.alloc (.cells #[.int .i64 (k : Int), .int .i64 (k : Int)] 61) := ⟨_, rfl⟩
      have W1 : Hid (Wst E w w1 SZ C D S (.slice a k c) k S) := by show Wst _ _ _ _ _ _ _ _ _ _; rw [hw1]; exact HW.out.alloc _
      have o1 : w1.cell? ⟨GO, 0, none⟩ = some (.int .i64 (k : Int)) := by rw [hw1, hGO]; simp
      have o2 : w1.cell? ⟨GO, 1, none⟩ = some (.int .i64 (k : Int)) := by rw [hw1, hGO]; simp
      have hGM : GO ≠ SZ := by have := HW.out.own.lt; omega
      simp only [← hGO, ← hw1]
      clear hGO hw1 HW
      have hown := W1.out.own
      go_upto_region 8 with (first
        | (at_mapUpdate; refine wpList_mapUpdate_own _ rfl _ _ _ 58 rfl 61 3 lawE10 Try.underlying58 _ SZ S.length D rfl hown hnm _ _ _ rfl rfl KY.out _ [] (plainElem_int Try.underlying3 hw0) ?_; intro w5 hown5 hg5; go_frame)
        | fail)
      have hgo : GO < w1.heap.size := World.block_lt_of_cell? w1 _ o1
      have p1 := (hg5.cell_far ⟨GO, 0, none⟩ hgo (fun e => hGM (Option.some.inj e))).trans o1
      have p2 := (hg5.cell_far ⟨GO, 1, none⟩ hgo (fun e => hGM (Option.some.inj e))).trans o2
      rw [HD.out] at hown5
      have W5 := Lib.hid (W1.out.put HS.out (by simp only; omega) hown5 hg5)
      rw [← DN.out] at W5
      have Y3 : Hid (∀ o : Obj, C ≤ (w5.alloc o).heap.size) := fun o => by have := W5.out.ge; rw [World.size_alloc]; omega
      have Y4 : Hid (∀ o : Obj, (w5.alloc o).heap.size = w5.heap.size + 1) := fun o => World.size_alloc _ _
      have NW := Lib.hid (World.news_of_block (heap_alloc_new w5 (.cells #[.int .i64 (k : Int), .int .i64 (k : Int)] 61)))
      have ON := Lib.hid (one_two (k : Int) (k : Int))
      have QA : Hid (∀ o : Obj, QRow (w5.alloc o) C 61 2 (.slice a k c) k (rowW2 S)) := fun o => W5.out.que.alloc o
      have z1 : k + 1 ≤ maxLen := by unfold maxLen; omega
      have z2 : (k + 1) * 16 ≤ 140737488355328 := by omega
      obtain ⟨D2, hD2⟩ : ∃ D2, D2 = D.put (keyE (k, k)) (.lit (.int .i64 (dsP E (k, k) : Int))) := ⟨_, rfl⟩
      rw [← hD2] at W5
      clear hown hown5 hg5 o1 o2 hgo W1 hD2 hnm HD KY HS
      go_wp2_with (first
        | (at_builtin; refine wpList_append_que _ rfl (.tmp 24) (.tmp 26) 105 rfl C 61 i0 (.agg #[.int .i64 0, .int .i64 0]) 2 16 Try.underlying105 hi hz0 hz1 hz2 rfl _ k (rowW2 S) rfl (QA.out _) ⟨w5.heap.size, 0, none⟩ 1 [.int .i64 (k : Int), .int .i64 (k : Int)] rfl rfl NW.out ON.out z1 z2 (Y3.out _) (w5.heap.size + 1) (Y4.out _) ?_; intro g6 off6 c6 w6 hq6 hg6 _ _)
        | fail)
      have W6 := Lib.hid ((W5.out.alloc (.cells #[.int .i64 (k : Int), .int .i64 (k : Int)] 61)).push hq6 hg6)
      rw [← DN.out] at W6
      clear hq6 hg6 W5 Y3 Y4 NW ON QA p1 p2
      exact ⟨⟨k + 1, _, _, D2, by omega, by go_num, rfl, W6⟩, by simp [intOf]; omega⟩
    · obtain rfl : k = n := by omega
      have I0 := Lib.hid (WI.start HT.out.1 HT.out.2)
      have HL := Lib.hid (diagW_len k)
      obtain ⟨S0, hS0⟩ : ∃ S0, S0 = diagW k := ⟨_, rfl⟩
      rw [← hS0] at HW I0 HL
      have L0 : Hid (S0.length = 0 + k) := by show _ = _; rw [HL.out, Nat.zero_add]
      have Q0 : Hid (S0 = S0.drop 0) := by show _ = _; rw [List.drop_zero]
      clear hS0 HL
      go_wp2_with fail
      go_loopg [4] (k * k) (fun gg e4 wr => ∃ (h q : Nat) (a : Option Addr) (c : Nat) (D : DataW Unit) (S : List (Nat × Nat)), h + gg = k * k ∧ e4 = .slice a q c ∧ Hid (S.length = h + q) ∧ Hid (WI k E S h) ∧ Hid (Wst E w wr SZ C D S (.slice a q c) q (S.drop h)))
      case atStart => exact ⟨0, k, a, c, D, S0, by omega, rfl, L0, I0, by rw [List.drop_zero]; exact HW⟩
      case round =>
        clear L0 Q0 HW I0
        obtain ⟨h, q, a, c, D, S, hgk, rfl, HL, HI, HW⟩ := hrel
        by_cases hq0 : 0 < q
        · have b1 : (q : Int) > 0 := by omega
          have hq1 : 1 ≤ q := hq0
          have hhS : h < S.length := by have := HL.out; omega
          have hdr : S.drop h = S[h] :: S.drop (h + 1) := List.drop_eq_getElem_cons hhS
          have hkey := HI.out.len
          have hlt2 := HI.out.lt _ (List.getElem_mem hhS)
          have HM : Hid (S[h]? = some S[h]) := List.getElem?_eq_getElem hhS
          obtain ⟨⟨x, y⟩, hxy⟩ : ∃ p, p = S[h] := ⟨_, rfl⟩
          rw [← hxy] at hdr hlt2 HM
          obtain ⟨hx, hy⟩ : x < k ∧ y < k := hlt2
          rw [hdr] at HW
          have hque := HW.out.que
          rw [rowW2_cons] at hque
          obtain ⟨g, off, cap, e1, hcap, hcm, d1⟩ := hque.cell 0 (by omega)
          obtain ⟨g', off', cap', e2, _, _, d2⟩ := hque.cell 1 (by omega)
          simp only [Value.slice.injEq] at e1 e2
          obtain ⟨rfl, _, rfl⟩ := e1
          obtain ⟨e2, -, -⟩ := e2
          simp only [Option.some.injEq, Addr.mk.injEq] at e2
          obtain ⟨rfl, rfl, _⟩ := e2
          replace d1 : wr.cell? ⟨g, off, none⟩ = some (.int .i64 (x : Int)) := d1
          replace d2 : wr.cell? ⟨g, off + 1, none⟩ = some (.int .i64 (y : Int)) := d2
          have QT : Hid (∀ (q2 : Nat) (a2 : Option Addr), q = q2 + 1 → (a2 = if c = 1 then some ⟨g, off, none⟩ else some ⟨g, off + 2, none⟩) → QRow wr C 61 2 (.slice a2 q2 (c - 1)) q2 (rowW2 (S.drop (h + 1)))) := fun q2 a2 e1 e2 => by
            subst e1
            exact hque.tail rfl e2
          obtain ⟨au, cu, hcu, hcm2, hTW⟩ := TR.out y hy
          have HC : Hid (∀ (W : World), Below SZ w W → ∀ (j : Nat) (hj : j < (nb E y).length), ∃ g, au = some ⟨g, 0, none⟩ ∧ g < SZ ∧ W.cell? ⟨g, j, none⟩ = some (.int .i64 ((nb E y)[j] : Int))) := fun W hW => (hTW W hW).2.2
          obtain ⟨hga, hrow, _⟩ := hTW wr HW.out.below
          obtain ⟨M, hM⟩ : ∃ M, M = (nb E y).length := ⟨_, rfl⟩
          have HMM := Lib.hid hM
          rw [← hM] at hcu hrow
          have hm14 : M ≤ 14 := by
            have := nb_len_le E y
            have := HT.out.1.len
            omega
          clear hTW hque hdr hxy hkey hhS hM
          go_upto_region 12 with fail
          obtain ⟨GW, hGW⟩ : ∃ GW, GW = wr.heap.size := ⟨_, rfl⟩
          obtain ⟨w1, hw1⟩ : ∃ w1, w1 = wr.alloc (.cells #[.int .i64 (x : Int), .int .i64 (y : Int)] 61) := ⟨_, rfl⟩
          have o1 : w1.cell? ⟨GW, 0, none⟩ = some (.int .i64 (x : Int)) := by rw [hw1, hGW]; simp
          have o2 : w1.cell? ⟨GW, 1, none⟩ = some (.int .i64 (y : Int)) := by rw [hw1, hGW]; simp
          have W1 : Hid (∀ (q2 : Nat) (a2 : Option Addr), q = q2 + 1 → (a2 = if c = 1 then some ⟨g, off, none⟩ else some ⟨g, off + 2, none⟩) → Wst E w w1 SZ C D S (.slice a2 q2 (c - 1)) q2 (S.drop (h + 1)) ∧ ∀ b, (Value.slice a2 q2 (c - 1)).ownBlock = some b → b ≠ GW) := fun q2 a2 e1 e2 => by
            have hq := QT.out q2 a2 e1 e2
            refine ⟨?_, fun b hb => by have := (hq.lt b hb).2; omega⟩
            have : Wst E w wr SZ C D S (.slice a2 q2 (c - 1)) q2 (S.drop (h + 1)) := ⟨HW.out.own, HW.out.is, hq, HW.out.below, HW.out.ge⟩
            rw [hw1]
            exact this.alloc _
          have HGW : Hid (SZ < GW ∧ GW < w1.heap.size) := ⟨by have := HW.out.own.lt; omega, World.block_lt_of_cell? w1 _ o1⟩
          have hgaw := (Below.refl wr.heap.size wr).alloc (Nat.le_refl _) (.cells #[.int .i64 (x : Int), .int .i64 (y : Int)] 61)
          rw [← hw1] at hgaw
          have hrow1 := (hgaw.cell (p := ⟨ga, y, none⟩) hga).trans hrow
          have BL : Hid (Below wr.heap.size wr w1) := hgaw
          have HB0 := Lib.hid HW.out.below
          simp only [← hGW, ← hw1]
          clear hGW hw1 d1 d2 hrow hgaw QT HW hga
          go_upto_region 13 with fail
          obtain ⟨a2, ha2⟩ : ∃ a2, a2 = (if c = 1 then some (⟨g, off, none⟩ : Addr) else some ⟨g, off + 2, none⟩) := ⟨_, rfl⟩
          obtain ⟨q2, hq2⟩ : ∃ q2, q = q2 + 1 := ⟨q - 1, by omega⟩
          have W2 := W1.out q2 a2 hq2 ha2
          obtain ⟨c2, hc2⟩ : ∃ c2, c2 = c - 1 := ⟨_, rfl⟩
          have hq3 : q - 1 = q2 := by omega
          rw [← hc2] at W2
          have W3 := Lib.hid W2.1
          have W4 := Lib.hid W2.2
          have HI14 : q2 + 1 ≤ k * k := by have := HI.out.len; have := HL.out; omega
          have HL2 : Hid (S.length = h + 1 + q2) := by have := HL.out; show _ = _; omega
          have I2 : Hid (WI k E S h ∧ S[h]? = some (x, y) ∧ ∀ (i : Nat) (hi : i < (nb E y).length), i < 0 → (x, (nb E y)[i]) ∈ S) := ⟨HI.out, HM.out, fun i _ hi => by omega⟩
          have by_ : (y : Int) < (k : Int) := by omega
          rw [← ha2, hq3, ← hc2]
          have HGK : Hid (h + gk = k * k) := hgk
          clear ha2 hc2 hq3 W1 W2 HL HI HM hq2 hgk
          have HQ0 : Hid (q2 + 1 ≤ k * k) := by have := HI14; show _ ≤ _; omega
          clear HI14
          go_wp2_with fail
          go_loopw [4, 43] (fun e4 ii wy => ∃ (j q' : Nat) (a' : Option Addr) (c' : Nat) (D' : DataW Unit) (S' : List (Nat × Nat)), j ≤ M ∧ ii = .int .i64 j ∧ e4 = .slice a' q' c' ∧ Hid (S'.length = h + 1 + q') ∧ Hid (WI k E S' h ∧ S'[h]? = some (x, y) ∧ ∀ (i : Nat) (hi : i < (nb E y).length), i < j → (x, (nb E y)[i]) ∈ S') ∧
            Hid (Wst E w wy SZ C D' S' (.slice a' q' c') q' (S'.drop (h + 1))) ∧ Hid (∀ b, (Value.slice a' q' c').ownBlock = some b → b ≠ GW) ∧ Hid (wy.cell? ⟨GW, 0, none⟩ = some (.int .i64 (x : Int)) ∧ wy.cell? ⟨GW, 1, none⟩ = some (.int .i64 (y : Int)))) (fun _ ii _ => M - (intOf ii).toNat)
          case atStart => exact ⟨0, q2, a2, c2, D, S, Nat.zero_le _, rfl, rfl, HL2, I2, W3, W4, ⟨o1, o2⟩⟩
          case round =>
            have HGS : Hid (SZ < GW) := HGW.out.1
            clear HL2 I2 W3 W4 o1 o2 hrow1 BL HB0 HGW HQ0
            clear hcap hcm
            obtain ⟨j, q', a', c', D', S', hj, rfl, rfl, HL, HI, HW, HN, HO⟩ := hrel
            by_cases hjM : j < M
            · have b2 : (j : Int) < (M : Int) := by omega
              have hjL : j < (nb E y).length := by rw [← HMM.out]; exact hjM
              obtain ⟨gr, hau, _, cr⟩ := HC.out wr HW.out.below j hjL
              subst hau
              have hadj := mem_nb.1 (List.getElem_mem hjL)
              have HLST : Hid (∀ S2 : List (Nat × Nat), (∀ i (hi : i < (nb E y).length), i < j → (x, (nb E y)[i]) ∈ S2) → (x, (nb E y)[j]) ∈ S2 → ∀ i (hi : i < (nb E y).length), i < j + 1 → (x, (nb E y)[i]) ∈ S2) := fun S2 h1 h2 i hi hij => by
                rcases Nat.lt_or_ge i j with q | q
                · exact h1 i hi q
                · obtain rfl : i = j := by omega
                  exact h2
              obtain ⟨z, hz⟩ : ∃ z, z = (nb E y)[j] := ⟨_, rfl⟩
              rw [← hz] at cr hadj HLST
              have HADJ := Lib.hid hadj
              have hzk : z < k := (adj_lt HT.out.1 hadj).2
              have k7 := HT.out.2
              have KY : Hid (keyOf Try.prog 61 (.agg #[.int .i64 (x : Int), .int .i64 (z : Int)]) = some (keyE (x, z))) := key_ends (p := (x, z)) (by simp only; omega)
              have KW : Hid (keyOf Try.prog 61 (.agg #[.int .i64 (x : Int), .int .i64 (y : Int)]) = some (keyE (x, y))) := key_ends (p := (x, y)) (by simp only; omega)
              have SM : Hid (Small10 S') := fun p hp => by have := HI.out.1.lt p hp; omega
              have hown := HW.out.own
              have HW2 : Hid (∀ p ∈ S', ∀ zz, D'.atKey (keyE p) zz = .lit (.int .i64 (dsP E p : Int))) := HW.out.is.2.2
              have hash := HW.out.is.has_ SM.out (p := (x, z)) (by simp only; omega)
              have HASH := Lib.hid hash
              obtain ⟨o1, o2⟩ := HO.out
              clear hz hadj hash hjL k7
              go_upto_region 17 with fail
              obtain ⟨GL, hGL⟩ : ∃ GL, GL = wr.heap.size := ⟨_, rfl⟩
              obtain ⟨w2, hw2⟩ : ∃ w2, w2 = wr.alloc (.cells #[.int .i64 (x : Int), .int .i64 (z : Int)] 61) := ⟨_, rfl⟩
              have W2 : Hid (Wst E w w2 SZ C D' S' (.slice a' q' c') q' (S'.drop (h + 1))) := by show Wst _ _ _ _ _ _ _ _ _ _; rw [hw2]; exact HW.out.alloc _
              have l1 : w2.cell? ⟨GL, 0, none⟩ = some (.int .i64 (x : Int)) := by rw [hw2, hGL]; simp
              have l2 : w2.cell? ⟨GL, 1, none⟩ = some (.int .i64 (z : Int)) := by rw [hw2, hGL]; simp
              have hgwl : GW < wr.heap.size := World.block_lt_of_cell? wr _ o1
              have hga := (Below.refl wr.heap.size wr).alloc (Nat.le_refl _) (.cells #[.int .i64 (x : Int), .int .i64 (z : Int)] 61)
              rw [← hw2] at hga
              have p1 := (hga.cell (p := ⟨GW, 0, none⟩) hgwl).trans o1
              have p2 := (hga.cell (p := ⟨GW, 1, none⟩) hgwl).trans o2
              have HGG : Hid (GW ≠ SZ ∧ GL ≠ SZ ∧ GW < GL) := by
                have h1 := HW.out.own.lt
                have h2 := HGS.out
                show _ ∧ _ ∧ _; omega
              simp only [← hGL, ← hw2]
              clear hGL hw2 hga o1 o2 cr hown HW hgwl
              have hown := W2.out.own
              by_cases hin : (x, z) ∈ S'
              · have hb := HASH.out.2 hin
                have HNX := Lib.hid (HLST.out S' HI.out.2.2 hin)
                have HI3 : Hid (WI k E S' h ∧ S'[h]? = some (x, y) ∧ ∀ (i : Nat) (hi : i < (nb E y).length), i < j + 1 → (x, (nb E y)[i]) ∈ S') := ⟨HI.out.1, HI.out.2.1, HNX.out⟩
                clear HI HNX HLST HASH hin
                go_wp2_with (first
                  | (at_lookup; refine wpList_lookup_own_ok_int _ rfl _ _ 58 rfl 61 3 .i64 lawE10 Try.underlying58 Try.underlying3 (zeroI10 _) SZ S'.length D' rfl hown _ _ rfl KY.out ?_; intro cc hat hwc; clear hat hwc)
                  | fail)
                exact ⟨⟨j + 1, q', a', c', D', S', by omega, by go_num, rfl, HL, HI3, W2, HN, ⟨p1, p2⟩⟩, by simp [intOf]; omega⟩
              · have hb : Maps.has D' (keyE (x, z)) = false := by
                  cases hh : Maps.has D' (keyE (x, z)) with
                  | false => rfl
                  | true => exact absurd (HASH.out.1 hh) hin
                have hst := HI.out.1.step HT.out.1 HT.out.2 (List.mem_of_getElem? HI.out.2.1) HADJ.out hin
                have hmin : min h S'.length = h := by have := HL.out; omega
                rw [hmin] at hst
                obtain ⟨hd1, hWI⟩ := hst
                have hd6 := dst_le HT.out.1 HT.out.2 hx hy
                have hwy : ∀ zz, D'.atKey (keyE (x, y)) zz = .lit (.int .i64 (dsP E (x, y) : Int)) := HW2.out (x, y) (List.mem_of_getElem? HI.out.2.1)
                obtain ⟨dd, hdd⟩ : ∃ dd, dd = dst E x y := ⟨_, rfl⟩
                have hwy2 : Hid (D'.atKey (keyE (x, y)) (.lit (.int .i64 0)) = .lit (.int .i64 (dd : Int))) := by show _ = _; rw [hwy, hdd]; rfl
                have e1 : IntKind.i64.wrap ((dd : Int) + 1) = (dd : Int) + 1 := by rw [IntKind.wrap_i64]; omega
                have hwf : (Lit.int .i64 ((dd : Int) + 1)).wf = true := wf_small10 (dd + 1) (by omega)
                have HDN : Hid ((dd : Int) + 1 = (dsP E (x, z) : Int)) := by show _ = _; unfold dsP; simp only; rw [hd1, hdd]; rfl
                have HI3 : Hid (WI k E (S' ++ [(x, z)]) h ∧ (S' ++ [(x, z)])[h]? = some (x, y) ∧ ∀ (i : Nat) (hi : i < (nb E y).length), i < j + 1 → (x, (nb E y)[i]) ∈ S' ++ [(x, z)]) :=
                  ⟨hWI, by rw [List.getElem?_append_left (by have := HL.out; omega)]; exact HI.out.2.1, HLST.out _ (fun i hi hij => List.mem_append_left _ (HI.out.2.2 i hi hij)) (List.mem_append_right _ (List.mem_singleton.2 rfl))⟩
                have hnm : S'.length < maxLen := by have := HI.out.1.len; have h49 := Nat.mul_le_mul HT.out.2 HT.out.2; unfold maxLen; omega
                have hq49 : q' + 1 ≤ maxLen := by have := HL.out; unfold maxLen at hnm ⊢; omega
                have hq50 : (q' + 1) * 16 ≤ 140737488355328 := by have := HL.out; have := HI.out.1.len; have h49 := Nat.mul_le_mul HT.out.2 HT.out.2; omega
                have DRP : Hid ((S' ++ [(x, z)]).drop (h + 1) = S'.drop (h + 1) ++ [(x, z)]) := by show _ = _; rw [List.drop_append_of_le_length (by have := HL.out; omega)]
                have HL3 : Hid ((S' ++ [(x, z)]).length = h + 1 + (q' + 1)) := by have := HL.out; show _ = _; rw [List.length_append, List.length_singleton]; omega
                clear hd1 hWI hd6 hwy hdd hmin hin HLST HASH HI HL HADJ HW2
                go_upto_region 19 with (first
                  | (at_lookup; refine wpList_lookup_own_ok_int _ rfl _ _ 58 rfl 61 3 .i64 lawE10 Try.underlying58 Try.underlying3 (zeroI10 _) SZ S'.length D' rfl hown _ _ rfl KY.out ?_; intro cc hat hwc; clear hat hwc)
                  | fail)
                go_still_tail 6, (by kernel_rfl)
                obtain ⟨w3, hw3⟩ : ∃ w3, w3 = w2.drew := ⟨_, rfl⟩
                change wpStill _ _ w2.drew (fun a' => wpList _ _ _ _ a' w2.drew) _ _
                rw [← hw3]
                have W3 : Hid (Wst E w w3 SZ C D' S' (.slice a' q' c') q' (S'.drop (h + 1))) := by show Wst _ _ _ _ _ _ _ _ _ _; rw [hw3]; exact ⟨W2.out.own, W2.out.is, W2.out.que, W2.out.below.drew, W2.out.ge⟩
                replace l1 : w3.cell? ⟨GL, 0, none⟩ = some (.int .i64 (x : Int)) := by rw [hw3]; exact l1
                replace l2 : w3.cell? ⟨GL, 1, none⟩ = some (.int .i64 (z : Int)) := by rw [hw3]; exact l2
                replace p1 : w3.cell? ⟨GW, 0, none⟩ = some (.int .i64 (x : Int)) := by rw [hw3]; exact p1
                replace p2 : w3.cell? ⟨GW, 1, none⟩ = some (.int .i64 (y : Int)) := by rw [hw3]; exact p2
                have lk7 : (Instr.lookup 58 (.map (some SZ)) (.agg #[.int .i64 (x : Int), .int .i64 (y : Int)]) false).run Try.prog w3 = .ok (.int .i64 (dd : Int)) w3 := by
                  obtain ⟨cq, hrun, hat, _⟩ := W3.out.own.lookup_int lawE10 Try.underlying58 Try.underlying3 (zeroI10 w3) KW.out
                  rw [hwy2.out] at hat
                  have : cq = (dd : Int) := by simpa using hat.symm
                  rw [this] at hrun
                  exact hrun
                clear hw3 hown W2
                have hown := W3.out.own
                repeat still_step
                refine wpStill_nil ?_
                go_upto_region 20 with (first
                  | (at_mapUpdate; refine wpList_mapUpdate_own _ rfl _ _ _ 58 rfl 61 3 lawE10 Try.underlying58 _ SZ S'.length D' rfl hown hnm _ _ _ rfl rfl KY.out _ [] (plainElem_int Try.underlying3 hwf) ?_; intro w5 hown5 hg5; go_frame)
                  | fail)
                have hgl : GL < w3.heap.size := World.block_lt_of_cell? w3 _ l1
                have hgw : GW < w3.heap.size := World.block_lt_of_cell? w3 _ p1
                have n1 := (hg5.cell_far ⟨GL, 0, none⟩ hgl (fun e => HGG.out.2.1 (Option.some.inj e))).trans l1
                have n2 := (hg5.cell_far ⟨GL, 1, none⟩ hgl (fun e => HGG.out.2.1 (Option.some.inj e))).trans l2
                have r1 := (hg5.cell_far ⟨GW, 0, none⟩ hgw (fun e => HGG.out.1 (Option.some.inj e))).trans p1
                have r2 := (hg5.cell_far ⟨GW, 1, none⟩ hgw (fun e => HGG.out.1 (Option.some.inj e))).trans p2
                rw [HDN.out] at hown5
                have W5 := Lib.hid (W3.out.put SM.out (by have := HI3.out.1.lt (x, z) (List.mem_append_right _ (List.mem_singleton.2 rfl)); have := HT.out.2; simp only at *; omega) hown5 hg5)
                obtain ⟨D2, hD2⟩ : ∃ D2, D2 = D'.put (keyE (x, z)) (.lit (.int .i64 (dsP E (x, z) : Int))) := ⟨_, rfl⟩
                rw [← hD2] at W5
                have RR : Hid (w5.cell? ⟨GW, 0, none⟩ = some (.int .i64 (x : Int)) ∧ w5.cell? ⟨GW, 1, none⟩ = some (.int .i64 (y : Int)) ∧ GW < w5.heap.size) := ⟨r1, r2, Nat.lt_of_lt_of_le hgw hg5.size⟩
                have Y3 : Hid (∀ o : Obj, C ≤ (w5.alloc o).heap.size) := fun o => by have := W5.out.ge; rw [World.size_alloc]; omega
                have Y4 : Hid (∀ o : Obj, (w5.alloc o).heap.size = w5.heap.size + 1) := fun o => World.size_alloc _ _
                have NW := Lib.hid (World.news_of_block (heap_alloc_new w5 (.cells #[.int .i64 (x : Int), .int .i64 (z : Int)] 61)))
                have ON := Lib.hid (one_two (x : Int) (z : Int))
                have QA : Hid (∀ o : Obj, QRow (w5.alloc o) C 61 2 (.slice a' q' c') q' (rowW2 (S'.drop (h + 1)))) := fun o => W5.out.que.alloc o
                clear hown hown5 hg5 l1 l2 p1 p2 r1 r2 hgl hgw W3 hD2 hnm HDN KY KW SM lk7 hwy2 e1 hwf hb
                go_wp2_with (first
                  | (at_builtin; refine wpList_append_que _ rfl (.tmp 64) (.tmp 66) 105 rfl C 61 i0 (.agg #[.int .i64 0, .int .i64 0]) 2 16 Try.underlying105 hi hz0 hz1 hz2 rfl _ q' (rowW2 (S'.drop (h + 1))) rfl (QA.out _) ⟨w5.heap.size, 0, none⟩ 1 [.int .i64 (x : Int), .int .i64 (z : Int)] rfl rfl NW.out ON.out hq49 hq50 (Y3.out _) (w5.heap.size + 1) (Y4.out _) ?_; intro g6 off6 c6 w6 hq6 hg6 hor6 _)
                  | fail)
                have W6 := Lib.hid ((W5.out.alloc (.cells #[.int .i64 (x : Int), .int .i64 (z : Int)] 61)).push hq6 hg6)
                rw [← DRP.out] at W6
                have HN6 : Hid (∀ b, (Value.slice (some ⟨g6, off6, none⟩) (q' + 1) c6).ownBlock = some b → b ≠ GW) := fun b hb => by
                  cases hb
                  rcases hor6 with h1 | h1
                  · exact HN.out g6 h1
                  · have h3 := RR.out.2.2
                    show g6 ≠ GW
                    omega
                have HO6 : Hid (w6.cell? ⟨GW, 0, none⟩ = some (.int .i64 (x : Int)) ∧ w6.cell? ⟨GW, 1, none⟩ = some (.int .i64 (y : Int))) := by
                  have hlt : GW < (w5.alloc (.cells #[.int .i64 (x : Int), .int .i64 (z : Int)] 61)).heap.size := by have := RR.out.2.2; rw [World.size_alloc]; omega
                  have hne : some GW ≠ (Value.slice a' q' c').ownBlock := fun e => HN.out GW e.symm rfl
                  have s1 : (w5.alloc (.cells #[.int .i64 (x : Int), .int .i64 (z : Int)] 61)).cell? ⟨GW, 0, none⟩ = some (.int .i64 (x : Int)) := (World.cell?_of_block (a := ⟨GW, 0, none⟩) (Below.heap_alloc _ _ _ RR.out.2.2)).trans RR.out.1
                  have s2 : (w5.alloc (.cells #[.int .i64 (x : Int), .int .i64 (z : Int)] 61)).cell? ⟨GW, 1, none⟩ = some (.int .i64 (y : Int)) := (World.cell?_of_block (a := ⟨GW, 1, none⟩) (Below.heap_alloc _ _ _ RR.out.2.2)).trans RR.out.2.1
                  exact ⟨(hg6.cell_far ⟨GW, 0, none⟩ hlt hne).trans s1, (hg6.cell_far ⟨GW, 1, none⟩ hlt hne).trans s2⟩
                clear hq6 hg6 hor6 W5 Y3 Y4 NW ON QA n1 n2 RR HN DRP
                exact ⟨⟨j + 1, q' + 1, _, c6, D2, S' ++ [(x, z)], by omega, by go_num, rfl, HL3, HI3, W6, HN6, HO6⟩, by simp [intOf]; omega⟩
            · obtain rfl : j = M := by omega
              have hh : h < S'.length := by have := HL.out; omega
              have hsh : S'[h] = (x, y) := by
                have := HI.out.2.1
                rw [List.getElem?_eq_getElem hh] at this
                exact Option.some.inj this
              have WN : Hid (WI k E S' (h + 1)) := HI.out.1.next hh fun v hv => by
                rw [hsh] at hv ⊢
                obtain ⟨i, hi, e⟩ := List.getElem_of_mem (mem_nb.2 hv)
                have := HI.out.2.2 i hi (by rw [HMM.out]; exact hi)
                rw [e] at this
                exact this
              have HL4 : Hid (S'.length = h + 1 + q') := HL
              have hgk1 : h + 1 + (gk - 1) = k * k ∧ gk - 1 < gk := by have := HGK.out; have := HI.out.1.len; omega
              have HG4 := Lib.hid hgk1
              clear hh hsh HI HL HN HO hgk1 HC HMM
              go_wp2
              go_roundg (gk - 1)
              case measure => exact HG4.out.2
              case rel => exact ⟨h + 1, q', a', c', D', S', HG4.out.1, rfl, HL4, WN, HW⟩
        · obtain rfl : q = 0 := by omega
          have hSh : S.length = h := by have := HL.out; omega
          have WF : Hid (WI k E S S.length) := by rw [hSh]; exact HI.out
          clear hSh HI HL
          go_wp2
          go_ret
          exact ⟨SZ, S, D, rfl, by rw [HSZ.out]; exact Nat.le_refl _, WF.out, HW.out.own, HW.out.is, by rw [← HSZ.out]; exact HW.out.below⟩
end Go.Proofs.Ytafdlilojlmchaa
