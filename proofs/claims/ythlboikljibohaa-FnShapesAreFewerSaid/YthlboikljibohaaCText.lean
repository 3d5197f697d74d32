/-
  The text of a branch, as the program writes it.
-/
import Derived.Test.YthlboikljibohaaZBP
import Derived.Test.YthlboikljibohaaZTS
import Derived.Test.YthlboikljibohaaShelfS
import Derived.Sort.OwnSorted
namespace Go.Proofs.Ythlboikljibohaa
open Go.RowKit

def tx (l : List UInt8) : Value := .string ⟨l.toArray⟩
/-- the texts of the first k parts -/
def txtK (E : Edges) (d u : Nat) (fr : Int) (k : Nat) : List (List UInt8) := ((away E u fr).take k).map fun x => txt E d x u
theorem txtK_next {E : Edges} {d u k : Nat} {fr : Int} (hk : k < (away E u fr).length) : txtK E d u fr (k + 1) = txtK E d u fr k ++ [txt E d (away E u fr)[k] u] := by
  unfold txtK
  rw [List.take_succ_eq_append_getElem hk, List.map_append]; rfl
theorem txtK_len {E : Edges} {d u k : Nat} {fr : Int} (hk : k ≤ (away E u fr).length) : (txtK E d u fr k).length = k := by unfold txtK; rw [List.length_map, List.length_take]; omega
theorem txtK_all (E : Edges) (d u : Nat) (fr : Int) : txtK E d u fr (away E u fr).length = (away E u fr).map fun x => txt E d x u := by unfold txtK; rw [List.take_length]
theorem join_flat : ∀ (L : List (List UInt8)), Lib.join L [] = L.flatten
  | [] => rfl
  | [x] => by simp [Lib.join]
  | x :: y :: r => by
    have := join_flat (y :: r)
    simp [Lib.join] at this ⊢
    exact this
theorem br_eq (l : List UInt8) : (⟨#[40]⟩ ++ ⟨l.toArray⟩ ++ ⟨#[41]⟩ : ByteArray) = ⟨(40 :: (l ++ [41])).toArray⟩ := by
  apply ByteArray.ext
  simp [ByteArray.data_append]
theorem nds_sub {E : Edges} {d u x : Nat} {fr : Int} (hx : x ∈ away E u fr) : (nds E d x u).length < (nds E (d + 1) u fr).length := by
  rw [nds, List.length_cons, List.length_flatMap]
  have := le_sum_mem (List.mem_map.2 ⟨x, hx, rfl⟩ : (nds E d x u).length ∈ (away E u fr).map fun x => (nds E d x u).length)
  omega
/-- what is behind the sort -/
theorem sorted_row {w0 w : World} {B g c m : Nat} {L : List (List UInt8)} {cur : Array Value} (hl : L.length = m) (hB : B ≤ g) (hb : w.heap[g]? = some (.cells cur 9 (0, 0))) (hm : m ≤ c) (hc : c ≤ maxLen) (hs : cur.size = c * 1) (hbl : Below B w0 w) (n : Nat) (os : Array Obj) :
    (Sort.grow (Sort.putRow Go.Proofs.encStr (Sort.ahead w n) g 0 (srtT L).toArray) os).ownsRow B 9 1 (.slice (some ⟨g, 0, none⟩) m c) m (sv (srtT L)) ∧ Below B w0 (Sort.grow (Sort.putRow Go.Proofs.encStr (Sort.ahead w n) g 0 (srtT L).toArray) os) := by
  have hln := srtT_len L
  have r1 := ownsRow_sorted (n := n) (os := os) (base := B) (cap := c) hln hB hb (by rw [hl]; exact hm) hc hs
  rw [hl] at r1
  have hg : g < w.heap.size := (Array.getElem?_eq_some_iff.1 hb).1
  exact ⟨r1, hbl.grown (grownBy_sorted (n := n) (os := os) _) (by omega) (fun q hq => by cases hq; exact hB)⟩
set_option maxHeartbeats 6400000 in
set_option maxRecDepth 100000 in
theorem text_p (n : Nat) (E : Edges) (ho : Hid (∀ e ∈ E, e.1 < n ∧ e.2 < n)) (hE : E.length ≤ 64) : ∀ (d u : Nat) (fr : Int), u < n → d ≤ 64 → Hid (Brn E d u fr) → (nds E d u fr).length ≤ 64 → ∀ (tv : Value) (RV : List Value) (w : World) (B0 H0 : Nat), Hid (Grid w B0 H0 tv RV (nbR n E)) → H0 ≤ w.heap.size →
    Calls Try.prog 49 #[tv, .agg #[.int .i64 (u : Int), .int .i64 fr]] w fun e w' => e = .returned (.string ⟨(txt E d u fr).toArray⟩) ∧ Below w.heap.size w w' := by
  obtain ⟨i0, hi, hz0, hz1, hz2⟩ := info_parts Try.infoStr
  intro d
  induction d with
  | zero => intro u fr _ _ h; exact h.out.elim
  | succ d ih =>
    intro u fr hu hd hB hnd tv RV w B0 H0 hG hH
    have CP := Lib.hid (fun (W : World) (hW : Below w.heap.size w W) => parts_p n E tv RV W (Lib.hid (hG.out.below (hW.mono hH))) (Nat.le_trans hH hW.size) u fr hu hE)
    have CL := Lib.hid (fun (x : Nat) (hx : x < n) (hb : Hid (Brn E d x u)) (hl : (nds E d x u).length ≤ 64) (W : World) (hW : Below w.heap.size w W) => ih x u hx (by omega) hb hl tv RV W B0 H0 (Lib.hid (hG.out.below (hW.mono hH))) (Nat.le_trans hH hW.size))
    obtain ⟨ga, cv, au, cu, rfl, _⟩ := tree_row hG.out hu
    have TA := txtK_all E d u fr
    have HBK : Hid (∀ x ∈ away E u fr, Brn E d x u ∧ x < n ∧ (nds E d x u).length ≤ 64) := fun x hx => ⟨hB.out x hx, (away_lt ho.out hx).1, by have := nds_sub (d := d) hx; omega⟩
    have TXT : Hid (txt E (d + 1) u fr = 40 :: ((srtT (txtK E d u fr (away E u fr).length)).flatten ++ [41])) := by show _ = _; rw [TA, txt]
    have hlen : Hid ((txt E (d + 1) u fr).length ≤ 128) := by show _ ≤ _; rw [txt_len]; omega
    have hpl := prt_length E u fr
    have hal := away_len E u fr
    have h128 : (away E u fr).length ≤ 128 := by omega
    obtain ⟨m, hm⟩ : ∃ m, m = (away E u fr).length := ⟨_, rfl⟩
    have HM := Lib.hid hm
    rw [← hm] at TXT hpl h128
    have HPL := Lib.hid hpl
    obtain ⟨SZ, hSZ⟩ : ∃ SZ, SZ = w.heap.size := ⟨_, rfl⟩
    have HSZ := Lib.hid hSZ
    rw [← hSZ] at CP CL
    clear hB hal hm hpl hSZ ih hG hH TA hnd
    go_enter Try.func49, Try.ntmps49
    go_wp2_with fail
    have B1 : Hid (Below SZ w (w.alloc (.cells #[.int .i64 (u : Int), .int .i64 fr] 66))) := by
      show Below _ _ _; rw [HSZ.out]; exact (Below.refl _ _).alloc (Nat.le_refl _) _
    refine (CP.out _ B1.out).mono ?_
    rintro e w1 ⟨v, rfl, hr, hb1⟩
    have S1 : Hid (SZ ≤ (w.alloc (.cells #[.int .i64 (u : Int), .int .i64 fr] 66)).heap.size) := by show _ ≤ _; rw [HSZ.out, World.size_alloc]; omega
    have B2 : Hid (Below SZ w w1) := B1.out.trans (hb1.mono S1.out)
    have R2 := Lib.hid (hr.lo S1.out)
    obtain ⟨ao, c6, rfl, _⟩ := hr.slice
    rw [HPL.out] at R2 ⊢
    have S2 : Hid (SZ ≤ w1.heap.size) := Nat.le_trans S1.out hb1.size
    obtain ⟨C, hC⟩ : ∃ C, C = w1.heap.size := ⟨_, rfl⟩
    have HC := Lib.hid hC
    have O0 : Hid (w1.ownsRow C 9 1 (.slice none 0 0) 0 (sv (txtK E d u fr 0))) := World.ownsRow_nil _ _ _ _
    clear hr hb1 B1 S1 CP hC
    go_wp2_with fail
    go_loopw [5, 7, 12] (fun e5 e7 ii wr => ∃ (k : Nat) (a : Option Addr) (c : Nat), k ≤ m ∧ ii = .int .i64 k ∧ e5 = .slice a k c ∧ Hid (wr.ownsRow C 9 1 (.slice a k c) k (sv (txtK E d u fr k))) ∧ Hid (Below C w1 wr)) (fun _ _ ii _ => m - (intOf ii).toNat)
    case atStart => exact ⟨0, none, 0, Nat.zero_le _, rfl, rfl, O0, Below.refl _ _⟩
    case round =>
      clear O0
      obtain ⟨k, a, c, hk, rfl, rfl, HO, HB⟩ := hrel
      by_cases hlt : k < m
      · have b1 : (k : Int) < (m : Int) := by omega
        have hka : k < (away E u fr).length := by rw [← HM.out]; exact hlt
        have hkp : k < (prt E (u, fr)).length := by rw [HPL.out]; exact hlt
        obtain ⟨g, c', e1, _, _, hg, c1, c2⟩ := (R2.out.below (HB.out.mono (by rw [HC.out]; exact Nat.le_refl _))).at_ k hkp
        rw [HPL.out] at e1
        simp only [Value.slice.injEq] at e1
        obtain ⟨rfl, _, rfl⟩ := e1
        rw [prt_at hkp] at c1 c2
        have FN := txtK_next (d := d) hka
        have hx1 := HBK.out _ (List.getElem_mem hka)
        obtain ⟨x, hx⟩ : ∃ x, x = (away E u fr)[k] := ⟨_, rfl⟩
        rw [← hx] at c1 FN hx1
        replace c1 : wr.cell? ⟨g, k * 2, none⟩ = some (.int .i64 (x : Int)) := c1
        replace c2 : wr.cell? ⟨g, k * 2 + 1, none⟩ = some (.int .i64 (u : Int)) := c2
        have CX := CL.out x hx1.2.1 (Lib.hid hx1.1) hx1.2.2
        obtain ⟨f, hf⟩ : ∃ f, f = txt E d x u := ⟨_, rfl⟩
        rw [← hf] at FN CX
        have CX := Lib.hid CX
        have FN : Hid (sv (txtK E d u fr (k + 1)) = sv (txtK E d u fr k) ++ [.string ⟨f.toArray⟩]) := by show _ = _; rw [FN, sv_snoc]
        have sC : Hid (C ≤ wr.heap.size) := by have := HB.out.size; show _ ≤ _; rw [HC.out]; rw [HC.out] at *; exact this
        have sS : Hid (SZ ≤ C) := by show _ ≤ _; rw [HC.out]; exact S2.out
        have BW : Hid (Below SZ w (wr.alloc (.cells #[.int .i64 (x : Int), .int .i64 (u : Int)] 66))) := (B2.out.trans (HB.out.mono sS.out)).alloc (Nat.le_trans sS.out sC.out) _
        have z1 : k + 1 ≤ maxLen := by unfold maxLen; omega
        have z2 : (k + 1) * 16 ≤ 140737488355328 := by omega
        clear hx hf hx1 hka hkp CL
        go_wp2_with fail
        refine (CX.out _ BW.out).mono ?_
        rintro e w2 ⟨rfl, hb2⟩
        have hb3 : Below wr.heap.size wr w2 := ((Below.refl _ wr).alloc (Nat.le_refl _) _).trans (hb2.mono (by rw [World.size_alloc]; omega))
        have HB3 : Hid (Below C w1 w2) := HB.out.trans (hb3.mono sC.out)
        have HO3 : Hid (w2.ownsRow C 9 1 (.slice a k c) k (sv (txtK E d u fr k))) := own_of_blocks HO.out fun q hq => hb3.block q (HO.out.lt q hq).2
        have Y3 : Hid (∀ o : Obj, C ≤ (w2.alloc o).heap.size) := fun o => by have := hb3.size; have := sC.out; rw [World.size_alloc]; omega
        have Y4 : Hid (∀ o : Obj, (w2.alloc o).heap.size = w2.heap.size + 1) := fun o => World.size_alloc _ _
        have sC2 : Hid (C ≤ w2.heap.size) := Nat.le_trans sC.out hb3.size
        clear hb2 hb3 HB HO CX c1 c2 BW sC
        go_wp2_with (at_builtin; refine wpList_append_lies _ rfl (.tmp 16) (.tmp 20) 72 rfl C 9 i0 (.string ⟨#[]⟩) 1 16 Try.underlying72 hi hz0 hz1 hz2 rfl (by decide) _ k (sv (txtK E d u fr k)) rfl (HO3.out.alloc _) ⟨w2.heap.size, 0, none⟩ 1 1 [_] rfl rfl (cell_one_new _ _ _) (one_str _) (by decide) z1 z2 (Y3.out _) (w2.heap.size + 1) (Y4.out _) ?_)
        intro g5 c5 w5 hv5 hg5 _ _
        have HO5 : Hid (w5.ownsRow C 9 1 (.slice (some ⟨g5, 0, none⟩) (k + 1) c5) (k + 1) (sv (txtK E d u fr (k + 1)))) := by
          show World.ownsRow _ _ _ _ _ _ _
          rw [FN.out]; exact hv5
        have HB5 : Hid (Below C w1 w5) := (HB3.out.alloc sC2.out _).grown hg5 (Y3.out _) (fun q hq => (HO3.out.lt q hq).1)
        clear hv5 hg5 HB3 HO3 Y3 Y4 sC2
        go_wp2
        go_roundw
        case rel => exact ⟨k + 1, _, _, by omega, by go_num, rfl, HO5, HB5⟩
        case measure => simp [intOf]; omega
      · obtain rfl : k = m := by omega
        have HL : Hid ((txtK E d u fr k).length = k) := txtK_len (by rw [← HM.out]; exact Nat.le_refl _)
        obtain ⟨L, hL⟩ : ∃ L, L = txtK E d u fr k := ⟨_, rfl⟩
        rw [← hL] at HO HL TXT
        have hflat : (srtT L).flatten.length ≤ 128 := by have := hlen.out; rw [TXT.out] at this; simp only [List.length_cons, List.length_append] at this; omega
        have HFL := Lib.hid hflat
        have BFW : Hid (Below SZ w wr) := B2.out.trans (HB.out.mono (by rw [HC.out]; exact S2.out))
        have sC : Hid (C ≤ wr.heap.size) := by have := HB.out.size; show _ ≤ _; rw [HC.out]; rw [HC.out] at *; exact this
        have sS : Hid (SZ ≤ C) := by show _ ≤ _; rw [HC.out]; exact S2.out
        have TXE : Hid ((⟨#[40]⟩ ++ ⟨(srtT L).flatten.toArray⟩ ++ ⟨#[41]⟩ : ByteArray) = ⟨(txt E (d + 1) u fr).toArray⟩) := by show _ = _; rw [TXT.out, br_eq]
        clear hL hflat R2 CL HBK HM HPL TXT hlen hlt S2
        by_cases hm0 : k = 0
        · subst hm0
          obtain rfl : L = [] := List.eq_nil_of_length_eq_zero HL.out
          go_wp2_with (go_at_call 80; refine (Try.slices_Sort_string_none a c _).mono ?_; rintro e w7 ⟨rfl, rfl⟩)
          go_wp2_with (go_at_call 81; refine (Try.strings_Join_none a c _ _).mono ?_; rintro e w8 ⟨rfl, rfl⟩)
          go_ret
          refine ⟨?_, by rw [← HSZ.out]; exact BFW.out⟩
          rw [← TXE.out]; rfl
        · rcases HO.out.2 with ⟨hnil, h0⟩ | ⟨g, cap, cur, hsl, hbase, hb, q1, q2, q3, q4⟩
          · omega
          · simp only [Value.slice.injEq] at hsl
            obtain ⟨rfl, _, rfl⟩ := hsl
            have hsv : sv L = L.map Go.Proofs.encStr := rfl
            have HH := holds_of_block hb (ss := L) (by rw [HL.out]; simpa [hsv] using q4)
            have hlt2 : g < wr.heap.size := (Array.getElem?_eq_some_iff.1 hb).1
            have CS := Try.slices_Sort_string g 0 c L wr HH hlt2 (by rw [HL.out]; omega)
            rw [merge_srtT, HL.out] at CS
            have CS := Lib.hid CS
            have HRS : Hid (∀ (n : Nat) (os : Array Obj), (Sort.grow (Sort.putRow Go.Proofs.encStr (Sort.ahead wr n) g 0 (srtT L).toArray) os).ownsRow C 9 1 (.slice (some ⟨g, 0, none⟩) k c) k (sv (srtT L)) ∧ Below C w1 (Sort.grow (Sort.putRow Go.Proofs.encStr (Sort.ahead wr n) g 0 (srtT L).toArray) os)) := fun n os => sorted_row HL.out hbase hb q1 q2 q3 HB.out n os
            have HLS : Hid ((srtT L).length = k) := by show _ = _; rw [srtT_len]; exact HL.out
            have hcap := q1
            clear HH hlt2 hb q1 q2 q3 q4 hbase HO hsv HL HB sC
            go_wp2_with (go_at_call 80; refine CS.out.mono ?_; rintro e w7 ⟨rfl, n7, os7, rfl⟩)
            have RS := HRS.out n7 os7
            obtain ⟨w8, hw8⟩ : ∃ w8, w8 = Sort.grow (Sort.putRow Go.Proofs.encStr (Sort.ahead wr n7) g 0 (srtT L).toArray) os7 := ⟨_, rfl⟩
            rw [← hw8] at RS ⊢
            clear hw8 HRS CS
            have hg8 : g < w8.heap.size := (RS.1.lt g rfl).2
            have hsub : Below SZ w w8 := B2.out.trans (RS.2.mono sS.out)
            have hJ : (Lib.join (((srtT L).map fun l => (⟨l.toArray⟩ : ByteArray)).map (·.data.toList)) (⟨#[]⟩ : ByteArray).data.toList) = (srtT L).flatten := by
              rw [List.map_map]
              have e : ((srtT L).map ((fun x : ByteArray => x.data.toList) ∘ fun l => (⟨l.toArray⟩ : ByteArray))) = srtT L := (List.map_congr_left fun l _ => by simp).trans (List.map_id _)
              rw [e]
              exact join_flat _
            have CJ := Try.strings_Join g 0 c ((srtT L).map fun l => (⟨l.toArray⟩ : ByteArray)) ⟨#[]⟩ w8 (fun j x hx => by
              have hj : j < (srtT L).length := by have := (List.getElem?_eq_some_iff.1 hx).1; rwa [List.length_map] at this
              rw [Nat.zero_add]
              refine (RS.1.cellAt j (by have := HLS.out; omega)).trans ?_
              rw [List.getElem?_map, List.getElem?_eq_getElem hj] at hx
              simp only [Option.map_some, Option.some.injEq] at hx
              rw [← hx]
              simp [sv, hj]) hg8 (by rw [List.length_map, HLS.out]; omega) (by rw [List.length_map, HLS.out]; exact hcap) (by rw [hJ]; have := HFL.out; omega)
            rw [hJ, List.length_map, HLS.out] at CJ
            obtain ⟨J, hJe⟩ : ∃ J : ByteArray, J = ⟨(srtT L).flatten.toArray⟩ := ⟨_, rfl⟩
            have hJs : J.size ≤ 128 := by
              have := HFL.out
              rw [hJe]
              simpa [ByteArray.size] using this
            rw [← hJe] at CJ TXE
            have CJ := Lib.hid CJ
            have HS8 := Lib.hid hsub
            have s8 : Hid (SZ ≤ w8.heap.size) := by have := hsub.size; show _ ≤ _; rw [HSZ.out]; exact this
            have n1 : ¬ (9223372036854775807 < 1 + J.size) := by omega
            have n2 : ¬ (9223372036854775807 < 1 + J.size + 1) := by omega
            clear hJ RS hg8 hsub hJe
            go_wp2_with (go_at_call 81; refine CJ.out.mono ?_; rintro e w9 ⟨rfl, hb9⟩)
            have BF9 : Hid (Below SZ w w9) := HS8.out.trans (hb9.mono s8.out)
            clear hb9 CJ HS8 s8
            go_wp2
            go_ret
            refine ⟨?_, by rw [← HSZ.out]; exact BF9.out⟩
            rw [← TXE.out]; rfl
end Go.Proofs.Ythlboikljibohaa
