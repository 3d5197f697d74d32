/-
  The text of a branch, as the program writes it.
  Products that come round. Nothing of the program is named here.
  In how many ways branches go to each other, as the program counts them: texts are counted in a map.
-/
import Derived.Test.YtafdlilojlmchaaZBP
import Derived.Test.YtafdlilojlmchaaZTS
import Derived.Test.YtafdlilojlmchaaShelfS
import Derived.Sort.OwnSorted
import Derived.WalkKit
import Derived.Maps.OwnOps
import Derived.Maps.Views
import Derived.Maps.RangeWalk
import Derived.Deep.RegionLaw
namespace Go.Proofs.Ytafdlilojlmchaa
open Go.RowKit

def tx (l : List UInt8) : Value := .string ⟨l.toArray⟩
/-- the texts of the first k parts -/
def txtK (E : Edges) (d u : Nat) (fr : Int) (k : Nat) : List (List UInt8) := ((away E u fr).take k).map fun x => txt E d x u
theorem txtK_next {E : Edges} {d u k : Nat} {fr : Int} (hk : k < (away E u fr).length) : txtK E d u fr (k + 1) = txtK E d u fr k ++ [txt E d (away E u fr)[k] u] := by
  unfold txtK
  rw [List.take_succ_eq_append_getElem hk, List.map_append]; rfl
theorem txtK_len {E : Edges} {d u k : Nat} {fr : Int} (hk : k ≤ (away E u fr).length) : (txtK E d u fr k).length = k := by unfold txtK; rw [List.length_map, List.length_take]; omega
theorem txtK_all (E : Edges) (d u : Nat) (fr : Int) : txtK E d u fr (away E u fr).length = (away E u fr).map fun x => txt E d x u := by unfold txtK; rw [List.take_length]
theorem join_flat : ∀ (L : List (List UInt8)), Lib.join L [] = L.flatten
  | [] => rfl
  | [x] => by simp [Lib.join]
  | x :: y :: r => by
    have := join_flat (y :: r)
    simp [Lib.join] at this ⊢
    exact this
theorem br_eq (l : List UInt8) : (⟨#[40]⟩ ++ ⟨l.toArray⟩ ++ ⟨#[41]⟩ : ByteArray) = ⟨(40 :: (l ++ [41])).toArray⟩ := by
  apply ByteArray.ext
  simp [ByteArray.data_append]
theorem nds_sub {E : Edges} {d u x : Nat} {fr : Int} (hx : x ∈ away E u fr) : (nds E d x u).length < (nds E (d + 1) u fr).length := by
  rw [nds, List.length_cons, List.length_flatMap]
  have := le_sum_mem (List.mem_map.2 ⟨x, hx, rfl⟩ : (nds E d x u).length ∈ (away E u fr).map fun x => (nds E d x u).length)
  omega
/-- what is behind the sort -/
theorem sorted_row {w0 w : World} {B g c m : Nat} {L : List (List UInt8)} {cur : Array Value} (hl : L.length = m) (hB : B ≤ g) (hb : w.heap[g]? = some (.cells cur 9 (0, 0))) (hm : m ≤ c) (hc : c ≤ maxLen) (hs : cur.size = c * 1) (hbl : Below B w0 w) (n : Nat) (os : Array Obj) :
    (Sort.grow (Sort.putRow Go.Proofs.encStr (Sort.ahead w n) g 0 (srtT L).toArray) os).ownsRow B 9 1 (.slice (some ⟨g, 0, none⟩) m c) m (sv (srtT L)) ∧ Below B w0 (Sort.grow (Sort.putRow Go.Proofs.encStr (Sort.ahead w n) g 0 (srtT L).toArray) os) := by
  have hln := srtT_len L
  have r1 := ownsRow_sorted (n := n) (os := os) (base := B) (cap := c) hln hB hb (by rw [hl]; exact hm) hc hs
  rw [hl] at r1
  have hg : g < w.heap.size := (Array.getElem?_eq_some_iff.1 hb).1
  exact ⟨r1, hbl.grown (grownBy_sorted (n := n) (os := os) _) (by omega) (fun q hq => by cases hq; exact hB)⟩
set_option maxHeartbeats 6400000 in
set_option maxRecDepth 100000 in
theorem text_p (n : Nat) (E : Edges) (ho : Hid (∀ e ∈ E, e.1 < n ∧ e.2 < n)) (hE : E.length ≤ 64) : ∀ (d u : Nat) (fr : Int), u < n → d ≤ 64 → Hid (Brn E d u fr) → (nds E d u fr).length ≤ 64 → ∀ (tv : Value) (RV : List Value) (w : World) (B0 H0 : Nat), Hid (Grid w B0 H0 tv RV (nbR n E)) → H0 ≤ w.heap.size →
    Calls Try.prog 56 #[tv, .agg #[.int .i64 (u : Int), .int .i64 fr]] w fun e w' => e = .returned (.string ⟨(txt E d u fr).toArray⟩) ∧ Below w.heap.size w w' := by
  obtain ⟨i0, hi, hz0, hz1, hz2⟩ := info_parts Try.infoStr
  intro d
  induction d with
  | zero => intro u fr _ _ h; exact h.out.elim
  | succ d ih =>
    intro u fr hu hd hB hnd tv RV w B0 H0 hG hH
    have CP := Lib.hid (fun (W : World) (hW : Below w.heap.size w W) => parts_p n E tv RV W (Lib.hid (hG.out.below (hW.mono hH))) (Nat.le_trans hH hW.size) u fr hu hE)
    have CL := Lib.hid (fun (x : Nat) (hx : x < n) (hb : Hid (Brn E d x u)) (hl : (nds E d x u).length ≤ 64) (W : World) (hW : Below w.heap.size w W) => ih x u hx (by omega) hb hl tv RV W B0 H0 (Lib.hid (hG.out.below (hW.mono hH))) (Nat.le_trans hH hW.size))
    obtain ⟨ga, cv, au, cu, rfl, _⟩ := tree_row hG.out hu
    have TA := txtK_all E d u fr
    have HBK : Hid (∀ x ∈ away E u fr, Brn E d x u ∧ x < n ∧ (nds E d x u).length ≤ 64) := fun x hx => ⟨hB.out x hx, (away_lt ho.out hx).1, by have := nds_sub (d := d) hx; omega⟩
    have TXT : Hid (txt E (d + 1) u fr = 40 :: ((srtT (txtK E d u fr (away E u fr).length)).flatten ++ [41])) := by show _ = _; rw [TA, txt]
    have hlen : Hid ((txt E (d + 1) u fr).length ≤ 128) := by show _ ≤ _; rw [txt_len]; omega
    have hpl := prt_length E u fr
    have hal := away_len E u fr
    have h128 : (away E u fr).length ≤ 128 := by omega
    obtain ⟨m, hm⟩ : ∃ m, m = (away E u fr).length := ⟨_, rfl⟩
    have HM := Lib.hid hm
    rw [← hm] at TXT hpl h128
    have HPL := Lib.hid hpl
    obtain ⟨SZ, hSZ⟩ : ∃ SZ, SZ = w.heap.size := ⟨_, rfl⟩
    have HSZ := Lib.hid hSZ
    rw [← hSZ] at CP CL
    clear hB hal hm hpl hSZ ih hG hH TA hnd
    go_enter Try.func56, Try.ntmps56
    go_wp2_with fail
    have B1 : Hid (Below SZ w (w.alloc (.cells #[.int .i64 (u : Int), .int .i64 fr] 92))) := by
      show Below _ _ _; rw [HSZ.out]; exact (Below.refl _ _).alloc (Nat.le_refl _) _
    refine (CP.out _ B1.out).mono ?_
    rintro e w1 ⟨v, rfl, hr, hb1⟩
    have S1 : Hid (SZ ≤ (w.alloc (.cells #[.int .i64 (u : Int), .int .i64 fr] 92)).heap.size) := by show _ ≤ _; rw [HSZ.out, World.size_alloc]; omega
    have B2 : Hid (Below SZ w w1) := B1.out.trans (hb1.mono S1.out)
    have R2 := Lib.hid (hr.lo S1.out)
    obtain ⟨ao, c6, rfl, _⟩ := hr.slice
    rw [HPL.out] at R2 ⊢
    have S2 : Hid (SZ ≤ w1.heap.size) := Nat.le_trans S1.out hb1.size
    obtain ⟨C, hC⟩ : ∃ C, C = w1.heap.size := ⟨_, rfl⟩
    have HC := Lib.hid hC
    have O0 : Hid (w1.ownsRow C 9 1 (.slice none 0 0) 0 (sv (txtK E d u fr 0))) := World.ownsRow_nil _ _ _ _
    clear hr hb1 B1 S1 CP hC
    go_wp2_with fail
    go_loopw [5, 7, 12] (fun e5 e7 ii wr => ∃ (k : Nat) (a : Option Addr) (c : Nat), k ≤ m ∧ ii = .int .i64 k ∧ e5 = .slice a k c ∧ Hid (wr.ownsRow C 9 1 (.slice a k c) k (sv (txtK E d u fr k))) ∧ Hid (Below C w1 wr)) (fun _ _ ii _ => m - (intOf ii).toNat)
    case atStart => exact ⟨0, none, 0, Nat.zero_le _, rfl, rfl, O0, Below.refl _ _⟩
    case round =>
      clear O0
      obtain ⟨k, a, c, hk, rfl, rfl, HO, HB⟩ := hrel
      by_cases hlt : k < m
      · have b1 : (k : Int) < (m : Int) := by omega
        have hka : k < (away E u fr).length := by rw [← HM.out]; exact hlt
        have hkp : k < (prt E (u, fr)).length := by rw [HPL.out]; exact hlt
        obtain ⟨g, c', e1, _, _, hg, c1, c2⟩ := (R2.out.below (HB.out.mono (by rw [HC.out]; exact Nat.le_refl _))).at_ k hkp
        rw [HPL.out] at e1
        simp only [Value.slice.injEq] at e1
        obtain ⟨rfl, _, rfl⟩ := e1
        rw [prt_at hkp] at c1 c2
        have FN := txtK_next (d := d) hka
        have hx1 := HBK.out _ (List.getElem_mem hka)
        obtain ⟨x, hx⟩ : ∃ x, x = (away E u fr)[k] := ⟨_, rfl⟩
        rw [← hx] at c1 FN hx1
        replace c1 : wr.cell? ⟨g, k * 2, none⟩ = some (.int .i64 (x : Int)) := c1
        replace c2 : wr.cell? ⟨g, k * 2 + 1, none⟩ = some (.int .i64 (u : Int)) := c2
        have CX := CL.out x hx1.2.1 (Lib.hid hx1.1) hx1.2.2
        obtain ⟨f, hf⟩ : ∃ f, f = txt E d x u := ⟨_, rfl⟩
        rw [← hf] at FN CX
        have CX := Lib.hid CX
        have FN : Hid (sv (txtK E d u fr (k + 1)) = sv (txtK E d u fr k) ++ [.string ⟨f.toArray⟩]) := by show _ = _; rw [FN, sv_snoc]
        have sC : Hid (C ≤ wr.heap.size) := by have := HB.out.size; show _ ≤ _; rw [HC.out]; rw [HC.out] at *; exact this
        have sS : Hid (SZ ≤ C) := by show _ ≤ _; rw [HC.out]; exact S2.out
        have BW : Hid (Below SZ w (wr.alloc (.cells #[.int .i64 (x : Int), .int .i64 (u : Int)] 92))) := (B2.out.trans (HB.out.mono sS.out)).alloc (Nat.le_trans sS.out sC.out) _
        have z1 : k + 1 ≤ maxLen := by unfold maxLen; omega
        have z2 : (k + 1) * 16 ≤ 140737488355328 := by omega
        clear hx hf hx1 hka hkp CL
        go_wp2_with fail
        refine (CX.out _ BW.out).mono ?_
        rintro e w2 ⟨rfl, hb2⟩
        have hb3 : Below wr.heap.size wr w2 := ((Below.refl _ wr).alloc (Nat.le_refl _) _).trans (hb2.mono (by rw [World.size_alloc]; omega))
        have HB3 : Hid (Below C w1 w2) := HB.out.trans (hb3.mono sC.out)
        have HO3 : Hid (w2.ownsRow C 9 1 (.slice a k c) k (sv (txtK E d u fr k))) := own_of_blocks HO.out fun q hq => hb3.block q (HO.out.lt q hq).2
        have Y3 : Hid (∀ o : Obj, C ≤ (w2.alloc o).heap.size) := fun o => by have := hb3.size; have := sC.out; rw [World.size_alloc]; omega
        have Y4 : Hid (∀ o : Obj, (w2.alloc o).heap.size = w2.heap.size + 1) := fun o => World.size_alloc _ _
        have sC2 : Hid (C ≤ w2.heap.size) := Nat.le_trans sC.out hb3.size
        clear hb2 hb3 HB HO CX c1 c2 BW sC
        go_wp2_with (at_builtin; refine wpList_append_lies _ rfl (.tmp 16) (.tmp 20) 89 rfl C 9 i0 (.string ⟨#[]⟩) 1 16 Try.underlying89 hi hz0 hz1 hz2 rfl (by decide) _ k (sv (txtK E d u fr k)) rfl (HO3.out.alloc _) ⟨w2.heap.size, 0, none⟩ 1 1 [_] rfl rfl (cell_one_new _ _ _) (one_str _) (by decide) z1 z2 (Y3.out _) (w2.heap.size + 1) (Y4.out _) ?_)
        intro g5 c5 w5 hv5 hg5 _ _
        have HO5 : Hid (w5.ownsRow C 9 1 (.slice (some ⟨g5, 0, none⟩) (k + 1) c5) (k + 1) (sv (txtK E d u fr (k + 1)))) := by
          show World.ownsRow _ _ _ _ _ _ _
          rw [FN.out]; exact hv5
        have HB5 : Hid (Below C w1 w5) := (HB3.out.alloc sC2.out _).grown hg5 (Y3.out _) (fun q hq => (HO3.out.lt q hq).1)
        clear hv5 hg5 HB3 HO3 Y3 Y4 sC2
        go_wp2
        go_roundw
        case rel => exact ⟨k + 1, _, _, by omega, by go_num, rfl, HO5, HB5⟩
        case measure => simp [intOf]; omega
      · obtain rfl : k = m := by omega
        have HL : Hid ((txtK E d u fr k).length = k) := txtK_len (by rw [← HM.out]; exact Nat.le_refl _)
        obtain ⟨L, hL⟩ : ∃ L, L = txtK E d u fr k := ⟨_, rfl⟩
        rw [← hL] at HO HL TXT
        have hflat : (srtT L).flatten.length ≤ 128 := by have := hlen.out; rw [TXT.out] at this; simp only [List.length_cons, List.length_append] at this; omega
        have HFL := Lib.hid hflat
        have BFW : Hid (Below SZ w wr) := B2.out.trans (HB.out.mono (by rw [HC.out]; exact S2.out))
        have sC : Hid (C ≤ wr.heap.size) := by have := HB.out.size; show _ ≤ _; rw [HC.out]; rw [HC.out] at *; exact this
        have sS : Hid (SZ ≤ C) := by show _ ≤ _; rw [HC.out]; exact S2.out
        have TXE : Hid ((⟨#[40]⟩ ++ ⟨(srtT L).flatten.toArray⟩ ++ ⟨#[41]⟩ : ByteArray) = ⟨(txt E (d + 1) u fr).toArray⟩) := by show _ = _; rw [TXT.out, br_eq]
        clear hL hflat R2 CL HBK HM HPL TXT hlen hlt S2
        by_cases hm0 : k = 0
        · subst hm0
          obtain rfl : L = [] := List.eq_nil_of_length_eq_zero HL.out
          go_wp2_with (go_at_call 74; refine (Try.slices_Sort_string_none a c _).mono ?_; rintro e w7 ⟨rfl, rfl⟩)
          go_wp2_with (go_at_call 75; refine (Try.strings_Join_none a c _ _).mono ?_; rintro e w8 ⟨rfl, rfl⟩)
          go_ret
          refine ⟨?_, by rw [← HSZ.out]; exact BFW.out⟩
          rw [← TXE.out]; rfl
        · rcases HO.out.2 with ⟨hnil, h0⟩ | ⟨g, cap, cur, hsl, hbase, hb, q1, q2, q3, q4⟩
          · omega
          · simp only [Value.slice.injEq] at hsl
            obtain ⟨rfl, _, rfl⟩ := hsl
            have hsv : sv L = L.map Go.Proofs.encStr := rfl
            have HH := holds_of_block hb (ss := L) (by rw [HL.out]; simpa [hsv] using q4)
            have hlt2 : g < wr.heap.size := (Array.getElem?_eq_some_iff.1 hb).1
            have CS := Try.slices_Sort_string g 0 c L wr HH hlt2 (by rw [HL.out]; omega)
            rw [merge_srtT, HL.out] at CS
            have CS := Lib.hid CS
            have HRS : Hid (∀ (n : Nat) (os : Array Obj), (Sort.grow (Sort.putRow Go.Proofs.encStr (Sort.ahead wr n) g 0 (srtT L).toArray) os).ownsRow C 9 1 (.slice (some ⟨g, 0, none⟩) k c) k (sv (srtT L)) ∧ Below C w1 (Sort.grow (Sort.putRow Go.Proofs.encStr (Sort.ahead wr n) g 0 (srtT L).toArray) os)) := fun n os => sorted_row HL.out hbase hb q1 q2 q3 HB.out n os
            have HLS : Hid ((srtT L).length = k) := by show _ = _; rw [srtT_len]; exact HL.out
            have hcap := q1
            clear HH hlt2 hb q1 q2 q3 q4 hbase HO hsv HL HB sC
            go_wp2_with (go_at_call 74; refine CS.out.mono ?_; rintro e w7 ⟨rfl, n7, os7, rfl⟩)
            have RS := HRS.out n7 os7
            obtain ⟨w8, hw8⟩ : ∃ w8, w8 = Sort.grow (Sort.putRow Go.Proofs.encStr (Sort.ahead wr n7) g 0 (srtT L).toArray) os7 := ⟨_, rfl⟩
            rw [← hw8] at RS ⊢
            clear hw8 HRS CS
            have hg8 : g < w8.heap.size := (RS.1.lt g rfl).2
            have hsub : Below SZ w w8 := B2.out.trans (RS.2.mono sS.out)
            have hJ : (Lib.join (((srtT L).map fun l => (⟨l.toArray⟩ : ByteArray)).map (·.data.toList)) (⟨#[]⟩ : ByteArray).data.toList) = (srtT L).flatten := by
              rw [List.map_map]
              have e : ((srtT L).map ((fun x : ByteArray => x.data.toList) ∘ fun l => (⟨l.toArray⟩ : ByteArray))) = srtT L := (List.map_congr_left fun l _ => by simp).trans (List.map_id _)
              rw [e]
              exact join_flat _
            have CJ := Try.strings_Join g 0 c ((srtT L).map fun l => (⟨l.toArray⟩ : ByteArray)) ⟨#[]⟩ w8 (fun j x hx => by
              have hj : j < (srtT L).length := by have := (List.getElem?_eq_some_iff.1 hx).1; rwa [List.length_map] at this
              rw [Nat.zero_add]
              refine (RS.1.cellAt j (by have := HLS.out; omega)).trans ?_
              rw [List.getElem?_map, List.getElem?_eq_getElem hj] at hx
              simp only [Option.map_some, Option.some.injEq] at hx
              rw [← hx]
              simp [sv, hj]) hg8 (by rw [List.length_map, HLS.out]; omega) (by rw [List.length_map, HLS.out]; exact hcap) (by rw [hJ]; have := HFL.out; omega)
            rw [hJ, List.length_map, HLS.out] at CJ
            obtain ⟨J, hJe⟩ : ∃ J : ByteArray, J = ⟨(srtT L).flatten.toArray⟩ := ⟨_, rfl⟩
            have hJs : J.size ≤ 128 := by
              have := HFL.out
              rw [hJe]
              simpa [ByteArray.size] using this
            rw [← hJe] at CJ TXE
            have CJ := Lib.hid CJ
            have HS8 := Lib.hid hsub
            have s8 : Hid (SZ ≤ w8.heap.size) := by have := hsub.size; show _ ≤ _; rw [HSZ.out]; exact this
            have n1 : ¬ (9223372036854775807 < 1 + J.size) := by omega
            have n2 : ¬ (9223372036854775807 < 1 + J.size + 1) := by omega
            clear hJ RS hg8 hsub hJe
            go_wp2_with (go_at_call 75; refine CJ.out.mono ?_; rintro e w9 ⟨rfl, hb9⟩)
            have BF9 : Hid (Below SZ w w9) := HS8.out.trans (hb9.mono s8.out)
            clear hb9 CJ HS8 s8
            go_wp2
            go_ret
            refine ⟨?_, by rw [← HSZ.out]; exact BF9.out⟩
            rw [← TXE.out]; rfl
end Go.Proofs.Ytafdlilojlmchaa

namespace Go.Proofs.Ytafdlilojlmchaa
open Go.RowKit
theorem wrap_dvd (x : Int) : (18446744073709551616 : Int) ∣ IntKind.i64.wrap x - x := by
  rw [IntKind.wrap_i64]; omega
theorem wrap_of {x y : Int} (h : (18446744073709551616 : Int) ∣ x - y) : IntKind.i64.wrap x = IntKind.i64.wrap y := by
  rw [IntKind.wrap_i64, IntKind.wrap_i64]; omega
theorem wrap_mul (a b : Int) : IntKind.i64.wrap (IntKind.i64.wrap a * IntKind.i64.wrap b) = IntKind.i64.wrap (a * b) := by
  apply wrap_of
  have e : IntKind.i64.wrap a * IntKind.i64.wrap b - a * b = IntKind.i64.wrap a * (IntKind.i64.wrap b - b) + (IntKind.i64.wrap a - a) * b := by
    rw [Int.mul_sub, Int.sub_mul]; omega
  rw [e]
  exact Int.dvd_add (Int.dvd_mul_of_dvd_right (wrap_dvd b)) (Int.dvd_mul_of_dvd_left (wrap_dvd a))
theorem wrap_three (P s C : Int) (hs : IntKind.i64.wrap s = s) : IntKind.i64.wrap (IntKind.i64.wrap P * IntKind.i64.wrap (s * IntKind.i64.wrap C)) = IntKind.i64.wrap (P * (s * C)) := by
  have h1 : IntKind.i64.wrap (s * IntKind.i64.wrap C) = IntKind.i64.wrap (s * C) := by
    have := wrap_mul s C
    rwa [hs] at this
  rw [h1, wrap_mul]
end Go.Proofs.Ytafdlilojlmchaa

namespace Go.Proofs.Ytafdlilojlmchaa
open Go.RowKit

theorem lawS7 : Maps.Keyed Try.prog 9 := Maps.string_keyed Try.underlying9
theorem strKey7 (y : List UInt8) : WideAt.IsKeyLit (.string y) := trivial
theorem below_grown7 {w w' : World} (h : Below w.heap.size w w') : w.grownBy w' none := ⟨h.os, h.tape, h.output, h.size, fun i hi _ => h.block i hi⟩
theorem zeroI7 (w : World) : (zeroValue 3).run Try.prog w = .ok (.int .i64 0) w := by kernel_rfl
theorem wf_smallC3 (x : Int) (h : -1000 ≤ x ∧ x ≤ 100000) : (Lit.int .i64 x).wf = true := by
  have h1 : IntKind.i64.min = -9223372036854775808 := rfl
  have h2 : IntKind.i64.max = 9223372036854775807 := rfl
  simp [Lit.wf]; omega
/-! ### numbers come round -/
/-- how often each text was met -/
def CntAre (D : DataW Unit) (L : List (List UInt8)) : Prop := Maps.IsMap D ∧ ∀ t, D.atKey (.string t) (.lit (.int .i64 0)) = .lit (.int .i64 (L.count t : Int))
theorem cnt_none : CntAre (.map [] : DataW Unit) [] := ⟨Maps.isMap_empty, fun _ => rfl⟩
theorem CntAre.add {D : DataW Unit} {L : List (List UInt8)} (h : CntAre D L) (t : List UInt8) : CntAre (D.put (.string t) (.lit (.int .i64 ((L.count t : Int) + 1)))) (L ++ [t]) := by
  refine ⟨h.1.put _ _, fun s => ?_⟩
  rw [List.count_append, List.count_singleton]
  by_cases e : s = t
  · subst e
    rw [Maps.atKey_put_same h.1 (strKey7 s)]
    simp
  · rw [Maps.atKey_put_other (fun q => e (by cases q; rfl)), h.2 s]
    have : (t == s) = false := by simpa using fun q => e q.symm
    simp [this]
theorem txts_next {E : Edges} {d : Nat} {L : List (Nat × Int)} {k : Nat} (hk : k < L.length) : txts E d (L.take (k + 1)) = txts E d (L.take k) ++ [txt E d L[k].1 L[k].2] := by
  unfold txts
  rw [List.take_succ_eq_append_getElem hk, List.map_append]; rfl
/-- what a look-up tells -/
theorem look7 {W : World} {G nm q : Nat} {D : DataW Unit} {L : List (List UInt8)} {t : List UInt8} (h : W.ownsMap Try.prog 9 (plainElem (H := Unit) Try.prog 3) G nm D) (hC : CntAre D L) (hq : L.count t = q) (hk : keyOf Try.prog 9 (.string ⟨t.toArray⟩) = some (.string t)) :
    (Instr.lookup 100 (.map (some G)) (.string ⟨t.toArray⟩) false).run Try.prog W = .ok (.int .i64 (q : Int)) W := by
  obtain ⟨c, hrun, hat, _⟩ := h.lookup_int lawS7 Try.underlying100 Try.underlying3 (zeroI7 W) hk
  rw [hC.2 t, hq] at hat
  have : c = (q : Int) := by simpa using hat.symm
  rw [this] at hrun
  exact hrun
/-- the branches that are counted -/
def GoodB (n : Nat) (E : Edges) (d : Nat) (L : List (Nat × Int)) : Prop := L.length ≤ 128 ∧ ∀ b ∈ L, b.1 < n ∧ Brn E d b.1 b.2 ∧ (nds E d b.1 b.2).length ≤ 64
theorem GoodB.parts {n : Nat} {E : Edges} {d : Nat} {L : List (Nat × Int)} (ho : ∀ e ∈ E, e.1 < n ∧ e.2 < n) (hE : E.length ≤ 64) (h : GoodB n E (d + 1) L) {b : Nat × Int} (hb : b ∈ L) : GoodB n E d (prt E b) := by
  obtain ⟨_, h2, h3⟩ := h.2 b hb
  refine ⟨?_, fun c hc => ?_⟩
  · have h1 := prt_length E b.1 b.2
    have h2 := away_len E b.1 b.2
    have : (prt E b).length = (away E b.1 b.2).length := h1
    omega
  · unfold Go.Proofs.Ytafdlilojlmchaa.prt at hc
    obtain ⟨x, hx, rfl⟩ := List.mem_map.1 hc
    exact ⟨(away_lt ho hx).1, h2 x hx, by have := nds_sub (d := d) hx; simp only; omega⟩

/-- what is said of the count -/
def MapsP (n : Nat) (E : Edges) (d : Nat) : Prop := ∀ (L : List (Nat × Int)), GoodB n E d L → ∀ (tv : Value) (RV : List Value) (v : Value) (w : World) (B0 H0 B1 H1 : Nat), Hid (Grid w B0 H0 tv RV (nbR n E)) → H0 ≤ w.heap.size → Hid (BRow w B1 H1 v L) → H1 ≤ w.heap.size →
    Calls Try.prog 35 #[tv, v] w fun e w' => e = .returned (.int .i64 (IntKind.i64.wrap (cm E (d + 1) L : Int))) ∧ Below w.heap.size w w'
set_option maxHeartbeats 6400000 in
set_option maxRecDepth 100000 in
theorem maps_body (n : Nat) (E : Edges) (ho : Hid (∀ e ∈ E, e.1 < n ∧ e.2 < n)) (hE : E.length ≤ 64) (d : Nat) (hd : d ≤ 64) (ih : ∀ d', d' + 1 = d → MapsP n E d') : MapsP n E d := by
  intro L hL tv RV v w B0 H0 B1 H1 hG hH hR hH1
  have hmm := @run_makeMap Try.prog
  have hGW : Hid (∀ W : World, Below w.heap.size w W → Grid W B0 H0 tv RV (nbR n E) ∧ H0 ≤ W.heap.size) := fun W hW => ⟨hG.out.below (hW.mono hH), Nat.le_trans hH hW.size⟩
  have hRW : Hid (∀ W : World, Below w.heap.size w W → BRow W B1 H1 v L) := fun W hW => hR.out.below (hW.mono hH1)
  have CT := Lib.hid (fun (b : Nat × Int) (hb : b ∈ L) (W : World) (hW : Below w.heap.size w W) => text_p n E ho hE d b.1 b.2 (hL.2 b hb).1 hd (Lib.hid (hL.2 b hb).2.1) (hL.2 b hb).2.2 tv RV W B0 H0 (Lib.hid (hGW.out W hW).1) (hGW.out W hW).2)
  have CP := Lib.hid (fun (b : Nat × Int) (hb : b ∈ L) (W : World) (hW : Below w.heap.size w W) => parts_p n E tv RV W (Lib.hid (hGW.out W hW).1) (hGW.out W hW).2 b.1 b.2 (hL.2 b hb).1 hE)
  have CC : Hid (∀ (b : Nat × Int) (_ : b ∈ L) (x : Value) (W : World) (B2 : Nat), Below w.heap.size w W → Hid (BRow W B2 W.heap.size x (prt E b)) →
      Calls Try.prog 35 #[tv, x] W fun e w' => e = .returned (.int .i64 (IntKind.i64.wrap (cm E d (prt E b) : Int))) ∧ Below W.heap.size W w') := fun b hb x W B2 hW hx => by
    have h1 := hL.2 b hb
    cases d with
    | zero => exact h1.2.1.elim
    | succ d' => exact ih d' rfl (prt E b) (hL.parts ho.out hE hb) tv RV x W B0 H0 B2 W.heap.size (Lib.hid (hGW.out W hW).1) (hGW.out W hW).2 hx (Nat.le_refl _)
  have h128 := hL.1
  have LB : Hid (∀ b ∈ L, (txt E d b.1 b.2).length ≤ 128) := fun b hb => by rw [txt_len]; have := (hL.2 b hb).2.2; omega
  have CA := Lib.hid (cms_all E d L)
  obtain ⟨ao, c6, rfl, _⟩ := hR.out.slice
  obtain ⟨at_, ct, rfl⟩ : ∃ a c, tv = .slice a RV.length c := by
    obtain ⟨a, c, h, _⟩ := hG.out.1.slice; exact ⟨a, c, h⟩
  obtain ⟨m, hm⟩ : ∃ m, m = L.length := ⟨_, rfl⟩
  have HM := Lib.hid hm
  rw [← hm] at h128 hRW CA ⊢
  obtain ⟨SZ, hSZ⟩ : ∃ SZ, SZ = w.heap.size := ⟨_, rfl⟩
  have HSZ := Lib.hid hSZ
  have M0 : Hid ((w.alloc (.map #[] 0)).ownsMap Try.prog 9 (plainElem (H := Unit) Try.prog 3) SZ 0 (.map [])) := by
    show World.ownsMap _ _ _ _ _ _ _
    rw [hSZ]; exact World.ownsMap_made (H := Unit) w Try.prog 9 (plainElem Try.prog 3)
  have B1' : Hid (Below SZ w (w.alloc (.map #[] 0))) := by show Below _ _ _; rw [hSZ]; exact (Below.refl _ _).alloc (Nat.le_refl _) _
  have Z0 : Hid ((1 : Int) = IntKind.i64.wrap (cms E d L 0 : Int)) := rfl
  rw [← hSZ] at hGW hRW CT CP CC
  clear hG hH hR hH1 hm hSZ ih hL hd
  go_enter Try.func35, Try.ntmps35
  go_wp2_with fail
  clear hmm
  rw [← HSZ.out]
  go_loopw [5, 8, 9, 13] (fun e5 e8 e9 ii wr => ∃ (k nm : Nat) (z : Int) (D : DataW Unit), k ≤ m ∧ ii = .int .i64 k ∧ e5 = .int .i64 z ∧ nm ≤ k ∧ Hid (z = IntKind.i64.wrap (cms E d L k : Int)) ∧ Hid (wr.ownsMap Try.prog 9 (plainElem (H := Unit) Try.prog 3) SZ nm D) ∧ Hid (CntAre D (txts E d (L.take k))) ∧ Hid (Below SZ w wr)) (fun _ _ _ ii _ => m - (intOf ii).toNat)
  case atStart => exact ⟨0, 0, 1, _, Nat.zero_le _, rfl, rfl, Nat.le_refl _, Z0, M0, cnt_none, B1'⟩
  case round =>
    clear M0 B1' Z0
    obtain ⟨k, nm, z, D, hk, rfl, rfl, hnm, HZ, HD, HC, HB⟩ := hrel
    by_cases hlt : k < m
    · have b1 : (k : Int) < (m : Int) := by omega
      have hkL : k < L.length := by rw [← HM.out]; exact hlt
      obtain ⟨g, c', e1, _, _, hg, c1, c2⟩ := (hRW.out _ HB.out).at_ k hkL
      rw [← HM.out] at e1
      simp only [Value.slice.injEq] at e1
      obtain ⟨rfl, _, rfl⟩ := e1
      have hbL := List.getElem_mem hkL
      have CN := cms_next E d L hkL
      have TN := txts_next (E := E) (d := d) hkL
      obtain ⟨b, hb⟩ : ∃ b, b = L[k] := ⟨_, rfl⟩
      rw [← hb] at c1 c2 CN TN hbL
      have CT1 := CT.out b hbL
      have CP1 := Lib.hid (CP.out b hbL)
      have CC1 := Lib.hid (CC.out b hbL)
      have lb := LB.out b hbL
      obtain ⟨t, ht⟩ : ∃ t, t = txt E d b.1 b.2 := ⟨_, rfl⟩
      rw [← ht] at CT1 CN TN lb
      have CT1 := Lib.hid CT1
      obtain ⟨x, fr⟩ := b
      replace c1 : wr.cell? ⟨g, k * 2, none⟩ = some (.int .i64 (x : Int)) := c1
      replace c2 : wr.cell? ⟨g, k * 2 + 1, none⟩ = some (.int .i64 fr) := c2
      have HCN := Lib.hid CN
      have HTN := Lib.hid TN
      have HBL := Lib.hid hbL
      replace CT1 : Hid (∀ W : World, Below SZ w W → Calls Try.prog 56 #[.slice at_ RV.length ct, .agg #[.int .i64 (x : Int), .int .i64 fr]] W fun e w' => e = .returned (.string ⟨t.toArray⟩) ∧ Below W.heap.size W w') := CT1
      replace CP1 : Hid (∀ W : World, Below SZ w W → Calls Try.prog 66 #[.slice at_ RV.length ct, .agg #[.int .i64 (x : Int), .int .i64 fr]] W fun e w' => ∃ y, e = .returned y ∧ BRow w' W.heap.size w'.heap.size y (prt E (x, fr)) ∧ Below W.heap.size W w') := CP1
      obtain ⟨C, hCe⟩ : ∃ C, C = cm E d (prt E (x, fr)) := ⟨_, rfl⟩
      rw [← hCe] at CC1 HCN
      clear hkL hbL hb ht CN TN CT CP CC LB hCe
      go_upto_region 6 with fail
      obtain ⟨GE, hGE⟩ : ∃ GE, GE = wr.heap.size := ⟨_, rfl⟩
      obtain ⟨W2, hW2⟩ : ∃ W2, W2 = wr.alloc (.cells #[.int .i64 (x : Int), .int .i64 fr] 92) := ⟨_, rfl⟩
      have sR : SZ ≤ wr.heap.size := by have := HB.out.size; rw [HSZ.out]; rw [HSZ.out] at *; exact this
      have hb2 : Below wr.heap.size wr W2 := by rw [hW2]; exact (Below.refl _ _).alloc (Nat.le_refl _) _
      have BW2 : Hid (Below SZ w W2) := HB.out.trans (hb2.mono sR)
      have D2 : Hid (W2.ownsMap Try.prog 9 (plainElem (H := Unit) Try.prog 3) SZ nm D) := HD.out.kept (below_grown7 hb2) (by simp)
      have a1 : W2.cell? ⟨GE, 0, none⟩ = some (.int .i64 (x : Int)) := by rw [hW2, hGE]; simp
      have a2 : W2.cell? ⟨GE, 1, none⟩ = some (.int .i64 fr) := by rw [hW2, hGE]; simp
      have hGE2 : GE < W2.heap.size := World.block_lt_of_cell? W2 _ a1
      have s2 : SZ ≤ W2.heap.size := Nat.le_trans sR hb2.size
      have S2 := Lib.hid s2
      have HGE2 := Lib.hid hGE2
      have hGS : SZ < GE := by rw [hGE]; exact HD.out.lt
      have HGS := Lib.hid hGS
      rw [← hGE, ← hW2]
      clear hGE hW2 c1 c2 hg HB HD hb2 sR s2 hGE2 hGS
      go_wp2_with fail
      refine (CT1.out _ BW2.out).mono ?_
      rintro e w3 ⟨rfl, hb3⟩
      have BW3 : Hid (Below SZ w w3) := BW2.out.trans (hb3.mono S2.out)
      have hD3 := D2.out.kept (below_grown7 hb3) (by simp)
      have d1 := (hb3.cell (p := ⟨GE, 0, none⟩) HGE2.out).trans a1
      have d2 := (hb3.cell (p := ⟨GE, 1, none⟩) HGE2.out).trans a2
      have S3 : Hid (SZ ≤ w3.heap.size) := Nat.le_trans S2.out hb3.size
      have HGE3 : Hid (GE < w3.heap.size) := Nat.lt_of_lt_of_le HGE2.out hb3.size
      have hsz : (⟨t.toArray⟩ : ByteArray).size ≤ maxLen := by unfold maxLen; simp [ByteArray.size]; omega
      have KY := Lib.hid (Go.WideMaps.keyOf_string_mk (P := Try.prog) Try.underlying9 hsz)
      obtain ⟨q, hq⟩ : ∃ q, q = (txts E d (L.take k)).count t := ⟨_, rfl⟩
      have hq128 : q ≤ 128 := by
        have h1 : (txts E d (L.take k)).count t ≤ (txts E d (L.take k)).length := List.count_le_length
        have h2 : (txts E d (L.take k)).length ≤ k := by unfold txts; rw [List.length_map, List.length_take]; omega
        omega
      have hat0 := HC.out.2 t
      have HC2 := Lib.hid (HC.out.add t)
      rw [← hq] at hat0 HC2 HCN
      rw [← HTN.out] at HC2
      have HAT := Lib.hid hat0
      have ew1 : IntKind.i64.wrap ((q : Int) + 1) = (q : Int) + 1 := by rw [IntKind.wrap_i64]; omega
      have hwf1 : (Lit.int .i64 ((q : Int) + 1)).wf = true := wf_smallC3 _ (by omega)
      have hnm2 : nm < maxLen := by unfold maxLen; omega
      clear hb3 a1 a2 hsz hq hat0 HC HTN CT1 D2 BW2 S2 HGE2 lb
      go_wp2_with (first
        | (at_lookup; refine wpList_lookup_own_int _ rfl _ _ 100 rfl 9 3 .i64 lawS7 Try.underlying100 Try.underlying3 (zeroI7 _) SZ nm D rfl hD3 _ _ rfl KY.out ?_; intro c hat hwc; obtain rfl : c = (q : Int) := by (have hh := HAT.out; rw [hh] at hat; simpa using hat.symm))
        | (at_mapUpdate; refine wpList_mapUpdate_own _ rfl _ _ _ 100 rfl 9 3 lawS7 Try.underlying100 _ SZ nm D rfl hD3 hnm2 _ _ _ rfl rfl KY.out _ [] (plainElem_int Try.underlying3 hwf1) ?_; intro w5 hown5 hg5; go_frame)
        | fail)
      obtain ⟨D', hD'⟩ : ∃ D', D' = D.put (.string t) (.lit (.int .i64 ((q : Int) + 1))) := ⟨_, rfl⟩
      rw [← hD'] at hown5 HC2
      have hcq : (txts E d (L.take (k + 1))).count t = q + 1 := by
        have h1 := HC2.out.2 t
        have hm := (show Maps.IsMap D' from HC2.out.1)
        rw [hD', Maps.atKey_put_same hD3.isMap (strKey7 t)] at h1
        simp only [DataW.lit.injEq, Lit.int.injEq] at h1
        have := h1.2; omega
      have D5 : Hid (w5.ownsMap Try.prog 9 (plainElem (H := Unit) Try.prog 3) SZ (nm + 1) D') := hown5
      have BW5 : Hid (Below SZ w w5.drew) := Below.drew (BW3.out.grown hg5 S3.out (fun j hj => by cases hj; exact Nat.le_refl _))
      have S5 : Hid (SZ ≤ w5.drew.heap.size) := Nat.le_trans S3.out hg5.size
      have f1 := (hg5.cell_far ⟨GE, 0, none⟩ HGE3.out (fun e => by have h1 : GE = SZ := Option.some.inj e; have := HGS.out; omega)).trans d1
      have f2 := (hg5.cell_far ⟨GE, 1, none⟩ HGE3.out (fun e => by have h1 : GE = SZ := Option.some.inj e; have := HGS.out; omega)).trans d2
      have LK : Hid (∀ W : World, W.ownsMap Try.prog 9 (plainElem (H := Unit) Try.prog 3) SZ (nm + 1) D' → (Instr.lookup 100 (.map (some SZ)) (.string ⟨t.toArray⟩) false).run Try.prog W = .ok (.int .i64 ((q + 1 : Nat) : Int)) W) := fun W hW => look7 hW HC2.out hcq KY.out
      have l5 := LK.out _ D5.out.drew
      obtain ⟨s, hs⟩ : ∃ s : Int, s = ((q + 1 : Nat) : Int) := ⟨_, rfl⟩
      rw [← hs] at l5 LK
      have ews : IntKind.i64.wrap s = s := by rw [hs, IntKind.wrap_i64]; omega
      have ZN : Hid (IntKind.i64.wrap (z * IntKind.i64.wrap (s * IntKind.i64.wrap (C : Int))) = IntKind.i64.wrap (cms E d L (k + 1) : Int)) := by
        show _ = _
        rw [HZ.out, wrap_three _ _ _ ews, HCN.out, hs]
        congr 1
      clear hD' hown5 hg5 hD3 d1 d2 HCN HAT ew1 hwf1 hnm2 hcq hs ews BW3 S3 HGE3 HZ
      obtain ⟨cz, hcz⟩ : ∃ cz : Int, cz = IntKind.i64.wrap (C : Int) := ⟨_, rfl⟩
      rw [← hcz] at CC1 ZN
      clear hcz
      go_region_law (first
        | ((try go_simp); go_at_call 66; refine (CP1.out _ BW5.out).mono ?_
           rintro e w6 ⟨y, rfl, hr6, hb6⟩
           have BW6 : Below SZ w w6 := BW5.out.trans (hb6.mono S5.out)
           have D6 : w6.ownsMap Try.prog 9 (plainElem (H := Unit) Try.prog 3) SZ (nm + 1) D' := D5.out.drew.kept (below_grown7 hb6) (by simp)
           have l6 := LK.out _ D6)
        | ((try go_simp); go_at_call 35; refine (CC1.out y _ _ BW6 (Lib.hid hr6)).mono ?_
           rintro e w7 ⟨rfl, hb7⟩
           have BW7 : Below SZ w w7 := BW6.trans (hb7.mono (Nat.le_trans S5.out hb6.size))
           have D7 : w7.ownsMap Try.prog 9 (plainElem (H := Unit) Try.prog 3) SZ (nm + 1) D' := D6.kept (below_grown7 hb7) (by simp)
           have l7 := LK.out _ D7))
      all_goals
        go_simp
        have HB7 := Lib.hid BW7
        have HD7 := Lib.hid D7
        clear BW7 D7 BW6 D6 l5 l6 l7 hr6 hb6 hb7 D5 BW5 S5 f1 f2 LK CP1 CC1
        go_wp2
        go_roundw
        case rel => exact ⟨k + 1, nm + 1, _, D', by omega, by go_num, rfl, by omega, ZN, HD7, HC2, HB7⟩
        case measure => simp [intOf]; omega
    · obtain rfl : k = m := by omega
      have HF : Hid (z = IntKind.i64.wrap (cm E (d + 1) L : Int)) := by show _ = _; rw [HZ.out, CA.out]
      clear HZ HD HC CT CP CC LB
      go_wp2
      go_ret
      rw [HF.out]
      exact ⟨rfl, by rw [← HSZ.out]; exact HB.out⟩
theorem maps_p (n : Nat) (E : Edges) (ho : Hid (∀ e ∈ E, e.1 < n ∧ e.2 < n)) (hE : E.length ≤ 64) : ∀ d, d ≤ 64 → MapsP n E d := by
  intro d
  induction d with
  | zero => intro h; exact maps_body n E ho hE 0 h (fun d' e => by omega)
  | succ d ih =>
    intro h
    refine maps_body n E ho hE (d + 1) h (fun d' e => ?_)
    have q : d' = d := by omega
    rw [q]
    exact ih (by omega)
end Go.Proofs.Ytafdlilojlmchaa
