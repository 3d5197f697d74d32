/-
  The model's determinant of up to four rows of small numbers.
-/
import Derived.Test.YtgboecnfghhooaaCDetP
namespace Go.Proofs.Ytgboecnfghhooaa
open Go.RowKit

theorem own_formD {w : World} {base n : Nat} {e : TypeId} {v : Value} {xs : List Value} (h : w.ownsRow base e 1 v n xs) : ∃ av nv cv, v = .slice av nv cv := by
  rcases h.2 with ⟨rfl, _⟩ | ⟨g, cap, cur, rfl, _⟩
  · exact ⟨_, _, _, rfl⟩
  · exact ⟨_, _, _, rfl⟩
theorem step_append_rd {ops : Array Oper} {o : Oper} {a : Act} {w : World} {K : Act → World → Prop} {Q : Exit → Act → World → Prop} {F : Prop} (hgd : o.guard = none) (s x : Operand)
    (ho : o.op = .call { callee := .builtin .append, args := #[s, x], argTypes := #[32, 32] })
    (base : Nat) (v : Value) (n : Nat) (xs : List Value) (hs : a.eval s = v) (hown : w.ownsRow base 3 1 v n xs) (ao : Option Addr) (m c : Nat) (hx : a.eval x = .slice ao m c) {H : Nat} {l : List Int} (hl : l.length = m) (hR : RdI w H ao l)
    (hn : n ≤ 1000) (hm : m ≤ 1000) (hbase : base ≤ w.heap.size)
    (h : ∀ av nv cv w', w'.ownsRow base 3 1 (.slice av nv cv) (n + m) (xs ++ iv l) → w.grownBy w' v.ownBlock → K (a.put o.dst (.slice av nv cv)) w') :
    if Region.wanted o (yielded ops a.tmps) = true then Oper.wp Try.prog o a w K Q else F := by
  obtain ⟨i0, hi, hz0, hz1, hz2⟩ := info_parts Try.infoIntR
  rcases Nat.eq_zero_or_pos m with h0 | h0
  · subst h0
    obtain rfl : l = [] := List.eq_nil_of_length_eq_zero hl
    have hw : Region.wanted o (yielded ops a.tmps) = true := by simp [Region.wanted, hgd]
    rw [if_pos hw]
    have hrun := run_append_zero (P := Try.prog) (w := w) base 32 o.type 3 i0 1 Try.underlying32 hi v n xs hown ao c
    obtain ⟨av, nv, cv, rfl⟩ := own_formD hown
    unfold Oper.wp
    simp [execOp, ho, resolve, invoke, builtin, hs, hx, hrun, Result.andThen]
    refine h av nv cv w ?_ ⟨rfl, rfl, rfl, Nat.le_refl _, fun _ _ _ => rfl⟩
    rw [show xs ++ iv [] = xs by simp [iv], Nat.add_zero]
    exact hown
  · obtain ⟨ad, rfl, hsrc⟩ := hR.src (by rw [hl]; exact h0)
    exact step_append_lies w hgd s x 32 ho base 3 i0 (.int .i64 0) 1 8 Try.underlying32 hi hz0 hz1 hz2 rfl (by decide) v n xs hs hown ad m c (iv l) hx (by rw [iv_length, hl, Nat.mul_one]) hsrc (iv_one l) h0 (by unfold maxLen; omega) (by omega) hbase _ rfl (fun g cap w' h1 h2 _ _ => h _ _ _ w' h1 h2)
theorem GridA.nil0 {w : World} {B : Nat} (hB : B ≤ w.heap.size) : GridA (w.alloc (.cells #[] 32)) B (.slice (some ⟨w.heap.size, 0, none⟩) 0 0) [] [] := by
  refine ⟨⟨Own.of_own ?_, RowsI.nil⟩, fun i j u v _ h => by simp at h⟩
  exact World.ownsRow_lit (base := B) (e := 32) (size := 1) w #[] 0 hB (by unfold maxLen; omega) rfl

set_option maxHeartbeats 6400000 in
set_option maxRecDepth 100000 in
theorem specDet_any : ∀ (m : Nat), m ≤ 4 → ∀ (rows : List (List Int)) (a : Option Addr) (cv : Nat) (w : World) (H : Nat), rows.length = m → Hid (∀ r ∈ rows, r.length = m) → Hid (In8 rows) → H ≤ w.heap.size → Hid (RdR w H a rows) →
    Calls Try.prog 69 #[.slice a m cv] w fun e w' => e = .returned (.int .i64 (detG opI m rows)) ∧ Below w.heap.size w w' := by
  obtain ⟨j0, hj, hy0, hy1, hy2⟩ := info_parts Try.infoRowR
  intro m
  induction m with
  | zero =>
    intro _ rows a cv w H hl _ _ _ _
    show Calls Try.prog 69 #[.slice a 0 cv] w fun e w' => e = .returned (.int .i64 1) ∧ Below w.heap.size w w'
    clear hl
    go_enter Try.func69, Try.ntmps69
    go_wp2
    go_ret
    exact ⟨rfl, Below.refl _ _⟩
  | succ m ih =>
    intro hm4 rows a cv w H hl hrs h8 hH hR
    cases rows with
    | nil => simp at hl
    | cons r0 rest =>
      have hrl : rest.length = m := by simpa using hl
      have l0 : r0.length = m + 1 := hrs.out r0 (by simp)
      have hrest : Hid (∀ r ∈ rest, r.length = m + 1) := fun r hr => hrs.out r (by simp [hr])
      have h8r : Hid (In8 rest) := fun r hr => h8.out r (by simp [hr])
      have h80 : Hid (∀ x ∈ r0, -8 ≤ x ∧ x ≤ 8) := fun x hx => h8.out r0 (by simp) x hx
      obtain ⟨b, off, ar, cr, rfl, hbH, hcr, hcm, c1, hrd⟩ := hR.out 0 (by simp)
      have RT := Lib.hid hR.out.tail
      simp only [List.getElem_cons_zero, Nat.add_zero] at c1 hrd hcr
      obtain ⟨gr, rfl, hgr⟩ : ∃ gr, ar = some ⟨gr, 0, none⟩ ∧ gr < H := by
        obtain ⟨gr, e1, e2, _⟩ := hrd 0 (by omega)
        exact ⟨gr, e1, e2⟩
      have RC : Hid (∀ (j : Nat) (hj : j < r0.length), w.cell? ⟨gr, j, none⟩ = some (.int .i64 r0[j])) := fun j hj => by
        obtain ⟨gr', e1, _, e3⟩ := hrd j hj
        simp only [Option.some.injEq, Addr.mk.injEq] at e1
        obtain ⟨rfl, _, _⟩ := e1
        exact e3
      rw [l0] at c1
      have HC1 := Lib.hid c1
      obtain ⟨D, hD⟩ : ∃ D, D = detG opI (m + 1) (r0 :: rest) := ⟨_, rfl⟩
      have HD : Hid (D = sumD r0 rest (m + 1)) := by
        show _ = _
        rw [hD, ← hrl]; exact sumD_full r0 rest
      rw [← hD]
      obtain ⟨B, hB⟩ : ∃ B, B = w.heap.size := ⟨_, rfl⟩
      have HB0 := Lib.hid hB
      have q0 : (((m : Int) + 1) == 0) = false := by rw [beq_eq_false_iff_ne]; omega
      have SB : Hid (∀ c, c < m + 1 → (-98304 ≤ sumD r0 rest c ∧ sumD r0 rest c ≤ 98304) ∧ (-98304 ≤ termG opI r0 c (detG opI rest.length (lessG c rest)) ∧ termG opI r0 c (detG opI rest.length (lessG c rest)) ≤ 98304)) := fun c hc => by
        have hd : ∀ c, -(bndD m : Int) ≤ detG opI rest.length (lessG c rest) ∧ detG opI rest.length (lessG c rest) ≤ bndD m := fun c => by
          rw [hrl]
          exact det_bound m (lessG c rest) (by rw [less_len, hrl]) h8r.out.less
        have s := sumD_bound (b := bndD m) h80.out hd c
        have t := term_bound (b := bndD m) c h80.out (hd c)
        have hb : bndD (m + 1) ≤ 98304 := bnd_small (m + 1) hm4
        have e1 : bndD (m + 1) = (m + 1) * (8 * bndD m) := rfl
        have e2 : c * (8 * bndD m) ≤ (m + 1) * (8 * bndD m) := Nat.mul_le_mul_right _ (by omega)
        have e3 : 1 * (8 * bndD m) ≤ (m + 1) * (8 * bndD m) := Nat.mul_le_mul_right _ (by omega)
        omega
      have SS := Lib.hid (sumD_step r0 rest)
      have S0 : Hid (sumD r0 rest 0 = 0) := rfl
      have HIH := Lib.hid (ih (by omega))
      clear hrs h8 hrd hD hR hl hB c1 ih
      go_enter Try.func69, Try.ntmps69
      go_wp2_with fail
      go_loopw [3, 4, 5, 6, 7] (fun e3 e4 e5 e6 e7 wr => ∃ (c : Nat) (su σ : Int), c ≤ m + 1 ∧ e5 = .int .i64 (c : Int) ∧ e3 = .int .i64 su ∧ e4 = .int .i64 σ ∧ Hid (su = sumD r0 rest c) ∧ Hid (σ = if c % 2 = 0 then 1 else -1) ∧ Hid (Below B w wr)) (fun _ _ e5 _ _ _ => m + 1 - (intOf e5).toNat)
      case atStart => exact ⟨0, 0, 1, Nat.zero_le _, rfl, rfl, rfl, S0.out.symm, rfl, Below.refl _ _⟩
      case round =>
        obtain ⟨c, su, σ, hc, rfl, rfl, rfl, HS, Hσ, HB⟩ := hrel
        by_cases hlt : c < m + 1
        · have b1 : (c : Int) < (m : Int) + 1 := by omega
          have sB : Hid (B ≤ wr.heap.size) := by show _ ≤ _; rw [HB0.out]; exact HB.out.size
          have G0 : Hid (GridA (wr.alloc (.cells #[] 32)) B (.slice (some ⟨wr.heap.size, 0, none⟩) 0 0) [] (lessG c (rest.take 0))) := GridA.nil0 sB.out
          have BA : Hid (Below B w (wr.alloc (.cells #[] 32))) := HB.out.alloc sB.out _
          have sA : Hid (B ≤ (wr.alloc (.cells #[] 32)).heap.size) := by have := sB.out; show _ ≤ _; rw [World.size_alloc]; omega
          clear HB sB
          go_wp2_with fail
          go_loopw [6, 7] (fun e6 e7 wx => ∃ (i : Nat) (RV : List Value), 1 ≤ i ∧ i ≤ m + 1 ∧ e7 = .int .i64 (i : Int) ∧ Hid (GridA wx B e6 RV (lessG c (rest.take (i - 1)))) ∧ Hid (Below B w wx) ∧ Hid (B ≤ wx.heap.size)) (fun _ e7 _ => m + 1 - (intOf e7).toNat)
          case atStart => exact ⟨1, [], by omega, by omega, rfl, G0, BA, sA⟩
          case round =>
            clear G0 BA sA
            obtain ⟨i, RV, hi1, him, rfl, HG, HB, sB⟩ := hrel
            have hlen : (lessG c (rest.take (i - 1))).length = i - 1 := by rw [less_len, List.length_take]; omega
            obtain ⟨au, cu, rfl, hOW⟩ := HG.out.shape
            rw [hlen] at hOW HG ⊢
            by_cases hlt2 : i < m + 1
            · have b2 : (i : Int) < (m : Int) + 1 := by omega
              have hkr : i - 1 < rest.length := by omega
              obtain ⟨b', off', ar, ci, e1, hb', hcr', _, c1', hrd⟩ := (RT.out.below (HB.out.mono (by rw [HB0.out]; exact hH))) (i - 1) hkr
              simp only [Option.some.injEq, Addr.mk.injEq] at e1
              obtain ⟨rfl, rfl, _⟩ := e1
              rw [show off + 1 + (i - 1) = off + i by omega] at c1'
              have hlm := hrest.out _ (List.getElem_mem hkr)
              have LT := less_take (c := c) rest hkr
              rw [show i - 1 + 1 = i by omega] at LT
              have LT := Lib.hid LT
              obtain ⟨r, hr⟩ : ∃ r, r = rest[i - 1] := ⟨_, rfl⟩
              rw [← hr] at LT hcr' hlm
              rw [hlm] at hcr'
              obtain ⟨gi, rfl, hgi0⟩ : ∃ gi, ar = some ⟨gi, 0, none⟩ ∧ gi < H := by
                obtain ⟨gi, e1, e2, _⟩ := hrd 0 (by rw [← hr, hlm]; omega)
                exact ⟨gi, e1, e2⟩
              have RCi : ∀ (j : Nat) (hj : j < r.length), wr.cell? ⟨gi, j, none⟩ = some (.int .i64 r[j]) := fun j hj => by
                subst hr
                obtain ⟨gr', e1, _, e3⟩ := hrd j hj
                simp only [Option.some.injEq, Addr.mk.injEq] at e1
                obtain ⟨rfl, _, _⟩ := e1
                exact e3
              rw [← hr, hlm] at c1'
              have hgw : gi < wr.heap.size := World.block_lt_of_cell? wr _ (RCi 0 (by omega))
              have hbw : b < wr.heap.size := World.block_lt_of_cell? wr _ c1'
              have RA : Hid (RdI wr wr.heap.size (some ⟨gi, 0, none⟩) (r.take c)) := fun j hj => by
                rw [List.length_take] at hj
                refine ⟨gi, 0, rfl, hgw, ?_⟩
                rw [Nat.zero_add, RCi j (by omega), List.getElem_take]
              have RB : Hid (RdI wr wr.heap.size (if ci = c + 1 then some (Addr.mk gi 0 none) else some (Addr.mk gi (c + 1) none)) (r.drop (c + 1))) := fun j hj => by
                rw [List.length_drop] at hj
                refine ⟨gi, c + 1, ?_, hgw, ?_⟩
                · rw [if_neg (by omega)]
                · rw [RCi (c + 1 + j) (by omega), List.getElem_drop]
              have lA : Hid ((r.take c).length = c) := by show _ = _; rw [List.length_take]; omega
              have lB : Hid ((r.drop (c + 1)).length = m + 1 - (c + 1)) := by show _ = _; rw [List.length_drop]; omega
              have j1 : (c : Int) ≤ (ci : Int) := by omega
              have j2 : c ≤ ci := by omega
              have j3 : (c : Int) + 1 ≤ (m : Int) + 1 := by omega
              have j4 : c + 1 ≤ m + 1 := by omega
              have j5 : (0 : Int) ≤ (c : Int) + 1 := by omega
              have ewc : IntKind.i64.wrap ((c : Int) + 1) = (c : Int) + 1 := by rw [IntKind.wrap_i64]; omega
              have BW : Hid (∀ o : Obj, Below wr.heap.size wr (wr.alloc o).drew) := fun o => Below.drew ((Below.refl _ wr).alloc (Nat.le_refl _) o)
              have OL : Hid ((wr.alloc (.cells #[] 3)).drew.ownsRow wr.heap.size 3 1 (.slice (some ⟨wr.heap.size, 0, none⟩) 0 0) 0 []) := own_of_blocks (World.ownsRow_lit (base := wr.heap.size) (e := 3) (size := 1) wr #[] 0 (Nat.le_refl _) (by unfold maxLen; omega) rfl) (fun _ _ => rfl)
              have z1 : i - 1 + 1 ≤ maxLen := by unfold maxLen; omega
              have z2 : (i - 1 + 1) * 24 ≤ 140737488355328 := by omega
              have dcell := fun o => ((BW.out o).cell (p := ⟨b, off + i, none⟩) hbw).trans c1'
              clear hrd hr RCi
              go_wp2_with fail
              go_region_law (first
                | (refine step_append_rd (H := wr.heap.size) ?gd (.tmp 25) (.tmp 31) ?ho wr.heap.size (.slice (some ⟨wr.heap.size, 0, none⟩) 0 0) 0 [] ?hs ?own (some ⟨gi, 0, none⟩) c ci ?hx lA.out ?rd ?hn ?hm ?base ?_
                   case gd => rfl
                   case ho => rfl
                   case hs => rfl
                   case hx => rfl
                   case own => exact OL.out
                   case rd => exact RA.out.below (BW.out _)
                   case hn => exact Nat.zero_le _
                   case hm => omega
                   case base => exact (BW.out _).size
                   intro av6 nv6 cv6 w6 hv6 hg6
                   have HV6 : Hid (w6.ownsRow wr.heap.size 3 1 (.slice av6 nv6 cv6) c (iv (r.take c))) := by first | exact hv6 | (rw [List.nil_append, Nat.zero_add] at hv6; exact hv6)
                   have HB6 : Hid (Below wr.heap.size wr w6) := (BW.out _).grown hg6 (BW.out _).size (fun q hq => by simp only [Value.ownBlock, Option.some.injEq] at hq; omega)
                   have d6 := (HB6.out.cell (p := ⟨b, off + i, none⟩) hbw).trans c1'
                   clear hv6 hg6)
                | (refine step_append_rd (H := wr.heap.size) ?gd (.tmp 32) (.tmp 39) ?ho wr.heap.size (.slice av6 nv6 cv6) c (iv (r.take c)) ?hs ?own (if ci = c + 1 then some (Addr.mk gi 0 none) else some (Addr.mk gi (c + 1) none)) (m + 1 - (c + 1)) (ci - (c + 1)) ?hx lB.out ?rd ?hn ?hm ?base ?_
                   case gd => rfl
                   case ho => rfl
                   case hs => rfl
                   case hx => (first | rfl | (go_simp; done))
                   case own => exact HV6.out
                   case rd => exact RB.out.below HB6.out
                   case hn => omega
                   case hm => omega
                   case base => exact HB6.out.size
                   intro av7 nv7 cv7 w7 hv7 hg7
                   have HB7 : Hid (Below wr.heap.size wr w7) := HB6.out.grown hg7 HB6.out.size (fun q hq => (HV6.out.lt q hq).1)
                   have HOU : Hid (Own w7 wr.heap.size w7.heap.size 3 (.slice av7 nv7 cv7) (iv (r.take c ++ r.drop (c + 1)))) := by
                     refine Own.of_own ?_
                     rw [iv_length, List.length_append, lA.out, lB.out, iv_app]
                     exact hv7
                   have HOW : Hid (w7.ownsRow B 32 1 (.slice au (i - 1) cu) (i - 1) RV) := own_of_blocks hOW fun q hq => HB7.out.block q (hOW.lt q hq).2
                   clear hv7 hg7)
                | (refine step_append_lies _ ?gd (.tmp 24) (.tmp 41) 26 ?ho B 32 j0 (.slice none 0 0) 1 24 Try.underlying26 hj hy0 hy1 hy2 rfl (Nat.lt_succ_self 0) (.slice au (i - 1) cu) (i - 1) RV ?hs ?own ⟨w7.heap.size, 0, none⟩ 1 1 [.slice av7 nv7 cv7] ?hx rfl ?news ?one (Nat.lt_succ_self 0) z1 z2 ?base (w7.heap.size + 1) ?hh ?_
                   case gd => rfl
                   case ho => rfl
                   case hs => rfl
                   case hx => rfl
                   case own => exact HOW.out.alloc _
                   case news => exact cell_one_new _ _ _
                   case one => exact one_rowR _ _ _ _ rfl
                   case base => (have := HB7.out.size; have := sB.out; rw [World.size_alloc]; omega)
                   case hh => exact World.size_alloc _ _
                   intro g2 c2 w2 hv2 hg2 _ _))
              all_goals
                have hcnt : (lessG c (rest.take (i - 1))).length = i - 1 := by rw [less_len, List.length_take]; omega
                obtain ⟨hGA, hBA⟩ := HG.out.add hcnt HB7.out HOU.out sB.out hv2 hg2
                rw [← LT.out] at hGA
                have hi11 : i - 1 + 1 = i := by omega
                rw [hi11] at hGA
                try rw [hi11]
                have GA2 := Lib.hid hGA
                have BA2 := Lib.hid (HB.out.trans hBA)
                have SA2 : Hid (B ≤ w2.heap.size) := Nat.le_trans sB.out hBA.size
                clear hGA hBA hv2 hg2 HOU HOW HB7 HV6 HB6 hcnt
                go_simp
                try rw [hi11]
                go_wp2
                go_roundw
                case rel => exact ⟨i + 1, _, by omega, by omega, by go_num, by rw [Nat.add_sub_cancel]; exact GA2, BA2, SA2⟩
                case measure => simp [intOf]; omega
            · obtain rfl : i = m + 1 := by omega
              have hfull : rest.take (m + 1 - 1) = rest := by rw [Nat.add_sub_cancel, ← hrl, List.take_length]
              rw [hfull] at HG
              rw [Nat.add_sub_cancel] at HG ⊢
              have hc0 : c < r0.length := by omega
              have hBw : Below H w wr := HB.out.mono (by rw [HB0.out]; exact hH)
              have hrow := (hBw.cell (p := ⟨b, off, none⟩) hbH).trans HC1.out
              have hcell := (hBw.cell (p := ⟨gr, c, none⟩) hgr).trans (RC.out c hc0)
              have hx8 := h80.out _ (List.getElem_mem hc0)
              obtain ⟨⟨s1, s2⟩, t1, t2⟩ := SB.out c hlt
              have ST := SS.out c
              have hT : termG opI r0 c (detG opI rest.length (lessG c rest)) = (if c % 2 = 0 then r0[c] else -(r0[c])) * detG opI rest.length (lessG c rest) := by
                unfold termG
                rw [getD_atD hc0]
                rfl
              obtain ⟨x, hx⟩ : ∃ x, x = r0[c] := ⟨_, rfl⟩
              rw [← hx] at hcell hx8 hT
              obtain ⟨y, hy⟩ : ∃ y, y = if c % 2 = 0 then x else -x := ⟨_, rfl⟩
              rw [← hy] at hT
              have hs01 : -98304 ≤ su ∧ su ≤ 98304 := by have := HS.out; omega
              have ey : IntKind.i64.wrap (σ * x) = y := by
                have h1 := Hσ.out
                rw [IntKind.wrap_i64, hy, h1]
                split
                · rw [Int.one_mul]; omega
                · rw [Int.neg_mul, Int.one_mul]; omega
              rw [hrl] at hT ST t1 t2
              have hll : (lessG c rest).length = m := by rw [less_len, hrl]
              have CD := HIH.out (lessG c rest) au cu wr wr.heap.size hll (Lib.hid (less_lens hrest.out hlt)) (Lib.hid h8r.out.less) (Nat.le_refl _) (Lib.hid (RdR.of HG.out.grid))
              have CDD : Hid (∀ W, Below wr.heap.size wr W → Calls Try.prog 69 #[.slice au m cu] W fun e w' => e = .returned (.int .i64 (detG opI m (lessG c rest))) ∧ Below W.heap.size W w') := fun W hW => HIH.out (lessG c rest) au cu W wr.heap.size hll (Lib.hid (less_lens hrest.out hlt)) (Lib.hid h8r.out.less) hW.size (Lib.hid ((RdR.of HG.out.grid).below hW))
              clear CD
              obtain ⟨d, hd⟩ : ∃ d, d = detG opI m (lessG c rest) := ⟨_, rfl⟩
              rw [← hd] at hT ST t1 t2
              simp only [← hd] at CDD
              obtain ⟨tt, htt⟩ : ∃ tt, tt = termG opI r0 c d := ⟨_, rfl⟩
              rw [← htt] at hT ST t1 t2
              have et : IntKind.i64.wrap (y * d) = tt := by rw [← hT, IntKind.wrap_i64]; omega
              have es : IntKind.i64.wrap (su + tt) = su + tt := by rw [IntKind.wrap_i64]; omega
              have HS2 : Hid (su + tt = sumD r0 rest (c + 1)) := by show _ = _; rw [ST, HS.out]
              obtain ⟨σ', hσ'⟩ : ∃ σ' : Int, σ' = if (c + 1) % 2 = 0 then 1 else -1 := ⟨_, rfl⟩
              have en : IntKind.i64.wrap (-σ) = σ' := by
                rw [hσ', Hσ.out, IntKind.wrap_i64]
                by_cases hc2 : c % 2 = 0
                · rw [if_pos hc2, if_neg (by omega)]; decide
                · rw [if_neg hc2, if_pos (by omega)]; decide
              have Hσ2 := Lib.hid hσ'
              have hbw : b < wr.heap.size := World.block_lt_of_cell? wr _ hrow
              have hgw : gr < wr.heap.size := World.block_lt_of_cell? wr _ hcell
              have BD : Hid (Below wr.heap.size wr wr.drew) := Below.drew (Below.refl _ wr)
              have HB9 := Lib.hid HB.out
              clear hx8 s1 s2 t1 t2 ST hT hx hy hs01 hd htt hσ' HS Hσ hBw hc0 hOW hfull hll HB HG
              go_wp2_with fail
              go_region_law (first
                | ((try go_simp); go_at_call 69; refine (CDD.out _ BD.out).mono ?_
                   rintro e w6 ⟨rfl, hb6⟩
                   have HB6 := Lib.hid (BD.out.trans hb6)
                   have e1 := (HB6.out.cell (p := ⟨b, off, none⟩) hbw).trans hrow
                   have e2 := (HB6.out.cell (p := ⟨gr, c, none⟩) hgw).trans hcell
                   clear hb6))
              all_goals
                have B2 : Hid (Below B w w6) := HB9.out.trans (HB6.out.mono sB.out)
                clear HB6 e1 e2
                go_simp
                go_wp2
                go_roundw
                case rel => exact ⟨c + 1, su + tt, σ', by omega, by go_num, by first | rfl | rw [es], by first | rfl | rw [en], HS2, Hσ2, B2⟩
                case measure => simp [intOf]; omega
        · obtain rfl : c = m + 1 := by omega
          have HE : Hid (su = D) := by show _ = _; rw [HS.out, HD.out]
          have HBB := Lib.hid HB.out
          clear HS HD
          go_wp2
          go_ret
          exact ⟨by rw [← HE.out]; rfl, by rw [← HB0.out]; exact HBB.out⟩
end Go.Proofs.Ytgboecnfghhooaa
