/-
  The program's rows without a column.
-/
import Derived.Test.YthlboikljibohaaCConcat
import Derived.Test.YthlboikljibohaaCWebE
import Derived.Test.YthlboikljibohaaZW
import Derived.Test.YthlboikljibohaaZN
import Derived.StillTailTactics
import Derived.Deep.RegionLaw
namespace Go.Proofs.Ythlboikljibohaa
open Go.RowKit

/-- a row of the call's own is appended to rows of its own -/
theorem GridA.add {w w1 w2 : World} {H m g c : Nat} {v u : Value} {RV : List Value} {rows : List (List Int)} {row : List Int} (h : GridA w H v RV rows) (hm : rows.length = m) (hb : Below w.heap.size w w1) (hu : Own w1 w.heap.size w1.heap.size 3 u (iv row)) (hH : H ≤ w.heap.size)
    (hv : w2.ownsRow H 34 1 (.slice (some ⟨g, 0, none⟩) (m + 1) c) (m + 1) (RV ++ [u])) (hg : (w1.alloc (.cells #[u] 34)).grownBy w2 v.ownBlock) :
    GridA w2 H (.slice (some ⟨g, 0, none⟩) (m + 1) c) (RV ++ [u]) (rows ++ [row]) ∧ Below H w w2 := by
  have hz : (w1.alloc (.cells #[u] 34)).heap.size = w1.heap.size + 1 := World.size_alloc _ _
  have hsz := hg.size
  rw [hz] at hsz
  have hlen := h.grid.2.1
  have s1 := hb.size
  have o1 : Own (w1.alloc (.cells #[u] 34)) w.heap.size w1.heap.size 3 u (iv row) := hu.alloc _
  have hb1 : Below w.heap.size w (w1.alloc (.cells #[u] 34)) := hb.alloc s1 _
  have G1 := h.grid.below hb1
  have r1 := G1.2.grown G1.1 (by decide) hg
  have r2 := o1.grown hg (o1.ne G1.1 (by decide))
  refine ⟨⟨⟨Own.of_own ?_, (r1.more (by omega)).append (RowsI.one (own_lo (r2.more (by omega)) hH))⟩, ?_⟩, (hb1.mono hH).grown hg (by omega) (fun k hk => (h.grid.1.1.lt k hk).1)⟩
  · have e : (RV ++ [u]).length = m + 1 := by rw [List.length_append, hlen, hm]; rfl
    rw [e]; exact hv
  · intro i j x y hij hx hy
    by_cases hj : j < RV.length
    · rw [List.getElem?_append_left (by omega)] at hx
      rw [List.getElem?_append_left hj] at hy
      exact h.dist i j x y hij hx hy
    · rw [List.getElem?_append_right (by omega)] at hy
      have hj0 : j - RV.length = 0 := by
        have := (List.getElem?_eq_some_iff.1 hy).1
        simp at this; omega
      rw [hj0] at hy
      simp only [List.getElem?_cons_zero, Option.some.injEq] at hy
      subst hy
      rw [List.getElem?_append_left (by omega)] at hx
      by_cases hn : x.ownBlock = none
      · exact .inl hn
      · right
        intro e
        obtain ⟨q, hq⟩ := Option.ne_none_iff_exists'.1 hn
        have hi : i < rows.length := by omega
        have ho := h.grid.2.2 i x rows[i] hx (List.getElem?_eq_getElem hi)
        have l1 := ho.2 q hq
        have l2 := (hu.1.lt q (by rw [← e]; exact hq)).1
        omega
theorem less_take {c k : Nat} (rows : List (List Int)) (h : k < rows.length) : lessG c (rows.take (k + 1)) = lessG c (rows.take k) ++ [rows[k].take c ++ rows[k].drop (c + 1)] := by
  unfold lessG
  rw [List.take_succ_eq_append_getElem h, List.map_append]; rfl

set_option maxHeartbeats 3200000 in
set_option maxRecDepth 100000 in
theorem less_p (c m : Nat) (rows : List (List Int)) (a : Option Addr) (cv : Nat) (w : World) {H0 : Nat} (hR : Hid (RdR w H0 a rows)) (hH : H0 ≤ w.heap.size) (hrl : rows.length ≤ 8) (hrs : Hid (∀ r ∈ rows, r.length = m)) (hc : c < m) (hm : m ≤ 8) :
    Calls Try.prog 37 #[.int .i64 (c : Int), .slice a rows.length cv] w fun e w' => ∃ u RV, e = .returned u ∧ GridA w' w.heap.size u RV (lessG c rows) ∧ Below w.heap.size w w' := by
  obtain ⟨i0, hi0, hz0, hz1, hz2⟩ := info_parts Try.infoRowR
  obtain ⟨B, hB⟩ : ∃ B, B = w.heap.size := ⟨_, rfl⟩
  rw [← hB] at hH ⊢
  have HB0 := Lib.hid hB
  have G0 : Hid (GridA w B (.slice none 0 0) [] (lessG c (rows.take 0))) := GridA.nil w B
  obtain ⟨M, hM⟩ : ∃ M, M = rows.length := ⟨_, rfl⟩
  have HM := Lib.hid hM
  rw [← hM] at hrl ⊢
  have ewc : IntKind.i64.wrap ((c : Int) + 1) = (c : Int) + 1 := by rw [IntKind.wrap_i64]; omega
  clear hB hM
  go_enter Try.func37, Try.ntmps37
  go_wp2
  go_loopw [5, 7, 10] (fun e5 e7 ii wr => ∃ (k : Nat) (RV : List Value), k ≤ M ∧ ii = .int .i64 (k : Int) ∧ Hid (GridA wr B e5 RV (lessG c (rows.take k))) ∧ Hid (Below B w wr)) (fun _ _ ii _ => M - (intOf ii).toNat)
  case atStart => exact ⟨0, [], Nat.zero_le _, rfl, G0, Below.refl _ _⟩
  case round =>
    clear G0
    obtain ⟨k, RV, hk, rfl, HG, HB⟩ := hrel
    have hlen : (lessG c (rows.take k)).length = k := by rw [less_len, List.length_take, ← HM.out]; omega
    obtain ⟨au, cu, rfl, hOW⟩ := HG.out.shape
    rw [hlen] at hOW HG ⊢
    by_cases hlt : k < M
    · have b1 : (k : Int) < (M : Int) := by omega
      have hkr : k < rows.length := by rw [← HM.out]; exact hlt
      obtain ⟨b, off, ar, cr, rfl, _, hcr, hcm, c1, hrd⟩ := (hR.out.below (HB.out.mono hH)) k hkr
      have hlm := hrs.out _ (List.getElem_mem hkr)
      have LT := Lib.hid (less_take (c := c) rows hkr)
      obtain ⟨r, hr⟩ : ∃ r, r = rows[k] := ⟨_, rfl⟩
      rw [← hr] at LT hcr hlm
      rw [hlm] at hcr
      obtain ⟨gr, rfl, hgr0⟩ : ∃ gr, ar = some ⟨gr, 0, none⟩ ∧ gr < H0 := by
        obtain ⟨gr, e1, e2, _⟩ := hrd 0 (by rw [← hr, hlm]; omega)
        exact ⟨gr, e1, e2⟩
      have RC : Hid (∀ (j : Nat) (hj : j < r.length), wr.cell? ⟨gr, j, none⟩ = some (.int .i64 r[j])) := fun j hj => by
        subst hr
        obtain ⟨gr', e1, _, e3⟩ := hrd j hj
        simp only [Option.some.injEq, Addr.mk.injEq] at e1
        obtain ⟨rfl, _, _⟩ := e1
        exact e3
      rw [← hr, hlm] at c1
      have j1 : (c : Int) ≤ (cr : Int) := by omega
      have j2 : c ≤ cr := by omega
      have j3 : (c : Int) + 1 ≤ (m : Int) := by omega
      have j4 : c + 1 ≤ m := by omega
      have j5 : (0 : Int) ≤ (c : Int) + 1 := by omega
      clear hrd hr
      obtain ⟨aa, haa⟩ : ∃ aa, aa = if cr = c + 1 then some (Addr.mk gr 0 none) else some (Addr.mk gr (c + 1) none) := ⟨_, rfl⟩
      have hgw : gr < wr.heap.size := by
        have := (RC.out 0 (by omega))
        exact World.block_lt_of_cell? wr _ this
      have RA : Hid (RdI wr wr.heap.size (some ⟨gr, 0, none⟩) (r.take c)) := fun j hj => by
        rw [List.length_take] at hj
        refine ⟨gr, 0, rfl, hgw, ?_⟩
        rw [Nat.zero_add, RC.out j (by omega), List.getElem_take]
      have RB : Hid (RdI wr wr.heap.size aa (r.drop (c + 1))) := fun j hj => by
        rw [List.length_drop] at hj
        refine ⟨gr, c + 1, ?_, hgw, ?_⟩
        · rw [haa, if_neg (by omega)]
        · rw [RC.out (c + 1 + j) (by omega), List.getElem_drop]
      have lA : (r.take c).length = c := by rw [List.length_take]; omega
      have lB : (r.drop (c + 1)).length = m - (c + 1) := by rw [List.length_drop]; omega
      have CC : Hid (∀ (W : World) (_ : Below wr.heap.size wr W) (gS cS : Nat) (_ : W.cell? ⟨gS, 0, none⟩ = some (.slice (some ⟨gr, 0, none⟩) c cr)) (_ : W.cell? ⟨gS, 1, none⟩ = some (.slice aa (m - (c + 1)) (cr - (c + 1)))),
          Calls Try.prog 67 #[.slice (some ⟨gS, 0, none⟩) 2 cS] W fun e w' => ∃ (av : Option Addr) (nv cv : Nat), e = .returned (.slice av nv cv) ∧ Own w' W.heap.size w'.heap.size 3 (.slice av nv cv) (iv (r.take c ++ r.drop (c + 1))) ∧ Below W.heap.size W w') := fun W hW gS cS h1 h2 => by
        rw [← lA] at h1
        rw [← lB] at h2
        exact concat_p (r.take c) (r.drop (c + 1)) gS _ _ cS _ _ W h1 h2 (Lib.hid (RA.out.below hW)) (Lib.hid (RB.out.below hW)) hW.size (by omega) (by omega)
      have N0 : Hid (∀ a b : Value, (wr.drew.alloc (.cells #[a, b] 34)).cell? ⟨wr.heap.size, 0, none⟩ = some a ∧ (wr.drew.alloc (.cells #[a, b] 34)).cell? ⟨wr.heap.size, 1, none⟩ = some b) := fun a b => by
        have h : (wr.drew.alloc (.cells #[a, b] 34)).heap[wr.heap.size]? = some (.cells #[a, b] 34 (0, 0)) := heap_alloc_new wr.drew _
        exact ⟨(cell_of_row _ wr.heap.size 0 _ _ (0, 0) h).trans rfl, (cell_of_row _ wr.heap.size 1 _ _ (0, 0) h).trans rfl⟩
      have BW : Hid (∀ o : Obj, Below wr.heap.size wr (wr.drew.alloc o)) := fun o => (show Below wr.heap.size wr wr.drew from ⟨rfl, rfl, rfl, Nat.le_refl _, fun _ _ => rfl⟩).alloc (Nat.le_refl _) o
      have z1 : k + 1 ≤ maxLen := by unfold maxLen; omega
      have z2 : (k + 1) * 24 ≤ 140737488355328 := by omega
      clear lA lB RC
      go_wp2_with fail
      go_region_law (first
        | ((try go_simp); (try simp only [← haa]); go_at_call 67; refine (CC.out _ (BW.out _) wr.heap.size _ (N0.out _ _).1 (N0.out _ _).2).mono ?_
           rintro e w6 ⟨av6, nv6, cv6, rfl, hO6, hb6⟩
           have s6 := hb6.size
           have HB6 : Hid (Below wr.heap.size wr w6) := (BW.out _).trans (hb6.mono (BW.out _).size)
           have HOU : Hid (Own w6 wr.heap.size w6.heap.size 3 (.slice av6 nv6 cv6) (iv (r.take c ++ r.drop (c + 1)))) := own_lo hO6 (BW.out _).size
           have HOW : Hid (w6.ownsRow B 34 1 (.slice au k cu) k RV) := own_of_blocks hOW fun q hq => HB6.out.block q (hOW.lt q hq).2)
        | (refine step_append_lies _ ?gd (.tmp 14) (.tmp 24) 26 ?ho B 34 i0 (.slice none 0 0) 1 24 Try.underlying26 hi0 hz0 hz1 hz2 rfl (Nat.lt_succ_self 0) (.slice au k cu) k RV ?hs ?own ⟨w6.heap.size, 0, none⟩ 1 1 [.slice av6 nv6 cv6] ?hx rfl ?news ?one (Nat.lt_succ_self 0) z1 z2 ?base (w6.heap.size + 1) ?hh ?_
           case gd => rfl
           case ho => rfl
           case hs => rfl
           case hx => rfl
           case own => exact HOW.out.alloc _
           case news => exact cell_one_new _ _ _
           case one => exact one_rowR _ _ _ _ rfl
           case base => (have := HB6.out.size; have := HB.out.size; rw [World.size_alloc]; have := HB0.out; omega)
           case hh => exact World.size_alloc _ _
           intro g2 c2 w2 hv2 hg2 _ _))
      all_goals
        have hcnt : (lessG c (rows.take k)).length = k := by rw [less_len, List.length_take, ← HM.out]; omega
        obtain ⟨hGA, hBA⟩ := HG.out.add hcnt HB6.out HOU.out (by have := HB.out.size; have := HB0.out; omega) hv2 hg2
        rw [← LT.out] at hGA
        have GA2 := Lib.hid hGA
        have BA2 := Lib.hid (HB.out.trans hBA)
        clear hGA hBA hv2 hg2 HOU HOW hO6 hb6 HB6 hcnt
        go_simp
        go_wp2
        go_roundw
        case rel => exact ⟨k + 1, _, by omega, by go_num, GA2, BA2⟩
        case measure => simp [intOf]; omega
    · obtain rfl : k = M := by omega
      have hfull : rows.take k = rows := by rw [HM.out, List.take_length]
      rw [hfull] at HG
      clear hfull hOW
      go_wp2
      go_ret
      exact ⟨_, RV, rfl, HG.out, HB.out⟩
end Go.Proofs.Ythlboikljibohaa
