/-
  The contract of the model's away: how far each node is from one.
  The contract of the model's WaysOf.
  The contract of the model's WaysByEdges.
-/
import Derived.Test.YtmpppocmbdainaaZFS
import Derived.Test.YtmpppocmbdainaaZW
import Derived.Test.YtmpppocmbdainaaZN
import Derived.Deep.RegionLaw
namespace Go.Proofs.Ytmpppocmbdainaa
open Go.RowKit

def rowF (n : Nat) (o : Nat → Int) : List Value := iv ((List.range n).map o)
theorem rowF_length (n : Nat) (o : Nat → Int) : (rowF n o).length = n := by simp [rowF, iv]
theorem rowF_at {n i : Nat} (o : Nat → Int) (h : i < n) : (rowF n o)[i]? = some (.int .i64 (o i)) := by simp [rowF, iv, h]
theorem rowF_set {n i : Nat} (o : Nat → Int) (x : Int) : (rowF n o).set i (.int .i64 x) = rowF n (fun v => if v = i then x else o v) := by
  apply List.ext_getElem?
  intro j
  rw [List.getElem?_set]
  by_cases hj : j < n
  · by_cases e : i = j
    · subst e
      rw [if_pos rfl, rowF_at _ hj, if_pos rfl, rowF_length, if_pos hj]
    · rw [if_neg e, rowF_at _ hj, rowF_at _ hj, if_neg (Ne.symm e)]
  · rw [List.getElem?_eq_none (show (rowF n fun v => if v = i then x else o v).length ≤ j by rw [rowF_length]; omega), List.getElem?_eq_none (show (rowF n o).length ≤ j by rw [rowF_length]; omega), rowF_length]
    split
    · rw [if_neg (by omega)]
    · rfl
theorem rowF_zero (n : Nat) : List.replicate n (Value.int .i64 0) = rowF n fun _ => 0 := by
  apply List.ext_getElem?
  intro j
  by_cases hj : j < n
  · rw [rowF_at _ hj, List.getElem?_replicate, if_pos hj]
  · rw [List.getElem?_eq_none (by rw [List.length_replicate]; omega), List.getElem?_eq_none (by rw [rowF_length]; omega)]
/-- a row of the call's own that holds a number for each node -/
structure Rf (w0 w : World) (B G n : Nat) (o : Nat → Int) : Prop where
  own : w.ownsRow G 3 1 (.slice (some ⟨G, 0, none⟩) n n) n (rowF n o)
  below : Below B w0 w
  ge : B ≤ G
theorem Rf.store {w0 w : World} {B G n i : Nat} {o : Nat → Int} (h : Rf w0 w B G n o) (x : Int) : Rf w0 (w.setCell ⟨G, i, none⟩ (.int .i64 x)) B G n (fun v => if v = i then x else o v) := by
  refine ⟨?_, h.below.setCell (p := ⟨G, i, none⟩) h.ge _, h.ge⟩
  have := (h.own.stored i (.int .i64 x)).1
  rw [rowF_set] at this
  exact this
theorem Rf.drew {w0 w : World} {B G n : Nat} {o : Nat → Int} (h : Rf w0 w B G n o) : Rf w0 w.drew B G n o := ⟨own_of_blocks h.own fun _ _ => rfl, Below.drew h.below, h.ge⟩
theorem Rf.congr {w0 w : World} {B G n : Nat} {o p : Nat → Int} (h : Rf w0 w B G n o) (he : ∀ u, u < n → o u = p u) : Rf w0 w B G n p := by
  have e : rowF n o = rowF n p := by unfold rowF; rw [List.map_congr_left fun u hu => he u (List.mem_range.1 hu)]
  exact ⟨e ▸ h.own, h.below, h.ge⟩
/-- both rows of the search -/
structure Aw (w0 w : World) (B G n : Nat) (o : Nat → Int) (g m c : Nat) (L : List Nat) : Prop where
  out : Rf w0 w B G n o
  lst : w.ownsRow (G + 1) 3 1 (.slice (some ⟨g, 0, none⟩) m c) m (ints L)
  len : L.length = m
section
variable {w0 w w' : World} {B G n g m c : Nat} {o : Nat → Int} {L : List Nat}
theorem Aw.gne (h : Aw w0 w B G n o g m c L) : G + 1 ≤ g ∧ g < w.heap.size ∧ G < w.heap.size := by
  obtain ⟨h1, h2⟩ := h.lst.lt g rfl
  exact ⟨h1, h2, by omega⟩
theorem Aw.store (h : Aw w0 w B G n o g m c L) (i : Nat) (x : Int) : Aw w0 (w.setCell ⟨G, i, none⟩ (.int .i64 x)) B G n (fun v => if v = i then x else o v) g m c L :=
  ⟨h.out.store x, own_of_blocks h.lst fun q hq => Below.heap_setCell w _ _ _ (by have := (h.lst.lt q hq).1; show q ≠ G; omega), h.len⟩
theorem Aw.drew (h : Aw w0 w B G n o g m c L) : Aw w0 w.drew B G n o g m c L := ⟨h.out.drew, own_of_blocks h.lst fun _ _ => rfl, h.len⟩
theorem Aw.below (h : Aw w0 w B G n o g m c L) (hB : B ≤ w.heap.size) (hb : Below w.heap.size w w') : Aw w0 w' B G n o g m c L :=
  ⟨⟨own_of_blocks h.out.own fun q hq => hb.block q (h.out.own.lt q hq).2, h.out.below.trans (hb.mono hB), h.out.ge⟩, own_of_blocks h.lst fun q hq => hb.block q (h.lst.lt q hq).2, h.len⟩
theorem Aw.base (h : Aw w0 w B G n o g m c L) : B ≤ w.heap.size := by have := h.gne; have := h.out.ge; omega
theorem Aw.app {g5 c5 x : Nat} {o : Nat → Int} (h : Aw w0 w B G n o g m c L) (hv : w'.ownsRow (G + 1) 3 1 (.slice (some ⟨g5, 0, none⟩) (m + 1) c5) (m + 1) (ints L ++ [.int .i64 (x : Int)])) (hg : (w.alloc (.cells #[.int .i64 (x : Int)] 3)).grownBy w' (Value.slice (some ⟨g, 0, none⟩) m c).ownBlock) :
    Aw w0 w' B G n o g5 (m + 1) c5 (L ++ [x]) := by
  have hgn := h.gne
  refine ⟨⟨?_, (h.out.below.alloc h.base _).grown hg (by rw [World.size_alloc]; have := h.base; omega) (fun q hq => by have := (h.lst.lt q hq.symm.symm).1; have := h.out.ge; omega), h.out.ge⟩, by rw [ints_snoc] at hv; exact hv, by rw [List.length_append, h.len]; rfl⟩
  refine World.ownsRow.kept (h.out.own.alloc _) hg (.inr ?_)
  intro e
  have e1 : G = g := by simpa [Value.ownBlock] using e
  omega
end

set_option maxHeartbeats 3200000 in
set_option maxRecDepth 100000 in
theorem awayM_any (n : Nat) (E : Edges) (hT : Hid (TreeS n E)) (u : Nat) (hu : u < n) (v : Value) (RV : List Value) (w : World) {B0 H0 : Nat} (hG : Hid (Grid w B0 H0 v RV (rowsE E))) (hH : H0 ≤ w.heap.size) :
    Calls Try.prog 58 #[.int .i64 (n : Int), v, .int .i64 (u : Int)] w fun e w' => ∃ y, e = .returned y ∧ Own w' w.heap.size w'.heap.size 3 y (rowF n fun i => (dst E u i : Int)) ∧ Below w.heap.size w w' := by
  obtain ⟨i0, hi, hz0, hz1, hz2⟩ := info_parts Try.infoIntR
  have CB := Lib.hid (fun (x : Nat) (W : World) (hW : Below w.heap.size w W) => beside_nb n E hT x v RV W (Lib.hid (hG.out.below (hW.mono hH))) (Nat.le_trans hH hW.size))
  obtain ⟨av, cv, rfl⟩ : ∃ a c, v = .slice a RV.length c := by
    obtain ⟨a, c, h, _⟩ := hG.out.1.slice; exact ⟨a, c, h⟩
  have h7 := hT.out.h7
  clear hG hH
  go_enter Try.func58, Try.ntmps58
  go_wp2_with (at_make; refine wpList_make_full _ rfl _ _ 29 rfl w.heap.size 3 i0 (.int .i64 0) 1 Try.underlying29 hi hz0 hz1 _ _ _ _ n rfl rfl rfl rfl ?b2 ?b3 (Nat.le_refl _) ?_)
  case b2 => rw [hz2]; omega
  case b3 => unfold maxLen; omega
  intro w1 hown hgrow
  have hb1 : Below w.heap.size w w1 := (Below.refl _ _).grown hgrow (Nat.le_refl _) (fun k hk => by cases hk)
  rw [show (madeCells #[Value.int .i64 0] n).toList = List.replicate n (Value.int .i64 0) from toList_madeCells_one _ _, rowF_zero] at hown
  obtain ⟨G, hGe⟩ : ∃ G, G = w.heap.size := ⟨_, rfl⟩
  rw [← hGe] at hown ⊢
  have D0 : Hid (Rf w w1 w.heap.size G n fun _ => 0) := ⟨hown, hb1, by omega⟩
  rw [← hGe] at D0 CB
  have HGe := Lib.hid hGe
  clear hown hgrow hb1 hGe
  go_wp2
  go_loopw [8] (fun ii wr => ∃ k : Nat, k ≤ n ∧ ii = .int .i64 k ∧ Hid (Rf w wr G G n fun v => if v < k then -1 else 0)) (fun ii _ => n - (intOf ii).toNat)
  case atStart => exact ⟨0, Nat.zero_le _, rfl, D0.out.congr fun u _ => by simp⟩
  case round =>
    clear D0
    obtain ⟨k, hk, rfl, D⟩ := hrel
    by_cases hlt : k < n
    · have b1 : (k : Int) < (n : Int) := by omega
      have hcell := (D.out.own.cellAt k (by omega)).trans (rowF_at _ hlt)
      have hfr := D.out.own.frozenAt k
      have D1 : Hid (Rf w (wr.setCell ⟨G, k, none⟩ (.int .i64 (-1))) G G n fun v => if v < k + 1 then -1 else 0) := (D.out.store (i := k) (-1)).congr fun u hu => by
        by_cases e : u = k
        · subst e; rw [if_pos rfl, if_pos (by omega)]
        · rw [if_neg e]
          by_cases e2 : u < k
          · rw [if_pos e2, if_pos (by omega)]
          · rw [if_neg e2, if_neg (by omega)]
      clear D
      go_wp2
      go_roundw
      case rel => exact ⟨k + 1, by omega, by go_num, D1.out⟩
      case measure => simp [intOf]; omega
    · obtain rfl : k = n := by omega
      have D : Hid (Rf w wr G G k fun _ => -1) := D.out.congr fun u hu => if_pos hu
      have hcell := (D.out.own.cellAt u (by omega)).trans (rowF_at _ hu)
      have hfr := D.out.own.frozenAt u
      have g0 : (u : Int) < (k : Int) := by omega
      have HM : Hid ((fun v => if v = u then (0 : Int) else -1) = metL E u [u]) := by
        show _ = _
        funext v
        unfold metL
        by_cases e : v = u
        · subst e
          rw [if_pos rfl, if_pos (by simp), dst_self hT.out.v hT.out.h7 hu]; rfl
        · rw [if_neg e, if_neg (by simpa using e)]
      have D1 := Lib.hid (D.out.store (i := u) 0)
      rw [HM.out] at D1
      clear D HM
      go_wp2
      obtain ⟨wz, hwz⟩ : ∃ wz, wz = wr.setCell ⟨G, u, none⟩ (.int .i64 0) := ⟨_, rfl⟩
      rw [← hwz] at D1 ⊢
      have hlit := World.ownsRow_lit (base := G + 1) (e := 3) (size := 1) wz #[.int .i64 (u : Int)] 1 (by have := (D1.out.own.lt G rfl).2; omega) (by unfold maxLen; omega) rfl
      have A0 : Hid (Aw w (wz.alloc (.cells #[.int .i64 (u : Int)] 3)) G G k (metL E u [u]) wz.heap.size 1 1 [u]) :=
        ⟨⟨D1.out.own.alloc _, D1.out.below.alloc (by have := (D1.out.own.lt G rfl).2; omega) _, Nat.le_refl _⟩, hlit, rfl⟩
      have S0 : Hid (Seek k E u 0 [u]) := seek_one hu
      have hzz : wz.heap.size = wr.heap.size := by rw [hwz]; simp
      rw [hzz] at A0
      obtain ⟨g0, hg0⟩ : ∃ g0, g0 = wr.heap.size := ⟨_, rfl⟩
      rw [← hg0] at A0 ⊢
      obtain ⟨w2, hw2⟩ : ∃ w2, w2 = wz.alloc (.cells #[.int .i64 (u : Int)] 3) := ⟨_, rfl⟩
      rw [← hw2] at A0 ⊢
      clear hcell hfr D1 hlit hwz hg0 hw2 hzz
      go_loopw [9, 10, 11, 12] (fun ll ii nn kk wr2 => ∃ (i g m c : Nat) (L : List Nat), ll = .slice (some ⟨g, 0, none⟩) m c ∧ ii = .int .i64 (i : Int) ∧ i ≤ m ∧ Hid (Seek k E u i L) ∧ Hid (Aw w wr2 G G k (metL E u L) g m c L)) (fun _ ii _ _ _ => k - (intOf ii).toNat)
      case atStart => exact ⟨0, g0, 1, 1, [u], rfl, rfl, by omega, S0, A0⟩
      case round =>
        clear A0 S0
        obtain ⟨i, g, m, c, L, rfl, rfl, him, S, A⟩ := hrel
        have hmk : m ≤ k := by have := seek_len S.out; rw [A.out.len] at this; exact this
        by_cases him2 : i < m
        · have b2 : (i : Int) < (m : Int) := by omega
          have hiL : i < L.length := by rw [A.out.len]; exact him2
          obtain ⟨a, ha⟩ : ∃ a, a = L[i] := ⟨_, rfl⟩
          have hLi : L[i]? = some a := by rw [List.getElem?_eq_getElem hiL, ha]
          have haL : a ∈ L := List.mem_of_getElem? hLi
          have hak := S.out.lt a haL
          have c1 := (A.out.lst.cellAt i (by omega)).trans (ints_get L i hLi)
          have CB1 := Lib.hid (CB.out a wr A.out.out.below)
          have hnb := intsB_len (nb E a)
          have h12 := hT.out.nb12 a
          obtain ⟨mm, hmm⟩ : ∃ mm, mm = (nb E a).length := ⟨_, rfl⟩
          have HMM := Lib.hid hmm
          rw [← hmm] at hnb h12
          obtain ⟨N0, hN0⟩ : ∃ N0, N0 = wr.heap.size := ⟨_, rfl⟩
          have HG0 := Lib.hid A.out.gne
          rw [← hN0] at HG0 CB1
          have HN0 := Lib.hid hN0
          have HLI : Hid (L[i]? = some a) := hLi
          have S1 : Hid (Seek k E u i L ∧ i < L.length) := ⟨S.out, hiL⟩
          clear ha hLi haL hmm hN0 S hiL
          go_wp2_with fail
          refine CB1.out.mono ?_
          rintro e w3 ⟨y, rfl, hy, hb3⟩
          obtain ⟨ay, cy, rfl, _⟩ := hy.slice
          rw [hnb] at hy ⊢
          obtain ⟨N1, hN1⟩ : ∃ N1, N1 = w3.heap.size := ⟨_, rfl⟩
          rw [← hN1] at hy
          have Y0 : Hid (Own w3 N0 N1 3 (.slice ay mm cy) (iv (intsB (nb E a))) ∧ N1 ≤ w3.heap.size ∧ (g < N0 ∨ N1 ≤ g)) := ⟨hy, by omega, .inl HG0.out.2.1⟩
          have A3 : Hid (Aw w w3 G G k (metL E u L) g m c L) := A.out.below A.out.base (by rw [← HN0.out]; exact hb3)
          have HN1 : Hid (N0 ≤ N1) := by show _ ≤ _; rw [hN1, HN0.out]; exact hb3.size
          clear hy hb3 hN1 CB1 A c1 hnb
          go_wp2
          go_loopw [9, 12] (fun ll kk wi => ∃ (j g m c : Nat) (L : List Nat), ll = .slice (some ⟨g, 0, none⟩) m c ∧ kk = .int .i64 (j : Int) ∧ j ≤ mm ∧ Hid (L[i]? = some a) ∧ Hid (Seek k E u i L ∧ i < L.length) ∧ Hid (∀ b ∈ (nb E a).take j, b ∈ L) ∧ Hid (Aw w wi G G k (metL E u L) g m c L) ∧ Hid (Own wi N0 N1 3 (.slice ay mm cy) (iv (intsB (nb E a))) ∧ N1 ≤ wi.heap.size ∧ (g < N0 ∨ N1 ≤ g))) (fun _ kk _ => mm - (intOf kk).toNat)
          case atStart => exact ⟨0, g, m, c, L, rfl, rfl, Nat.zero_le _, HLI, S1, (fun b hb => by simp at hb), A3, Y0⟩
          case round =>
            clear A3 S1 Y0 HLI hmk him him2 b2
            obtain ⟨j, g, m, c, L, rfl, rfl, hj, HL, S, HK, A, Y⟩ := hrel
            have hmk : m ≤ k := by have := seek_len S.out.1; rw [A.out.len] at this; exact this
            have him : i < m := by have := S.out.2; rw [A.out.len] at this; exact this
            by_cases hlt : j < mm
            · have b3 : (j : Int) < (mm : Int) := by omega
              have hjn : j < (nb E a).length := by rw [← HMM.out]; exact hlt
              obtain ⟨gy, rfl, hgy0, hgy1, c0, _⟩ := Y.out.1.at_ j (by rw [intsB_len]; exact hjn)
              have e1 : (iv (intsB (nb E a)))[j]? = some (.int .i64 (((nb E a)[j] : Nat) : Int)) := by simp [iv, intsB, hjn]
              rw [e1] at c0
              have HNB : Hid ((iv (intsB (nb E a)))[j]? = some (.int .i64 (((nb E a)[j] : Nat) : Int))) := e1
              have hmem := List.getElem_mem hjn
              have HT2 : Hid ((nb E a).take (j + 1) = (nb E a).take j ++ [(nb E a)[j]]) := List.take_succ_eq_append_getElem hjn
              obtain ⟨x, hx⟩ : ∃ x, x = (nb E a)[j] := ⟨_, rfl⟩
              rw [← hx] at c0 hmem HT2 HNB
              have hxk : x < k := (adj_lt hT.out.v (mem_nb.1 hmem)).2
              have haL := List.mem_of_getElem? HL.out
              have d1 := (A.out.lst.cellAt i (by omega)).trans (ints_get L i HL.out)
              have da := (A.out.out.own.cellAt a (by omega)).trans (rowF_at (metL E u L) hak)
              have dx := (A.out.out.own.cellAt x (by omega)).trans (rowF_at (metL E u L) hxk)
              have ema : metL E u L a = (dst E u a : Int) := if_pos haL
              rw [ema] at da
              have hd6 := dst_le hT.out.v hT.out.h7 hu hak
              have g1 : (x : Int) < (k : Int) := by omega
              have g2 : (a : Int) < (k : Int) := by omega
              have g3 : (i : Int) < (m : Int) := by omega
              by_cases hxL : x ∈ L
              · have emx : metL E u L x = (dst E u x : Int) := if_pos hxL
                rw [emx] at dx
                have HK2 : Hid (∀ b ∈ (nb E a).take (j + 1), b ∈ L) := fun b hb => by
                  rw [HT2.out] at hb
                  rcases List.mem_append.1 hb with hb | hb
                  · exact HK.out b hb
                  · simp only [List.mem_singleton] at hb; subst hb; exact hxL
                obtain ⟨q, hq⟩ : ∃ q, q = dst E u x := ⟨_, rfl⟩
                rw [← hq] at dx
                clear hx hmem HT2 e1 hjn hxL hq ema emx da d1 HK haL
                go_wp2
                go_roundw
                case rel => exact ⟨j + 1, g, m, c, L, rfl, by go_num, by omega, HL, S, HK2, A, Y⟩
                case measure => simp [intOf]; omega
              · have emx : metL E u L x = -1 := if_neg hxL
                rw [emx] at dx
                have hfr := A.out.out.own.frozenAt x
                obtain ⟨SA, SD⟩ := seek_add hT.out.v hT.out.h7 hu S.out.1 (by have := S.out.2; omega) haL hmem hxL
                have A1 := A.out.drew.store x ((dst E u a : Int) + 1)
                rw [metL_add hxL SD] at A1
                have A1 := Lib.hid A1
                have SA := Lib.hid SA
                have HL2 : Hid ((L ++ [x])[i]? = some a) := by show _ = _; rw [List.getElem?_append_left S.out.2]; exact HL.out
                have HK2 : Hid (∀ b ∈ (nb E a).take (j + 1), b ∈ L ++ [x]) := fun b hb => by
                  rw [HT2.out] at hb
                  rcases List.mem_append.1 hb with hb | hb
                  · exact List.mem_append_left _ (HK.out b hb)
                  · exact List.mem_append_right _ hb
                have S2 : Hid (i < (L ++ [x]).length) := by show _ < _; rw [List.length_append]; have := S.out.2; omega
                have hgG := A.out.gne
                have Y1 : Hid (Own (wr.drew.setCell ⟨G, x, none⟩ (.int .i64 ((dst E u a : Int) + 1))) N0 N1 3 (.slice (some ⟨gy, 0, none⟩) mm cy) (iv (intsB (nb E a)))) :=
                  ⟨own_of_blocks Y.out.1.1 fun q hq => Below.heap_setCell wr.drew _ _ _ (by have h1 := (Y.out.1.1.lt q hq).1; have h2 := HG0.out.2.2; show q ≠ G; omega), Y.out.1.2⟩
                have Y2 : Hid (N1 ≤ wr.heap.size ∧ (g < N0 ∨ N1 ≤ g) ∧ N0 ≤ gy ∧ gy < N1) := ⟨Y.out.2.1, Y.out.2.2, by have := (Y.out.1.1.lt gy rfl).1; exact this, by have := Y.out.1.2 gy rfl; exact this⟩
                obtain ⟨q, hq⟩ : ∃ q, q = dst E u a := ⟨_, rfl⟩
                rw [← hq] at da hd6 A1 Y1
                have ew : IntKind.i64.wrap ((q : Int) + 1) = (q : Int) + 1 := by rw [IntKind.wrap_i64]; omega
                clear hx HT2 e1 hjn hq ema emx HK haL SD hgG hmem hxL S A Y HL
                go_wp2
                go_still_tail 14, (by kernel_rfl)
                change wpList _ _ _ _ _ wr.drew
                go_upto_region 17 with fail
                obtain ⟨w6, hw6⟩ : ∃ w6, w6 = (wr.drew).setCell ⟨G, x, none⟩ (.int .i64 ((q : Int) + 1)) := ⟨_, rfl⟩
                have hw6' : (wr.setCell ⟨G, x, none⟩ (.int .i64 ((q : Int) + 1))).drew = w6 := hw6.symm
                have hz6 : w6.heap.size = wr.heap.size := by
                  rw [hw6]
                  have : (wr.drew.setCell ⟨G, x, none⟩ (.int .i64 ((q : Int) + 1))).heap.size = wr.drew.heap.size := by simp
                  exact this
                rw [← hw6] at A1 Y1
                rw [hw6']
                have Y3 : Hid (N1 ≤ w6.heap.size ∧ (g < N0 ∨ N1 ≤ g) ∧ N0 ≤ gy ∧ gy < N1) := by
                  show _ ∧ _
                  rw [hz6]; exact Y2.out
                obtain ⟨gy', e2, _, _, c0', _⟩ := Y1.out.at_ j (by rw [intsB_len, ← HMM.out]; exact hlt)
                simp only [Option.some.injEq, Addr.mk.injEq] at e2
                obtain ⟨rfl, _, _⟩ := e2
                rw [HNB.out] at c0'
                have AL := Lib.hid A1.out.lst
                have y1 : m + 1 ≤ maxLen := by unfold maxLen; omega
                have y2 : (m + 1) * 8 ≤ 140737488355328 := by omega
                have Z3 := Lib.hid (show ∀ o : Obj, G + 1 ≤ (w6.alloc o).heap.size by intro o; rw [World.size_alloc]; have := A1.out.gne; omega)
                have Z4 := Lib.hid (show ∀ o : Obj, (w6.alloc o).heap.size = w6.heap.size + 1 by intro o; simp)
                clear hw6 hw6' hz6 Y2 dx da d1 hfr c0
                go_wp2_with (at_builtin; refine wpList_append_lies _ rfl (.tmp 69) (.tmp 74) 29 rfl (G + 1) 3 i0 (.int .i64 0) 1 8 Try.underlying29 hi hz0 hz1 hz2 rfl (by decide) _ m (ints L) rfl (AL.out.alloc _) ⟨w6.heap.size, 0, none⟩ 1 1 [_] rfl rfl (cell_one_new _ _ _) (one_intR _) (by decide) y1 y2 (Z3.out _) (w6.heap.size + 1) (Z4.out _) ?_)
                intro g5 c5 w7 hv5 hg5 hgs5 _
                have A7 : Hid (Aw w w7 G G k (metL E u (L ++ [x])) g5 (m + 1) c5 (L ++ [x])) := by
                  have A1' := A1.out
                  exact A1'.app hv5 hg5
                have Y7 : Hid (Own w7 N0 N1 3 (.slice (some ⟨gy, 0, none⟩) mm cy) (iv (intsB (nb E a))) ∧ N1 ≤ w7.heap.size ∧ (g5 < N0 ∨ N1 ≤ g5)) := by
                  refine ⟨Own.grown (Y1.out.alloc _) hg5 (.inr ?_), ?_, ?_⟩
                  · intro e
                    have e1 : gy = g := by simpa [Value.ownBlock] using e
                    have := Y3.out; omega
                  · have h1 := hg5.size
                    rw [World.size_alloc] at h1
                    have := Y3.out.1; omega
                  · rcases hgs5 with e | e
                    · have e1 : g = g5 := by simpa [Value.ownBlock] using e
                      have := Y3.out; omega
                    · have := Y3.out.1; omega
                clear hv5 hg5 hgs5 AL Z3 Z4 A1 Y1 Y3 c0'
                go_wp2
                go_roundw
                case rel => exact ⟨j + 1, g5, m + 1, c5, L ++ [x], rfl, by go_num, by omega, HL2, ⟨SA.out, S2.out⟩, HK2, A7, Y7⟩
                case measure => simp [intOf]; omega
            · obtain rfl : j = mm := by omega
              have S2 : Hid (Seek k E u (i + 1) L) := seek_next S.out.1 S.out.2 fun b hb => by
                have e : L[i]'S.out.2 = a := by
                  have := HL.out
                  rw [List.getElem?_eq_getElem S.out.2] at this
                  exact Option.some.inj this
                rw [e] at hb
                refine HK.out b ?_
                rw [HMM.out, List.take_length]
                exact hb
              clear HK HL Y S
              go_wp2
              go_roundw
              case rel => exact ⟨i + 1, g, m, c, L, rfl, by go_num, by omega, S2, A⟩
              case measure => simp [intOf]; omega
        · obtain rfl : i = m := by omega
          have HE : Hid (rowF k (metL E u L) = rowF k fun i => (dst E u i : Int)) := by
            show _ = _
            unfold rowF
            congr 1
            refine List.map_congr_left fun x hx => if_pos ?_
            have hs := S.out
            rw [← A.out.len] at hs
            exact seek_end hT.out.v hu hs x (List.mem_range.1 hx)
          go_wp2
          go_ret
          refine ⟨_, rfl, ⟨?_, fun q hq => (A.out.out.own.lt q hq).2⟩, by rw [← HGe.out]; exact A.out.out.below⟩
          rw [← HE.out, rowF_length, ← HGe.out]
          exact A.out.out.own
end Go.Proofs.Ytmpppocmbdainaa

namespace Go.Proofs.Ytmpppocmbdainaa
open Go.RowKit

def waysP (E : Edges) (k : Nat) : Nat := ((List.range k).map fun v => ((List.range v).map (dst E v)).sum).sum
def waysQ (E : Edges) (v i : Nat) : Nat := ((List.range i).map (dst E v)).sum
theorem waysP_next (E : Edges) (k : Nat) : waysP E (k + 1) = waysP E k + waysQ E k k := by unfold waysP waysQ; rw [List.range_succ, List.map_append, List.sum_append]; simp
theorem waysQ_next (E : Edges) (v i : Nat) : waysQ E v (i + 1) = waysQ E v i + dst E v i := by unfold waysQ; rw [List.range_succ, List.map_append, List.sum_append]; simp
theorem waysQ_le {n : Nat} {E : Edges} (h : ValidT n E) (h7 : n ≤ 7) {v : Nat} (hv : v < n) : ∀ i, i ≤ n → waysQ E v i ≤ 6 * i := by
  intro i
  induction i with
  | zero => intro _; exact Nat.le_refl _
  | succ i ih =>
    intro hi
    rw [waysQ_next]
    have := ih (by omega)
    have := dst_le h h7 hv (i := i) (by omega)
    omega
theorem waysP_le {n : Nat} {E : Edges} (h : ValidT n E) (h7 : n ≤ 7) : ∀ k, k ≤ n → waysP E k ≤ 42 * k := by
  intro k
  induction k with
  | zero => intro _; exact Nat.le_refl _
  | succ k ih =>
    intro hk
    rw [waysP_next]
    have := ih (by omega)
    have := waysQ_le h h7 (v := k) (by omega) k (by omega)
    omega
set_option maxRecDepth 100000 in
set_option maxHeartbeats 3200000 in
theorem specWaysOf_any : TreeFn 29 (treeV waysN) := by
  intro n rows v RV w B0 H0 hG hH hrl _ _
  have CV := Lib.hid (validTree_any n rows v RV w hG hH hrl)
  obtain ⟨av, cv, rfl⟩ : ∃ a c, v = .slice a RV.length c := by
    obtain ⟨a, c, h, _⟩ := hG.out.1.slice; exact ⟨a, c, h⟩
  cases ht : treeB n rows with
  | true =>
    rw [treeV, if_pos ht]
    obtain ⟨h1, h2⟩ := rowsE_tree ht
    obtain ⟨N, rfl⟩ : ∃ N : Nat, n = N := ⟨n.toNat, by have := (treeB_iff.1 ht).1; omega⟩
    rw [Int.toNat_natCast] at h2 ⊢
    have h7 := h2.h7
    have CA := Lib.hid (fun (u : Nat) (hu : u < N) (W : World) (hW : Below w.heap.size w W) => awayM_any N (edgesR rows) h2 u hu (.slice av RV.length cv) RV W (Lib.hid (by rw [← h1]; exact hG.out.below (hW.mono hH))) (Nat.le_trans hH hW.size))
    rw [ht] at CV
    obtain ⟨E, hE⟩ : ∃ E, E = edgesR rows := ⟨_, rfl⟩
    rw [← hE] at CA h2 ⊢
    have LP := Lib.hid (waysP_le h2.v h2.h7)
    have LQ := Lib.hid (fun (v : Nat) (hv : v < N) => waysQ_le h2.v h2.h7 hv)
    have LD := Lib.hid (fun (v i : Nat) (hv : v < N) (hi : i < N) => dst_le h2.v h2.h7 hv hi)
    have HR : Hid (waysN N E = waysP E N) := rfl
    obtain ⟨R, hR⟩ : ∃ R, R = waysN N E := ⟨_, rfl⟩
    rw [← hR] at HR ⊢
    have P0 : Hid (0 = waysP E 0) := rfl
    clear hG hH hrl h1 h2 ht hE hR
    go_enter Try.func29, Try.ntmps29
    go_wp2_with fail
    refine CV.out.mono ?_
    rintro e w1 ⟨rfl, hb1⟩
    have HB1 := Lib.hid hb1
    clear hb1 CV
    go_wp2_with fail
    go_loopw [5, 6, 7, 8] (fun oo vv ll ii wr => ∃ k z : Nat, k ≤ N ∧ vv = .int .i64 (k : Int) ∧ oo = .int .i64 (z : Int) ∧ Hid (z = waysP E k) ∧ Hid (Below w.heap.size w wr)) (fun _ vv _ _ _ => N - (intOf vv).toNat)
    case atStart => exact ⟨0, 0, Nat.zero_le _, rfl, rfl, P0.out, HB1.out⟩
    case round =>
      clear P0 HB1
      obtain ⟨k, z, hk, rfl, rfl, HZ, HB⟩ := hrel
      by_cases hlt : k < N
      · have b1 : (k : Int) < (N : Int) := by omega
        have CA1 := Lib.hid (CA.out k hlt wr HB.out)
        have hz := LP.out k hk
        rw [← HZ.out] at hz
        have PN := Lib.hid (waysP_next E k)
        rw [← HZ.out] at PN
        clear HZ CA
        go_wp2_with fail
        refine CA1.out.mono ?_
        rintro e w2 ⟨y, rfl, hy, hb2⟩
        obtain ⟨ay, cy, rfl, _⟩ := hy.slice
        rw [rowF_length] at hy ⊢
        have HY := Lib.hid hy
        have HB2 : Hid (Below w.heap.size w w2) := HB.out.trans (hb2.mono HB.out.size)
        have Q0 : Hid (z = z + waysQ E k 0) := rfl
        clear hy hb2 CA1 HB
        go_wp2_with fail
        go_loopw [5, 8] (fun oo ii wi => ∃ i y : Nat, i ≤ k ∧ ii = .int .i64 (i : Int) ∧ oo = .int .i64 (y : Int) ∧ Hid (y = z + waysQ E k i) ∧ Hid (wi = w2)) (fun _ ii _ => k - (intOf ii).toNat)
        case atStart => exact ⟨0, z, Nat.zero_le _, rfl, rfl, Q0.out, rfl⟩
        case round =>
          clear Q0
          obtain ⟨i, y, hi, rfl, rfl, HQ, HW⟩ := hrel
          by_cases hil : i < k
          · have b2 : (i : Int) < (k : Int) := by omega
            obtain ⟨g, rfl, _, hgl, c0, _⟩ := HY.out.at_ i (by rw [rowF_length]; omega)
            rw [rowF_at _ (by omega : i < N), ← HW.out] at c0
            have h1 := LQ.out k hlt i (by omega)
            have h2 := LD.out k i hlt (by omega)
            have h3 := HQ.out
            have QN := waysQ_next E k i
            obtain ⟨d, hd⟩ : ∃ d, d = dst E k i := ⟨_, rfl⟩
            rw [← hd] at c0 h2 QN
            have HQ2 : Hid (y + d = z + waysQ E k (i + 1)) := by show _ = _; omega
            have ew : IntKind.i64.wrap ((y : Int) + (d : Int)) = ((y + d : Nat) : Int) := by rw [IntKind.wrap_i64]; omega
            have b3 : (i : Int) < (N : Int) := by omega
            clear hd h1 h3 QN HQ
            go_wp2
            go_roundw
            case rel => exact ⟨i + 1, y + d, by omega, by go_num, by first | rfl | rw [ew], HQ2, HW⟩
            case measure => simp [intOf]; omega
          · obtain rfl : i = k := by omega
            have HZ2 : Hid (y = waysP E (i + 1)) := by show _ = _; rw [PN.out, HQ.out]
            have BF : Hid (Below w.heap.size w wr) := by rw [HW.out]; exact HB2
            clear HQ PN HW
            go_wp2
            go_roundw
            case rel => exact ⟨i + 1, y, by omega, by go_num, rfl, HZ2, BF⟩
            case measure => simp [intOf]; omega
      · obtain rfl : k = N := by omega
        have hF : Hid (z = R) := by show _ = _; rw [HZ.out, HR.out]
        clear HZ
        go_wp2
        go_ret
        exact ⟨(by rw [hF.out]; rfl), HB.out⟩
  | false =>
    rw [treeV, if_neg (by rw [ht]; decide)]
    rw [ht] at CV
    clear hG hH hrl ht
    go_enter Try.func29, Try.ntmps29
    go_wp2_with fail
    refine CV.out.mono ?_
    rintro e w1 ⟨rfl, hb1⟩
    have HB1 := Lib.hid hb1
    clear hb1 CV
    go_wp2
    go_ret
    exact ⟨rfl, HB1.out⟩
end Go.Proofs.Ytmpppocmbdainaa

namespace Go.Proofs.Ytmpppocmbdainaa
open Go.RowKit

/-- values that can be read, from an address on -/
def RdV (w : World) (H : Nat) (a : Option Addr) (VS : List Value) : Prop := ∀ (j : Nat) (u : Value), VS[j]? = some u → ∃ b off, a = some ⟨b, off, none⟩ ∧ b < H ∧ w.cell? ⟨b, off + j, none⟩ = some u
theorem RdV.below {w w' : World} {H : Nat} {a : Option Addr} {VS : List Value} (h : RdV w H a VS) (hb : Below H w w') : RdV w' H a VS := fun j u hu => by
  obtain ⟨b, off, h1, h2, h3⟩ := h j u hu
  exact ⟨b, off, h1, h2, (hb.cell (p := ⟨b, off + j, none⟩) h2).trans h3⟩
theorem RdV.of {w : World} {B H : Nat} {t : TypeId} {v : Value} {VS : List Value} (h : Own w B H t v VS) {a : Option Addr} {n c : Nat} (hv : v = .slice a n c) : RdV w H a VS := fun j u hu => by
  have hj := (List.getElem?_eq_some_iff.1 hu).1
  obtain ⟨g, cap, e, _, h2, c1, _⟩ := h.cell j hj
  rw [hv] at e
  simp only [Value.slice.injEq] at e
  exact ⟨g, 0, e.1, h2, by rw [Nat.zero_add, c1]; exact hu⟩
theorem RdV.take {w : World} {H : Nat} {a : Option Addr} {VS : List Value} (h : RdV w H a VS) (k : Nat) : RdV w H a (VS.take k) := fun j u hu => by
  rw [List.getElem?_take] at hu
  split at hu
  · exact h j u hu
  · cases hu
theorem RdV.drop {w : World} {H b off : Nat} {VS : List Value} (h : RdV w H (some ⟨b, off, none⟩) VS) (k : Nat) : RdV w H (some ⟨b, off + k, none⟩) (VS.drop k) := fun j u hu => by
  rw [List.getElem?_drop] at hu
  obtain ⟨b', off', e, h2, h3⟩ := h (k + j) u hu
  simp only [Option.some.injEq, Addr.mk.injEq] at e
  obtain ⟨rfl, rfl, _⟩ := e
  exact ⟨b, off + k, rfl, h2, by rw [Nat.add_assoc]; exact h3⟩
theorem own_formV {w : World} {base n : Nat} {e : TypeId} {v : Value} {xs : List Value} (h : w.ownsRow base e 1 v n xs) : ∃ av nv cv, v = .slice av nv cv := by
  rcases h.2 with ⟨rfl, _⟩ | ⟨g, cap, cur, rfl, _⟩
  · exact ⟨_, _, _, rfl⟩
  · exact ⟨_, _, _, rfl⟩
theorem step_append_rv {ops : Array Oper} {o : Oper} {a : Act} {w : World} {K : Act → World → Prop} {Q : Exit → Act → World → Prop} {F : Prop} (hgd : o.guard = none) (s x : Operand)
    (ho : o.op = .call { callee := .builtin .append, args := #[s, x], argTypes := #[23, 23] })
    (base : Nat) (v : Value) (n : Nat) (xs : List Value) (hs : a.eval s = v) (hown : w.ownsRow base 29 1 v n xs) (ao : Option Addr) (m c : Nat) (hx : a.eval x = .slice ao m c) (news : List Value) {H : Nat} (hl : news.length = m) (hR : RdV w H ao news)
    (h1 : ∀ u ∈ news, u.oneCell' = true) (hn : n ≤ 1000) (hm : m ≤ 1000) (hbase : base ≤ w.heap.size)
    (h : ∀ av nv cv w', w'.ownsRow base 29 1 (.slice av nv cv) (n + m) (xs ++ news) → w.grownBy w' v.ownBlock → K (a.put o.dst (.slice av nv cv)) w') :
    if Region.wanted o (yielded ops a.tmps) = true then Oper.wp Try.prog o a w K Q else F := by
  obtain ⟨j0, hj, hy0, hy1, hy2⟩ := info_parts Try.infoRowR
  rcases Nat.eq_zero_or_pos m with h0 | h0
  · subst h0
    obtain rfl : news = [] := List.eq_nil_of_length_eq_zero hl
    have hw : Region.wanted o (yielded ops a.tmps) = true := by simp [Region.wanted, hgd]
    rw [if_pos hw]
    have hrun := run_append_zero (P := Try.prog) (w := w) base 23 o.type 29 j0 1 Try.underlying23 hj v n xs hown ao c
    obtain ⟨av, nv, cv, rfl⟩ := own_formV hown
    unfold Oper.wp
    simp [execOp, ho, resolve, invoke, builtin, hs, hx, hrun, Result.andThen]
    refine h av nv cv w ?_ ⟨rfl, rfl, rfl, Nat.le_refl _, fun _ _ _ => rfl⟩
    rw [List.append_nil, Nat.add_zero]
    exact hown
  · obtain ⟨b, off, rfl, _, _⟩ := hR 0 _ (List.getElem?_eq_getElem (by omega))
    refine step_append_lies w hgd s x 23 ho base 29 j0 (.slice none 0 0) 1 24 Try.underlying23 hj hy0 hy1 hy2 rfl (by decide) v n xs hs hown ⟨b, off, none⟩ m c news hx (by omega) (fun j u hu => ?_) h1 h0 (by unfold maxLen; omega) (by omega) hbase _ rfl (fun g cap w' h1 h2 _ _ => h _ _ _ w' h1 h2)
    obtain ⟨b', off', e, _, h3⟩ := hR j u hu
    simp only [Option.some.injEq, Addr.mk.injEq] at e
    obtain ⟨rfl, rfl, _⟩ := e
    rw [Addr.add_lit]
    exact h3
theorem RowsI.takeV {w : World} {B H : Nat} {RV : List Value} {rows : List (List Int)} (h : RowsI w B H RV rows) (k : Nat) : RowsI w B H (RV.take k) (rows.take k) := by
  refine ⟨by rw [List.length_take, List.length_take, h.1], fun i v r h1 h2 => ?_⟩
  rw [List.getElem?_take] at h1 h2
  split at h1
  · next hik => rw [if_pos hik] at h2; exact h.2 i v r h1 h2
  · cases h1
theorem RowsI.dropV {w : World} {B H : Nat} {RV : List Value} {rows : List (List Int)} (h : RowsI w B H RV rows) (k : Nat) : RowsI w B H (RV.drop k) (rows.drop k) := by
  refine ⟨by rw [List.length_drop, List.length_drop, h.1], fun i v r h1 h2 => ?_⟩
  rw [List.getElem?_drop] at h1 h2
  exact h.2 _ v r h1 h2
theorem rowsE_rest (E : Edges) (k : Nat) : rowsE (restE E k) = (rowsE E).take k ++ (rowsE E).drop (k + 1) := by unfold rowsE restE; rw [List.map_append, List.map_take, List.map_drop]
def edgP (n : Nat) (E : Edges) (k : Nat) : Nat := ((List.range k).map fun k => (reachedN n (restE E k)).length * (n - (reachedN n (restE E k)).length)).sum
theorem edgP_next (n : Nat) (E : Edges) (k : Nat) : edgP n E (k + 1) = edgP n E k + (reachedN n (restE E k)).length * (n - (reachedN n (restE E k)).length) := by unfold edgP; rw [List.range_succ, List.map_append, List.sum_append]; simp
theorem edgP_le {n : Nat} {E : Edges} (h7 : n ≤ 7) (hr : ∀ k, (reachedN n (restE E k)).length ≤ n) : ∀ k, edgP n E k ≤ 49 * k := by
  intro k
  induction k with
  | zero => exact Nat.le_refl _
  | succ k ih =>
    rw [edgP_next]
    have h1 := hr k
    have h2 : (reachedN n (restE E k)).length * (n - (reachedN n (restE E k)).length) ≤ 7 * 7 := Nat.mul_le_mul (by omega) (by omega)
    omega
set_option maxRecDepth 100000 in
set_option maxHeartbeats 3200000 in
theorem specWaysByEdges_any : TreeFn 32 (treeV edgN) := by
  intro n rows v RV w B0 H0 hG hH hrl _ _
  have CV := Lib.hid (validTree_any n rows v RV w hG hH hrl)
  obtain ⟨av, cv, rfl, _, hcv, _, _⟩ := hG.out.1.slice
  cases ht : treeB n rows with
  | true =>
    rw [treeV, if_pos ht]
    obtain ⟨h1, h2⟩ := rowsE_tree ht
    obtain ⟨N, rfl⟩ : ∃ N : Nat, n = N := ⟨n.toNat, by have := (treeB_iff.1 ht).1; omega⟩
    rw [Int.toNat_natCast] at h2 ⊢
    have h7 := h2.h7
    rw [ht] at CV
    obtain ⟨E, hE⟩ : ∃ E, E = edgesR rows := ⟨_, rfl⟩
    rw [← hE] at h1 h2 ⊢
    subst h1
    have hRl : RV.length = E.length := by rw [hG.out.2.1, rowsE_len]
    have hel := h2.len
    have hn0 : 0 < N := by have := h2.v.len; omega
    have HEN : Hid (E.length + 1 = N) := h2.v.len
    have HORD : Hid (∀ e ∈ E, e.1 < N ∧ e.2 < N) := fun e he => by have := h2.v.ord e he; omega
    have HRD : Hid (∀ k, (reachedN N (restE E k)).length ≤ N) := fun k => bfs_len hn0 fun e he => HORD.out e (by
      unfold restE at he
      rcases List.mem_append.1 he with he | he
      · exact List.mem_of_mem_take he
      · exact List.mem_of_mem_drop he)
    have LP := Lib.hid (edgP_le h7 HRD.out)
    have HR : Hid (edgN N E = edgP N E E.length) := rfl
    obtain ⟨R, hR⟩ : ∃ R, R = edgN N E := ⟨_, rfl⟩
    rw [← hR] at HR ⊢
    have P0 : Hid (0 = edgP N E 0) := rfl
    have ONE := Lib.hid (rows_one hG.out.2)
    obtain ⟨M, hM⟩ : ∃ M, M = E.length := ⟨_, rfl⟩
    have HM := Lib.hid hM
    have HRV : Hid (RV.length = M) := by show _ = _; rw [hRl, hM]
    rw [hRl, ← hM] at hcv CV ⊢
    rw [← hM] at hel HR
    have HFR : Hid (∀ (W W2 : World) (a : Option Addr) (nv c : Nat) (k : Nat), k < M → Below w.heap.size w W → Below W.heap.size W W2 → W2.ownsRow W.heap.size 29 1 (.slice a nv c) (k + (M - (k + 1))) (RV.take k ++ RV.drop (k + 1)) →
        Grid W2 B0 W2.heap.size (.slice a nv c) (RV.take k ++ RV.drop (k + 1)) (rowsE (restE E k))) := fun W W2 a nv c k hk hW hW2 ho => by
      have hb : B0 ≤ W.heap.size := by
        obtain ⟨gb, _, _, h3, h4, _⟩ := hG.out.1.cell 0 (by rw [hRl, ← hM]; omega)
        have := hW.size
        omega
      have hlen : (RV.take k ++ RV.drop (k + 1)).length = k + (M - (k + 1)) := by rw [List.length_append, List.length_take, List.length_drop, hRl, ← hM]; omega
      refine ⟨own_lo (Own.of_own (by rw [hlen]; exact ho)) hb, ?_⟩
      rw [rowsE_rest]
      have hr := (hG.out.2.below (hW.mono hH)).below (hW2.mono (Nat.le_trans hH hW.size))
      exact ((hr.takeV k).append (hr.dropV (k + 1))).more (by have := hW.size; have := hW2.size; omega)
    have RS := Lib.hid (RdV.of hG.out.1 (a := av) (n := M) (c := cv) (by rw [hRl, hM]))
    have HH : Hid (H0 ≤ w.heap.size) := hH
    clear hG hH hrl h2 ht hE hR hM hRl
    go_enter Try.func32, Try.ntmps32
    go_wp2_with fail
    refine CV.out.mono ?_
    rintro e w1 ⟨rfl, hb1⟩
    have HB1 := Lib.hid hb1
    clear hb1 CV
    go_wp2_with fail
    go_loopw [5, 6, 7, 8] (fun oo kk rr aa wr => ∃ k z : Nat, k ≤ M ∧ kk = .int .i64 (k : Int) ∧ oo = .int .i64 (z : Int) ∧ Hid (z = edgP N E k) ∧ Hid (Below w.heap.size w wr)) (fun _ kk _ _ _ => M - (intOf kk).toNat)
    case atStart => exact ⟨0, 0, Nat.zero_le _, rfl, rfl, P0.out, HB1.out⟩
    case round =>
      clear P0 HB1
      obtain ⟨k, z, hk, rfl, rfl, HZ, HB⟩ := hrel
      by_cases hlt : k < M
      · have b1 : (k : Int) < (M : Int) := by omega
        have hz := LP.out k
        rw [← HZ.out] at hz
        have PN := edgP_next N E k
        rw [← HZ.out] at PN
        have hrd := HRD.out k
        have RW := RS.out.below (HB.out.mono HH.out)
        obtain ⟨gb, off, rfl, hgb, _⟩ := RW 0 _ (List.getElem?_eq_getElem (by rw [HRV.out]; omega : 0 < RV.length))
        have hgw : gb < wr.heap.size := by have := HB.out.size; have := HH.out; omega
        have HGW := Lib.hid hgw
        have RA : Hid (RdV wr wr.heap.size (some ⟨gb, off, none⟩) (RV.take k)) := fun j u hu => by
          obtain ⟨b, o, h1, _, h3⟩ := (RW.take k) j u hu
          simp only [Option.some.injEq, Addr.mk.injEq] at h1
          obtain ⟨rfl, rfl, _⟩ := h1
          exact ⟨gb, off, rfl, hgw, h3⟩
        have lA : Hid ((RV.take k).length = k) := by show _ = _; rw [List.length_take, HRV.out]; omega
        have lB : Hid ((RV.drop (k + 1)).length = M - (k + 1)) := by show _ = _; rw [List.length_drop, HRV.out]
        have RB : Hid (RdV wr wr.heap.size (if cv = k + 1 then some (Addr.mk gb off none) else some (Addr.mk gb (off + (k + 1)) none)) (RV.drop (k + 1))) := by
          by_cases e : cv = k + 1
          · have h0 : RV.drop (k + 1) = [] := List.eq_nil_of_length_eq_zero (by rw [lB.out]; omega)
            show RdV _ _ _ _
            rw [h0]
            exact fun j u hu => by simp at hu
          · show RdV _ _ _ _
            rw [if_neg e]
            intro j u hu
            obtain ⟨b, o, h1, _, h3⟩ := (RW.drop (k + 1)) j u hu
            simp only [Option.some.injEq, Addr.mk.injEq] at h1
            obtain ⟨rfl, rfl, _⟩ := h1
            exact ⟨gb, off + (k + 1), rfl, hgw, h3⟩
        have ONA : Hid (∀ u ∈ RV.take k, u.oneCell' = true) := fun u hu => ONE.out u (List.mem_of_mem_take hu)
        have ONB : Hid (∀ u ∈ RV.drop (k + 1), u.oneCell' = true) := fun u hu => ONE.out u (List.mem_of_mem_drop hu)
        have j1 : (k : Int) ≤ (cv : Int) := by omega
        have j2 : k ≤ cv := by omega
        have j3 : (k : Int) + 1 ≤ (M : Int) := by omega
        have j4 : k + 1 ≤ M := by omega
        have j5 : (0 : Int) ≤ (k : Int) + 1 := by omega
        have ewk : IntKind.i64.wrap ((k : Int) + 1) = (k : Int) + 1 := by rw [IntKind.wrap_i64]; omega
        have BW : Hid (∀ o : Obj, Below wr.heap.size wr (wr.alloc o).drew) := fun o => Below.drew ((Below.refl _ wr).alloc (Nat.le_refl _) o)
        have OL : Hid ((wr.alloc (.cells #[] 29)).drew.ownsRow wr.heap.size 29 1 (.slice (some ⟨wr.heap.size, 0, none⟩) 0 0) 0 []) := own_of_blocks (World.ownsRow_lit (base := wr.heap.size) (e := 29) (size := 1) wr #[] 0 (Nat.le_refl _) (by unfold maxLen; omega) rfl) (fun _ _ => rfl)
        have CRD := Lib.hid (fun (v : Value) (VS : List Value) (W : World) (Hh : Nat) (hg : Hid (Grid W B0 Hh v VS (rowsE (restE E k)))) (hh : Hh ≤ W.heap.size) => reached_any N (restE E k) v VS W hg hh (Lib.hid fun e he => HORD.out e (by
            unfold restE at he
            rcases List.mem_append.1 he with he | he
            · exact List.mem_of_mem_take he
            · exact List.mem_of_mem_drop he)) ⟨hn0, by omega⟩ (by
            unfold restE
            rw [List.length_append, List.length_take, List.length_drop, ← HM.out]
            omega))
        have HF := Lib.hid (fun (W2 : World) (a : Option Addr) (nv c : Nat) => HFR.out wr W2 a nv c k hlt HB.out)
        obtain ⟨q, hq⟩ : ∃ q, q = (reachedN N (restE E k)).length := ⟨_, rfl⟩
        rw [← hq] at CRD hrd PN
        have PNH := Lib.hid PN
        clear RW HZ hq PN hgb hgw
        go_wp2_with fail
        go_region_law (first
          | (refine step_append_rv (H := wr.heap.size) ?gd (.tmp 19) (.tmp 22) ?ho wr.heap.size (.slice (some ⟨wr.heap.size, 0, none⟩) 0 0) 0 [] ?hs ?own (some ⟨gb, off, none⟩) k cv ?hx (RV.take k) lA.out ?rd ONA.out ?hn ?hm ?base ?_
             case gd => rfl
             case ho => rfl
             case hs => rfl
             case hx => rfl
             case own => exact OL.out
             case rd => exact RA.out.below (BW.out _)
             case hn => exact Nat.zero_le _
             case hm => omega
             case base => exact (BW.out _).size
             intro av6 nv6 cv6 w6 hv6 hg6
             have HV6 : Hid (w6.ownsRow wr.heap.size 29 1 (.slice av6 nv6 cv6) k (RV.take k)) := by first | exact hv6 | (rw [List.nil_append, Nat.zero_add] at hv6; exact hv6)
             have HB6 : Hid (Below wr.heap.size wr w6) := (BW.out _).grown hg6 (BW.out _).size (fun q hq => by simp only [Value.ownBlock, Option.some.injEq] at hq; omega)
             clear hv6 hg6)
          | (refine step_append_rv (H := wr.heap.size) ?gd2 (.tmp 23) (.tmp 27) ?ho2 wr.heap.size (.slice av6 nv6 cv6) k (RV.take k) ?hs2 ?own2 (if cv = k + 1 then some (Addr.mk gb off none) else some (Addr.mk gb (off + (k + 1)) none)) (M - (k + 1)) (cv - (k + 1)) ?hx2 (RV.drop (k + 1)) lB.out ?rd2 ONB.out ?hn2 ?hm2 ?base2 ?_
             case gd2 => rfl
             case ho2 => rfl
             case hs2 => rfl
             case hx2 => (first | rfl | (go_simp; done))
             case own2 => exact HV6.out
             case rd2 => exact RB.out.below HB6.out
             case hn2 => omega
             case hm2 => omega
             case base2 => exact HB6.out.size
             intro av7 nv7 cv7 w7 hv7 hg7
             have HB7 : Hid (Below wr.heap.size wr w7) := HB6.out.grown hg7 HB6.out.size (fun q hq => (HV6.out.lt q hq).1)
             have HV7 := Lib.hid hv7
             clear hv7 hg7))
        all_goals
          have G7 : Hid (Grid w7 B0 w7.heap.size (.slice av7 nv7 cv7) (RV.take k ++ RV.drop (k + 1)) (rowsE (restE E k))) := HF.out w7 av7 nv7 cv7 HB7.out HV7.out
          have B7 : Hid (Below w.heap.size w w7) := HB.out.trans (HB7.out.mono HB.out.size)
          have CR1 := Lib.hid (CRD.out _ _ w7 _ G7 (Nat.le_refl _))
          have hm1 : q * (N - q) ≤ 7 * 7 := Nat.mul_le_mul (by omega) (by omega)
          have em : ((q : Int) * ((N - q : Nat) : Int)) = ((q * (N - q) : Nat) : Int) := by rw [Int.natCast_mul]
          obtain ⟨p, hp⟩ : ∃ p, p = q * (N - q) := ⟨_, rfl⟩
          rw [← hp] at em hm1 PNH
          have e1 : IntKind.i64.wrap ((N : Int) - (q : Int)) = ((N - q : Nat) : Int) := by rw [IntKind.wrap_i64]; omega
          have e2 : IntKind.i64.wrap ((q : Int) * ((N - q : Nat) : Int)) = (p : Int) := by rw [em, IntKind.wrap_i64]; omega
          have e3 : IntKind.i64.wrap ((z : Int) + (p : Int)) = ((z + p : Nat) : Int) := by rw [IntKind.wrap_i64]; omega
          have HZ2 : Hid (z + p = edgP N E (k + 1)) := PNH.out.symm
          clear HF HV7 HV6 HB6 HB7 CRD OL RA RB BW ONA ONB hp em hm1 PNH
          generalize (if cv = k + 1 then some (Addr.mk gb off none) else some (Addr.mk gb (off + (k + 1)) none)) = ad
          go_wp2_with fail
          refine CR1.out.mono ?_
          rintro e w8 ⟨g8, c8, rfl, h8⟩
          have B8 : Hid (Below w.heap.size w w8) := B7.out.trans (h8.below.mono B7.out.size)
          clear h8 CR1 G7 B7 HB
          go_wp2
          go_roundw
          case rel => exact ⟨k + 1, z + p, by omega, by go_num, by first | rfl | rw [e3], HZ2, B8⟩
          case measure => simp [intOf]; omega
      · obtain rfl : k = M := by omega
        have hF : Hid (z = R) := by show _ = _; rw [HZ.out, HR.out]
        clear HZ
        go_wp2
        go_ret
        exact ⟨(by rw [hF.out]; rfl), HB.out⟩
  | false =>
    rw [treeV, if_neg (by rw [ht]; decide)]
    rw [ht] at CV
    clear hG hH hrl ht
    go_enter Try.func32, Try.ntmps32
    go_wp2_with fail
    refine CV.out.mono ?_
    rintro e w1 ⟨rfl, hb1⟩
    have HB1 := Lib.hid hb1
    clear hb1 CV
    go_wp2
    go_ret
    exact ⟨rfl, HB1.out⟩
end Go.Proofs.Ytmpppocmbdainaa
