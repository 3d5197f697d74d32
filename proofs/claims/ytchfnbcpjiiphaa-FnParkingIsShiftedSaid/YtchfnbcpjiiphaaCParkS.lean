/-
  The contracts of the model's park and PlacesOf, of wishes.
-/
import Derived.Test.YtchfnbcpjiiphaaCWishS
import Derived.Test.YtchfnbcpjiiphaaZW
import Derived.Deep.Cut
namespace Go.Proofs.Ytchfnbcpjiiphaa
open Go.RowKit

theorem Try.infoIntQ : (Try.prog.info? 3).map (fun i => (i.zero, i.size, i.bytes)) = some (some (.int .i64 0), 1, 8) := by kernel_rfl
theorem Try.infoBoolQ : (Try.prog.info? 4).map (fun i => (i.zero, i.size, i.bytes)) = some (some (.bool false), 1, 1) := by kernel_rfl
def bw (T : List Bool) : List Value := T.map Value.bool
theorem bw_length (T : List Bool) : (bw T).length = T.length := by simp [bw]
theorem bw_at (T : List Bool) {i : Nat} (h : i < T.length) : (bw T)[i]? = some (.bool (T.getD i false)) := by simp [bw, h]
/-- the model's two rows: what is taken, the places so far -/
structure PkS (w0 w : World) (B G m : Nat) (T : List Bool) (out : Value) (k : Nat) (L : List Int) : Prop where
  tak : w.ownsRow G 4 1 (.slice (some ⟨G, 0, none⟩) m m) m (bw T)
  own : w.ownsRow (G + 1) 3 1 out k (iv L)
  below : Below B w0 w
  ge : B ≤ G
  len : T.length = m
section
variable {w0 w w' : World} {B G m k : Nat} {T : List Bool} {out out' : Value} {L : List Int}
theorem PkS.g (h : PkS w0 w B G m T out k L) : G < w.heap.size := (h.tak.lt G rfl).2
theorem PkS.cell (h : PkS w0 w B G m T out k L) {i : Nat} (hi : i < m) : w.cell? ⟨G, i, none⟩ = some (.bool (T.getD i false)) := (h.tak.cellAt i (by omega)).trans (bw_at T (by rw [h.len]; exact hi))
theorem PkS.store (h : PkS w0 w B G m T out k L) (i : Nat) : PkS w0 (w.setCell ⟨G, i, none⟩ (.bool true)) B G m (T.set i true) out k L := by
  refine ⟨?_, own_of_blocks h.own fun q hq => Below.heap_setCell w _ _ _ (by have := (h.own.lt q hq).1; show q ≠ G; omega), h.below.setCell (p := ⟨G, i, none⟩) h.ge _, h.ge, by rw [List.length_set]; exact h.len⟩
  have := (h.tak.stored i (.bool true)).1
  rw [show bw (T.set i true) = (bw T).set i (.bool true) by simp [bw, List.map_set]]
  exact this
theorem PkS.app {x : Int} (h : PkS w0 w B G m T out k L) (hv : w'.ownsRow (G + 1) 3 1 out' (k + 1) (iv L ++ [.int .i64 x])) (hg : (w.alloc (.cells #[.int .i64 x] 3)).grownBy w' out.ownBlock) : PkS w0 w' B G m T out' (k + 1) (L ++ [x]) := by
  have hG := h.g
  have hge := h.ge
  refine ⟨World.ownsRow.kept (h.tak.alloc _) hg (.inr fun e => ?_), by rw [iv_snoc] at hv; exact hv, (h.below.alloc (by omega) _).grown hg (by rw [World.size_alloc]; omega) (fun q hq => by have := (h.own.lt q hq.symm.symm).1; omega), h.ge, h.len⟩
  have := (h.own.lt G e.symm).1
  omega
end
def lenOfQ : Value → Nat | .slice _ n _ => n | _ => 0
theorem own_someQ {w : World} {B n : Nat} {t : TypeId} {v : Value} {xs : List Value} (h : w.ownsRow B t 1 v n xs) (hv : v ≠ .slice none 0 0) : ∃ g cap, v = .slice (some ⟨g, 0, none⟩) n cap := by
  rcases h.2 with ⟨h0, _⟩ | ⟨g, cap, cur, e, _⟩
  · exact absurd h0 hv
  · exact ⟨g, cap, e⟩
set_option maxHeartbeats 3200000 in
set_option maxRecDepth 100000 in
theorem parkM_any (l : List Int) (hwb : Hid (wishB l = true)) (v : Value) (w : World) {B0 H0 : Nat} (hv : Hid (Own w B0 H0 3 v (iv l))) (hH : H0 ≤ w.heap.size) (hl : l.length ≤ 1048576) :
    Calls Try.prog 42 #[v] w fun e w' => ∃ y, e = .returned y ∧ Own w' w.heap.size w'.heap.size 3 y (iv (placesB l)) ∧ Below w.heap.size w w' := by
  obtain ⟨i0, hi, hz0, hz1, hz2⟩ := info_parts Try.infoIntQ
  obtain ⟨j0, hj, hy0, hy1, hy2⟩ := info_parts Try.infoBoolQ
  obtain ⟨av, cv, rfl, _, hcv, _, _⟩ := hv.out.slice
  rw [iv_length] at hv hcv ⊢
  obtain ⟨n, hn⟩ : ∃ n, n = l.length := ⟨_, rfl⟩
  have HN := Lib.hid hn
  rw [← hn] at hv hcv hl ⊢
  clear hn
  have hw1 : IntKind.i64.wrap ((n : Int) + 1) = (n : Int) + 1 := by rw [IntKind.wrap_i64]; omega
  go_enter Try.func42, Try.ntmps42
  go_wp2_with (at_make; refine wpList_make_full _ rfl _ _ 39 rfl w.heap.size 4 j0 (.bool false) 1 Try.underlying39 hj hy0 hy1 _ _ _ _ (n + 1) rfl rfl rfl rfl ?b2 ?b3 (Nat.le_refl _) ?_)
  case b2 => rw [hy2]; omega
  case b3 => unfold maxLen; omega
  intro w1 hown hgrow
  have hb1 : Below w.heap.size w w1 := (Below.refl _ _).grown hgrow (Nat.le_refl _) (fun k hk => by cases hk)
  rw [show (madeCells #[Value.bool false] (n + 1)).toList = List.replicate (n + 1) (Value.bool false) from toList_madeCells_one _ _, show List.replicate (n + 1) (Value.bool false) = bw (takenM l 0) by rw [takenM_zero, ← HN.out]; simp [bw, emptyT]] at hown
  obtain ⟨G, hGe⟩ : ∃ G, G = w.heap.size := ⟨_, rfl⟩
  rw [← hGe] at hown hb1 hH ⊢
  have hg1 : G < w1.heap.size := (hown.lt G rfl).2
  have hst : (w1.alloc (.cells #[] 3)).ownsRow (G + 1) 3 1 (.slice (some ⟨w1.heap.size, 0, none⟩) 0 0) 0 (iv []) := World.ownsRow_lit (base := G + 1) (e := 3) (size := 1) w1 #[] 0 (by omega) (by decide) rfl
  have D0 : Hid (PkS w (w1.alloc (.cells #[] 3)) G G (n + 1) (takenM l 0) (.slice (some ⟨w1.heap.size, 0, none⟩) 0 0) 0 (placesUp l 0)) :=
    ⟨hown.alloc _, hst, hb1.alloc (by omega) _, Nat.le_refl _, by rw [takenM_length, HN.out]⟩
  have HGe := Lib.hid hGe
  clear hown hgrow hb1 hGe hst hg1
  go_wp2
  go_loopw [4, 5] (fun out i wr => ∃ k : Nat, k ≤ n ∧ i = .int .i64 k ∧ out ≠ .slice none 0 0 ∧ Hid (PkS w wr G G (n + 1) (takenM l k) out k (placesUp l k))) (fun _ i _ => n - (intOf i).toNat)
  case atStart => exact ⟨0, Nat.zero_le _, rfl, by simp, D0⟩
  case round =>
    clear D0
    obtain ⟨k, hk, rfl, hnil, D⟩ := hrel
    obtain ⟨g, cp, rfl⟩ := own_someQ D.out.own hnil
    clear hnil
    by_cases hlt : k < n
    · have hkl : k < l.length := by rw [← HN.out]; exact hlt
      have b1 : (k : Int) < (n : Int) := by omega
      obtain ⟨g1, rfl, _, _, h1, _⟩ := (hv.out.below (D.out.below.mono hH)).at_ k (by rw [iv_length]; exact hkl)
      rw [iv_at l k hkl] at h1
      obtain ⟨x, hx⟩ : ∃ x : Nat, l[k] = (x : Int) := ⟨l[k].toNat, by have := (wishB_at hwb.out hkl).1; omega⟩
      have hxn : x ≤ n := by have := (wishB_at hwb.out hkl).2; have := HN.out; omega
      have HTS := Lib.hid (takenM_step hkl)
      have HPS := Lib.hid (placesM_step hkl)
      rw [hx, Int.toNat_natCast, ← HN.out] at HTS HPS
      rw [hx] at h1
      obtain ⟨T, hT⟩ : ∃ T, T = takenM l k := ⟨_, rfl⟩
      rw [← hT] at D HTS HPS
      have HGS := Lib.hid D.out.g
      clear hT hx
      go_wp2
      go_loop [6] (fun xx => ∃ j : Nat, j ≤ n ∧ xx = .int .i64 j ∧ Hid (freeN n T x = freeN n T j)) (fun xx => n - (intOf xx).toNat)
      case atStart => exact ⟨x, hxn, rfl, rfl⟩
      case round =>
        obtain ⟨j, hjn, rfl, HF⟩ := hrel
        by_cases hjlt : j < n
        · have b2 : (j : Int) < (n : Int) := by omega
          have b3 : (j : Int) < (n : Int) + 1 := by omega
          have hc := D.out.cell (i := j) (by omega)
          have HTA := Lib.hid (fun (h : T.getD j false = true) => freeN_taken hjlt h)
          have HFR := Lib.hid (fun (h : T.getD j false = false) => freeN_free hjlt h)
          obtain ⟨q, hq⟩ : ∃ q, q = T.getD j false := ⟨_, rfl⟩
          rw [← hq] at hc HTA HFR
          clear hq
          cases q with
          | true =>
            have HF2 := Lib.hid (HF.out.trans (HTA.out rfl))
            clear HTA HFR HF
            go_wp2
            go_round
            case rel => exact ⟨j + 1, by omega, by go_num, HF2⟩
            case measure => simp [intOf]; omega
          | false =>
            have HAT := Lib.hid (HF.out.trans (HFR.out rfl))
            have HS := Lib.hid (stepS_at HAT.out hjlt)
            have HP := Lib.hid (stepT_at HAT.out hjlt)
            have hfz := D.out.tak.frozenAt j
            have b4 : ¬ (n : Int) ≤ (j : Int) := by omega
            have D2 : Hid (PkS w (wr.setCell ⟨G, j, none⟩ (.bool true)) G G (n + 1) (stepS n T x) (.slice (some ⟨g, 0, none⟩) k cp) k (placesUp l k)) := by
              have h := D.out.store j
              rw [HS.out]
              exact h
            clear HTA HFR HF D
            go_upto_region 12 with fail
            obtain ⟨wz, hwz⟩ : ∃ wz, wz = wr.setCell ⟨G, j, none⟩ (.bool true) := ⟨_, rfl⟩
            rw [← hwz] at D2 ⊢
            clear hwz hc hfz
            have HZ := Lib.hid (show ∀ o : Obj, G + 1 ≤ (wz.alloc o).heap.size by intro o; rw [World.size_alloc]; have := D2.out.g; omega)
            have HOWN := Lib.hid D2.out.own
            go_wp2_with (at_builtin; refine wpList_append_own _ rfl (.tmp 41) (.tmp 43) 23 rfl (G + 1) 3 i0 (.int .i64 0) 1 8 Try.underlying23 hi hz0 hz1 hz2 rfl (by decide) _ k (iv (placesUp l k)) rfl (HOWN.out.alloc _) ⟨wz.heap.size, 0, none⟩ 1 1 [.int .i64 (j : Int)] rfl rfl (cell_one_new _ _ _) (by intro u hu; simp at hu; subst hu; rfl) (by unfold maxLen; omega) (by omega) (HZ.out _) ?_)
            intro v' w7 hown7 hg7 hn7
            have D7 : Hid (PkS w w7 G G (n + 1) (takenM l (k + 1)) v' (k + 1) (placesUp l (k + 1))) := by
              have h := D2.out.app hown7 hg7
              rw [HPS.out, HP.out, HTS.out]
              exact h
            clear D2 HZ HOWN hown7 hg7 HS HP HAT
            go_wp2
            go_roundw
            case rel => exact ⟨k + 1, by omega, by go_num, hn7, D7⟩
            case measure => simp [intOf]; omega
        · have HAT := Lib.hid (HF.out.trans (freeN_far (n := n) (T := T) (x := j) (by omega)))
          have HS := Lib.hid (stepS_no HAT.out)
          have HP := Lib.hid (stepT_no HAT.out)
          have b2 : ¬ (j : Int) < (n : Int) := by omega
          have b4 : (n : Int) ≤ (j : Int) := by omega
          have D2 : Hid (PkS w wr G G (n + 1) (stepS n T x) (.slice (some ⟨g, 0, none⟩) k cp) k (placesUp l k)) := by
            have h := D.out
            rw [HS.out]
            exact h
          clear HF D
          go_upto_region 12 with fail
          have HZ := Lib.hid (show ∀ o : Obj, G + 1 ≤ (wr.alloc o).heap.size by intro o; rw [World.size_alloc]; have := D2.out.g; omega)
          have HOWN := Lib.hid D2.out.own
          go_wp2_with (at_builtin; refine wpList_append_own _ rfl (.tmp 41) (.tmp 43) 23 rfl (G + 1) 3 i0 (.int .i64 0) 1 8 Try.underlying23 hi hz0 hz1 hz2 rfl (by decide) _ k (iv (placesUp l k)) rfl (HOWN.out.alloc _) ⟨wr.heap.size, 0, none⟩ 1 1 [.int .i64 (-1)] rfl rfl (cell_one_new _ _ _) (by intro u hu; simp at hu; subst hu; rfl) (by unfold maxLen; omega) (by omega) (HZ.out _) ?_)
          intro v' w7 hown7 hg7 hn7
          have D7 : Hid (PkS w w7 G G (n + 1) (takenM l (k + 1)) v' (k + 1) (placesUp l (k + 1))) := by
            have h := D2.out.app hown7 hg7
            rw [HPS.out, HP.out, HTS.out]
            exact h
          clear D2 HZ HOWN hown7 hg7 HS HP HAT
          go_wp2
          go_roundw
          case rel => exact ⟨k + 1, by omega, by go_num, hn7, D7⟩
          case measure => simp [intOf]; omega
    · have hkn : k = n := by omega
      have D2 : Hid (PkS w wr G G (n + 1) (takenM l k) (.slice (some ⟨g, 0, none⟩) k cp) k (placesB l)) := by
        have h := D.out
        have e : placesUp l k = placesB l := by rw [hkn, HN.out, placesUp_full]
        rw [e] at h
        exact h
      have HKN := Lib.hid hkn
      have b1 : ¬ (k : Int) < (n : Int) := by omega
      clear D hkn
      go_wp2
      go_ret
      rw [← HGe.out]
      have h1 : (iv (placesB l)).length = k := by rw [iv_length, placesB_length, ← HN.out, HKN.out]
      have h2 := D2.out.own
      refine ⟨_, rfl, ⟨⟨by rw [h1, Nat.mul_one], ?_⟩, fun g hg => (h2.lt g hg).2⟩, D2.out.below⟩
      rw [h1]
      exact h2.2.imp id fun ⟨g, cp, cur, e, hg, r⟩ => ⟨g, cp, cur, e, by omega, r⟩
end Go.Proofs.Ytchfnbcpjiiphaa
