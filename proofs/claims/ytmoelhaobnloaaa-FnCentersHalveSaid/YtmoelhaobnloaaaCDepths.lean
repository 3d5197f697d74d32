/-
  The contracts of the two functions that tell the depths of a word's nodes.
-/
import Derived.Test.YtmoelhaobnloaaaCPairs
import Derived.Test.YtmoelhaobnloaaaZW
namespace Go.Proofs.Ytmoelhaobnloaaa
open Go.RowKit

/-- a list of numbers in new memory -/
def IntsOut (l : List Int) (w : World) (e : Ending) (w' : World) : Prop :=
  ∃ v, e = .returned v ∧ Own w' w.heap.size w'.heap.size 3 v (iv l) ∧ Below w.heap.size w w'

theorem depths_opn {s : ByteArray} {k : Nat} (hk : k < s.size) (hc : s[k].toNat = 40) : depthsL (s.data.toList.take (k + 1)) = depthsL (s.data.toList.take k) ++ [((openP (s.data.toList.take k)).2.length : Int)] := by
  rw [depthsL, openP_next hk, stepOP, if_neg (by omega)]; simp [depthsL]
theorem depths_cls {s : ByteArray} {k : Nat} (hk : k < s.size) (hc : s[k].toNat = 41) : depthsL (s.data.toList.take (k + 1)) = depthsL (s.data.toList.take k) := by
  rw [depthsL, openP_next hk, stepOP, if_pos hc]; rfl
theorem open_opn {s : ByteArray} {k : Nat} (hk : k < s.size) (hc : s[k].toNat = 40) : (openP (s.data.toList.take (k + 1))).2.length = (openP (s.data.toList.take k)).2.length + 1 := by
  rw [openP_next hk, stepOP, if_neg (by omega)]; simp
theorem open_cls {s : ByteArray} {k : Nat} (hk : k < s.size) (hc : s[k].toNat = 41) : (openP (s.data.toList.take (k + 1))).2.length = (openP (s.data.toList.take k)).2.length - 1 := by
  rw [openP_next hk, stepOP, if_pos hc]; simp
theorem depthsL_length (l : List UInt8) : (depthsL l).length = (openP l).1.length := by simp [depthsL]

set_option maxHeartbeats 1600000 in
theorem implDepths_yes (s : ByteArray) (w : World) (hv : Hid (valid s.data.toList = true)) :
    Calls Try.prog 18 #[.string s] w (IntsOut (depthsL s.data.toList) w) := by
  have h18 := valid_size hv.out
  have hsm : s.size ≤ maxLen := by unfold maxLen; omega
  have hle := (openP_le s.data.toList).1
  rw [size_list] at hle
  obtain ⟨i0, hi, hz0, hz1, hz2⟩ := info_parts Try.infoIntP
  go_enter Try.func18, Try.ntmps18
  go_wp2_with (go_at_call 20; refine (implValid_is true _ _ hsm hv).mono ?_; rintro e w1 ⟨rfl, hb1⟩)
  refine (openPairs_any s w1 hv).mono ?_
  rintro e w2 ⟨vr, RV, rfl, hR, hRs, hb2⟩
  obtain ⟨ar, cr, hvr, hnoner, hlcr, hcmr, hsomer⟩ := hR.slice
  have hRl := hRs.1
  obtain ⟨rows, hrows⟩ : ∃ rows, rows = (openP s.data.toList).1 := ⟨_, rfl⟩
  rw [← hrows] at hRs hRl hle
  rw [hRl] at hvr hlcr
  subst hvr
  have HR := Lib.hid hR
  have HRs := Lib.hid hRs
  have HRl := Lib.hid hRl
  have Hrows := Lib.hid hrows
  have hb := hb1.trans (hb2.mono hb1.size)
  have hs1 := hb1.size
  have hs2 := hb2.size
  clear hR hRs hRl hrows hnoner hsomer hb1 hb2
  go_wp2
  obtain ⟨B, hB⟩ : ∃ B, B = w2.heap.size := ⟨_, rfl⟩
  have hBle : B ≤ w2.heap.size := by omega
  have hwB : w.heap.size ≤ B := by omega
  have HB := Lib.hid hB
  clear hB
  go_loopw [3, 12] (fun v i wr => ∃ k : Nat, k ≤ rows.length ∧ i = .int .i64 k ∧ wr.ownsRow B 3 1 v k (iv ((rows.take k).map fun r => (r.length : Int))) ∧ Below B w2 wr) (fun _ i _ => rows.length - (intOf i).toNat)
  case atStart => exact ⟨0, Nat.zero_le _, rfl, World.ownsRow_nil _ _ _ _, Below.refl _ _⟩
  case round =>
    obtain ⟨k, hk, rfl, hown, hbw⟩ := hrel
    have hszw := hbw.size
    by_cases hlt : k < rows.length
    · obtain ⟨g, rfl, hg1, hg2, hcell, _⟩ := (HR.out.below (w' := wr) (by rw [← HB.out]; exact hbw)).at_ k (by rw [HRl.out]; exact hlt)
      obtain ⟨u, hu⟩ : ∃ u, RV[k]? = some u := ⟨_, List.getElem?_eq_getElem (by rw [HRl.out]; exact hlt)⟩
      rw [hu] at hcell
      have hown2 := (HRs.out.2 k u _ hu (List.getElem?_eq_getElem hlt))
      obtain ⟨au, cu, hue, _, hlu, _, _⟩ := hown2.slice
      rw [ints_length] at hue
      subst hue
      have e1 : (rows.take (k + 1)).map (fun r => (r.length : Int)) = (rows.take k).map (fun r => (r.length : Int)) ++ [(rows[k].length : Int)] := by
        rw [List.take_succ_eq_append_getElem hlt, List.map_append]; rfl
      have E1 := Lib.hid e1
      obtain ⟨m, hm⟩ : ∃ m, m = rows[k].length := ⟨_, rfl⟩
      rw [← hm] at E1 hcell
      have b1 : (k : Int) < (rows.length : Int) := by omega
      clear hm hu hown2 hlu e1
      go_wp2_with (at_builtin; refine wpList_append_own _ rfl _ _ 26 rfl B 3 i0 (.int .i64 0) 1 8 Try.underlying26 hi hz0 hz1 hz2 rfl (by decide) _ _ _ rfl (hown.alloc _) ⟨wr.heap.size, 0, none⟩ 1 1 [.int .i64 m] rfl rfl ?c1 ?c2 ?c3 ?c4 ?c5 ?_)
      case c1 => exact cell_one_new _ _ _
      case c2 => intro u hu; simp at hu; subst hu; rfl
      case c3 => unfold maxLen; omega
      case c4 => omega
      case c5 => simp; omega
      intro v' w3 hown' hgrow _
      have hb3 : Below B w2 w3 := (hbw.alloc (by omega) _).grown hgrow (by simp; omega) (fun q hq => (hown.lt q hq).1)
      have hown3 : w3.ownsRow B 3 1 v' (k + 1) (iv ((rows.take (k + 1)).map fun r => (r.length : Int))) := by
        rw [E1.out, ← iv_snoc, List.map_take]; exact hown'
      clear hown hgrow hown' hbw
      go_wp2
      go_roundw
      case rel => exact ⟨k + 1, by omega, by go_num, hown3, hb3⟩
      case measure => simp [intOf]; omega
    · obtain rfl : k = rows.length := by omega
      go_wp2
      go_ret
      rw [List.take_of_length_le (Nat.le_refl _)] at hown
      have e : depthsL s.data.toList = rows.map fun r => (r.length : Int) := by rw [Hrows.out]; rfl
      refine ⟨_, rfl, ?_, hb.trans (hbw.mono hwB)⟩
      rw [e]
      have h1 := Own.of_own (B := B) (xs := iv (rows.map fun r => (r.length : Int))) (by rw [iv_length, List.length_map]; exact hown)
      refine ⟨⟨h1.1.1, ?_⟩, h1.2⟩
      rcases h1.1.2 with h | ⟨g, cap, cur, a, b, c⟩
      · exact .inl h
      · exact .inr ⟨g, cap, cur, a, by omega, c⟩

theorem nilOut (w w' : World) (hb : Below w.heap.size w w') : IntsOut [] w (.returned (.slice none 0 0)) w' := ⟨_, rfl, ⟨World.ownsRow_nil _ _ _ _, fun g hg => by simp [Value.ownBlock] at hg⟩, hb⟩
theorem IntsOut.of_below {l : List Int} {w w1 : World} {e : Ending} {w' : World} (hb : Below w.heap.size w w1) (h : IntsOut l w1 e w') : IntsOut l w e w' := by
  obtain ⟨v, he, ho, hb'⟩ := h
  refine ⟨v, he, ⟨⟨ho.1.1, ?_⟩, ho.2⟩, hb.trans (hb'.mono hb.size)⟩
  have := hb.size
  rcases ho.1.2 with h | ⟨g, cap, cur, a, b, c⟩
  · exact .inl h
  · exact .inr ⟨g, cap, cur, a, by omega, c⟩

theorem implDepths_no (s : ByteArray) (w : World) (hs : s.size ≤ maxLen) (hv : Hid (valid s.data.toList = false)) :
    Calls Try.prog 18 #[.string s] w (IntsOut [] w) := by
  go_enter Try.func18, Try.ntmps18
  go_wp2_with (go_at_call 20; refine (implValid_is false _ _ hs hv).mono ?_; rintro e w1 ⟨rfl, hb⟩)
  go_ret
  exact nilOut _ _ (by assumption)
/-- what both answer -/
def depOut (l : List UInt8) : List Int := if valid l then depthsL l else []
theorem depOut_length (s : ByteArray) : (depOut s.data.toList).length ≤ 18 := by
  unfold depOut
  split
  · rename_i h
    have h1 := valid_size h
    have h2 := (openP_le s.data.toList).1
    rw [size_list] at h2
    rw [depthsL_length]; omega
  · simp
theorem implDepths_any (s : ByteArray) (w : World) (hs : s.size ≤ maxLen) :
    Calls Try.prog 18 #[.string s] w (IntsOut (depOut s.data.toList) w) := by
  cases hv : valid s.data.toList with
  | true => rw [depOut, if_pos hv]; exact implDepths_yes s w hv
  | false => rw [depOut, if_neg (by rw [hv]; decide)]; exact implDepths_no s w hs hv
end Go.Proofs.Ytmoelhaobnloaaa
