/-
  The contracts of the two functions that tell the parents of a word's nodes.
-/
import Derived.Test.YtpphilladlladaaCDepths
namespace Go.Proofs.Ytpphilladlladaa
open Go.RowKit

theorem parentsL_length (l : List UInt8) : (parentsL l).length = (openP l).1.length := by simp [parentsL]
theorem parents_opn {s : ByteArray} {k : Nat} (hk : k < s.size) (hc : s[k].toNat = 40) : parentsL (s.data.toList.take (k + 1)) = parentsL (s.data.toList.take k) ++ [lastOr (openP (s.data.toList.take k)).2] := by
  rw [parentsL, openP_next hk, stepOP, if_neg (by omega)]; simp [parentsL]
theorem parents_cls {s : ByteArray} {k : Nat} (hk : k < s.size) (hc : s[k].toNat = 41) : parentsL (s.data.toList.take (k + 1)) = parentsL (s.data.toList.take k) := by
  rw [parentsL, openP_next hk, stepOP, if_pos hc]; rfl
theorem openP_opn {s : ByteArray} {k : Nat} (hk : k < s.size) (hc : s[k].toNat = 40) : (openP (s.data.toList.take (k + 1))).2 = (openP (s.data.toList.take k)).2 ++ [(parentsL (s.data.toList.take k)).length] := by
  rw [openP_next hk, stepOP, if_neg (by omega), parentsL_length]
theorem openP_cls {s : ByteArray} {k : Nat} (hk : k < s.size) (hc : s[k].toNat = 41) : (openP (s.data.toList.take (k + 1))).2 = (openP (s.data.toList.take k)).2.dropLast := by
  rw [openP_next hk, stepOP, if_pos hc]
theorem lastOr_nil : lastOr [] = -1 := rfl
theorem lastOr_at (l : List Nat) (h : 0 < l.length) : lastOr l = ((l[l.length - 1]'(by omega) : Nat) : Int) := by
  unfold lastOr
  rw [List.getLast?_eq_getElem?, List.getElem?_eq_getElem (by omega : l.length - 1 < l.length)]
theorem ints_at (l : List Nat) (k : Nat) (h : k < l.length) : (ints l)[k]? = some (.int .i64 ((l[k] : Nat) : Int)) := by simp [ints, h]
theorem fold_small (l : List UInt8) : ∀ (R : List (List Nat)) (O : List Nat) (n : Nat), (∀ x ∈ O, x ≤ n) → R.length ≤ n → ∀ x ∈ (l.foldl stepOP (R, O)).2, x ≤ n + l.length := by
  induction l with
  | nil => intro R O n h1 _ x hx; exact h1 x hx
  | cons c r ih =>
    intro R O n h1 h2 x hx
    simp only [List.foldl_cons, List.length_cons] at hx ⊢
    by_cases hd : c.toNat = 41
    · rw [show stepOP (R, O) c = (R, O.dropLast) by simp [stepOP, hd]] at hx
      have := ih R O.dropLast n (fun y hy => h1 y (List.dropLast_subset _ hy)) h2 x hx
      omega
    · rw [show stepOP (R, O) c = (R ++ [O], O ++ [R.length]) by simp [stepOP, hd]] at hx
      have := ih (R ++ [O]) (O ++ [R.length]) (n + 1) (fun y hy => by
        rcases List.mem_append.1 hy with h | h
        · have := h1 y h; omega
        · simp at h; omega) (by simp; omega) x hx
      omega
theorem open_small (l : List UInt8) : ∀ x ∈ (openP l).2, x ≤ l.length := by
  intro x hx
  have := fold_small l [] [] 0 (by simp) (by simp) x hx
  omega

/-- what stands behind k bytes: the parents so far, and what is open -/
structure Par_ (B H n m : Nat) (op : List Nat) (ps : List Int) (vp vo : Value) (w : World) : Prop where
  outs : Own w B H 3 vp (iv ps)
  opn : Own w B H 3 vo (ints op)
  shp : ∃ g cap g' cap', vp = .slice (some ⟨g, 0, none⟩) m cap ∧ vo = .slice (some ⟨g', 0, none⟩) n cap' ∧ g ≠ g' ∧ n ≤ cap' ∧ m ≤ cap
  lens : ps.length = m ∧ op.length = n

theorem own_base {w : World} {B B' n : Nat} {t : TypeId} {v : Value} {xs : List Value} (h : w.ownsRow B' t 1 v n xs) (hB : B ≤ B') : w.ownsRow B t 1 v n xs := by
  refine ⟨h.1, ?_⟩
  rcases h.2 with h | ⟨g, cap, cur, a, b, c⟩
  · exact .inl h
  · exact .inr ⟨g, cap, cur, a, by omega, c⟩

theorem one_int (n : Int) : ∀ u ∈ [Value.int .i64 n], u.oneCell' = true := by intro u hu; simp at hu; subst hu; rfl
theorem slice_cap {w : World} {B n g c : Nat} {t : TypeId} {xs : List Value} (h : w.ownsRow B t 1 (.slice (some ⟨g, 0, none⟩) n c) n xs) : n ≤ c := by
  rcases h.2 with ⟨h0, _⟩ | ⟨g', cap, cur, hv, _, _, h3, _⟩
  · cases h0
  · simp only [Value.slice.injEq] at hv
    omega
theorem own_form' {w : World} {base : Nat} {e : TypeId} {size : Nat} {v : Value} {n : Nat} {xs : List Value} (h : w.ownsRow base e size v n xs) (hn : 0 < n) : ∃ g cap, v = .slice (some ⟨g, 0, none⟩) n cap ∧ base ≤ g ∧ g < w.heap.size ∧ n ≤ cap ∧ cap ≤ maxLen := by
  rcases h.2 with ⟨_, h0⟩ | ⟨g, cap, cur, rfl, hg, hh, hc, hm, _⟩
  · omega
  · exact ⟨g, cap, rfl, hg, (Array.getElem?_eq_some_iff.1 hh).1, hc, hm⟩

theorem rows_small (l : List UInt8) : ∀ (R : List (List Nat)) (O : List Nat) (n : Nat), O.length ≤ n → (∀ r ∈ R, r.length ≤ n) → ∀ r ∈ (l.foldl stepOP (R, O)).1, r.length ≤ n + l.length := by
  induction l with
  | nil => intro R O n _ h2 r hr; exact h2 r hr
  | cons c t ih =>
    intro R O n h1 h2 r hr
    simp only [List.foldl_cons, List.length_cons] at hr ⊢
    by_cases hd : c.toNat = 41
    · rw [show stepOP (R, O) c = (R, O.dropLast) by simp [stepOP, hd]] at hr
      have := ih R O.dropLast n (by simp; omega) h2 r hr
      omega
    · rw [show stepOP (R, O) c = (R ++ [O], O ++ [R.length]) by simp [stepOP, hd]] at hr
      have := ih (R ++ [O]) (O ++ [R.length]) (n + 1) (by simp; omega) (fun q hq => by
        rcases List.mem_append.1 hq with h | h
        · have := h2 q h; omega
        · simp at h; subst h; omega) r hr
      omega
theorem open_row {s : ByteArray} {r : List Nat} (h : valid s.data.toList = true) (hr : r ∈ (openP s.data.toList).1) : r.length ≤ 18 := by
  have := rows_small s.data.toList [] [] 0 (by simp) (by simp) r hr
  have := valid_size h
  rw [size_list] at *
  omega

set_option maxHeartbeats 1600000 in
theorem implParents_yes (s : ByteArray) (w : World) (hv : Hid (valid s.data.toList = true)) :
    Calls Try.prog 32 #[.string s] w (IntsOut (parentsL s.data.toList) w) := by
  have h18 := valid_size hv.out
  have hsm : s.size ≤ maxLen := by unfold maxLen; omega
  have hle := (openP_le s.data.toList).1
  rw [size_list] at hle
  obtain ⟨i0, hi, hz0, hz1, hz2⟩ := info_parts Try.infoIntP
  go_enter Try.func32, Try.ntmps32
  go_wp2_with (go_at_call 36; refine (implValid_is true _ _ hsm hv).mono ?_; rintro e w1 ⟨rfl, hb1⟩)
  refine (openPairs_any s w1 hv).mono ?_
  rintro e w2 ⟨vr, RV, rfl, hR, hRs, hb2⟩
  obtain ⟨ar, cr, hvr, hnoner, hlcr, hcmr, hsomer⟩ := hR.slice
  have hRl := hRs.1
  obtain ⟨rows, hrows⟩ : ∃ rows, rows = (openP s.data.toList).1 := ⟨_, rfl⟩
  rw [← hrows] at hRs hRl hle
  rw [hRl] at hvr hlcr
  subst hvr
  have HR := Lib.hid hR
  have HRs := Lib.hid hRs
  have HRl := Lib.hid hRl
  have Hrows := Lib.hid hrows
  have hb := hb1.trans (hb2.mono hb1.size)
  have hs1 := hb1.size
  have hs2 := hb2.size
  clear hR hRs hRl hrows hnoner hsomer hb1 hb2
  go_wp2
  obtain ⟨B, hB⟩ : ∃ B, B = w2.heap.size := ⟨_, rfl⟩
  have hBle : B ≤ w2.heap.size := by omega
  have hwB : w.heap.size ≤ B := by omega
  have HB := Lib.hid hB
  clear hB
  go_loopw [3, 13] (fun v i wr => ∃ k : Nat, k ≤ rows.length ∧ i = .int .i64 k ∧ wr.ownsRow B 3 1 v k (iv ((rows.take k).map lastOr)) ∧ Below B w2 wr) (fun _ i _ => rows.length - (intOf i).toNat)
  case atStart => exact ⟨0, Nat.zero_le _, rfl, World.ownsRow_nil _ _ _ _, Below.refl _ _⟩
  case round =>
    obtain ⟨k, hk, rfl, hown, hbw⟩ := hrel
    have hszw := hbw.size
    by_cases hlt : k < rows.length
    · obtain ⟨g, rfl, hg1, hg2, hcell, _⟩ := (HR.out.below (w' := wr) (by rw [← HB.out]; exact hbw)).at_ k (by rw [HRl.out]; exact hlt)
      obtain ⟨u, hu⟩ : ∃ u, RV[k]? = some u := ⟨_, List.getElem?_eq_getElem (by rw [HRl.out]; exact hlt)⟩
      rw [hu] at hcell
      have hown2 := (HRs.out.2 k u _ hu (List.getElem?_eq_getElem hlt))
      obtain ⟨au, cu, hue, _, hlu, _, _⟩ := hown2.slice
      rw [ints_length] at hue
      subst hue
      have e1 : (rows.take (k + 1)).map lastOr = (rows.take k).map lastOr ++ [lastOr rows[k]] := by
        rw [List.take_succ_eq_append_getElem hlt, List.map_append]; rfl
      have E1 := Lib.hid e1
      obtain ⟨r, hr⟩ : ∃ r, r = rows[k] := ⟨_, rfl⟩
      rw [← hr] at E1 hown2 hcell hlu
      have b1 : (k : Int) < (rows.length : Int) := by omega
      obtain ⟨p, hp⟩ : ∃ p, p = lastOr r := ⟨_, rfl⟩
      rw [← hp] at E1
      rw [ints_length] at hlu
      have hr18 : r.length ≤ 1048576 := by
        have := open_row (s := s) (r := r) hv.out (by rw [← Hrows.out, hr]; exact List.getElem_mem hlt)
        omega
      have hlast : 0 < r.length → ∃ q, au = some ⟨q, 0, none⟩ ∧ wr.cell? ⟨q, r.length - 1, none⟩ = some (.int .i64 p) := fun h0 => by
        obtain ⟨q, hq, _, hq2, hc, _⟩ := (hown2.below (w' := wr) (by rw [← HB.out]; exact hbw)).at_ (r.length - 1) (by rw [ints_length]; omega)
        refine ⟨q, hq, ?_⟩
        rw [hc, ints_at r (r.length - 1) (by omega), hp, lastOr_at r h0]
      have hnone : r.length = 0 → p = -1 := fun h0 => by
        rw [hp, List.eq_nil_of_length_eq_zero h0]; rfl
      have x3 : k + 1 ≤ maxLen := by unfold maxLen; omega
      have x4 : (k + 1) * 8 ≤ 140737488355328 := by omega
      have x5 : ∀ o : Obj, B ≤ (wr.alloc o).heap.size := by intro o; simp; omega
      have X5 := Lib.hid x5
      have HL := Lib.hid hlast
      have HN := Lib.hid hnone
      obtain ⟨n, hn⟩ : ∃ n, n = r.length := ⟨_, rfl⟩
      rw [← hn] at HL HN hcell hlu hr18
      have hcase : n = 0 ∨ 0 < n := by omega
      clear hu hown2 e1 hr hp hlast hnone hn x5
      rcases hcase with h0 | h0
      all_goals
        first
          | (have E0 := Lib.hid (HN.out h0)
             have hnp : ¬ (0 : Int) < (n : Int) := by omega
             clear h0)
          | (obtain ⟨q, hq, hcl⟩ := HL.out h0
             subst hq
             have hni : (0 : Int) < (n : Int) := by omega
             have hnn : n - 1 < n := by omega)
        go_wp2_with (at_builtin; refine wpList_append_own _ rfl _ _ 29 rfl B 3 i0 (.int .i64 0) 1 8 Try.underlying29 hi hz0 hz1 hz2 rfl (by decide) _ _ _ rfl (hown.alloc _) ⟨wr.heap.size, 0, none⟩ 1 1 [_] rfl rfl (cell_one_new _ _ _) (one_int _) x3 x4 (X5.out _) ?_)
        intro v' w3 hown' hgrow _
        have hb3 : Below B w2 w3 := (hbw.alloc (by omega) _).grown hgrow (by simp; omega) (fun q hq => (hown.lt q hq).1)
        have hown3 : w3.ownsRow B 3 1 v' (k + 1) (iv ((rows.take (k + 1)).map lastOr)) := by
          first | (rw [E1.out, ← iv_snoc, List.map_take]; exact hown') | (rw [E1.out, E0.out, ← iv_snoc, List.map_take]; exact hown')
        clear hown hgrow hown' hbw
        go_wp2
        go_roundw
        case rel => exact ⟨k + 1, by omega, by go_num, hown3, hb3⟩
        case measure => simp [intOf]; omega
    · obtain rfl : k = rows.length := by omega
      go_wp2
      go_ret
      rw [List.take_of_length_le (Nat.le_refl _)] at hown
      have e : parentsL s.data.toList = rows.map lastOr := by rw [Hrows.out]; rfl
      refine ⟨_, rfl, ?_, hb.trans (hbw.mono hwB)⟩
      rw [e]
      have h1 := Own.of_own (B := B) (xs := iv (rows.map lastOr)) (by rw [iv_length, List.length_map]; exact hown)
      refine ⟨⟨h1.1.1, ?_⟩, h1.2⟩
      rcases h1.1.2 with h | ⟨g, cap, cur, a, b, c⟩
      · exact .inl h
      · exact .inr ⟨g, cap, cur, a, by omega, c⟩


theorem implParents_no (s : ByteArray) (w : World) (hs : s.size ≤ maxLen) (hv : Hid (valid s.data.toList = false)) :
    Calls Try.prog 32 #[.string s] w (IntsOut [] w) := by
  go_enter Try.func32, Try.ntmps32
  go_wp2_with (go_at_call 36; refine (implValid_is false _ _ hs hv).mono ?_; rintro e w1 ⟨rfl, hb⟩)
  go_ret
  exact nilOut _ _ (by assumption)
/-- what both answer -/
def parOut (l : List UInt8) : List Int := if valid l then parentsL l else []
theorem parOut_length (s : ByteArray) : (parOut s.data.toList).length ≤ 18 := by
  unfold parOut
  split
  · rename_i h
    have h1 := valid_size h
    have h2 := (openP_le s.data.toList).1
    rw [size_list] at h2
    rw [parentsL_length]; omega
  · simp
theorem implParents_any (s : ByteArray) (w : World) (hs : s.size ≤ maxLen) :
    Calls Try.prog 32 #[.string s] w (IntsOut (parOut s.data.toList) w) := by
  cases hv : valid s.data.toList with
  | true => rw [parOut, if_pos hv]; exact implParents_yes s w hv
  | false => rw [parOut, if_neg (by rw [hv]; decide)]; exact implParents_no s w hs hv
end Go.Proofs.Ytpphilladlladaa
