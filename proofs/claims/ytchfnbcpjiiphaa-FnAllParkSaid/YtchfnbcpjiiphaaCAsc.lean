/-
  The contract of the laws' function that puts numbers in order, each as often as it stands there.
-/
import Derived.Test.YtchfnbcpjiiphaaCInts
import Derived.Test.YtchfnbcpjiiphaaZW
import Derived.Deep.CutBlock
import Derived.Deep.RegionLaw
import Derived.Maps.AppendAt
import Derived.Deep.DeepCutAuto
namespace Go.Proofs.Ytchfnbcpjiiphaa
open Go.RowKit

theorem Try.infoIntA : (Try.prog.info? 3).map (fun i => (i.zero, i.size, i.bytes)) = some (some (.int .i64 0), 1, 8) := by kernel_rfl
theorem iv_takeA (L : List Int) (k : Nat) : (iv L).take k = iv (L.take k) := by simp [iv, List.map_take]
theorem iv_dropA (L : List Int) (k : Nat) : (iv L).drop k = iv (L.drop k) := by simp [iv, List.map_drop]
theorem iv_appendA (L M : List Int) : iv L ++ iv M = iv (L ++ M) := by simp [iv]
theorem iv_oneA (L : List Int) : ∀ u ∈ iv L, u.oneCell' = true := by
  intro u hu
  obtain ⟨x, _, rfl⟩ := List.mem_map.1 hu
  rfl
theorem one_intA (x : Int) : ∀ u ∈ [Value.int .i64 x], u.oneCell' = true := by intro u hu; simp at hu; subst hu; rfl
theorem grown_drewA {w w' : World} {row : Option Nat} (h : w.drew.grownBy w' row) : w.grownBy w' row := ⟨h.1, h.2, h.3, h.4, h.5⟩
theorem own_someA {w : World} {B n : Nat} {t : TypeId} {v : Value} {xs : List Value} (h : w.ownsRow B t 1 v n xs) (hv : v ≠ .slice none 0 0) : ∃ g cap, v = .slice (some ⟨g, 0, none⟩) n cap := by
  rcases h.2 with ⟨h0, _⟩ | ⟨g, cap, cur, h1, _⟩
  · exact absurd h0 hv
  · exact ⟨g, cap, h1⟩
theorem capA {w : World} {B n g c : Nat} {t : TypeId} {xs : List Value} (h : w.ownsRow B t 1 (.slice (some ⟨g, 0, none⟩) n c) n xs) : n ≤ c ∧ c ≤ maxLen := by
  rcases h.2 with ⟨h0, _⟩ | ⟨g', cap, cur, hv, _, _, h3, h4, _⟩
  · cases h0
  · simp only [Value.slice.injEq] at hv
    omega
theorem step_appA {P : Program} {w : World} {ops : Array Oper} {o : Oper} {a : Act} {K : Act → World → Prop} {Q : Exit → Act → World → Prop} {E : Prop} (hgd : o.guard = none) (s x : Operand) (t : TypeId)
    (ho : o.op = .call { callee := .builtin .append, args := #[s, x], argTypes := #[t, t] })
    (base : Nat) (e : TypeId) (i : TypeInfo) (z : Value) (size bytes : Nat) (ht : P.underlying t = some (.slice e)) (hi : P.info? e = some i) (hz : i.zero = some z)
    (hsize : i.size = size) (hby : i.bytes = bytes) (hzs : z.cells.size = size) (hsz : 0 < size)
    (v : Value) (n : Nat) (xs : List Value) (hs : a.eval s = v) (hown : w.ownsRow base e size v n xs)
    (ad : Addr) (m c : Nat) (news : List Value) (hx : a.eval x = .slice (some ad) m c) (hl : news.length = m * size) (hnews : ∀ j u, news[j]? = some u → w.cell? (ad.add j) = some u) (h1 : ∀ u ∈ news, u.oneCell' = true)
    (h63 : n + m ≤ maxLen) (hbytes : (n + m) * bytes ≤ 140737488355328) (hbase : base ≤ w.heap.size)
    (h : ∀ v' w', w'.ownsRow base e size v' (n + m) (xs ++ news) → w.grownBy w' v.ownBlock → (v' = .slice none 0 0 ↔ v = .slice none 0 0 ∧ m = 0) → K (a.put o.dst v') w') :
    if Region.wanted o (yielded ops a.tmps) = true then Oper.wp P o a w K Q else E := by
  have hw : Region.wanted o (yielded ops a.tmps) = true := by simp [Region.wanted, hgd]
  rw [if_pos hw]
  exact wp_append_own w s x t ho base e i z size bytes ht hi hz hsize hby hzs hsz v n xs hs hown ad m c news hx hl hnews h1 h63 hbytes hbase h
/-- a list of numbers of the call's own -/
structure TxA (w0 w : World) (B g m c : Nat) (L : List Int) : Prop where
  len : L.length = m
  own : w.ownsRow B 3 1 (.slice (some ⟨g, 0, none⟩) m c) m (iv L)
  below : Below B w0 w
theorem TxA.drewN {w0 w : World} {B g m c : Nat} {L : List Int} (h : TxA w0 w B g m c L) (n : Nat) : TxA w0 (w.drewN n) B g m c L :=
  ⟨h.len, own_of_blocks h.own (fun _ _ => rfl), h.below.trans ⟨rfl, rfl, rfl, Nat.le_refl _, fun _ _ => rfl⟩⟩
set_option maxHeartbeats 6400000 in
set_option maxRecDepth 100000 in
theorem ascendingOf_any (L : List Int) (v : Value) (w : World) {B0 H0 : Nat} (hv : Hid (Own w B0 H0 3 v (iv L))) (hH : H0 ≤ w.heap.size) (hl : L.length ≤ 1048576) :
    Calls Try.prog 21 #[v] w fun e w' => ∃ v', e = .returned v' ∧ Own w' w.heap.size w'.heap.size 3 v' (iv (ascA L)) ∧ Below w.heap.size w w' := by
  obtain ⟨i0, hi, hz0, hz1, hz2⟩ := info_parts Try.infoIntA
  obtain ⟨av, cv, rfl, _, hcv, _, _⟩ := hv.out.slice
  rw [iv_length] at hv hcv ⊢
  go_enter Try.func21, Try.ntmps21
  go_wp2
  have hst := World.ownsRow_lit (base := w.heap.size) (e := 3) (size := 1) w #[] 0 (Nat.le_refl _) (by decide) rfl
  have H0 : Hid (TxA w (w.alloc (.cells #[] 3)) w.heap.size w.heap.size 0 0 []) := ⟨rfl, hst, (Below.refl _ _).alloc (Nat.le_refl _) _⟩
  obtain ⟨w1, hw1⟩ : ∃ w1, w1 = w.alloc (.cells #[] 3) := ⟨_, rfl⟩
  rw [← hw1] at H0 ⊢
  obtain ⟨B, hB⟩ : ∃ B, B = w.heap.size := ⟨_, rfl⟩
  have HB := Lib.hid hB
  rw [← hB] at H0 hH ⊢
  clear hw1 hB hst
  go_loopw [3, 4] (fun out i wr => ∃ (k g m c : Nat), k ≤ L.length ∧ m ≤ k ∧ out = .slice (some ⟨g, 0, none⟩) m c ∧ i = .int .i64 k ∧ Hid (TxA w wr B g m c (ascA (L.take k)))) (fun _ i _ => L.length - (intOf i).toNat)
  case atStart => exact ⟨0, B, 0, 0, Nat.zero_le _, Nat.le_refl _, rfl, rfl, H0⟩
  case round =>
    clear H0
    obtain ⟨k, g, m, c, hk, hm, rfl, rfl, T⟩ := hrel
    by_cases hlt : k < L.length
    · have b1 : (k : Int) < (L.length : Int) := by omega
      have hvr := hv.out.below (w' := wr) (T.out.below.mono hH)
      obtain ⟨ga, rfl, _, hgaH, hc, _⟩ := hvr.at_ k (by rw [iv_length]; exact hlt)
      rw [iv_at L k hlt] at hc
      have ST := asc_snoc L k hlt
      obtain ⟨x, hx⟩ : ∃ x, x = L[k] := ⟨_, rfl⟩
      rw [← hx] at hc ST
      obtain ⟨out, hout⟩ : ∃ out, out = ascA (L.take k) := ⟨_, rfl⟩
      rw [← hout] at T ST
      have HC0 := Lib.hid ((T.out.below.cell (p := ⟨ga, k, none⟩) (by show ga < B; omega)).symm.trans hc)
      have ST := Lib.hid ST
      clear hvr hx hout hc
      go_wp2
      go_loopw [5] (fun j wr => ∃ (q : Nat), q ≤ m ∧ j = .int .i64 q ∧ Hid (∀ (j : Nat) (hj : j < out.length), j < q → out[j] ≤ x) ∧ Hid (TxA w wr B g m c out)) (fun j _ => m - (intOf j).toNat)
      case atStart => exact ⟨0, Nat.zero_le _, rfl, fun j hj h => by omega, by simpa using T⟩
      case round =>
          obtain ⟨q, hq, rfl, HQ, T2⟩ := hrel
          clear T
          have hcx := (T2.out.below.cell (p := ⟨ga, k, none⟩) (by show ga < B; omega)).trans HC0.out
          have hol := T2.out.len
          by_cases hgo : ∃ h : q < out.length, out[q] ≤ x
          · obtain ⟨hqm, hless⟩ := hgo
            have b2 : (q : Int) < (m : Int) := by omega
            have hoc := T2.out.own.cellAt q (by omega)
            rw [iv_at out q hqm] at hoc
            have HQ2 : Hid (∀ (j : Nat) (hj : j < out.length), j < q + 1 → out[j] ≤ x) := fun j hj h => by
              by_cases e : j = q
              · subst e; exact hless
              · exact HQ.out j hj (by omega)
            obtain ⟨y, hy⟩ : ∃ y, y = out[q] := ⟨_, rfl⟩
            rw [← hy] at hoc hless
            have m1 : decide (y ≤ x) = true := decide_eq_true hless
            clear hless hy HQ
            go_wp2
            go_quiet (fail)
            go_wp2
            go_roundw
            case rel => exact ⟨q + 1, by omega, by go_num, HQ2, Lib.hid (T2.out.drewN _)⟩
            case measure => simp [intOf]; omega
          · have EI := Lib.hid (insA_at (show q ≤ out.length by omega) HQ.out (fun h => by
              cases Int.lt_or_le x out[q] with
              | inl hh => exact hh
              | inr hh => exact absurd ⟨h, hh⟩ hgo))
            rw [← ST.out] at EI
            have HG := Lib.hid hgo
            clear hgo HQ
            rcases Nat.lt_or_ge q m with hqm | hqm
            case' inl =>
              have b2 : (q : Int) < (m : Int) := by omega
              have hoc := T2.out.own.cellAt q (by omega)
              rw [iv_at out q (by omega)] at hoc
              have m1 : decide (out[q]'(by omega) ≤ x) = false := decide_eq_false (fun hh => HG.out ⟨by omega, hh⟩)
              obtain ⟨y, hy⟩ : ∃ y, y = out[q]'(by omega) := ⟨_, rfl⟩
              rw [← hy] at hoc m1
              clear hy
              go_wp2
              go_quiet (fail)
              go_wp2_with fail
            case' inr =>
              have b2 : (m : Int) ≤ (q : Int) := by omega
              have d0 : decide (q < m) = false := decide_eq_false (by omega)
              go_wp2
              go_quiet (fail)
              go_wp2_with fail
            all_goals
              obtain ⟨w3, hw3⟩ : ∃ w3, w3 = wr.drewN nq := ⟨_, rfl⟩
              have T3 := Lib.hid (T2.out.drewN nq)
              have hc3 : (wr.drewN nq).cell? ⟨ga, k, none⟩ = some (.int .i64 x) := hcx
              rw [← hw3] at T3 hc3 ⊢
              have hmc := capA T3.out.own
              obtain ⟨d, rfl⟩ : ∃ d, m = q + d := ⟨m - q, by omega⟩
              obtain ⟨ce, rfl⟩ : ∃ ce, c = q + ce := ⟨c - q, by omega⟩
              have hde : d ≤ ce := by omega
              have i1 : (q : Int) ≤ (q : Int) + (ce : Int) := by omega
              have i2 : (0 : Int) ≤ (q : Int) := by omega
              have i3 : (q : Int) ≤ (q : Int) + (d : Int) := by omega
              have hlit := World.ownsRow_lit (base := w3.heap.size) (e := 3) (size := 1) w3 #[] 0 (Nat.le_refl _) (by decide) rfl
              have HLIT := Lib.hid hlit
              have CN1 : Hid (∀ (j : Nat) (u : Value), (iv (out.take q))[j]? = some u → (w3.alloc (.cells #[] 3)).cell? ((⟨g, 0, none⟩ : Addr).add j) = some u) := fun j u hu => by
                rw [← iv_takeA] at hu
                have hj : j < q := by
                  have := (List.getElem?_eq_some_iff.1 hu).1
                  rw [List.length_take] at this; omega
                rw [List.getElem?_take_of_lt hj] at hu
                exact (T3.out.own.alloc _).cells (g := g) rfl j u hu
              have hga3 : ga < w3.heap.size := by have := T3.out.below.size; have := HB.out; omega
              have hg3 : g < w3.heap.size := (T3.out.own.lt g rfl).2
              have y1 : 0 + q ≤ maxLen := by unfold maxLen; omega
              have y2 : (0 + q) * 8 ≤ 140737488355328 := by omega
              have y3 : q + 1 ≤ maxLen := by unfold maxLen; omega
              have y4 : (q + 1) * 8 ≤ 140737488355328 := by omega
              have y5 : q + 1 + d ≤ maxLen := by unfold maxLen; omega
              have y6 : (q + 1 + d) * 8 ≤ 140737488355328 := by omega
              have BS := Lib.hid (show w3.heap.size ≤ (w3.alloc (.cells #[] 3)).heap.size by simp)
              have BS2 := Lib.hid (show w3.heap.size ≤ ((w3.alloc (.cells #[] 3)).alloc (.cells #[.int .i64 x] 3)).heap.size by simp; omega)
              have CN2 : Hid (∀ (j : Nat) (u : Value), (iv (out.take q))[j]? = some u → ((w3.alloc (.cells #[] 3)).alloc (.cells #[.int .i64 x] 3)).cell? ((⟨g, 0, none⟩ : Addr).add j) = some u) := fun j u hu => by
                have h1 := CN1.out j u hu
                exact (World.cell?_of_block (w := w3.alloc (.cells #[] 3)) (Below.heap_alloc _ _ _ (World.block_lt_of_cell? _ _ h1))).trans h1
              have XB : Hid (((w3.alloc (.cells #[] 3)).alloc (.cells #[.int .i64 x] 3)).heap[w3.heap.size + 1]? = some (.cells #[.int .i64 x] 3 (0, 0))) := by
                have := heap_alloc_new (w3.alloc (.cells #[] 3)) (.cells #[.int .i64 x] 3)
                rw [World.size_alloc] at this
                exact this
              obtain ⟨wx, hwx⟩ : ∃ wx, wx = w3.alloc (.cells #[.int .i64 x] 3) := ⟨_, rfl⟩
              have wxs : wx.heap.size = w3.heap.size + 1 := by rw [hwx]; simp
              have LITX : Hid ((wx.alloc (.cells #[] 3)).ownsRow w3.heap.size 3 1 (.slice (some ⟨w3.heap.size + 1, 0, none⟩) 0 0) 0 []) := by
                have h1 := World.ownsRow_lit (base := w3.heap.size) (e := 3) (size := 1) wx #[] 0 (by omega) (by decide) rfl
                rw [wxs] at h1
                exact h1
              have BX : Hid (Below w3.heap.size w3 (wx.alloc (.cells #[] 3))) := by
                have h1 := (Below.refl w3.heap.size w3).alloc (Nat.le_refl _) (.cells #[.int .i64 x] 3)
                rw [← hwx] at h1
                exact h1.alloc (by omega) _
              have BSX := Lib.hid (show w3.heap.size ≤ (wx.alloc (.cells #[] 3)).heap.size by simp; omega)
              have CN3 : Hid (∀ (j : Nat) (u : Value), (iv (out.take q))[j]? = some u → (wx.alloc (.cells #[] 3)).cell? ((⟨g, 0, none⟩ : Addr).add j) = some u) := fun j u hu => by
                rw [← iv_takeA] at hu
                have hj : j < q := by
                  have := (List.getElem?_eq_some_iff.1 hu).1
                  rw [List.length_take] at this; omega
                rw [List.getElem?_take_of_lt hj] at hu
                rw [hwx]
                exact ((T3.out.own.alloc _).alloc _).cells (g := g) rfl j u hu
              have XB2 : Hid ((wx.alloc (.cells #[] 3)).heap[w3.heap.size]? = some (.cells #[.int .i64 x] 3 (0, 0))) := by
                rw [heap_alloc_old _ _ (show w3.heap.size < wx.heap.size by omega), hwx]
                exact heap_alloc_new w3 _
              rw [hwx] at LITX BX BSX CN3 XB2
              clear hwx wxs wx
              have ln1 : (iv (out.take q)).length = q * 1 := by rw [iv_length, List.length_take, T3.out.len]; omega
              have ln3 : (iv (out.drop q)).length = d * 1 := by rw [iv_length, List.length_drop, T3.out.len]; omega
              have LN1 := Lib.hid ln1
              have LN3 := Lib.hid ln3
              try clear m1 hoc
              try clear d0
              clear hw3 hlit hcx T2 ln1 ln3 b2 hqm
              rcases ce with _ | ce
              · obtain rfl : d = 0 := by omega
                simp only [Nat.add_zero] at *
                go_region_law (first
                  | (refine step_appA ?gd (.tmp 30) (.tmp 33) 23 ?ho w3.heap.size 3 i0 (.int .i64 0) 1 8 Try.underlying23 hi hz0 hz1 hz2 rfl (Nat.lt_succ_self 0) (.slice (some ⟨w3.heap.size, 0, none⟩) 0 0) 0 [] ?hs ?own ⟨g, 0, none⟩ q q (iv (out.take q)) ?hx LN1.out ?news (iv_oneA _) y1 y2 ?base ?_
                     case gd => rfl
                     case ho => rfl
                     case hs => rfl
                     case hx => rfl
                     case own => exact own_of_blocks HLIT.out (fun _ _ => rfl)
                     case news => exact CN1.out
                     case base => exact BS.out
                     intro v4 w4 hv4 hg4 hn4
                     obtain ⟨g4, c4, rfl⟩ := own_someA hv4 (fun e => by cases (hn4.1 e).1)
                     have hb4 : Below w3.heap.size w3 w4 := ((Below.refl _ _).alloc (Nat.le_refl _) _).grown (grown_drewA hg4) BS.out (fun z hz => by simp only [Value.ownBlock, Option.some.injEq] at hz; omega)
                     have hc4 := (hb4.cell (p := ⟨ga, k, none⟩) hga3).trans hc3
                     simp only [Nat.zero_add, List.nil_append] at hv4
                     have H4 := Lib.hid hv4
                     have HB4 := Lib.hid hb4
                     have BS4 := Lib.hid (show ∀ o : Obj, w3.heap.size ≤ (w4.alloc o).heap.size by intro o; have := HB4.out.size; simp; omega)
                     clear hv4 hg4 hn4 hb4)
                  | (refine step_appA ?gd2 (.tmp 34) (.tmp 39) 23 ?ho2 w3.heap.size 3 i0 (.int .i64 0) 1 8 Try.underlying23 hi hz0 hz1 hz2 rfl (Nat.lt_succ_self 0) (.slice (some ⟨g4, 0, none⟩) q c4) q (iv (out.take q)) ?hs2 ?own2 ⟨w4.heap.size, 0, none⟩ 1 1 [.int .i64 x] ?hx2 rfl ?news2 (one_intA _) y3 y4 ?base2 ?_
                     case gd2 => rfl
                     case ho2 => rfl
                     case hs2 => rfl
                     case hx2 => rfl
                     case own2 => exact H4.out.alloc _
                     case news2 => exact cell_one_new _ _ _
                     case base2 => exact BS4.out _
                     intro v5 w5 hv5 hg5 hn5
                     obtain ⟨g5, c5, rfl⟩ := own_someA hv5 (fun e => by cases (hn5.1 e).1)
                     have hb5 : Below w3.heap.size w3 w5 := (HB4.out.alloc HB4.out.size _).grown hg5 (BS4.out _) (fun z hz => (H4.out.lt z hz).1)
                     have H5 := Lib.hid hv5
                     have HB5 := Lib.hid hb5
                     have CN5 : Hid (∀ (j : Nat) (u : Value), (iv (out.drop q))[j]? = some u → w5.cell? ((⟨g, 0, none⟩ : Addr).add j) = some u) := fun j u hu => by
                       have := (List.getElem?_eq_some_iff.1 hu).1
                       have h2 := LN3.out
                       omega
                     clear hv5 hg5 hn5 hb5)
                  | (refine step_appA ?gd4 (.tmp 30) (.tmp 33) 23 ?ho4 w3.heap.size 3 i0 (.int .i64 0) 1 8 Try.underlying23 hi hz0 hz1 hz2 rfl (Nat.lt_succ_self 0) (.slice (some ⟨w3.heap.size, 0, none⟩) 0 0) 0 [] ?hs4 ?own4 ⟨g, 0, none⟩ q q (iv (out.take q)) ?hx4 LN1.out ?news4 (iv_oneA _) y1 y2 ?base4 ?_
                     case gd4 => rfl
                     case ho4 => rfl
                     case hs4 => rfl
                     case hx4 => rfl
                     case own4 => exact own_of_blocks (HLIT.out.alloc _) (fun _ _ => rfl)
                     case news4 => exact CN2.out
                     case base4 => exact BS2.out
                     intro v4 w4 hv4 hg4 hn4
                     obtain ⟨g4, c4, rfl⟩ := own_someA hv4 (fun e => by cases (hn4.1 e).1)
                     have hb4 : Below w3.heap.size w3 w4 := (((Below.refl _ _).alloc (Nat.le_refl _) _).alloc BS.out _).grown (grown_drewA hg4) BS2.out (fun z hz => by simp only [Value.ownBlock, Option.some.injEq] at hz; omega)
                     have hc4 := (hb4.cell (p := ⟨ga, k, none⟩) hga3).trans hc3
                     have CNX : Hid (∀ (j : Nat) (u : Value), [Value.int .i64 x][j]? = some u → w4.cell? ((⟨w3.heap.size + 1, 0, none⟩ : Addr).add j) = some u) := by
                       have hbk := (grown_drewA hg4).block (w3.heap.size + 1) (by simp) (by simp [Value.ownBlock])
                       exact World.news_of_block (cs := #[.int .i64 x]) (t := 3) (fr := (0, 0)) (hbk.trans XB.out)
                     simp only [Nat.zero_add, List.nil_append] at hv4
                     have H4 := Lib.hid hv4
                     have HB4 := Lib.hid hb4
                     clear hv4 hg4 hn4 hb4)
                  | (refine step_appA ?gd5 (.tmp 34) (.tmp 39) 23 ?ho5 w3.heap.size 3 i0 (.int .i64 0) 1 8 Try.underlying23 hi hz0 hz1 hz2 rfl (Nat.lt_succ_self 0) (.slice (some ⟨g4, 0, none⟩) q c4) q (iv (out.take q)) ?hs5 ?own5 ⟨w3.heap.size + 1, 0, none⟩ 1 1 [.int .i64 x] ?hx5 rfl ?news5 (one_intA _) y3 y4 ?base5 ?_
                     case gd5 => rfl
                     case ho5 => rfl
                     case hs5 => rfl
                     case hx5 => rfl
                     case own5 => exact H4.out
                     case news5 => exact CNX.out
                     case base5 => exact HB4.out.size
                     intro v5 w5 hv5 hg5 hn5
                     obtain ⟨g5, c5, rfl⟩ := own_someA hv5 (fun e => by cases (hn5.1 e).1)
                     have hb5 : Below w3.heap.size w3 w5 := HB4.out.grown hg5 HB4.out.size (fun z hz => (H4.out.lt z hz).1)
                     have H5 := Lib.hid hv5
                     have HB5 := Lib.hid hb5
                     have CN5 : Hid (∀ (j : Nat) (u : Value), (iv (out.drop q))[j]? = some u → w5.cell? ((⟨g, 0, none⟩ : Addr).add j) = some u) := fun j u hu => by
                       have := (List.getElem?_eq_some_iff.1 hu).1
                       have h2 := LN3.out
                       omega
                     clear hv5 hg5 hn5 hb5)
                  | (refine step_appA ?gd6 (.tmp 30) (.tmp 33) 23 ?ho6 w3.heap.size 3 i0 (.int .i64 0) 1 8 Try.underlying23 hi hz0 hz1 hz2 rfl (Nat.lt_succ_self 0) (.slice (some ⟨w3.heap.size + 1, 0, none⟩) 0 0) 0 [] ?hs6 ?own6 ⟨g, 0, none⟩ q q (iv (out.take q)) ?hx6 LN1.out ?news6 (iv_oneA _) y1 y2 ?base6 ?_
                     case gd6 => rfl
                     case ho6 => rfl
                     case hs6 => rfl
                     case hx6 => rfl
                     case own6 => exact own_of_blocks LITX.out (fun _ _ => rfl)
                     case news6 => exact CN3.out
                     case base6 => exact BSX.out
                     intro v4 w4 hv4 hg4 hn4
                     obtain ⟨g4, c4, rfl⟩ := own_someA hv4 (fun e => by cases (hn4.1 e).1)
                     have hb4 : Below w3.heap.size w3 w4 := BX.out.grown (grown_drewA hg4) BSX.out (fun z hz => by simp only [Value.ownBlock, Option.some.injEq] at hz; omega)
                     have hc4 := (hb4.cell (p := ⟨ga, k, none⟩) hga3).trans hc3
                     have CNX : Hid (∀ (j : Nat) (u : Value), [Value.int .i64 x][j]? = some u → w4.cell? ((⟨w3.heap.size, 0, none⟩ : Addr).add j) = some u) := by
                       have hbk := (grown_drewA hg4).block w3.heap.size (by simp; omega) (by simp [Value.ownBlock])
                       exact World.news_of_block (cs := #[.int .i64 x]) (t := 3) (fr := (0, 0)) (hbk.trans XB2.out)
                     simp only [Nat.zero_add, List.nil_append] at hv4
                     have H4 := Lib.hid hv4
                     have HB4 := Lib.hid hb4
                     clear hv4 hg4 hn4 hb4)
                  | (refine step_appA ?gd7 (.tmp 34) (.tmp 39) 23 ?ho7 w3.heap.size 3 i0 (.int .i64 0) 1 8 Try.underlying23 hi hz0 hz1 hz2 rfl (Nat.lt_succ_self 0) (.slice (some ⟨g4, 0, none⟩) q c4) q (iv (out.take q)) ?hs7 ?own7 ⟨w3.heap.size, 0, none⟩ 1 1 [.int .i64 x] ?hx7 rfl ?news7 (one_intA _) y3 y4 ?base7 ?_
                     case gd7 => rfl
                     case ho7 => rfl
                     case hs7 => rfl
                     case hx7 => rfl
                     case own7 => exact H4.out
                     case news7 => exact CNX.out
                     case base7 => exact HB4.out.size
                     intro v5 w5 hv5 hg5 hn5
                     obtain ⟨g5, c5, rfl⟩ := own_someA hv5 (fun e => by cases (hn5.1 e).1)
                     have hb5 : Below w3.heap.size w3 w5 := HB4.out.grown hg5 HB4.out.size (fun z hz => (H4.out.lt z hz).1)
                     have H5 := Lib.hid hv5
                     have HB5 := Lib.hid hb5
                     have CN5 : Hid (∀ (j : Nat) (u : Value), (iv (out.drop q))[j]? = some u → w5.cell? ((⟨g, 0, none⟩ : Addr).add j) = some u) := fun j u hu => by
                       have := (List.getElem?_eq_some_iff.1 hu).1
                       have h2 := LN3.out
                       omega
                     clear hv5 hg5 hn5 hb5)
                  | (refine step_appA ?gd3 (.tmp 40) (.tmp 43) 23 ?ho3 w3.heap.size 3 i0 (.int .i64 0) 1 8 Try.underlying23 hi hz0 hz1 hz2 rfl (Nat.lt_succ_self 0) (.slice (some ⟨g5, 0, none⟩) (q + 1) c5) (q + 1) (iv (out.take q) ++ [.int .i64 x]) ?hs3 ?own3 ⟨g, 0, none⟩ 0 0 (iv (out.drop q)) ?hx3 LN3.out ?news3 (iv_oneA _) y5 y6 ?base3 ?_
                     case gd3 => rfl
                     case ho3 => rfl
                     case hs3 => rfl
                     case hx3 => rfl
                     case own3 => exact H5.out
                     case news3 => exact CN5.out
                     case base3 => exact HB5.out.size
                     intro v6 w6 hv6 hg6 hn6
                     obtain ⟨g6, c6, rfl⟩ := own_someA hv6 (fun e => by cases (hn6.1 e).1))
                  | fail)
                all_goals
                  have T6 : Hid (TxA w w6 B g6 (q + 1 + 0) c6 (ascA (L.take (k + 1)))) := by
                    refine ⟨?_, ?_, T3.out.below.trans ((HB5.out.grown hg6 HB5.out.size (fun z hz => (H5.out.lt z hz).1)).mono (by rw [HB.out]; exact T3.out.below.size))⟩
                    · have h1 := LN1.out
                      have h3 := LN3.out
                      rw [iv_length] at h1 h3
                      rw [EI.out, List.length_append, List.length_append, h1, h3]
                      simp
                    · rw [EI.out]
                      have e9 : iv (out.take q) ++ [Value.int .i64 x] ++ iv (out.drop q) = iv (out.take q ++ [x] ++ out.drop q) := by
                        rw [iv_snoc, iv_appendA]
                      rw [← e9]
                      have h6 := hv6
                      have hB6 : B ≤ w3.heap.size := by rw [HB.out]; exact T3.out.below.size
                      exact ⟨h6.1, h6.2.imp id (fun ⟨z1, z2, z3, y1, y2, y3⟩ => ⟨z1, z2, z3, y1, Nat.le_trans hB6 y2, y3⟩)⟩
                  clear hv6 hg6 hn6 H5 HB5 CN5 H4 HB4 HLIT CN1 CN2 CN3 LITX BX BSX XB2 XB BS BS2 LN1 LN3 T3 EI
                  go_wp2
                  go_roundw
                  case rel => exact ⟨k + 1, g6, q + 1 + 0, c6, by omega, by omega, rfl, by go_num, T6⟩
                  case measure => simp [intOf]; omega
              · have i4 : (q : Int) ≤ (q : Int) + ((ce : Int) + 1) := by omega
                go_region_law (first
                  | (refine step_appA ?gd (.tmp 30) (.tmp 33) 23 ?ho w3.heap.size 3 i0 (.int .i64 0) 1 8 Try.underlying23 hi hz0 hz1 hz2 rfl (Nat.lt_succ_self 0) (.slice (some ⟨w3.heap.size, 0, none⟩) 0 0) 0 [] ?hs ?own ⟨g, 0, none⟩ q (q + (ce + 1)) (iv (out.take q)) ?hx LN1.out ?news (iv_oneA _) y1 y2 ?base ?_
                     case gd => rfl
                     case ho => rfl
                     case hs => rfl
                     case hx => rfl
                     case own => exact own_of_blocks HLIT.out (fun _ _ => rfl)
                     case news => exact CN1.out
                     case base => exact BS.out
                     intro v4 w4 hv4 hg4 hn4
                     obtain ⟨g4, c4, rfl⟩ := own_someA hv4 (fun e => by cases (hn4.1 e).1)
                     have hb4 : Below w3.heap.size w3 w4 := ((Below.refl _ _).alloc (Nat.le_refl _) _).grown (grown_drewA hg4) BS.out (fun z hz => by simp only [Value.ownBlock, Option.some.injEq] at hz; omega)
                     have hc4 := (hb4.cell (p := ⟨ga, k, none⟩) hga3).trans hc3
                     simp only [Nat.zero_add, List.nil_append] at hv4
                     have H4 := Lib.hid hv4
                     have HB4 := Lib.hid hb4
                     have BS4 := Lib.hid (show ∀ o : Obj, w3.heap.size ≤ (w4.alloc o).heap.size by intro o; have := HB4.out.size; simp; omega)
                     clear hv4 hg4 hn4 hb4)
                  | (refine step_appA ?gd2 (.tmp 34) (.tmp 39) 23 ?ho2 w3.heap.size 3 i0 (.int .i64 0) 1 8 Try.underlying23 hi hz0 hz1 hz2 rfl (Nat.lt_succ_self 0) (.slice (some ⟨g4, 0, none⟩) q c4) q (iv (out.take q)) ?hs2 ?own2 ⟨w4.heap.size, 0, none⟩ 1 1 [.int .i64 x] ?hx2 rfl ?news2 (one_intA _) y3 y4 ?base2 ?_
                     case gd2 => rfl
                     case ho2 => rfl
                     case hs2 => rfl
                     case hx2 => rfl
                     case own2 => exact H4.out.alloc _
                     case news2 => exact cell_one_new _ _ _
                     case base2 => exact BS4.out _
                     intro v5 w5 hv5 hg5 hn5
                     obtain ⟨g5, c5, rfl⟩ := own_someA hv5 (fun e => by cases (hn5.1 e).1)
                     have hb5 : Below w3.heap.size w3 w5 := (HB4.out.alloc HB4.out.size _).grown hg5 (BS4.out _) (fun z hz => (H4.out.lt z hz).1)
                     have H5 := Lib.hid hv5
                     have HB5 := Lib.hid hb5
                     have CN5 : Hid (∀ (j : Nat) (u : Value), (iv (out.drop q))[j]? = some u → w5.cell? ((⟨g, q, none⟩ : Addr).add j) = some u) := fun j u hu => by
                       rw [← iv_dropA, List.getElem?_drop] at hu
                       have h1 := T3.out.own.cells (g := g) rfl (q + j) u hu
                       rw [Addr.add_lit] at h1 ⊢
                       rw [Nat.zero_add] at h1
                       exact (HB5.out.cell (p := ⟨g, q + j, none⟩) hg3).trans h1
                     clear hv5 hg5 hn5 hb5)
                  | (refine step_appA ?gd4 (.tmp 30) (.tmp 33) 23 ?ho4 w3.heap.size 3 i0 (.int .i64 0) 1 8 Try.underlying23 hi hz0 hz1 hz2 rfl (Nat.lt_succ_self 0) (.slice (some ⟨w3.heap.size, 0, none⟩) 0 0) 0 [] ?hs4 ?own4 ⟨g, 0, none⟩ q (q + (ce + 1)) (iv (out.take q)) ?hx4 LN1.out ?news4 (iv_oneA _) y1 y2 ?base4 ?_
                     case gd4 => rfl
                     case ho4 => rfl
                     case hs4 => rfl
                     case hx4 => rfl
                     case own4 => exact own_of_blocks (HLIT.out.alloc _) (fun _ _ => rfl)
                     case news4 => exact CN2.out
                     case base4 => exact BS2.out
                     intro v4 w4 hv4 hg4 hn4
                     obtain ⟨g4, c4, rfl⟩ := own_someA hv4 (fun e => by cases (hn4.1 e).1)
                     have hb4 : Below w3.heap.size w3 w4 := (((Below.refl _ _).alloc (Nat.le_refl _) _).alloc BS.out _).grown (grown_drewA hg4) BS2.out (fun z hz => by simp only [Value.ownBlock, Option.some.injEq] at hz; omega)
                     have hc4 := (hb4.cell (p := ⟨ga, k, none⟩) hga3).trans hc3
                     have CNX : Hid (∀ (j : Nat) (u : Value), [Value.int .i64 x][j]? = some u → w4.cell? ((⟨w3.heap.size + 1, 0, none⟩ : Addr).add j) = some u) := by
                       have hbk := (grown_drewA hg4).block (w3.heap.size + 1) (by simp) (by simp [Value.ownBlock])
                       exact World.news_of_block (cs := #[.int .i64 x]) (t := 3) (fr := (0, 0)) (hbk.trans XB.out)
                     simp only [Nat.zero_add, List.nil_append] at hv4
                     have H4 := Lib.hid hv4
                     have HB4 := Lib.hid hb4
                     clear hv4 hg4 hn4 hb4)
                  | (refine step_appA ?gd5 (.tmp 34) (.tmp 39) 23 ?ho5 w3.heap.size 3 i0 (.int .i64 0) 1 8 Try.underlying23 hi hz0 hz1 hz2 rfl (Nat.lt_succ_self 0) (.slice (some ⟨g4, 0, none⟩) q c4) q (iv (out.take q)) ?hs5 ?own5 ⟨w3.heap.size + 1, 0, none⟩ 1 1 [.int .i64 x] ?hx5 rfl ?news5 (one_intA _) y3 y4 ?base5 ?_
                     case gd5 => rfl
                     case ho5 => rfl
                     case hs5 => rfl
                     case hx5 => rfl
                     case own5 => exact H4.out
                     case news5 => exact CNX.out
                     case base5 => exact HB4.out.size
                     intro v5 w5 hv5 hg5 hn5
                     obtain ⟨g5, c5, rfl⟩ := own_someA hv5 (fun e => by cases (hn5.1 e).1)
                     have hb5 : Below w3.heap.size w3 w5 := HB4.out.grown hg5 HB4.out.size (fun z hz => (H4.out.lt z hz).1)
                     have H5 := Lib.hid hv5
                     have HB5 := Lib.hid hb5
                     have CN5 : Hid (∀ (j : Nat) (u : Value), (iv (out.drop q))[j]? = some u → w5.cell? ((⟨g, q, none⟩ : Addr).add j) = some u) := fun j u hu => by
                       rw [← iv_dropA, List.getElem?_drop] at hu
                       have h1 := T3.out.own.cells (g := g) rfl (q + j) u hu
                       rw [Addr.add_lit] at h1 ⊢
                       rw [Nat.zero_add] at h1
                       exact (HB5.out.cell (p := ⟨g, q + j, none⟩) hg3).trans h1
                     clear hv5 hg5 hn5 hb5)
                  | (refine step_appA ?gd6 (.tmp 30) (.tmp 33) 23 ?ho6 w3.heap.size 3 i0 (.int .i64 0) 1 8 Try.underlying23 hi hz0 hz1 hz2 rfl (Nat.lt_succ_self 0) (.slice (some ⟨w3.heap.size + 1, 0, none⟩) 0 0) 0 [] ?hs6 ?own6 ⟨g, 0, none⟩ q (q + (ce + 1)) (iv (out.take q)) ?hx6 LN1.out ?news6 (iv_oneA _) y1 y2 ?base6 ?_
                     case gd6 => rfl
                     case ho6 => rfl
                     case hs6 => rfl
                     case hx6 => rfl
                     case own6 => exact own_of_blocks LITX.out (fun _ _ => rfl)
                     case news6 => exact CN3.out
                     case base6 => exact BSX.out
                     intro v4 w4 hv4 hg4 hn4
                     obtain ⟨g4, c4, rfl⟩ := own_someA hv4 (fun e => by cases (hn4.1 e).1)
                     have hb4 : Below w3.heap.size w3 w4 := BX.out.grown (grown_drewA hg4) BSX.out (fun z hz => by simp only [Value.ownBlock, Option.some.injEq] at hz; omega)
                     have hc4 := (hb4.cell (p := ⟨ga, k, none⟩) hga3).trans hc3
                     have CNX : Hid (∀ (j : Nat) (u : Value), [Value.int .i64 x][j]? = some u → w4.cell? ((⟨w3.heap.size, 0, none⟩ : Addr).add j) = some u) := by
                       have hbk := (grown_drewA hg4).block w3.heap.size (by simp; omega) (by simp [Value.ownBlock])
                       exact World.news_of_block (cs := #[.int .i64 x]) (t := 3) (fr := (0, 0)) (hbk.trans XB2.out)
                     simp only [Nat.zero_add, List.nil_append] at hv4
                     have H4 := Lib.hid hv4
                     have HB4 := Lib.hid hb4
                     clear hv4 hg4 hn4 hb4)
                  | (refine step_appA ?gd7 (.tmp 34) (.tmp 39) 23 ?ho7 w3.heap.size 3 i0 (.int .i64 0) 1 8 Try.underlying23 hi hz0 hz1 hz2 rfl (Nat.lt_succ_self 0) (.slice (some ⟨g4, 0, none⟩) q c4) q (iv (out.take q)) ?hs7 ?own7 ⟨w3.heap.size, 0, none⟩ 1 1 [.int .i64 x] ?hx7 rfl ?news7 (one_intA _) y3 y4 ?base7 ?_
                     case gd7 => rfl
                     case ho7 => rfl
                     case hs7 => rfl
                     case hx7 => rfl
                     case own7 => exact H4.out
                     case news7 => exact CNX.out
                     case base7 => exact HB4.out.size
                     intro v5 w5 hv5 hg5 hn5
                     obtain ⟨g5, c5, rfl⟩ := own_someA hv5 (fun e => by cases (hn5.1 e).1)
                     have hb5 : Below w3.heap.size w3 w5 := HB4.out.grown hg5 HB4.out.size (fun z hz => (H4.out.lt z hz).1)
                     have H5 := Lib.hid hv5
                     have HB5 := Lib.hid hb5
                     have CN5 : Hid (∀ (j : Nat) (u : Value), (iv (out.drop q))[j]? = some u → w5.cell? ((⟨g, q, none⟩ : Addr).add j) = some u) := fun j u hu => by
                       rw [← iv_dropA, List.getElem?_drop] at hu
                       have h1 := T3.out.own.cells (g := g) rfl (q + j) u hu
                       rw [Addr.add_lit] at h1 ⊢
                       rw [Nat.zero_add] at h1
                       exact (HB5.out.cell (p := ⟨g, q + j, none⟩) hg3).trans h1
                     clear hv5 hg5 hn5 hb5)
                  | (refine step_appA ?gd3 (.tmp 40) (.tmp 43) 23 ?ho3 w3.heap.size 3 i0 (.int .i64 0) 1 8 Try.underlying23 hi hz0 hz1 hz2 rfl (Nat.lt_succ_self 0) (.slice (some ⟨g5, 0, none⟩) (q + 1) c5) (q + 1) (iv (out.take q) ++ [.int .i64 x]) ?hs3 ?own3 ⟨g, q, none⟩ d (ce + 1) (iv (out.drop q)) ?hx3 LN3.out ?news3 (iv_oneA _) y5 y6 ?base3 ?_
                     case gd3 => rfl
                     case ho3 => rfl
                     case hs3 => rfl
                     case hx3 => rfl
                     case own3 => exact H5.out
                     case news3 => exact CN5.out
                     case base3 => exact HB5.out.size
                     intro v6 w6 hv6 hg6 hn6
                     obtain ⟨g6, c6, rfl⟩ := own_someA hv6 (fun e => by cases (hn6.1 e).1))
                  | fail)
                all_goals
                  have T6 : Hid (TxA w w6 B g6 (q + 1 + d) c6 (ascA (L.take (k + 1)))) := by
                    refine ⟨?_, ?_, T3.out.below.trans ((HB5.out.grown hg6 HB5.out.size (fun z hz => (H5.out.lt z hz).1)).mono (by rw [HB.out]; exact T3.out.below.size))⟩
                    · have h1 := LN1.out
                      have h3 := LN3.out
                      rw [iv_length] at h1 h3
                      rw [EI.out, List.length_append, List.length_append, h1, h3]
                      simp
                    · rw [EI.out]
                      have e9 : iv (out.take q) ++ [Value.int .i64 x] ++ iv (out.drop q) = iv (out.take q ++ [x] ++ out.drop q) := by
                        rw [iv_snoc, iv_appendA]
                      rw [← e9]
                      have h6 := hv6
                      have hB6 : B ≤ w3.heap.size := by rw [HB.out]; exact T3.out.below.size
                      exact ⟨h6.1, h6.2.imp id (fun ⟨z1, z2, z3, y1, y2, y3⟩ => ⟨z1, z2, z3, y1, Nat.le_trans hB6 y2, y3⟩)⟩
                  clear hv6 hg6 hn6 H5 HB5 CN5 H4 HB4 HLIT CN1 CN2 CN3 LITX BX BSX XB2 XB BS BS2 LN1 LN3 T3 EI
                  go_wp2
                  go_roundw
                  case rel => exact ⟨k + 1, g6, q + 1 + d, c6, by omega, by omega, rfl, by go_num, T6⟩
                  case measure => simp [intOf]; omega
    · obtain rfl : k = L.length := by omega
      rw [List.take_of_length_le (Nat.le_refl _)] at T
      go_wp2
      go_ret
      rw [← HB.out]
      have hle := T.out.len
      exact ⟨_, rfl, ⟨by rw [iv_length, hle]; exact T.out.own, fun g' hg' => (T.out.own.lt g' hg').2⟩, T.out.below⟩
end Go.Proofs.Ytchfnbcpjiiphaa
