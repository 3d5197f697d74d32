/-
  The contract of the model's function that tells the tree of a code.
  The contract of the model's function TreeOf, of any numbers.
-/
import Derived.Test.YtafdlilojlmchaaCSortE
import Derived.Test.YtafdlilojlmchaaZ5
import Derived.Test.YtafdlilojlmchaaCGridA
namespace Go.Proofs.Ytafdlilojlmchaa
open Go.RowKit

theorem cnt_take (c : List Nat) (k : Nat) (h : k < c.length) (v : Nat) : (c.take (k + 1)).count v = (c.take k).count v + (if c[k] = v then 1 else 0) := by
  rw [List.take_succ_eq_append_getElem h, List.count_append, List.count_singleton]
  congr 1
  by_cases e : c[k] = v <;> simp [e]
def dgA (k : Nat) : Nat → Nat := fun v => if v < k then 1 else 0
theorem dgA_step (k : Nat) : (fun v => if v = k then 1 else dgA k v) = dgA (k + 1) := by
  funext v
  unfold dgA
  by_cases e : v = k
  · rw [if_pos e, if_pos (by omega)]
  · rw [if_neg e]
    by_cases h : v < k
    · rw [if_pos h, if_pos (by omega)]
    · rw [if_neg h, if_neg (by omega)]
theorem dgA_zero (n : Nat) : degV n (deg []) = degV n (dgA 0) := by
  congr 1
theorem dgC_zero (n : Nat) : dgA n = degC n [] := by
  funext v; unfold dgA degC; rw [List.count_nil]; rfl
theorem dgC_step (n : Nat) (c : List Nat) (k : Nat) (h : k < c.length) : (fun v => if v = c[k] then degC n (c.take k) c[k] + 1 else degC n (c.take k) v) = degC n (c.take (k + 1)) := by
  funext v
  unfold degC
  rw [cnt_take c k h]
  by_cases e : v = c[k]
  · rw [if_pos e, e, if_pos rfl]; omega
  · rw [if_neg e, if_neg (Ne.symm e)]; rfl
theorem degC_small (n : Nat) (c : List Nat) (v : Nat) : degC n c v ≤ 1 + c.length := by
  unfold degC
  have h1 := List.count_le_length (a := v) (l := c)
  have h2 : (if v < n then 1 else 0) ≤ 1 := by split <;> omega
  omega
theorem down_step (d : Nat → Nat) (l x : Nat) (h : x ≠ l) : (fun v => if v = x then d x - 1 else if v = l then 0 else d v) = down d l x := by
  funext v
  unfold down
  by_cases e : v = x
  · rw [if_pos e, e, if_neg h, if_pos rfl]
  · rw [if_neg e, if_neg e]
theorem treeE_none {n : Nat} {d : Nat → Nat} (h : ((List.range n).filter fun v => decide (d v = 1)).length ≠ 2) : treeE n [] d = [] := by
  rw [treeE]
  split
  · rename_i a b he; rw [he] at h; exact absurd rfl h
  · rfl
theorem treeE_two {n a b : Nat} {d : Nat → Nat} (h : ((List.range n).filter fun v => decide (d v = 1)) = [a, b]) : treeE n [] d = [(a, b)] := by
  rw [treeE, h]
theorem range_step (d : Nat → Nat) (k : Nat) : ((List.range (k + 1)).filter fun v => decide (d v = 1)) = if d k = 1 then ((List.range k).filter fun v => decide (d v = 1)) ++ [k] else (List.range k).filter fun v => decide (d v = 1) := by
  rw [List.range_succ, List.filter_append]
  by_cases h : d k = 1
  · rw [if_pos h]; simp [h]
  · rw [if_neg h]; simp [h]
theorem Dg.up {w0 w w' : World} {B G n : Nat} {d : Nat → Nat} (h : Dg w0 w B G n d) (hb : Below (G + 1) w w') : Dg w0 w' B G n d :=
  ⟨own_of_blocks h.own (fun q hq => hb.block q (by simp only [Value.ownBlock, Option.some.injEq] at hq; omega)), h.below.trans (hb.mono (by have := h.ge; omega)), h.ge⟩
theorem GridA.lit {w : World} {H : Nat} (hH : H ≤ w.heap.size) : GridA (w.alloc (.cells #[] 30)) H (.slice (some ⟨w.heap.size, 0, none⟩) 0 0) [] [] := by
  have h1 := World.ownsRow_lit (base := H) (e := 30) (size := 1) w #[] 0 hH (by decide) rfl
  exact ⟨⟨⟨h1, fun q hq => (h1.lt q hq).2⟩, RowsI.nil⟩, fun i j u v _ h => by simp at h⟩
theorem GridA.under {w : World} {H G i : Nat} {v u : Value} {RV : List Value} {rows : List (List Int)} (h : GridA w H v RV rows) (hG : G < H) : GridA (w.setCell ⟨G, i, none⟩ u) H v RV rows := by
  have key : ∀ {t : TypeId} {x : Value} {xs : List Value}, Own w H w.heap.size t x xs → Own (w.setCell ⟨G, i, none⟩ u) H (w.setCell ⟨G, i, none⟩ u).heap.size t x xs := fun {t x xs} ho =>
    ⟨own_of_blocks ho.1 (fun q hq => Below.heap_setCell _ _ _ _ (fun e => by have := (ho.1.lt q hq).1; simp at e; omega)), fun q hq => by have := ho.2 q hq; simpa [World.setCell] using this⟩
  exact ⟨⟨key h.grid.1, h.grid.2.1, fun j x r h1 h2 => key (h.grid.2.2 j x r h1 h2)⟩, h.dist⟩

set_option maxHeartbeats 6400000 in
set_option maxRecDepth 100000 in
theorem treeOf_any (n : Nat) (c : List Nat) (v : Value) (w : World) {B0 H0 : Nat} (hv : Hid (Own w B0 H0 3 v (ints c))) (hH : H0 ≤ w.heap.size) (hn : 1 ≤ n ∧ n ≤ 64 ∧ c.length = n - 2) (hc : Hid (∀ x ∈ c, x < n)) :
    Calls Try.prog 27 #[.int .i64 (n : Int), v] w fun e w' => ∃ u RV, e = .returned u ∧ Grid w' w.heap.size w'.heap.size u RV (rowsE (treeN n c)) ∧ Below w.heap.size w w' := by
  obtain ⟨i0, hi, hz0, hz1, hz2⟩ := info_parts Try.infoIntR
  obtain ⟨j0, hj, hy0, hy1, hy2⟩ := info_parts Try.infoRowR
  obtain ⟨hn1, hn64, hcl⟩ := hn
  obtain ⟨av, cv, rfl, _, hcv, hcm, _⟩ := hv.out.slice
  rw [ints_length] at hv hcv ⊢
  have HF : Hid (0 < c.length → ∃ S, Fits n S c (degC n c)) := fun h => ⟨_, fits_code (by omega) hc.out⟩
  have HNE : Hid (∀ e ∈ treeE n c (degC n c), e.1 ≠ e.2) := by
    by_cases h2 : 2 ≤ n
    · exact fun e he => ((fits_pl c _ _ (fits_code (by omega) hc.out)).1.lt e he).2.2
    · obtain rfl : n = 1 := by omega
      have : c = [] := List.eq_nil_of_length_eq_zero (by omega)
      subst this
      intro e he
      rw [treeE_none (by decide)] at he
      cases he
  have hcb : c.length ≤ 62 := by omega
  clear hcl
  go_enter Try.func27, Try.ntmps27
  go_wp2_with (at_make; refine wpList_make_full _ rfl _ _ 30 rfl w.heap.size 3 i0 (.int .i64 0) 1 Try.underlying30 hi hz0 hz1 _ _ _ _ n rfl rfl rfl rfl ?b2 ?b3 (Nat.le_refl _) ?_)
  case b2 => rw [hz2]; omega
  case b3 => unfold maxLen; omega
  intro w1 hown hgrow
  have hb1 : Below w.heap.size w w1 := (Below.refl _ _).grown hgrow (Nat.le_refl _) (fun k hk => by cases hk)
  have hs1 : w.heap.size + 1 ≤ w1.heap.size := by have := (hown.lt w.heap.size rfl).2; omega
  rw [show (madeCells #[Value.int .i64 0] n).toList = List.replicate n (Value.int .i64 0) from toList_madeCells_one _ _, degV_zero, dgA_zero] at hown
  obtain ⟨G, hGe⟩ : ∃ G, G = w.heap.size := ⟨_, rfl⟩
  rw [← hGe] at hown hs1 ⊢
  have D0 : Hid (Dg w w1 w.heap.size G n (dgA 0)) := ⟨hown, hb1, by omega⟩
  rw [← hGe] at D0
  have HGe := Lib.hid hGe
  clear hown hgrow hb1 hGe
  have S0 := Lib.hid hs1
  clear hs1
  go_wp2
  go_loopw [6] (fun ii wr => ∃ k : Nat, k ≤ n ∧ ii = .int .i64 k ∧ Hid (Dg w wr G G n (dgA k)) ∧ Hid (G + 1 ≤ wr.heap.size)) (fun ii _ => n - (intOf ii).toNat)
  case atStart => exact ⟨0, Nat.zero_le _, rfl, D0, S0⟩
  case round =>
    clear D0 S0
    obtain ⟨k, hk, rfl, D, S⟩ := hrel
    by_cases hlt : k < n
    · have b1 : (k : Int) < (n : Int) := by omega
      have hcell := (D.out.own.cellAt k (by omega)).trans (degV_at (dgA k) hlt)
      have hfr := D.out.own.frozenAt k
      have D1 := Lib.hid (show Dg w (wr.setCell ⟨G, k, none⟩ (.int .i64 1)) G G n (dgA (k + 1)) from by rw [← dgA_step]; exact D.out.store (i := k) (x := 1))
      have S1 := Lib.hid (show G + 1 ≤ (wr.setCell ⟨G, k, none⟩ (.int .i64 1)).heap.size by have := S.out; simpa [World.setCell] using this)
      clear D S
      go_wp2
      go_roundw
      case rel => exact ⟨k + 1, by omega, by go_num, D1, S1⟩
      case measure => simp [intOf]; omega
    · obtain rfl : k = n := by omega
      rw [dgC_zero] at D
      have HC : Hid (∀ (W : World) (j : Nat) (hj : j < c.length), Below G w W → ∃ g, av = some ⟨g, 0, none⟩ ∧ W.cell? ⟨g, j, none⟩ = some (.int .i64 ((c[j] : Nat) : Int))) := fun W j hj hb => by
        obtain ⟨g, e, _, _, h, _⟩ := (hv.out.below (hb.mono (by rw [HGe.out]; exact hH))).at_ j (by rw [ints_length]; exact hj)
        exact ⟨g, e, h.trans (ints_get c j (List.getElem?_eq_getElem hj))⟩
      go_wp2
      go_loopw [7] (fun ii wr => ∃ q : Nat, q ≤ c.length ∧ ii = .int .i64 q ∧ Hid (Dg w wr G G k (degC k (c.take q))) ∧ Hid (G + 1 ≤ wr.heap.size)) (fun ii _ => c.length - (intOf ii).toNat)
      case atStart => exact ⟨0, Nat.zero_le _, rfl, by rw [List.take_zero]; exact D, S⟩
      case round =>
        clear D S
        obtain ⟨q, hq, rfl, D, S⟩ := hrel
        by_cases hlt : q < c.length
        · have b1 : (q : Int) < (c.length : Int) := by omega
          obtain ⟨gc, rfl, hcc⟩ := HC.out wr q hlt D.out.below
          have DS := Lib.hid (dgC_step k c q hlt)
          have hxn := hc.out _ (List.getElem_mem hlt)
          obtain ⟨x, hx⟩ : ∃ x, x = c[q] := ⟨_, rfl⟩
          rw [← hx] at hcc DS hxn
          have hds := degC_small k (c.take q) x
          rw [List.length_take] at hds
          obtain ⟨d, hd⟩ : ∃ d, d = degC k (c.take q) := ⟨_, rfl⟩
          rw [← hd] at D DS hds
          have hcell := (D.out.own.cellAt x (by omega)).trans (degV_at d hxn)
          have hfr := D.out.own.frozenAt x
          have g1 : (x : Int) < (k : Int) := by omega
          have ew : IntKind.i64.wrap ((d x : Int) + 1) = (d x : Int) + 1 := by rw [IntKind.wrap_i64]; omega
          have D1 := Lib.hid (D.out.drew.store (i := x) (x := d x + 1))
          have ec : ((d x + 1 : Nat) : Int) = (d x : Int) + 1 := by omega
          have S1 := Lib.hid (show G + 1 ≤ (wr.drew.setCell ⟨G, x, none⟩ (.int .i64 ((d x : Int) + 1))).heap.size by have := S.out; simpa [World.setCell] using this)
          rw [ec, DS.out] at D1
          clear hx hd D S
          go_wp2
          go_still_tail 14, (by kernel_rfl)
          change wpList _ _ _ _ _ wr.drew
          go_wp2
          go_roundw
          case rel => exact ⟨q + 1, by omega, by go_num, D1, S1⟩
          case measure => simp [intOf]; omega
        · obtain rfl : q = c.length := by omega
          rw [List.take_length] at D
          have S1 := S.out
          have GL := Lib.hid (GridA.lit (w := wr) (H := G + 1) S1)
          have DL := Lib.hid (D.out.up ((Below.refl (G + 1) wr).alloc S1 (.cells #[] 30)))
          have SL := Lib.hid (show G + 1 ≤ (wr.alloc (.cells #[] 30)).heap.size by simp; omega)
          clear D S S1
          go_wp2
          obtain ⟨w3, hw3⟩ : ∃ w3, w3 = wr.alloc (.cells #[] 30) := ⟨_, rfl⟩
          obtain ⟨g0, hg0⟩ : ∃ g0, g0 = wr.heap.size := ⟨_, rfl⟩
          rw [← hw3] at GL DL SL ⊢
          rw [← hg0] at GL ⊢
          clear hw3 hg0
          go_loopw [8, 9] (fun out ii wr => ∃ (q go co : Nat) (RV : List Value) (es : Edges) (d : Nat → Nat), q ≤ c.length ∧ out = .slice (some ⟨go, 0, none⟩) q co ∧ ii = .int .i64 q ∧ Hid (Dg w wr G G k d) ∧ Hid (GridA wr (G + 1) (.slice (some ⟨go, 0, none⟩) q co) RV (rowsE es)) ∧
              Hid (es ++ treeE k (c.drop q) d = treeE k c (degC k c)) ∧ Hid (es.length = q) ∧ Hid (q < c.length → ∃ S, Fits k S (c.drop q) d) ∧ Hid (G + 1 ≤ wr.heap.size)) (fun _ ii _ => c.length - (intOf ii).toNat)
          case atStart => exact ⟨0, g0, 0, [], [], degC k c, Nat.zero_le _, rfl, rfl, DL, GL, rfl, rfl, by rw [List.drop_zero]; exact HF, SL⟩
          case round =>
            clear DL GL SL
            obtain ⟨q, go, co, RV, es, d, hq, rfl, rfl, D, GR, HT, HL, HFq, S⟩ := hrel
            by_cases hlt : q < c.length
            · have b1 : (q : Int) < (c.length : Int) := by omega
              obtain ⟨S', hf⟩ := HFq.out hlt
              have hdrop : c.drop q = c[q] :: c.drop (q + 1) := List.drop_eq_getElem_cons hlt
              rw [hdrop] at hf HT
              have hxn := hc.out _ (List.getElem_mem hlt)
              have HX : Hid (∀ (W : World), Below G w W → ∃ g, av = some ⟨g, 0, none⟩ ∧ W.cell? ⟨g, q, none⟩ = some (.int .i64 ((c[q] : Nat) : Int))) := fun W => HC.out W q hlt
              obtain ⟨x, hx⟩ : ∃ x, x = c[q] := ⟨_, rfl⟩
              rw [← hx] at hf HT hxn HX
              obtain ⟨l, hl, hlS, hlc⟩ := fits_leaf hf
              have HF' : Hid (q + 1 < c.length → ∃ S, Fits k S (c.drop (q + 1)) (down d l x)) := fun _ => ⟨_, fits_down hf hlS hlc⟩
              obtain ⟨hln, hld, hlo⟩ := least_some.1 hl
              have hxl : x ≠ l := fun e => hlc (by simp [e])
              have HT' : Hid ((es ++ [(l, x)]) ++ treeE k (c.drop (q + 1)) (down d l x) = treeE k c (degC k c)) := by
                have := HT.out
                rw [treeE, hl] at this
                show _ = _
                rw [← this]; simp
              have hdx : 1 ≤ d x ∧ d x ≤ 64 := by
                obtain ⟨_, _, f3, _, f5⟩ := hf
                have h1 := List.count_le_length (a := x) (l := x :: c.drop (q + 1))
                rw [List.length_cons, List.length_drop] at h1
                have h2 := f5 x
                rw [if_pos (f3 x (by simp))] at h2
                omega
              have LO := Lib.hid hlo
              have LD := Lib.hid hld
              have HD := Lib.hid (down_step d l x hxl)
              have HXL := Lib.hid hxl
              clear hf hl hlS hlc hlo hld HT HFq hdrop hx hxl
              obtain ⟨w5, hw5⟩ : ∃ w5, w5 = wr := ⟨_, rfl⟩
              subst hw5
              go_wp2
              go_loopw [10] (fun leaf w' => ∃ p : Nat, p ≤ l ∧ leaf = .int .i64 p ∧ w' = w5) (fun leaf _ => l - (intOf leaf).toNat)
              case atStart => exact ⟨0, Nat.zero_le _, rfl, rfl⟩
              case round =>
                obtain ⟨p, hp, rfl, rfl⟩ := hrel
                have hcell := (D.out.own.cellAt p (by omega)).trans (degV_at d (show p < k by omega))
                have b2 : (p : Int) < (k : Int) := by omega
                by_cases hpl : p < l
                · have q1 : ((d p : Int) == 1) = false := by rw [beq_eq_false_iff_ne]; have := LO.out p hpl; omega
                  have q2 : ((d p : Int) != 1) = true := by rw [bne, q1]; rfl
                  go_wp2
                  go_roundw
                  case rel => exact ⟨p + 1, by omega, by go_num, by simp⟩
                  case measure => simp [intOf]; omega
                · obtain rfl : p = l := by omega
                  have q1 : ((d p : Int) == 1) = true := by rw [LD.out]; rfl
                  have q2 : ((d p : Int) != 1) = false := by rw [bne, q1]; rfl
                  obtain ⟨gc, rfl, hcc⟩ := HX.out wr D.out.below
                  have hGs := S.out
                  have hml : (rowsE es).length = q := by rw [rowsE_length]; exact HL.out
                  have OW : wr.ownsRow (G + 1) 30 1 (.slice (some ⟨go, 0, none⟩) q co) q RV := by
                    have h1 := GR.out.grid.1.1
                    rwa [GR.out.grid.2.1, hml] at h1
                  have z1 : q + 1 ≤ maxLen := by unfold maxLen; omega
                  have z2 : (q + 1) * 24 ≤ 140737488355328 := by omega
                  have Y3 := Lib.hid (show G + 1 ≤ ((wr.alloc (.cells #[.int .i64 (p : Int), .int .i64 (x : Int)] 3)).alloc (.cells #[.slice (some ⟨wr.heap.size, 0, none⟩) 2 2] 30)).heap.size by simp; omega)
                  have OW3 := Lib.hid ((OW.alloc (.cells #[.int .i64 (p : Int), .int .i64 (x : Int)] 3)).alloc (.cells #[.slice (some ⟨wr.heap.size, 0, none⟩) 2 2] 30))
                  have CN := cell_one_new (wr.alloc (.cells #[.int .i64 (p : Int), .int .i64 (x : Int)] 3)) (.slice (some ⟨wr.heap.size, 0, none⟩) 2 2) 30
                  rw [World.size_alloc] at CN
                  have CN := Lib.hid CN
                  have HML := Lib.hid hml
                  clear OW hml
                  go_wp2_with (at_builtin; refine wpList_append_lies _ rfl (.tmp 57) (.tmp 64) 23 rfl (G + 1) 30 j0 (.slice none 0 0) 1 24 Try.underlying23 hj hy0 hy1 hy2 rfl (Nat.succ_pos 0) (.slice (some ⟨go, 0, none⟩) q co) q RV rfl OW3.out ⟨wr.heap.size + 1, 0, none⟩ 1 1 [.slice (some ⟨wr.heap.size, 0, none⟩) 2 2] rfl rfl CN.out (one_rowR _ _ _ _ rfl) (Nat.succ_pos 0) z1 z2 Y3.out _ rfl ?_)
                  intro g7 c7 w7 hv7 hg7 _ _
                  obtain ⟨G7, B7⟩ := GR.out.push (cs := #[.int .i64 (p : Int), .int .i64 (x : Int)]) (n := 2) (row := [(p : Int), (x : Int)]) HML.out rfl rfl (by omega) hGs hv7 hg7
                  have D7 := Lib.hid (D.out.up B7)
                  have s7 := B7.size
                  have hs7 : G + 1 ≤ w7.heap.size := by omega
                  rw [show rowsE es ++ [[(p : Int), (x : Int)]] = rowsE (es ++ [(p, x)]) by rw [rowsE_append]; rfl] at G7
                  clear hcell
                  have hcell := (D7.out.own.cellAt p (by omega)).trans (degV_at d hln)
                  have hfr := D7.out.own.frozenAt p
                  have b3 : (p : Int) < (k : Int) := by omega
                  have D8 := Lib.hid (show Dg w (w7.setCell ⟨G, p, none⟩ (.int .i64 0)) G G k (fun v => if v = p then 0 else d v) from D7.out.store (i := p) (x := 0))
                  have G8 := Lib.hid (G7.under (i := p) (u := .int .i64 0) (Nat.lt_succ_self G))
                  have S8 := Lib.hid (show G + 1 ≤ (w7.setCell ⟨G, p, none⟩ (.int .i64 0)).heap.size by simpa [World.setCell] using hs7)
                  clear hv7 hg7 B7 G7 D7 s7 hs7 GR D S OW3 CN Y3 hcc q1 q2 hGs
                  go_wp2
                  obtain ⟨w8, hw8⟩ : ∃ w8, w8 = w7.setCell ⟨G, p, none⟩ (.int .i64 0) := ⟨_, rfl⟩
                  rw [← hw8] at D8 G8 S8 ⊢
                  clear hw8 hcell hfr
                  obtain ⟨gc', e9, hcc⟩ := HX.out w8 D8.out.below
                  simp only [Option.some.injEq, Addr.mk.injEq] at e9
                  obtain ⟨rfl, _, _⟩ := e9
                  have hd8 : (if x = p then 0 else d x) = d x := if_neg HXL.out
                  have hcell := (D8.out.own.cellAt x (by omega)).trans (degV_at _ hxn)
                  rw [hd8] at hcell
                  have hfr := D8.out.own.frozenAt x
                  have b4 : (x : Int) < (k : Int) := by omega
                  have ew : IntKind.i64.wrap ((d x : Int) - 1) = (d x : Int) - 1 := by rw [IntKind.wrap_i64]; omega
                  have D9 := Lib.hid (D8.out.drew.store (i := x) (x := d x - 1))
                  have ec : ((d x - 1 : Nat) : Int) = (d x : Int) - 1 := by omega
                  rw [ec] at D9
                  rw [HD.out] at D9
                  have G9 := Lib.hid ((show GridA w8.drew _ _ _ _ from ⟨G8.out.grid.same rfl, G8.out.dist⟩).under (i := x) (u := .int .i64 ((d x : Int) - 1)) (Nat.lt_succ_self G))
                  have S9 := Lib.hid (show G + 1 ≤ (w8.drew.setCell ⟨G, x, none⟩ (.int .i64 ((d x : Int) - 1))).heap.size by have := S8.out; simpa [World.setCell] using this)
                  clear D8 G8 S8
                  go_still_tail 14, (by kernel_rfl)
                  change wpList _ _ _ _ _ w8.drew
                  go_wp2
                  go_roundw
                  case rel => exact ⟨q + 1, g7, c7, _, es ++ [(p, x)], down d p x, by omega, rfl, by go_num, D9, G9, HT', by rw [List.length_append]; have := HL.out; simp; omega, HF', S9⟩
                  case measure => simp [intOf]; omega
            · obtain rfl : q = c.length := by omega
              have HT2 : Hid (es ++ treeE k [] d = treeE k c (degC k c)) := by
                have := HT.out
                rwa [List.drop_eq_nil_of_le (Nat.le_refl _)] at this
              clear HT HFq
              have S1 := S.out
              have hst := World.ownsRow_lit (base := wr.heap.size) (e := 3) (size := 1) wr #[] 0 (Nat.le_refl _) (by decide) rfl
              have ha : Below wr.heap.size wr (wr.alloc (.cells #[] 3)) := (Below.refl _ _).alloc (Nat.le_refl _) _
              have L0 : Hid (Ils wr (wr.alloc (.cells #[] 3)) wr.heap.size wr.heap.size 0 0 []) := ⟨rfl, hst, ha⟩
              obtain ⟨wp, hwp⟩ : ∃ wp, wp = wr := ⟨_, rfl⟩
              subst hwp
              clear hst ha S
              go_wp2
              obtain ⟨w4, hw4⟩ : ∃ w4, w4 = wp.alloc (.cells #[] 3) := ⟨_, rfl⟩
              obtain ⟨P, hP⟩ : ∃ P, P = wp.heap.size := ⟨_, rfl⟩
              rw [← hw4] at L0 ⊢
              rw [← hP] at L0 ⊢
              have HP := Lib.hid hP
              have hGP : G + 1 ≤ P := by rw [hP]; exact S1
              clear hw4 hP S1
              go_loopw [11, 12] (fun last ii wr => ∃ (q g m cm : Nat), q ≤ k ∧ last = .slice (some ⟨g, 0, none⟩) m cm ∧ ii = .int .i64 q ∧ m ≤ q ∧ Hid (Ils wp wr P g m cm ((List.range q).filter fun v => decide (d v = 1)))) (fun _ ii _ => k - (intOf ii).toNat)
              case atStart => exact ⟨0, P, 0, 0, Nat.zero_le _, rfl, rfl, Nat.le_refl _, L0⟩
              case round =>
                clear L0
                obtain ⟨q, g, m, cm, hq, rfl, rfl, hmq, L⟩ := hrel
                have hPw := Lib.hid (show P ≤ wr.heap.size by have := L.out.below.size; rw [HP.out]; exact this)
                have Dw := Lib.hid (D.out.up (L.out.below.mono hGP))
                by_cases hlt : q < k
                · have b1 : (q : Int) < (k : Int) := by omega
                  have hcell := (Dw.out.own.cellAt q (by omega)).trans (degV_at d hlt)
                  have RS := range_step d q
                  by_cases hdq : d q = 1
                  · have q1 : ((d q : Int) == 1) = true := by rw [hdq]; rfl
                    rw [if_pos hdq] at RS
                    have RS := Lib.hid RS
                    have y1 : m + 1 ≤ maxLen := by unfold maxLen; omega
                    have y2 : (m + 1) * 8 ≤ 140737488355328 := by omega
                    have Y3 := Lib.hid (show ∀ o : Obj, P ≤ (wr.alloc o).heap.size by intro o; have := hPw.out; simp; omega)
                    have Y4 := Lib.hid (show ∀ o : Obj, (wr.alloc o).heap.size = wr.heap.size + 1 by intro o; simp)
                    clear hdq
                    go_wp2_with (at_builtin; refine wpList_append_lies _ rfl (.tmp 94) (.tmp 96) 30 rfl P 3 i0 (.int .i64 0) 1 8 Try.underlying30 hi hz0 hz1 hz2 rfl (by decide) _ m (ints ((List.range q).filter fun v => decide (d v = 1))) rfl (L.out.own.alloc _) ⟨wr.heap.size, 0, none⟩ 1 1 [_] rfl rfl (cell_one_new _ _ _) (one_intR _) (by decide) y1 y2 (Y3.out _) (wr.heap.size + 1) (Y4.out _) ?_)
                    intro g7 c7 w7 hv7 hg7 _ _
                    have L7 := Lib.hid (L.out.app hPw.out hv7 hg7)
                    rw [← RS.out] at L7
                    clear hv7 hg7 L Dw Y3 Y4 hcell
                    go_wp2
                    go_roundw
                    case rel => exact ⟨q + 1, g7, m + 1, c7, by omega, rfl, by go_num, by omega, L7⟩
                    case measure => simp [intOf]; omega
                  · have q1 : ((d q : Int) == 1) = false := by rw [beq_eq_false_iff_ne]; omega
                    rw [if_neg hdq] at RS
                    rw [← RS] at L
                    clear hdq RS
                    go_wp2
                    go_roundw
                    case rel => exact ⟨q + 1, g, m, cm, by omega, rfl, by go_num, by omega, L⟩
                    case measure => simp [intOf]; omega
                · obtain rfl : q = k := by omega
                  have hll := L.out.len
                  have GO := Lib.hid ((GR.out.grid.below (by rw [← HP.out]; exact L.out.below)))
                  have HBW := Lib.hid (show Below G w wr from Dw.out.below)
                  have SW := Lib.hid (show wp.heap.size ≤ wr.heap.size by rw [← HP.out]; exact hPw.out)
                  by_cases hm2 : m = 2
                  · subst hm2
                    obtain ⟨a, b, hab⟩ : ∃ a b, ((List.range q).filter fun v => decide (d v = 1)) = [a, b] := by
                      match hL : ((List.range q).filter fun v => decide (d v = 1)), hll with
                      | [a, b], _ => exact ⟨a, b, rfl⟩
                    rw [treeE_two hab] at HT2
                    rw [hab] at L
                    clear hab hll Dw D
                    have OW : wr.ownsRow (G + 1) 30 1 (.slice (some ⟨go, 0, none⟩) c.length co) c.length RV := by
                      have h1 := GO.out.1.1
                      rwa [GO.out.2.1, rowsE_length, HL.out] at h1
                    have OW := Lib.hid OW
                    have y1 : c.length + 1 ≤ maxLen := by unfold maxLen; omega
                    have y2 : (c.length + 1) * 24 ≤ 140737488355328 := by omega
                    have Y3 := Lib.hid (show ∀ o : Obj, G + 1 ≤ (wr.alloc o).heap.size by intro o; have := hPw.out; simp; omega)
                    have Y4 := Lib.hid (show ∀ o : Obj, (wr.alloc o).heap.size = wr.heap.size + 1 by intro o; simp)
                    have q1 : (((2 : Nat) : Int) == 2) = true := by rfl
                    go_wp2_with (at_builtin; refine wpList_append_lies _ rfl (.tmp 101) (.tmp 103) 23 rfl (G + 1) 30 j0 (.slice none 0 0) 1 24 Try.underlying23 hj hy0 hy1 hy2 rfl (by decide) _ c.length RV rfl (OW.out.alloc _) ⟨wr.heap.size, 0, none⟩ 1 1 [_] rfl rfl (cell_one_new _ _ _) (one_rowR _ _ _ _ rfl) (by decide) y1 y2 (Y3.out _) (wr.heap.size + 1) (Y4.out _) ?_)
                    intro g7 c7 w7 hv7 hg7 _ _
                    have hb1 : Below wr.heap.size wr (wr.alloc (.cells #[.slice (some ⟨g, 0, none⟩) 2 cm] 30)) := (Below.refl _ _).alloc (Nat.le_refl _) _
                    have s7 := hg7.size
                    rw [World.size_alloc] at s7
                    have G1 := (GO.out.more SW.out).below hb1
                    have r1 := G1.2.grown G1.1 (by decide) hg7
                    have o2 : Own wr P wr.heap.size 3 (.slice (some ⟨g, 0, none⟩) 2 cm) (iv [(a : Int), (b : Int)]) := L.out.ownN
                    have r2 := (o2.alloc (.cells #[.slice (some ⟨g, 0, none⟩) 2 cm] 30)).grown hg7 (o2.ne GO.out.1 (by decide))
                    have GG : Hid (Grid w7 (G + 1) w7.heap.size (.slice (some ⟨g7, 0, none⟩) (c.length + 1) c7) (RV ++ [.slice (some ⟨g, 0, none⟩) 2 cm]) (rowsE (es ++ [(a, b)]))) := by
                      refine ⟨Own.of_own ?_, ?_⟩
                      · have e : (RV ++ [Value.slice (some ⟨g, 0, none⟩) 2 cm]).length = c.length + 1 := by rw [List.length_append, GO.out.2.1, rowsE_length, HL.out]; rfl
                        rw [e]; exact hv7
                      · rw [rowsE_append]
                        exact (r1.more (by omega)).append (RowsI.one (own_lo (r2.more (by omega)) hGP))
                    have hb7 : Below G w w7 := (HBW.out.trans (hb1.mono (by have := hPw.out; omega))).grown hg7 (by have := hPw.out; simp; omega) (fun z hz => by have := (OW.out.lt z hz).1; omega)
                    have HB7 := Lib.hid hb7
                    have HES := HT2.out
                    have hel : (es ++ [(a, b)]).length ≤ 64 := by rw [List.length_append, HL.out]; simp; omega
                    rw [← HES] at HNE
                    have CS := Lib.hid (sortedEdges_any _ _ _ w7 GG (Nat.le_refl _) hel HNE)
                    rw [HES] at CS
                    have SZ := Lib.hid (show G ≤ w7.heap.size by have := hPw.out; omega)
                    clear hv7 hg7 hb1 s7 G1 r1 o2 r2 GG hb7 HES hel HT2 OW L GO
                    go_wp2_with fail
                    refine CS.out.mono ?_
                    rintro e w9 ⟨g9, m9, c9, LV9, rfl, hS⟩
                    have HS := Lib.hid hS
                    clear hS CS
                    go_wp2
                    go_ret
                    rw [← HGe.out]
                    exact ⟨_, LV9, rfl, HS.out.grid.lo SZ.out, HB7.out.trans (HS.out.below.mono SZ.out)⟩
                  · have hE : treeE q [] d = [] := treeE_none (by rw [hll]; exact hm2)
                    rw [hE, List.append_nil] at HT2
                    have q1 : ((m : Int) == 2) = false := by rw [beq_eq_false_iff_ne]; omega
                    clear hE hll Dw D GR hm2
                    have HES := HT2.out
                    have hel : es.length ≤ 64 := by rw [HL.out]; omega
                    rw [← HES] at HNE
                    have CS := Lib.hid (sortedEdges_any _ _ _ wr GO SW.out hel HNE)
                    rw [HES] at CS
                    have SZ := Lib.hid (show G ≤ wr.heap.size by have := hPw.out; omega)
                    clear GO HES hel HT2 L
                    go_wp2_with fail
                    refine CS.out.mono ?_
                    rintro e w9 ⟨g9, m9, c9, LV9, rfl, hS⟩
                    have HS := Lib.hid hS
                    clear hS CS
                    go_wp2
                    go_ret
                    rw [← HGe.out]
                    exact ⟨_, LV9, rfl, HS.out.grid.lo SZ.out, HBW.out.trans (HS.out.below.mono SZ.out)⟩
end Go.Proofs.Ytafdlilojlmchaa

namespace Go.Proofs.Ytafdlilojlmchaa
open Go.RowKit

/-- rows in the call's own memory -/
def GridTo (rows : List (List Int)) (w : World) (e : Ending) (w' : World) : Prop := ∃ u RV, e = .returned u ∧ Grid w' w.heap.size w'.heap.size u RV rows ∧ Below w.heap.size w w'
theorem gridNil {w w' : World} (hb : Below w.heap.size w w') : GridTo [] w (.returned (.slice none 0 0)) w' :=
  ⟨_, [], rfl, ⟨⟨World.ownsRow_nil _ _ _ _, fun q hq => by simp [Value.ownBlock] at hq⟩, RowsI.nil⟩, hb⟩
def codeU (code : List Int) : List Nat := code.map Int.toNat
def treeOut (n : Int) (code : List Int) : List (List Int) := if codeB n code = true then rowsE (treeN n.toNat (codeU code)) else []
theorem codeB_iff {n : Int} {code : List Int} : codeB n code = true ↔ (∀ x ∈ code, 0 ≤ x ∧ x ≤ n - 1) ∧ (1 ≤ n ∧ n ≤ 7) ∧ code.length = (n - 2).toNat := by
  unfold codeB; exact decide_eq_true_iff
theorem codeU_back {code : List Int} (h : ∀ x ∈ code, 0 ≤ x) : (codeU code).map (fun (k : Nat) => (k : Int)) = code := by
  unfold codeU
  rw [List.map_map]
  have : code.map ((fun (k : Nat) => (k : Int)) ∘ Int.toNat) = code.map id := List.map_congr_left fun x hx => by
    have := h x hx
    show ((x.toNat : Nat) : Int) = x
    omega
  rw [this, List.map_id]
theorem codeU_length (code : List Int) : (codeU code).length = code.length := by simp [codeU]
theorem specTreeOf_any (n : Int) (code : List Int) (v : Value) (w : World) {B0 H0 : Nat} (hv : Hid (Own w B0 H0 3 v (iv code))) (hH : H0 ≤ w.heap.size) (hl : code.length ≤ 1048576) :
    Calls Try.prog 18 #[.int .i64 n, v] w (GridTo (treeOut n code) w) := by
  have C := Lib.hid (validCode_any n code v w hv hl)
  cases ht : codeB n code with
  | false =>
    rw [treeOut, if_neg (by rw [ht]; decide)]
    rw [ht] at C
    obtain ⟨av, cv, rfl, _, _, _, _⟩ := hv.out.slice
    clear hv
    go_enter Try.func18, Try.ntmps18
    go_wp2_with fail
    refine C.out.mono ?_
    rintro e w1 ⟨rfl, rfl⟩
    go_wp2
    go_ret
    exact gridNil (Below.refl _ _)
  | true =>
    rw [treeOut, if_pos ht]
    rw [ht] at C
    obtain ⟨h1, h2, h3⟩ := codeB_iff.1 ht
    obtain ⟨N, rfl⟩ : ∃ N : Nat, n = N := ⟨n.toNat, by omega⟩
    rw [Int.toNat_natCast]
    have hb := codeU_back (code := code) fun x hx => (h1 x hx).1
    have hcl := codeU_length code
    have hcm : ∀ x ∈ codeU code, x < N := fun x hx => by
      obtain ⟨y, hy, rfl⟩ := List.mem_map.1 hx
      have := h1 y hy
      omega
    obtain ⟨c, hc⟩ : ∃ c, c = codeU code := ⟨_, rfl⟩
    rw [← hc] at hb hcl hcm ⊢
    have CD := Lib.hid (treeOf_any N c v w (Lib.hid (by rw [ints_iv2, hb]; exact hv.out)) hH ⟨by omega, by omega, by omega⟩ (Lib.hid hcm))
    obtain ⟨av, cv, rfl, _, _, _, _⟩ := hv.out.slice
    clear hv ht h1 h3 hb hcl hcm hc
    go_enter Try.func18, Try.ntmps18
    go_wp2_with fail
    refine C.out.mono ?_
    rintro e w1 ⟨rfl, rfl⟩
    go_wp2_with fail
    refine CD.out.mono ?_
    rintro e w2 ⟨u, RV, rfl, hG, hb⟩
    obtain ⟨au, cu, rfl, _, _, _, _⟩ := hG.1.slice
    have HG := Lib.hid hG
    have HB := Lib.hid hb
    clear hG hb CD C
    go_wp2
    go_ret
    exact ⟨_, RV, rfl, HG.out, HB.out⟩
end Go.Proofs.Ytafdlilojlmchaa
