/-
  The parts of the program's TreeOf: the edge of two nodes, edges as rows.
  Edges put in order by the library's slices.SortFunc.
  The library's slices.Repeat at one number that is 1: so many ones.
  The contract of the program's TreeOf, of any numbers.
-/
import Derived.Test.YtafdlilojlmchaaZCP
import Derived.Test.YtafdlilojlmchaaCGridA
import Derived.Test.YtafdlilojlmchaaShelf
import Derived.Sort.OwnSorted
import Derived.Laws.CopyOwn
import Derived.Deep.RegionLaw
import Derived.Test.YtafdlilojlmchaaZT
import Derived.Test.YtafdlilojlmchaaZW
namespace Go.Proofs.Ytafdlilojlmchaa
open Go.RowKit

set_option maxHeartbeats 400000 in
theorem edgeOf_p (a b : Nat) (w : World) (hab : a ≠ b) :
    Calls Try.prog 43 #[.int .i64 (a : Int), .int .i64 (b : Int)] w fun e w' => e = .returned (.agg #[.int .i64 ((norm (a, b)).1 : Int), .int .i64 ((norm (a, b)).2 : Int)]) ∧ Below w.heap.size w w' := by
  rcases Nat.lt_or_ge a b with h | h
  · have hn : norm (a, b) = (a, b) := by unfold norm; simp only [Prod.mk.injEq]; omega
    rw [hn]
    have d1 : (a : Int) < (b : Int) := by omega
    clear hn hab h
    go_enter Try.func43, Try.ntmps43
    go_wp2
    refine bodyPost_ret (results_cell_row rfl _ _ w.heap.size _ _ _ _ rfl (heap_alloc_new w _) Try.underlying66 rfl (by kernel_rfl)) rfl ?_
    exact ⟨by first | rfl | rw [Int.min_eq_left (by omega), Int.max_eq_right (by omega)], (Below.refl _ _).alloc (Nat.le_refl _) _⟩
  · have hn : norm (a, b) = (b, a) := by unfold norm; simp only [Prod.mk.injEq]; omega
    rw [hn]
    have d1 : (b : Int) < (a : Int) := by omega
    clear hn hab h
    go_enter Try.func43, Try.ntmps43
    go_wp2
    refine bodyPost_ret (results_cell_row rfl _ _ w.heap.size _ _ _ _ rfl (heap_alloc_new w _) Try.underlying66 rfl (by kernel_rfl)) rfl ?_
    exact ⟨by first | rfl | rw [Int.min_eq_right (by omega), Int.max_eq_left (by omega)], (Below.refl _ _).alloc (Nat.le_refl _) _⟩

theorem rowsE_take (E : Edges) (k : Nat) (h : k < E.length) : rowsE (E.take (k + 1)) = rowsE (E.take k) ++ [[(E[k].1 : Int), (E[k].2 : Int)]] := by
  rw [List.take_succ_eq_append_getElem h, rowsE_append]; rfl
set_option maxHeartbeats 1600000 in
set_option maxRecDepth 100000 in
theorem rowsOf_p (E : Edges) (v : Value) (w : World) {B0 H0 : Nat} (hE : Hid (ERow w B0 H0 v E)) (hH : H0 ≤ w.heap.size) (hel : E.length ≤ 64) :
    Calls Try.prog 46 #[v] w fun e w' => ∃ u RV, e = .returned u ∧ GridA w' w.heap.size u RV (rowsE E) ∧ Below w.heap.size w w' := by
  obtain ⟨i0, hi0, hz0, hz1, hz2⟩ := info_parts Try.infoRowR
  obtain ⟨ao, cap, rfl, _, hcap, _, _⟩ := hE.out.slice
  obtain ⟨G, hG⟩ : ∃ G, G = w.heap.size := ⟨_, rfl⟩
  have HE : Hid (∀ W, Below G w W → ERow W B0 H0 (.slice ao E.length cap) E) := fun W hW => hE.out.below (hW.mono (by rw [hG]; exact hH))
  have G0 : Hid (GridA w G (.slice none 0 0) [] (rowsE (E.take 0))) := GridA.nil w G
  rw [← hG]
  clear hE
  go_enter Try.func46, Try.ntmps46
  go_wp2
  have HG := Lib.hid hG
  clear hG
  go_loopw [3, 8] (fun u i wr => ∃ (k : Nat) (RV : List Value), k ≤ E.length ∧ i = .int .i64 (k : Int) ∧ Hid (GridA wr G u RV (rowsE (E.take k))) ∧ Hid (Below G w wr)) (fun _ i _ => E.length - (intOf i).toNat)
  case atStart => exact ⟨0, [], Nat.zero_le _, rfl, G0, Below.refl _ _⟩
  case round =>
    clear G0
    obtain ⟨k, RV, hk, rfl, HU, HB⟩ := hrel
    have hGr : Hid (G ≤ wr.heap.size) := by have := HB.out.size; rw [HG.out]; exact this
    have hlen : (rowsE (E.take k)).length = k := by rw [rowsE_length, List.length_take]; omega
    obtain ⟨au, cu, rfl, hOW⟩ := HU.out.shape
    rw [hlen] at hOW HU ⊢
    by_cases hlt : k < E.length
    · have b1 : (k : Int) < (E.length : Int) := by omega
      obtain ⟨g, c', e1, _, _, hg, c1, c2⟩ := (HE.out _ HB.out).at_ k hlt
      simp only [Value.slice.injEq] at e1
      obtain ⟨rfl, _, rfl⟩ := e1
      have RT := Lib.hid (rowsE_take E k hlt)
      obtain ⟨y, hy⟩ : ∃ y, y = E[k] := ⟨_, rfl⟩
      rw [← hy] at c1 c2 RT
      have hb2 : Below wr.heap.size wr (wr.alloc (.cells #[.int .i64 (y.1 : Int), .int .i64 (y.2 : Int)] 66)) := (Below.refl _ _).alloc (Nat.le_refl _) _
      have U2 : Hid (GridA (wr.alloc (.cells #[.int .i64 (y.1 : Int), .int .i64 (y.2 : Int)] 66)) G (.slice au k cu) RV (rowsE (E.take k))) := HU.out.below hb2
      have B2 : Hid (Below G w (wr.alloc (.cells #[.int .i64 (y.1 : Int), .int .i64 (y.2 : Int)] 66))) := HB.out.trans (hb2.mono hGr.out)
      have OW2 : Hid ((wr.alloc (.cells #[.int .i64 (y.1 : Int), .int .i64 (y.2 : Int)] 66)).ownsRow G 30 1 (.slice au k cu) k RV) := hOW.alloc _
      clear hy hb2 HU HB hOW hg
      go_upto_region 5 with fail
      obtain ⟨W2, hW2⟩ : ∃ W2, W2 = wr.alloc (.cells #[.int .i64 (y.1 : Int), .int .i64 (y.2 : Int)] 66) := ⟨_, rfl⟩
      obtain ⟨GX, hGX⟩ : ∃ GX, GX = wr.heap.size := ⟨_, rfl⟩
      have a1 : W2.cell? ⟨GX, 0, none⟩ = some (.int .i64 (y.1 : Int)) := by rw [hW2, hGX]; simp
      have a2 : W2.cell? ⟨GX, 1, none⟩ = some (.int .i64 (y.2 : Int)) := by rw [hW2, hGX]; simp
      have hG2 : Hid (G ≤ W2.heap.size) := by have := hGr.out; show _ ≤ _; rw [hW2, World.size_alloc]; omega
      rw [← hW2] at U2 B2 OW2
      rw [← hW2, ← hGX]
      clear c1 c2 hW2 hGX hGr
      have z1 : k + 1 ≤ maxLen := by unfold maxLen; omega
      have z2 : (k + 1) * 24 ≤ 140737488355328 := by omega
      have Y3 := Lib.hid (show G ≤ ((W2.alloc (.cells #[.int .i64 (y.1 : Int), .int .i64 (y.2 : Int)] 3)).alloc (.cells #[.slice (some ⟨W2.heap.size, 0, none⟩) 2 2] 30)).heap.size by have := hG2.out; simp; omega)
      have OW3 := Lib.hid ((OW2.out.alloc (.cells #[.int .i64 (y.1 : Int), .int .i64 (y.2 : Int)] 3)).alloc (.cells #[.slice (some ⟨W2.heap.size, 0, none⟩) 2 2] 30))
      have CN := cell_one_new (W2.alloc (.cells #[.int .i64 (y.1 : Int), .int .i64 (y.2 : Int)] 3)) (.slice (some ⟨W2.heap.size, 0, none⟩) 2 2) 30
      rw [World.size_alloc] at CN
      have CN := Lib.hid CN
      go_wp2_with (at_builtin; refine wpList_append_lies _ rfl (.tmp 12) (.tmp 18) 23 rfl G 30 i0 (.slice none 0 0) 1 24 Try.underlying23 hi0 hz0 hz1 hz2 rfl (Nat.succ_pos 0) (.slice au k cu) k RV rfl OW3.out ⟨W2.heap.size + 1, 0, none⟩ 1 1 [.slice (some ⟨W2.heap.size, 0, none⟩) 2 2] rfl rfl CN.out (one_rowR _ _ _ _ rfl) (Nat.succ_pos 0) z1 z2 Y3.out _ rfl ?_)
      intro g7 c7 w7 hv7 hg7 _ _
      obtain ⟨G7, B7⟩ := U2.out.push (cs := #[.int .i64 (y.1 : Int), .int .i64 (y.2 : Int)]) (n := 2) (row := [(y.1 : Int), (y.2 : Int)]) hlen rfl rfl (by omega) hG2.out hv7 hg7
      rw [← RT.out] at G7
      have G7 := Lib.hid G7
      have B8 := Lib.hid (B2.out.trans B7)
      clear hv7 hg7 B7 U2 B2 OW2 OW3 CN Y3 RT hG2
      go_wp2
      go_roundw
      case rel => exact ⟨k + 1, _, by omega, by go_num, G7, B8⟩
      case measure => simp [intOf]; omega
    · obtain rfl : k = E.length := by omega
      rw [List.take_length] at HU
      go_wp2
      go_ret
      exact ⟨_, RV, rfl, HU.out, HB.out⟩
end Go.Proofs.Ytafdlilojlmchaa

namespace Go.Proofs.Ytafdlilojlmchaa
open Go.RowKit Go.Sort

theorem flatK_E (E : Edges) : flatK encE 2 E.toArray = (flatE E).toArray := by
  apply Array.ext
  · simp [flatE_length]
  · intro t h1 h2
    have ht : t < E.length * 2 := by simpa using h1
    have hj : t / 2 < E.length := by omega
    obtain ⟨f1, f2⟩ := flatE_at E (t / 2) hj
    have hg := get_flatK encE 2 E.toArray t (by simpa using ht)
    rw [getElem!_pos _ t h1] at hg
    rw [hg]
    have he : E.toArray[t / 2]! = E[t / 2] := by rw [getElem!_pos _ _ (by simpa using hj)]; simp
    rw [he]
    have hr : (flatE E)[t]? = some ((flatE E).toArray[t]) := by simp
    rcases Nat.mod_two_eq_zero_or_one t with h0 | h0
    · rw [h0]
      have e1 : t / 2 * 2 = t := by omega
      rw [e1, hr] at f1
      simp only [Option.some.injEq] at f1
      rw [f1]; rfl
    · rw [h0]
      have e1 : t / 2 * 2 + 1 = t := by omega
      rw [e1, hr] at f2
      simp only [Option.some.injEq] at f2
      rw [f2]; rfl
theorem holds_ofE {w : World} {g : Nat} {cur : Array Value} {e : TypeId} {ss : List Value} (hb : w.heap[g]? = some (.cells cur e (0, 0))) (ht : cur.toList.take ss.length = ss) : Holds id w g 0 ss.toArray := by
  intro j hj
  have hj' : j < ss.length := by simpa using hj
  refine ⟨?_, by simp [World.frozen?, hb]⟩
  have h1 : (cur.toList.take ss.length)[j]? = ss[j]? := by rw [ht]
  rw [List.getElem?_take_of_lt hj'] at h1
  simp only [World.cell?, hb, Nat.zero_add]
  simp only [Option.isSome_none, Bool.false_eq_true, if_false]
  rw [← Array.getElem?_toList, h1]
  simp [hj']
theorem heap_sortedE {w : World} {g n : Nat} {os : Array Obj} {cur : Array Value} {e : TypeId} {fr : Nat × Nat} (d : Array Value) (hb : w.heap[g]? = some (.cells cur e fr)) :
    (Sort.grow (putRow id (Sort.ahead w n) g 0 d) os).heap[g]? = some (.cells (putCells id 0 d cur) e fr) := by
  have hg : g < w.heap.size := (Array.getElem?_eq_some_iff.1 hb).1
  rw [heap_grow_old _ _ (by simpa using hg)]
  simp [putRow, mapBlock, Sort.ahead, Array.getElem?_modify, hb, onCells]
theorem grownBy_sortedE {w : World} {g n : Nat} {os : Array Obj} (d : Array Value) : w.grownBy (Sort.grow (putRow id (Sort.ahead w n) g 0 d) os) (some g) := by
  refine ⟨rfl, rfl, rfl, by simp, fun k hk hne => ?_⟩
  rw [heap_grow_old _ _ (by simpa using hk)]
  have : g ≠ k := fun e => hne (by rw [e])
  simp [putRow, mapBlock, Sort.ahead, Array.getElem?_modify, this]
theorem take_putCellsE (cur : Array Value) (ts : List Value) (h : ts.length ≤ cur.size) : (putCells id 0 ts.toArray cur).toList.take ts.length = ts := by
  apply List.ext_getElem?
  intro j
  by_cases hj : j < ts.length
  · rw [List.getElem?_take_of_lt hj, Array.getElem?_toList]
    simp [putCells, hj, show j < cur.size by omega]
  · rw [List.getElem?_take_eq_none (by omega), List.getElem?_eq_none (by omega)]
/-- in order -/
def leE (x y : Nat × Nat) : Bool := !ltP y x
theorem lt_cmpE (x y : Nat × Nat) : ltOf cmpE x y = ltP x y := by
  unfold ltOf
  rw [Bool.eq_iff_iff, decide_eq_true_iff]
  exact cmpE_lt x y
theorem swoE : SWO (ltOf cmpE) where
  irrefl x := by rw [lt_cmpE]; exact ltP_irr x
  trans x y z h1 h2 := by rw [lt_cmpE] at *; exact ltP_trans h1 h2
  ntrans x y z h1 h2 := by
    rw [lt_cmpE] at *
    simp only [ltP, Bool.or_eq_false_iff, Bool.and_eq_false_iff, decide_eq_false_iff_not] at *
    omega
theorem leE_trans (x y z : Nat × Nat) (h1 : leE x y = true) (h2 : leE y z = true) : leE x z = true := by
  unfold leE ltP at *
  simp only [Bool.not_eq_true', Bool.or_eq_false_iff, Bool.and_eq_false_iff, decide_eq_false_iff_not] at *
  omega
theorem leE_total (x y : Nat × Nat) : (leE x y || leE y x) = true := by
  unfold leE
  rcases ltP_total x y with h | h | h
  · have : ltP y x = false := by
      cases hh : ltP y x with
      | false => rfl
      | true => have := ltP_trans h hh; rw [ltP_irr] at this; cases this
    rw [this]; rfl
  · rw [h, ltP_irr]; rfl
  · have : ltP x y = false := by
      cases hh : ltP x y with
      | false => rfl
      | true => have := ltP_trans h hh; rw [ltP_irr] at this; cases this
    rw [this]; simp
/-- the one order of edges, none of them twice -/
theorem merge_sortP {L : Edges} (h : L.Nodup) : L.mergeSort leE = sortP L := by
  have hp := List.mergeSort_perm L leE
  have hs : (L.mergeSort leE).Pairwise fun a b => leE a b = true := List.pairwise_mergeSort leE_trans leE_total L
  refine (sortP_uniq ?_ h hp.symm).symm
  have hnd : (L.mergeSort leE).Nodup := (List.Perm.nodup_iff hp).2 h
  unfold AscP
  refine (hs.and hnd).imp fun {a b} ⟨h1, h2⟩ => ?_
  rcases ltP_total a b with h | h | h
  · exact h
  · exact absurd h h2
  · unfold leE at h1; rw [h] at h1; cases h1
set_option maxHeartbeats 800000 in
theorem sortE_p (E : Edges) (v : Value) (w : World) {B H : Nat} (hE : Hid (ERow w B H v E)) (hel : E.length ≤ 64) (hnd : E.Nodup) :
    Calls Try.prog 44 #[v, .func (.func 45) #[] #[]] w fun e w' => e = .returned (.tuple #[]) ∧ ERow w' B w'.heap.size v (sortP E) ∧ w.grownBy w' v.ownBlock := by
  rcases Nat.eq_zero_or_pos E.length with h0 | h0
  · obtain rfl := List.eq_nil_of_length_eq_zero h0
    obtain ⟨ao, cap, rfl, _⟩ := hE.out.slice
    have hS := AnyF.slices_SortFunc_none (P := Try.prog) (ρ := Try.sortF0_ren) Try.sortF0 ao cap (.func (.func 45) #[] #[]) w
    change Calls Try.prog 44 _ _ _ at hS
    refine hS.mono ?_
    rintro e w' ⟨rfl, rfl⟩
    exact ⟨rfl, ⟨hE.out.1, fun g hg => (hE.out.1.lt g hg).2⟩, ⟨rfl, rfl, rfl, Nat.le_refl _, fun _ _ _ => rfl⟩⟩
  · rcases hE.out.1.2 with ⟨rfl, h1⟩ | ⟨g, cap, cur, rfl, h1, h2, h3, h4, h5, h6⟩
    · omega
    · have eg : ∀ args w, (callFunc 45 args).run Try.prog w = .ok (.enter 45 args) w := enters_of Try.func45 (by kernel_rfl) rfl
      have hH : HoldsK encE 2 w g 0 E.toArray := by
        unfold HoldsK
        rw [flatK_E]
        refine holds_ofE h2 ?_
        rw [flatE_length]; exact h6
      have hS := AnyQ.slices_SortFunc_total (P := Try.prog) (ρ := Try.sortF0_ren) Try.sortF0 2 (fun W => by kernel_rfl) (fun W => by kernel_rfl) encE (fun _ => rfl) (fun x u hu => by simp [encE] at hu; rcases hu with rfl | rfl <;> rfl) cmpE swoE 45 #[] g 0 cap E.toArray w eg (fun m os dk _ x y => compare_p x y _) hH (hE.out.1.lt g rfl).2 (by simp; omega) (fun x y a b => by
        rw [lt_cmpE] at a b
        rcases ltP_total x y with h | h | h
        · rw [h] at a; cases a
        · exact h
        · rw [h] at b; cases b)
      change Calls Try.prog 44 _ _ _ at hS
      have e1 : (fun x y => !(ltOf cmpE) y x) = leE := by funext x y; rw [lt_cmpE]; rfl
      rw [e1, List.toList_toArray, merge_sortP hnd, List.size_toArray] at hS
      refine hS.mono ?_
      rintro e w' ⟨rfl, n, os, rfl⟩
      unfold sortWorldK putRowK
      rw [flatK_E]
      have hl : (sortP E).length = E.length := (sortP_perm E).length_eq
      refine ⟨rfl, ⟨?_, fun k hk => ?_⟩, grownBy_sortedE _⟩
      · rw [hl]
        refine ⟨by rw [flatE_length, hl], .inr ⟨g, cap, _, rfl, h1, heap_sortedE _ h2, h3, h4, ?_, ?_⟩⟩
        · simpa [putCells] using h5
        · rw [← hl, ← flatE_length]
          refine take_putCellsE cur _ ?_
          rw [flatE_length, hl, h5]
          omega
      · simp only [Value.ownBlock, Option.some.injEq] at hk
        subst hk
        have := (hE.out.1.lt g rfl).2
        have h9 := (grownBy_sortedE (w := w) (g := g) (n := n) (os := os) (flatE (sortP E)).toArray).size
        omega
end Go.Proofs.Ytafdlilojlmchaa

namespace Go.Proofs.Ytafdlilojlmchaa
open Go.RowKit

/-- k ones of n -/
def rowR (n k : Nat) : List Value := List.replicate k (.int .i64 1) ++ List.replicate (n - k) (.int .i64 0)
theorem rowR_length {n k : Nat} (h : k ≤ n) : (rowR n k).length = n := by simp [rowR]; omega
theorem rowR_splice {n k m : Nat} (h : k + m ≤ n) : splice (rowR n k) k (List.replicate m (.int .i64 1)) = rowR n (k + m) := by
  unfold splice rowR
  rw [List.take_left' (by simp), List.length_replicate]
  have e1 : (List.replicate k (Value.int .i64 1) ++ List.replicate (n - k) (Value.int .i64 0)).drop (k + m) = List.replicate (n - (k + m)) (.int .i64 0) := by
    rw [List.drop_append, List.drop_replicate, List.drop_replicate, List.length_replicate, show k - (k + m) = 0 by omega, show n - k - (k + m - k) = n - (k + m) by omega]
    rfl
  rw [e1, ← List.append_assoc, List.replicate_append_replicate]
theorem rowR_ones (n : Nat) : rowR n n = degV n (fun _ => 1) := by
  unfold rowR
  apply List.ext_getElem?
  intro j
  by_cases hj : j < n
  · rw [degV_at _ hj, List.getElem?_append_left (by simpa using hj), List.getElem?_replicate, if_pos hj]; rfl
  · rw [List.getElem?_eq_none (by simp; omega), List.getElem?_eq_none (by rw [degV_length]; omega)]
theorem one_src {w : World} {g : Nat} {x : Value} (h : w.cell? ⟨g, 0, none⟩ = some x) : ∀ j v, [x][j]? = some v → w.cell? ((⟨g, 0, none⟩ : Addr).add j) = some v := by
  intro j v hv
  match j, hv with
  | 0, hv => simp at hv; subst hv; exact h
theorem full_of_own {w : World} {B g n : Nat} {t : TypeId} {xs : List Value} (h : w.ownsRow B t 1 (.slice (some ⟨g, 0, none⟩) n n) n xs) : w.heap[g]? = some (.cells xs.toArray t (0, 0)) := by
  rcases h.2 with ⟨h0, _⟩ | ⟨g', cap, cur, hv, _, h2, _, _, h5, h6⟩
  · cases h0
  · simp only [Value.slice.injEq, Option.some.injEq, Addr.mk.injEq] at hv
    obtain ⟨⟨rfl, _⟩, _, rfl⟩ := hv
    rw [h2]
    have : cur.toList = xs := by rw [← h6]; exact (List.take_of_length_le (by simp; omega)).symm
    rw [← this]
set_option maxHeartbeats 1600000 in
set_option maxRecDepth 100000 in
theorem repeat_p (N g : Nat) (w : World) (hc : w.cell? ⟨g, 0, none⟩ = some (.int .i64 1)) (hN : 2 ≤ N ∧ N ≤ 7) :
    Calls Try.prog 40 #[.slice (some ⟨g, 0, none⟩) 1 1, .int .i64 (N : Int)] w fun e w' => ∃ G, e = .returned (.slice (some ⟨G, 0, none⟩) N N) ∧ Dg w w' w.heap.size G N (fun _ => 1) := by
  obtain ⟨i0, hi, hz0, hz1, hz2⟩ := info_parts Try.infoIntR
  have CM := fun W => Try.bits_Mul 1 N (by omega) (by omega) W
  rw [show (1 * N / 18446744073709551616 : Nat) = 0 by omega, show (1 * N % 18446744073709551616 : Nat) = N by omega] at CM
  have CM := Lib.hid CM
  have n0 : ¬ ((N : Int) < 0) := by omega
  have n1 : IntKind.u64.wrap (N : Int) = (N : Int) := by rw [IntKind.wrap_u64]; omega
  have n2 : ¬ (9223372036854775807 < (N : Int)) := by omega
  have n3 : IntKind.i64.wrap (N : Int) = (N : Int) := by rw [IntKind.wrap_i64]; omega
  obtain ⟨hN2, hN7⟩ := hN
  have hg : g < w.heap.size := World.block_lt_of_cell? w _ hc
  go_enter Try.func40, Try.ntmps40
  go_wp2_with fail
  refine (CM.out w).mono ?_
  rintro e w1 ⟨rfl, rfl⟩
  go_wp2_with (at_make; refine wpList_make_full _ rfl _ _ 30 rfl w1.heap.size 3 i0 (.int .i64 0) 1 Try.underlying30 hi hz0 hz1 _ _ _ _ N rfl rfl rfl rfl ?b2 ?b3 (Nat.le_refl _) ?_)
  case b2 => rw [hz2]; omega
  case b3 => unfold maxLen; omega
  intro w2 hown hgrow
  have hb2 : Below w1.heap.size w1 w2 := (Below.refl _ _).grown hgrow (Nat.le_refl _) (fun k hk => by cases hk)
  rw [show (madeCells #[Value.int .i64 0] N).toList = List.replicate N (Value.int .i64 0) from toList_madeCells_one _ _] at hown
  have hc2 : w2.cell? ⟨g, 0, none⟩ = some (.int .i64 1) := (hb2.cell (p := ⟨g, 0, none⟩) hg).trans hc
  obtain ⟨G, hGe⟩ : ∃ G, G = w1.heap.size := ⟨_, rfl⟩
  rw [← hGe] at hown hb2 ⊢
  have F0 : Hid (w2.heap[G]? = some (.cells (rowR N 0).toArray 3 (0, 0))) := full_of_own hown
  have HGe := Lib.hid hGe
  have HB2 := Lib.hid hb2
  have gne : Hid (g ≠ G) := by show _ ≠ _; omega
  clear hown hgrow hb2 hGe hc CM
  have q1 : Hid ([Value.int .i64 1].length = Nat.min 1 N) := show 1 = Nat.min 1 N from (Nat.min_eq_left (by omega)).symm
  have q2 : Hid (0 + [Value.int .i64 1].length ≤ (rowR N 0).length) := by rw [rowR_length (by omega)]; show 1 ≤ N; omega
  go_wp2_with (refine wpList_copy_splice (o := ⟨some 33, _, _, _, _, _⟩) rfl (.tmp 31) (.tmp 32) 30 30 rfl 3 Try.underlying30 (by kernel_rfl) (some ⟨G, 0, none⟩) (some ⟨g, 0, none⟩) N N 1 1 rfl rfl G 0 (rowR N 0) 3 F0.out [.int .i64 1] q1.out (fun _ => ⟨rfl, _, rfl, one_src hc2⟩) q2.out (one_intR _) G w1 HB2.out (Nat.le_refl _) ?_)
  intro w3 F1 hb3
  have F1 : Hid (w3.heap[G]? = some (.cells (rowR N 1).toArray 3 (0, 0))) := by
    have := F1.out
    rw [show [Value.int .i64 1] = List.replicate 1 (.int .i64 1) from rfl, rowR_splice (by omega)] at this
    exact this
  have HB3 := Lib.hid hb3
  clear hc2 F0 HB2 q1 q2 hb3
  go_wp2
  go_loopw [8] (fun i wr => ∃ k : Nat, 1 ≤ k ∧ k ≤ N ∧ i = .int .i64 (k : Int) ∧ Hid (wr.heap[G]? = some (.cells (rowR N k).toArray 3 (0, 0))) ∧ Hid (Below G w1 wr)) (fun i _ => N - (intOf i).toNat)
  case atStart => exact ⟨1, Nat.le_refl _, by omega, rfl, F1, HB3⟩
  case round =>
    clear F1 HB3
    obtain ⟨k, hk1, hk, rfl, HF, HB⟩ := hrel
    by_cases hlt : k < N
    · have b1 : (k : Int) < (N : Int) := by omega
      obtain ⟨m, hm⟩ : ∃ m, m = Nat.min k (N - k) := ⟨_, rfl⟩
      have hm1 : m = min k (N - k) := hm
      have hm2 : k + m ≤ N ∧ 1 ≤ m ∧ m ≤ k := by omega
      have q1 : Hid ((List.replicate m (Value.int .i64 1)).length = Nat.min k (N - k)) := by show _ = _; rw [List.length_replicate, hm]
      have q2 : Hid (k + (List.replicate m (Value.int .i64 1)).length ≤ (rowR N k).length) := by show _ ≤ _; rw [List.length_replicate, rowR_length hk]; omega
      have q3 : Hid (∀ j v, (List.replicate m (Value.int .i64 1))[j]? = some v → wr.cell? ((⟨G, 0, none⟩ : Addr).add j) = some v) := fun j v hv => by
        have hj : j < m := by have := (List.getElem?_eq_some_iff.1 hv).1; rwa [List.length_replicate] at this
        rw [List.getElem?_replicate, if_pos hj] at hv
        rw [show (⟨G, 0, none⟩ : Addr).add j = ⟨G, j, none⟩ by simp [Addr.add_lit], cell_of_row wr G j _ _ _ HF.out]
        have : (rowR N k)[j]? = some (.int .i64 1) := by
          unfold rowR
          rw [List.getElem?_append_left (by simp; omega), List.getElem?_replicate, if_pos (by omega)]
        rw [← hv]
        simpa using this
      have q4 : Hid (∀ v ∈ List.replicate m (Value.int .i64 1), v.oneCell' = true) := fun v hv => by rw [(List.mem_replicate.1 hv).2]; rfl
      have SP := Lib.hid (rowR_splice (n := N) hm2.1)
      have SL : (List.replicate m (Value.int .i64 1)).length = m := List.length_replicate
      have HM := Lib.hid hm2
      obtain ⟨cs, hcs⟩ : ∃ cs, cs = List.replicate m (Value.int .i64 1) := ⟨_, rfl⟩
      rw [← hcs] at q1 q2 q3 q4 SP SL
      have SL := Lib.hid SL
      have HBd : Hid (Below G w1 wr.drew) := Below.drew HB.out
      have nk : ¬ N = k := by omega
      have i1 : (0 : Int) ≤ (k : Int) := by omega
      have i2 : (k : Int) ≤ (N : Int) := by omega
      have i3 : IntKind.i64.wrap ((k : Int) + (m : Int)) = (k : Int) + (m : Int) := by rw [IntKind.wrap_i64]; omega
      clear hcs hm hm1 hm2
      go_wp2
      go_region_law (first
        | (refine step_copy_splice ?gd (.tmp 41) (.tmp 44) 30 30 ?ho 3 Try.underlying30 (by kernel_rfl) (some ⟨G, k, none⟩) (some ⟨G, 0, none⟩) (N - k) (N - k) k N ?hd ?hs G k (rowR N k) 3 HF.out cs q1.out (fun _ => ⟨rfl, _, rfl, q3.out⟩) q2.out q4.out G w1 HBd.out (Nat.le_refl _) ?_
           case gd => rfl
           case ho => rfl
           case hd => kernel_rfl
           case hs => kernel_rfl
           intro w4 hg4 hb4
           rw [SL.out]))
      all_goals
        have F4 : Hid (w4.heap[G]? = some (.cells (rowR N (k + m)).toArray 3 (0, 0))) := by
          have := hg4.out
          rw [SP.out] at this
          exact this
        have HB4 := Lib.hid hb4
        clear hg4 hb4 HF HB q1 q2 q3 q4 SP
        go_simp
        go_wp2
        go_roundw
        case rel => exact ⟨k + m, by omega, HM.out.1, by go_num, F4, HB4⟩
        case measure => have := HM.out; simp [intOf]; omega
    · obtain rfl : k = N := by omega
      go_wp2
      go_ret
      refine ⟨G, rfl, own_of_full (by omega) (by unfold maxLen; omega) (degV_length _ _) ?_, by rw [← HGe.out]; exact HB.out, by rw [HGe.out]; exact Nat.le_refl _⟩
      rw [← rowR_ones]; exact HF.out
end Go.Proofs.Ytafdlilojlmchaa

namespace Go.Proofs.Ytafdlilojlmchaa
open Go.RowKit

theorem clone_p (xs : List Int) (v : Value) (w : World) {B H : Nat} (hv : Hid (Own w B H 3 v (iv xs))) (hl : xs.length ≤ 64) :
    Calls Try.prog 41 #[v] w fun e w' => ∃ u, e = .returned u ∧ Own w' w.heap.size w'.heap.size 3 u (iv xs) ∧ Below w.heap.size w w' := by
  obtain ⟨av, cv, rfl, h0, _, _, h1⟩ := hv.out.slice
  rw [iv_length] at hv h0 ⊢
  cases av with
  | none =>
    obtain ⟨e0, rfl⟩ := h0 rfl
    have : xs = [] := List.eq_nil_of_length_eq_zero e0
    subst this
    refine (Try.slices_Clone_int_nil 0 0 w).mono ?_
    rintro e w' ⟨rfl, rfl⟩
    exact ⟨_, rfl, ⟨World.ownsRow_nil _ _ _ _, fun q hq => by simp [Value.ownBlock] at hq⟩, Below.refl _ _⟩
  | some a =>
    obtain ⟨g, rfl, _, _⟩ := h1 a rfl
    by_cases hx : xs.length = 0
    · have : xs = [] := List.eq_nil_of_length_eq_zero hx
      subst this
      refine (Try.slices_Clone_int_zero _ cv w).mono ?_
      rintro e w' ⟨u, rfl, h, _, hb⟩
      exact ⟨u, rfl, Own.of_own h, hb⟩
    · refine (Try.slices_Clone_int g 0 xs.length cv xs w (Nat.le_refl _) (by omega) (fun j hj => ?_)).mono ?_
      · obtain ⟨g', e, _, _, h, _⟩ := hv.out.at_ j (by rw [iv_length]; exact hj)
        cases e
        rw [Nat.zero_add]
        rw [h, iv_at xs j hj, List.getD_eq_getElem?_getD, List.getElem?_eq_getElem hj]; rfl
      · rintro e w' ⟨u, rfl, h, _, hb⟩
        rw [List.take_length] at h
        exact ⟨u, rfl, Own.of_own (by rw [iv_length]; exact h), hb⟩
theorem treeOut_nil {n : Int} {code : List Int} (h : ¬ (2 ≤ n ∧ n ≤ 7 ∧ (code.length : Int) = n - 2)) : treeOut n code = [] := by
  unfold treeOut
  split
  · next hb =>
    obtain ⟨h1, h2, h3⟩ := codeB_iff.1 hb
    have hn : n = 1 := by omega
    subst hn
    have : code = [] := List.eq_nil_of_length_eq_zero (by rw [h3]; rfl)
    subst this
    rfl
  · rfl
theorem treeOut_bad {n : Int} {code : List Int} {k : Nat} (hk : k < code.length) (h : ¬ (0 ≤ code[k] ∧ code[k] ≤ n - 1)) : treeOut n code = [] := by
  unfold treeOut
  rw [if_neg]
  intro hb
  exact h ((codeB_iff.1 hb).1 _ (List.getElem_mem hk))
theorem degV_congr {n : Nat} {d d' : Nat → Nat} (h : ∀ v, v < n → d v = d' v) : degV n d = degV n d' := by
  unfold degV
  congr 1
  exact List.map_congr_left fun v hv => h v (List.mem_range.1 hv)
theorem degC_one (n : Nat) : degV n (fun _ => 1) = degV n (degC n []) := degV_congr fun v hv => by unfold degC; rw [if_pos hv, List.count_nil]
theorem gridRetNil {w w' : World} {H : Nat} (hb : Below H w w') : GridRet H [] w (.returned (.slice none 0 0)) w' := ⟨_, [], rfl, GridA.nil _ _, hb⟩
theorem codeU_at (code : List Int) (k : Nat) (h : k < code.length) : (codeU code)[k]'(by rw [codeU_length]; exact h) = (code[k]).toNat := by simp [codeU]
theorem ERow.under {w : World} {B H G i : Nat} {v u : Value} {E : Edges} (h : ERow w B H v E) (hG : G < B) : ERow (w.setCell ⟨G, i, none⟩ u) B H v E :=
  ⟨own_blocks2 h.1 fun g hg => Below.heap_setCell _ _ _ _ (fun e => by have := (h.1.lt g hg).1; simp at e; omega), h.2⟩
theorem own_under {w : World} {B H G i : Nat} {t : TypeId} {v u : Value} {xs : List Value} (h : Own w B H t v xs) (hG : G < B) : Own (w.setCell ⟨G, i, none⟩ u) B H t v xs :=
  ⟨own_of_blocks h.1 fun g hg => Below.heap_setCell _ _ _ _ (fun e => by have := (h.1.lt g hg).1; simp at e; omega), h.2⟩
theorem GridA.lo {w : World} {H H' : Nat} {v : Value} {RV : List Value} {rows : List (List Int)} (h : GridA w H v RV rows) (hH : H' ≤ H) : GridA w H' v RV rows := ⟨h.grid.lo hH, h.dist⟩
theorem down_stepP (d : Nat → Nat) (l x : Nat) (h : x ≠ l) (hl : d l = 1) : (fun v => if v = x then d x - 1 else if v = l then d l - 1 else d v) = down d l x := by
  rw [hl]; exact down_step d l x h

set_option maxHeartbeats 3200000 in
set_option maxRecDepth 100000 in
theorem treeOf_p (n : Int) (code : List Int) (v : Value) (w : World) (B0 H0 : Nat) (hv : Hid (Own w B0 H0 3 v (iv code))) (hH : H0 ≤ w.heap.size) (hl : code.length ≤ 1048576) (hnw : (Lit.int .i64 n).wf = true) :
    Calls Try.prog 17 #[.int .i64 n, v] w (GridRet w.heap.size (treeOut n code) w) := by
  by_cases hall : 2 ≤ n ∧ n ≤ 7 ∧ (code.length : Int) = n - 2
  · obtain ⟨h2, h7, hlen⟩ := hall
    obtain ⟨N, rfl⟩ : ∃ N : Nat, n = N := ⟨n.toNat, by omega⟩
    obtain ⟨i0, hi, hz0, hz1, hz2⟩ := info_parts Try.infoIntR
    obtain ⟨e0, he0, hy0, hy1, hy2⟩ := info_parts Try.infoEdge
    obtain ⟨av, cv, rfl, _, hcv, hcm, _⟩ := hv.out.slice
    rw [iv_length] at hv hcv ⊢
    obtain ⟨M, hM⟩ : ∃ M, M = code.length := ⟨_, rfl⟩
    have HM := Lib.hid hM
    rw [← hM] at hv hcv hlen hl ⊢
    have hNM : N = M + 2 := by omega
    have HNM := Lib.hid hNM
    have hM5 : M ≤ 5 := by omega
    have c1 : ¬ ((N : Int) < 2) := by omega
    have c2 : ¬ (7 < (N : Int)) := by omega
    have ew2 : IntKind.i64.wrap ((N : Int) - 2) = (N : Int) - 2 := by rw [IntKind.wrap_i64]; omega
    have c3 : ((M : Int) == (N : Int) - 2) = true := by rw [beq_iff_eq]; omega
    have c4 : ((M : Int) != (N : Int) - 2) = false := by rw [bne, c3]; rfl
    have hN7 : 2 ≤ N ∧ N ≤ 7 := by omega
    have cs := cell_one_new w (.int .i64 1) 3 0 _ rfl
    have CR := Lib.hid (repeat_p N w.heap.size (w.alloc (.cells #[.int .i64 1] 3)) cs hN7)
    obtain ⟨b0, hb0⟩ : ∃ b0, b0 = w.heap.size := ⟨_, rfl⟩
    have HB0 := Lib.hid hb0
    have ha : Below b0 w (w.alloc (.cells #[.int .i64 1] 3)) := by rw [hb0]; exact (Below.refl _ _).alloc (Nat.le_refl _) _
    have HA := Lib.hid ha
    have HAS := Lib.hid (show b0 ≤ (w.alloc (.cells #[.int .i64 1] 3)).heap.size from by rw [hb0]; exact ha.size)
    clear hlen hM hNM hnw cs ha hb0
    go_enter Try.func17, Try.ntmps17
    go_wp2_with fail
    refine CR.out.mono ?_
    rintro e w1 ⟨G, rfl, hD⟩
    have hb1 : Below b0 w w1 := HA.out.trans (hD.below.mono HAS.out)
    have hGb : b0 ≤ G := Nat.le_trans HAS.out hD.ge
    have hGs := (hD.own.lt G rfl).2
    have D0 : Hid (Dg w w1 b0 G N (degC N [])) := ⟨by rw [← degC_one]; exact hD.own, hb1, hGb⟩
    have S0 := Lib.hid (show G + 1 ≤ w1.heap.size from hGs)
    clear hD hb1 CR hGs c1 c2 c3 c4 ew2
    have HCD : Hid (∀ (W : World) (j : Nat) (hj : j < code.length), Below b0 w W → ∃ g, av = some ⟨g, 0, none⟩ ∧ W.cell? ⟨g, j, none⟩ = some (.int .i64 code[j])) := fun W j hj hb => by
      obtain ⟨g, e, _, _, h, _⟩ := Own.at_ (hv.out.below (hb.mono (by rw [HB0.out]; exact hH))) j (by rw [iv_length]; exact hj)
      exact ⟨g, e, h.trans (iv_at code j hj)⟩
    obtain ⟨c, hc⟩ : ∃ c, c = codeU code := ⟨_, rfl⟩
    have hcl : c.length = code.length := by rw [hc, codeU_length]
    have HCU := Lib.hid hc
    have HCL := Lib.hid hcl
    clear hc hcl
    go_wp2
    go_loopw [30] (fun ii wr => ∃ k : Nat, k ≤ M ∧ ii = .int .i64 (k : Int) ∧ Hid (Dg w wr b0 G N (degC N (c.take k))) ∧ Hid (G + 1 ≤ wr.heap.size) ∧ Hid (∀ (j : Nat) (hj : j < code.length), j < k → 0 ≤ code[j] ∧ code[j] ≤ (N : Int) - 1)) (fun ii _ => M - (intOf ii).toNat)
    case atStart => exact ⟨0, Nat.zero_le _, rfl, by rw [List.take_zero]; exact D0, S0, fun j _ hj => by omega⟩
    case round =>
      clear D0 S0
      obtain ⟨k, hk, rfl, D, S, HK⟩ := hrel
      by_cases hlt : k < M
      · have hkc : k < code.length := by rw [← HM.out]; exact hlt
        have b1 : (k : Int) < (M : Int) := by omega
        obtain ⟨gc, rfl, hcc⟩ := HCD.out wr k hkc D.out.below
        obtain ⟨y, hy⟩ : ∃ y, y = code[k] := ⟨_, rfl⟩
        rw [← hy] at hcc
        by_cases hin : 0 ≤ y ∧ y ≤ (N : Int) - 1
        · obtain ⟨x, rfl⟩ : ∃ x : Nat, y = x := ⟨y.toNat, by omega⟩
          have hkU : k < c.length := by rw [HCL.out]; exact hkc
          have hcx : c[k] = x := by
            have h1 : c[k] = (code[k]).toNat := by
              have h2 : c[k]? = (codeU code)[k]? := by rw [HCU.out]
              rw [List.getElem?_eq_getElem hkU, List.getElem?_eq_getElem (by rw [codeU_length]; exact hkc), codeU_at code k hkc] at h2
              simpa using h2
            rw [h1, ← hy]; rfl
          have DS := dgC_step N c k hkU
          rw [hcx] at DS
          have DS := Lib.hid DS
          have hds := degC_small N (c.take k) x
          rw [List.length_take] at hds
          have HK2 : Hid (∀ (j : Nat) (hj : j < code.length), j < k + 1 → 0 ≤ code[j] ∧ code[j] ≤ (N : Int) - 1) := fun j hj hjk => by
            by_cases e : j = k
            · subst e; rw [← hy]; exact hin
            · exact HK.out j hj (by omega)
          obtain ⟨d, hd⟩ : ∃ d, d = degC N (c.take k) := ⟨_, rfl⟩
          rw [← hd] at D DS hds
          have hxN : x < N := by omega
          have hcell := (D.out.own.cellAt x (by omega)).trans (degV_at d hxN)
          have hfr := D.out.own.frozenAt x
          have g1 : (x : Int) < (N : Int) := by omega
          have g2 : ¬ ((x : Int) < 0) := by omega
          have g3 : ¬ ((N : Int) ≤ (x : Int)) := by omega
          have hdx : d x ≤ 8 := by omega
          have ew : IntKind.i64.wrap ((d x : Int) + 1) = (d x : Int) + 1 := by rw [IntKind.wrap_i64]; omega
          have D1 := Lib.hid (D.out.store (i := x) (x := d x + 1))
          have ec : ((d x + 1 : Nat) : Int) = (d x : Int) + 1 := by omega
          rw [ec, DS.out] at D1
          have S1 := Lib.hid (show G + 1 ≤ (wr.setCell ⟨G, x, none⟩ (.int .i64 ((d x : Int) + 1))).heap.size by have := S.out; simpa [World.setCell] using this)
          clear hd hy hin hcx HK D S hds
          go_wp2
          go_roundw
          case rel => exact ⟨k + 1, by omega, by go_num, D1, S1, HK2⟩
          case measure => simp [intOf]; omega
        · have HT : Hid (treeOut (N : Int) code = []) := treeOut_bad hkc (by rw [← hy]; exact hin)
          have HBW := Lib.hid D.out.below
          by_cases hy0 : y < 0
          · clear hin hy HK D S
            go_wp2
            go_ret
            rw [HT.out, ← HB0.out]
            exact gridRetNil HBW.out
          · have hyn : (N : Int) ≤ y := by omega
            clear hin hy HK D S
            go_wp2
            go_ret
            rw [HT.out, ← HB0.out]
            exact gridRetNil HBW.out
      · obtain rfl : k = M := by omega
        have hin : ∀ y ∈ code, 0 ≤ y ∧ y ≤ (N : Int) - 1 := fun y hy => by
          obtain ⟨j, hj, rfl⟩ := List.getElem_of_mem hy
          exact HK.out j hj (by rw [HM.out]; exact hj)
        have hkcl : k = c.length := by rw [HCL.out]; exact HM.out
        have hNc : N = c.length + 2 := by rw [HNM.out, hkcl]
        have hcN : ∀ x ∈ c, x < N := fun x hx => by
          rw [HCU.out] at hx
          obtain ⟨y, hy, rfl⟩ := List.mem_map.1 hx
          have := hin y hy
          omega
        have HTO : Hid (treeOut (N : Int) code = rowsE (treeN N c)) := by
          show _ = _
          rw [treeOut, if_pos (codeB_iff.2 ⟨hin, by omega, by rw [← HM.out]; omega⟩), Int.toNat_natCast, HCU.out]
        rw [hkcl, List.take_length] at D
        obtain ⟨T, hT⟩ : ∃ T, T = treeE N c (degC N c) := ⟨_, rfl⟩
        have TP : Hid (Tip N c T 0 [] (degC N c)) := by rw [hT]; exact tip_start hNc hcN
        have HND : Hid ((T.map norm).Nodup) := by rw [hT]; exact (fits_pl c _ _ (fits_code hNc hcN)).1.nodup
        have HTN : Hid (treeN N c = sortP (T.map norm)) := by rw [hT]; rfl
        have hTl : (T.map norm).length ≤ 64 := by
          have h1 : (treeE N c (degC N c)).length = c.length + 1 := (fits_pl c _ _ (fits_code hNc hcN)).1.length
          rw [List.length_map, hT, h1]; omega
        have hends : iv code ++ [.int .i64 ((N : Int) - 1)] = ints (c ++ [N - 1]) := by
          have h1 := codeU_back (code := code) fun x hx => (hin x hx).1
          rw [← HCU.out] at h1
          rw [ints_iv2, List.map_append, h1, iv_snoc]
          congr 2
          simp; omega
        have HE := Lib.hid hends
        have hKC := Lib.hid hkcl
        have HGs := S.out
        have hcap := Lib.hid hH
        have CC := Lib.hid (clone_p code (.slice av k cv) wr (Lib.hid (hv.out.below (D.out.below.mono (by rw [HB0.out]; exact hH)))) (by rw [← HM.out]; omega))
        have ewn : IntKind.i64.wrap ((N : Int) - 1) = (N : Int) - 1 := by rw [IntKind.wrap_i64]; omega
        have hbG := D.out.ge
        clear hin hNc hcN hT hends hkcl HK HCD
        go_wp2_with fail
        refine CC.out.mono ?_
        rintro e w2 ⟨u, rfl, o2, b2⟩
        obtain ⟨au, cu, rfl, _, hcu, _, _⟩ := o2.slice
        rw [iv_length, ← HM.out] at o2 hcu ⊢
        have OC : Hid (w2.ownsRow wr.heap.size 3 1 (.slice au k cu) k (iv code)) := by
          have := o2.1
          rwa [iv_length, ← HM.out] at this
        have D2 := Lib.hid (D.out.up (b2.mono HGs))
        have s2 := b2.size
        have y1 : k + 1 ≤ maxLen := by unfold maxLen; omega
        have y2 : (k + 1) * 8 ≤ 140737488355328 := by omega
        have Y3 := Lib.hid (show ∀ o : Obj, wr.heap.size ≤ (w2.alloc o).heap.size by intro o; simp; omega)
        have HWR := Lib.hid HGs
        clear o2 b2 CC D S
        go_wp2_with (at_builtin; refine wpList_append_lies _ rfl (.tmp 49) (.tmp 52) 30 rfl wr.heap.size 3 i0 (.int .i64 0) 1 8 Try.underlying30 hi hz0 hz1 hz2 rfl (Nat.succ_pos 0) (.slice au k cu) k (iv code) rfl (OC.out.alloc _) ⟨w2.heap.size, 0, none⟩ 1 1 [_] rfl rfl (cell_one_new _ _ _) (one_intR _) (Nat.succ_pos 0) y1 y2 (Y3.out _) _ rfl ?_)
        intro g7 c7 w7 hv7 hg7 _ hg7s
        rw [HE.out] at hv7
        have hb7 : Below wr.heap.size w2 w7 := ((Below.refl _ _).alloc s2 _).grown hg7 (by simp; omega) (fun q hq => (OC.out.lt q hq).1)
        have D7 := Lib.hid (D2.out.up (hb7.mono HWR.out))
        obtain ⟨P, hP⟩ : ∃ P, P = w7.heap.size := ⟨_, rfl⟩
        have hGP : G + 1 ≤ P := by have := hb7.size; have := HWR.out; omega
        obtain ⟨m1, hm1⟩ : ∃ m1, m1 = k + 1 := ⟨_, rfl⟩
        have hcl1 : (c ++ [N - 1]).length = k + 1 := by rw [List.length_append, hKC.out]; rfl
        have O7 : Hid (Own w7 (G + 1) P 3 (.slice (some ⟨g7, 0, none⟩) m1 c7) (ints (c ++ [N - 1]))) := by
          rw [hm1]
          refine own_lo (B := wr.heap.size) ⟨by rw [ints_length, hcl1]; exact hv7, fun q hq => by rw [hP]; exact (hv7.lt q hq).2⟩ HWR.out
        rw [← hm1]
        have U7 : Hid (ERow w7 P w7.heap.size (.slice none 0 0) (([] : Edges).map norm)) := ERow.nil _ _ _
        have P7 := Lib.hid (show P ≤ w7.heap.size from Nat.le_of_eq hP)
        have HM1 := Lib.hid hm1
        have HCL1 := Lib.hid hcl1
        have hm6 : m1 ≤ 6 := by omega
        clear hv7 hg7 hg7s hb7 hP hm1 hcl1 OC D2 Y3 HGs y1 y2 hcu s2
        go_wp2
        go_loopw [8, 55] (fun u ii wr => ∃ (q : Nat) (es : Edges) (d : Nat → Nat), q ≤ m1 ∧ ii = .int .i64 (q : Int) ∧ Hid (Tip N c T q es d) ∧ Hid (Dg w wr b0 G N d) ∧ Hid (ERow wr P wr.heap.size u (es.map norm)) ∧
            Hid (Own wr (G + 1) P 3 (.slice (some ⟨g7, 0, none⟩) m1 c7) (ints (c ++ [N - 1]))) ∧ Hid (P ≤ wr.heap.size)) (fun _ ii _ => m1 - (intOf ii).toNat)
        case atStart => exact ⟨0, [], degC N c, Nat.zero_le _, rfl, TP, D7, U7, O7, P7⟩
        case round =>
          clear TP D7 U7 O7 P7
          obtain ⟨q, es, d, hq, rfl, TP, D, U, O, S⟩ := hrel
          by_cases hlt : q < m1
          · have b1 : (q : Int) < (m1 : Int) := by omega
            have hql : q < (c ++ [N - 1]).length := by rw [HCL1.out, ← HM1.out]; exact hlt
            obtain ⟨x, hx⟩ : ∃ x, (c ++ [N - 1])[q]? = some x := ⟨_, List.getElem?_eq_getElem hql⟩
            obtain ⟨l, hl1, hlN, hdl, hxN, hxl, hdx1, hdx2, TP2⟩ := tip_step TP.out (by rw [← hKC.out, ← HM1.out]; exact hlt) hx
            obtain ⟨ge, e7, _, _, hce0, _⟩ := O.out.at_ q (by rw [ints_length]; exact hql)
            simp only [Option.some.injEq, Addr.mk.injEq] at e7
            obtain ⟨rfl, _, _⟩ := e7
            have hce := hce0.trans (ints_get _ q hx)
            have IX := Lib.hid (indexI_p d N G N l wr (Lib.hid fun v hv => (D.out.own.cellAt v (by omega)).trans (degV_at d hv)) (by omega) (Lib.hid hl1))
            have TP2 := Lib.hid TP2
            have hes := tip_bound TP.out
            have HXL := Lib.hid hxl
            have HDL := Lib.hid hdl
            rw [← hKC.out] at hdx2
            clear hx hl1 hql TP hxl hdl hce0
            go_wp2_with fail
            refine IX.out.mono ?_
            rintro e w3 ⟨rfl, rfl⟩
            have hcell := (D.out.own.cellAt l (by omega)).trans (degV_at d hlN)
            have hfr := D.out.own.frozenAt l
            have b2 : (l : Int) < (N : Int) := by omega
            have b3 : (x : Int) < (N : Int) := by omega
            have hdl8 : d l ≤ 8 := by rw [HDL.out]; omega
            have ew1 : IntKind.i64.wrap ((d l : Int) - 1) = (d l : Int) - 1 := by rw [IntKind.wrap_i64]; omega
            have ec1 : ((d l - 1 : Nat) : Int) = (d l : Int) - 1 := by have := HDL.out; omega
            have D4 := D.out.store (i := l) (x := d l - 1)
            rw [ec1] at D4
            have D4 := Lib.hid D4
            have U4 := Lib.hid (U.out.under (G := G) (i := l) (u := .int .i64 ((d l : Int) - 1)) (by omega))
            have O4 := Lib.hid (own_under O.out (G := G) (i := l) (u := .int .i64 ((d l : Int) - 1)) (by omega))
            have S4 := Lib.hid (show P ≤ (wr.setCell ⟨G, l, none⟩ (.int .i64 ((d l : Int) - 1))).heap.size by have := S.out; simpa [World.setCell] using this)
            have e4 : (wr.setCell ⟨G, l, none⟩ (.int .i64 ((d l : Int) - 1))).heap.size = wr.heap.size := by simp [World.setCell]
            rw [← e4] at U4
            clear D U O S IX ec1 e4
            go_upto_region 17 with fail
            obtain ⟨w4, hw4⟩ : ∃ w4, w4 = wr.setCell ⟨G, l, none⟩ (.int .i64 ((d l : Int) - 1)) := ⟨_, rfl⟩
            rw [← hw4] at D4 U4 O4 S4 ⊢
            clear hw4 hcell hfr ew1 hce
            have hd4 : (if x = l then d l - 1 else d x) = d x := if_neg HXL.out
            have hcell0 := (D4.out.own.cellAt x (by omega)).trans (degV_at _ hxN)
            rw [hd4] at hcell0
            have hcell := hcell0
            clear hcell0
            have hfr := D4.out.own.frozenAt x
            have ew1 : IntKind.i64.wrap ((d x : Int) - 1) = (d x : Int) - 1 := by rw [IntKind.wrap_i64]; omega
            have ec1 : ((d x - 1 : Nat) : Int) = (d x : Int) - 1 := by omega
            have D5 := D4.out.store (i := x) (x := d x - 1)
            rw [ec1, down_stepP d l x HXL.out HDL.out] at D5
            have D5 := Lib.hid D5
            have U5 := Lib.hid (U4.out.under (G := G) (i := x) (u := .int .i64 ((d x : Int) - 1)) (by omega))
            have O5 := Lib.hid (own_under O4.out (G := G) (i := x) (u := .int .i64 ((d x : Int) - 1)) (by omega))
            have S5 := Lib.hid (show P ≤ (w4.setCell ⟨G, x, none⟩ (.int .i64 ((d x : Int) - 1))).heap.size by have := S4.out; simpa [World.setCell] using this)
            have e4 : (w4.setCell ⟨G, x, none⟩ (.int .i64 ((d x : Int) - 1))).heap.size = w4.heap.size := by simp [World.setCell]
            rw [← e4] at U5
            clear D4 U4 O4 S4 ec1 e4 hd4
            go_upto_region 18 with fail
            obtain ⟨w5, hw5⟩ : ∃ w5, w5 = w4.setCell ⟨G, x, none⟩ (.int .i64 ((d x : Int) - 1)) := ⟨_, rfl⟩
            rw [← hw5] at D5 U5 O5 S5 ⊢
            clear hw5 hcell hfr ew1
            have CE := Lib.hid (edgeOf_p l x w5 (Ne.symm HXL.out))
            obtain ⟨ao, cu, rfl, _, _, _, _⟩ := U5.out.slice
            have hel : (es.map norm).length = q := by rw [List.length_map]; exact hes
            rw [hel] at U5 ⊢
            go_wp2_with fail
            refine CE.out.mono ?_
            rintro e w6 ⟨rfl, b6⟩
            have s6 := b6.size
            have D6 := Lib.hid (D5.out.up (b6.mono (by have := S5.out; omega)))
            have U6 := Lib.hid ((U5.out.below b6).more s6)
            have O6 := Lib.hid (O5.out.below (b6.mono S5.out))
            have S6 := Lib.hid (Nat.le_trans S5.out s6)
            obtain ⟨y, hy⟩ : ∃ y, y = norm (l, x) := ⟨_, rfl⟩
            have HY := Lib.hid hy
            rw [← hy]
            have OW : Hid (w6.ownsRow P 66 2 (.slice ao q cu) q (flatE (es.map norm))) := by
              have := U6.out.1
              rwa [hel] at this
            have NW := Lib.hid (World.news_of_block (heap_alloc_new w6 (.cells #[.int .i64 (y.1 : Int), .int .i64 (y.2 : Int)] 66)))
            have ON : Hid (∀ u ∈ [Value.int .i64 (y.1 : Int), Value.int .i64 (y.2 : Int)], u.oneCell' = true) := by intro u hu; simp at hu; rcases hu with rfl | rfl <;> rfl
            have z1 : q + 1 ≤ maxLen := by unfold maxLen; omega
            have z2 : (q + 1) * 16 ≤ 140737488355328 := by omega
            have HSb : Hid (P ≤ (w6.alloc (.cells #[.int .i64 (y.1 : Int), .int .i64 (y.2 : Int)] 66)).heap.size) := by
              have := S6.out; show _ ≤ _; rw [World.size_alloc]; omega
            have HEL := Lib.hid hel
            clear hy hel CE U5 D5 O5 S5 b6 s6 U6
            go_wp2_with (at_builtin; refine wpList_append_lies _ rfl (.tmp 73) (.tmp 77) 46 rfl P 66 e0 (.agg #[.int .i64 0, .int .i64 0]) 2 16 Try.underlying46 he0 hy0 hy1 hy2 rfl (Nat.succ_pos 1) (.slice ao q cu) q (flatE (es.map norm)) rfl (OW.out.alloc _) ⟨w6.heap.size, 0, none⟩ 1 1 [.int .i64 (y.1 : Int), .int .i64 (y.2 : Int)] rfl rfl NW.out ON.out (Nat.lt_succ_self 0) z1 z2 HSb.out _ rfl ?_)
            intro g8 c8 w8 hv8 hg8 _ _
            have hb8 : Below P w6 w8 := ((Below.refl _ _).alloc S6.out _).grown hg8 HSb.out (fun z hz => (OW.out.lt z hz).1)
            have D8 := Lib.hid (D6.out.up (hb8.mono hGP))
            have U8 : Hid (ERow w8 P w8.heap.size (.slice (some ⟨g8, 0, none⟩) (q + 1) c8) ((es ++ [(l, x)]).map norm)) := by
              have h1 := ERow.push HEL.out hv8
              rw [List.map_append, List.map_cons, List.map_nil, ← HY.out]
              exact h1
            have O8 := Lib.hid (O6.out.below hb8)
            have S8 := Lib.hid (Nat.le_trans S6.out hb8.size)
            clear hv8 hg8 hb8 D6 O6 S6 OW NW ON HSb
            go_wp2
            go_roundw
            case rel => exact ⟨q + 1, es ++ [(l, x)], down d l x, by omega, by go_num, TP2, D8, U8, O8, S8⟩
            case measure => simp [intOf]; omega
          · obtain rfl : q = m1 := by omega
            have hes : es = T := tip_end (c := c) (by have := TP.out; rwa [show q = c.length + 1 by rw [HM1.out, hKC.out]] at this)
            subst hes
            obtain ⟨ao, cu, rfl, _, _, _, _⟩ := U.out.slice
            obtain ⟨m2, hm2⟩ : ∃ m2, m2 = (es.map norm).length := ⟨_, rfl⟩
            rw [← hm2] at U ⊢
            clear hm2
            have CS := Lib.hid (sortE_p (es.map norm) _ wr U hTl HND.out)
            have HBW := Lib.hid D.out.below
            clear TP D O
            go_wp2_with fail
            refine CS.out.mono ?_
            rintro e w9 ⟨rfl, u9, g9⟩
            have b9 : Below b0 w w9 := HBW.out.grown g9 (by have := S.out; omega) (fun z hz => by have := (U.out.1.lt z hz).1; omega)
            have s9 := g9.size
            have hsl : (sortP (es.map norm)).length ≤ 64 := by rw [(sortP_perm _).length_eq]; exact hTl
            have CR := Lib.hid (rowsOf_p (sortP (es.map norm)) _ w9 (Lib.hid u9) (Nat.le_refl _) hsl)
            have B9 := Lib.hid b9
            have S9 := Lib.hid (show b0 ≤ w9.heap.size by have := S.out; omega)
            clear u9 g9 b9 s9 hsl CS U S HBW
            go_wp2_with fail
            refine CR.out.mono ?_
            rintro e w10 ⟨u10, RV, rfl, hG, hb⟩
            have HG := Lib.hid hG
            have HB := Lib.hid hb
            clear hG hb CR
            go_wp2
            go_ret
            rw [HTO.out, HTN.out, ← HB0.out]
            exact ⟨_, RV, rfl, HG.out.lo S9.out, B9.out.trans (HB.out.mono S9.out)⟩
  · rw [treeOut_nil hall]
    obtain ⟨av, cv, rfl, _, hcv, hcm, _⟩ := hv.out.slice
    rw [iv_length] at hcv ⊢
    have hw := hnw
    clear hv
    by_cases c1 : n < 2
    · clear hall hnw hw
      go_enter Try.func17, Try.ntmps17
      go_wp2
      go_ret
      exact gridRetNil (Below.refl _ _)
    · by_cases c2 : 7 < n
      · clear hall hnw hw
        go_enter Try.func17, Try.ntmps17
        go_wp2
        go_ret
        exact gridRetNil (Below.refl _ _)
      · have ew2 : IntKind.i64.wrap (n - 2) = n - 2 := by rw [IntKind.wrap_i64]; omega
        have c3 : ((code.length : Int) == n - 2) = false := by rw [beq_eq_false_iff_ne]; omega
        have c4 : ((code.length : Int) != n - 2) = true := by rw [bne, c3]; rfl
        clear hall hnw hw
        go_enter Try.func17, Try.ntmps17
        go_wp2
        go_ret
        exact gridRetNil (Below.refl _ _)
end Go.Proofs.Ytafdlilojlmchaa
