/-
  Edges put in order by the library's slices.SortFunc.
-/
import Derived.Test.YthlboikljibohaaCTreeP
import Derived.Test.YthlboikljibohaaShelf
import Derived.Sort.OwnSorted
namespace Go.Proofs.Ythlboikljibohaa
open Go.RowKit Go.Sort

theorem flatK_E (E : Edges) : flatK encE 2 E.toArray = (flatE E).toArray := by
  apply Array.ext
  · simp [flatE_length]
  · intro t h1 h2
    have ht : t < E.length * 2 := by simpa using h1
    have hj : t / 2 < E.length := by omega
    obtain ⟨f1, f2⟩ := flatE_at E (t / 2) hj
    have hg := get_flatK encE 2 E.toArray t (by simpa using ht)
    rw [getElem!_pos _ t h1] at hg
    rw [hg]
    have he : E.toArray[t / 2]! = E[t / 2] := by rw [getElem!_pos _ _ (by simpa using hj)]; simp
    rw [he]
    have hr : (flatE E)[t]? = some ((flatE E).toArray[t]) := by simp
    rcases Nat.mod_two_eq_zero_or_one t with h0 | h0
    · rw [h0]
      have e1 : t / 2 * 2 = t := by omega
      rw [e1, hr] at f1
      simp only [Option.some.injEq] at f1
      rw [f1]; rfl
    · rw [h0]
      have e1 : t / 2 * 2 + 1 = t := by omega
      rw [e1, hr] at f2
      simp only [Option.some.injEq] at f2
      rw [f2]; rfl
theorem holds_ofE {w : World} {g : Nat} {cur : Array Value} {e : TypeId} {ss : List Value} (hb : w.heap[g]? = some (.cells cur e (0, 0))) (ht : cur.toList.take ss.length = ss) : Holds id w g 0 ss.toArray := by
  intro j hj
  have hj' : j < ss.length := by simpa using hj
  refine ⟨?_, by simp [World.frozen?, hb]⟩
  have h1 : (cur.toList.take ss.length)[j]? = ss[j]? := by rw [ht]
  rw [List.getElem?_take_of_lt hj'] at h1
  simp only [World.cell?, hb, Nat.zero_add]
  simp only [Option.isSome_none, Bool.false_eq_true, if_false]
  rw [← Array.getElem?_toList, h1]
  simp [hj']
theorem heap_sortedE {w : World} {g n : Nat} {os : Array Obj} {cur : Array Value} {e : TypeId} {fr : Nat × Nat} (d : Array Value) (hb : w.heap[g]? = some (.cells cur e fr)) :
    (Sort.grow (putRow id (Sort.ahead w n) g 0 d) os).heap[g]? = some (.cells (putCells id 0 d cur) e fr) := by
  have hg : g < w.heap.size := (Array.getElem?_eq_some_iff.1 hb).1
  rw [heap_grow_old _ _ (by simpa using hg)]
  simp [putRow, mapBlock, Sort.ahead, Array.getElem?_modify, hb, onCells]
theorem grownBy_sortedE {w : World} {g n : Nat} {os : Array Obj} (d : Array Value) : w.grownBy (Sort.grow (putRow id (Sort.ahead w n) g 0 d) os) (some g) := by
  refine ⟨rfl, rfl, rfl, by simp, fun k hk hne => ?_⟩
  rw [heap_grow_old _ _ (by simpa using hk)]
  have : g ≠ k := fun e => hne (by rw [e])
  simp [putRow, mapBlock, Sort.ahead, Array.getElem?_modify, this]
theorem take_putCellsE (cur : Array Value) (ts : List Value) (h : ts.length ≤ cur.size) : (putCells id 0 ts.toArray cur).toList.take ts.length = ts := by
  apply List.ext_getElem?
  intro j
  by_cases hj : j < ts.length
  · rw [List.getElem?_take_of_lt hj, Array.getElem?_toList]
    simp [putCells, hj, show j < cur.size by omega]
  · rw [List.getElem?_take_eq_none (by omega), List.getElem?_eq_none (by omega)]
/-- in order -/
def leE (x y : Nat × Nat) : Bool := !ltP y x
theorem lt_cmpE (x y : Nat × Nat) : ltOf cmpE x y = ltP x y := by
  unfold ltOf
  rw [Bool.eq_iff_iff, decide_eq_true_iff]
  exact cmpE_lt x y
theorem swoE : SWO (ltOf cmpE) where
  irrefl x := by rw [lt_cmpE]; exact ltP_irr x
  trans x y z h1 h2 := by rw [lt_cmpE] at *; exact ltP_trans h1 h2
  ntrans x y z h1 h2 := by
    rw [lt_cmpE] at *
    simp only [ltP, Bool.or_eq_false_iff, Bool.and_eq_false_iff, decide_eq_false_iff_not] at *
    omega
theorem leE_trans (x y z : Nat × Nat) (h1 : leE x y = true) (h2 : leE y z = true) : leE x z = true := by
  unfold leE ltP at *
  simp only [Bool.not_eq_true', Bool.or_eq_false_iff, Bool.and_eq_false_iff, decide_eq_false_iff_not] at *
  omega
theorem leE_total (x y : Nat × Nat) : (leE x y || leE y x) = true := by
  unfold leE
  rcases ltP_total x y with h | h | h
  · have : ltP y x = false := by
      cases hh : ltP y x with
      | false => rfl
      | true => have := ltP_trans h hh; rw [ltP_irr] at this; cases this
    rw [this]; rfl
  · rw [h, ltP_irr]; rfl
  · have : ltP x y = false := by
      cases hh : ltP x y with
      | false => rfl
      | true => have := ltP_trans h hh; rw [ltP_irr] at this; cases this
    rw [this]; simp
/-- the one order of edges, none of them twice -/
theorem merge_sortP {L : Edges} (h : L.Nodup) : L.mergeSort leE = sortP L := by
  have hp := List.mergeSort_perm L leE
  have hs : (L.mergeSort leE).Pairwise fun a b => leE a b = true := List.pairwise_mergeSort leE_trans leE_total L
  refine (sortP_uniq ?_ h hp.symm).symm
  have hnd : (L.mergeSort leE).Nodup := (List.Perm.nodup_iff hp).2 h
  unfold AscP
  refine (hs.and hnd).imp fun {a b} ⟨h1, h2⟩ => ?_
  rcases ltP_total a b with h | h | h
  · exact h
  · exact absurd h h2
  · unfold leE at h1; rw [h] at h1; cases h1
set_option maxHeartbeats 800000 in
theorem sortE_p (E : Edges) (v : Value) (w : World) {B H : Nat} (hE : Hid (ERow w B H v E)) (hel : E.length ≤ 64) (hnd : E.Nodup) :
    Calls Try.prog 61 #[v, .func (.func 62) #[] #[]] w fun e w' => e = .returned (.tuple #[]) ∧ ERow w' B w'.heap.size v (sortP E) ∧ w.grownBy w' v.ownBlock := by
  rcases Nat.eq_zero_or_pos E.length with h0 | h0
  · obtain rfl := List.eq_nil_of_length_eq_zero h0
    obtain ⟨ao, cap, rfl, _⟩ := hE.out.slice
    have hS := AnyF.slices_SortFunc_none (P := Try.prog) (ρ := Try.sortF0_ren) Try.sortF0 ao cap (.func (.func 62) #[] #[]) w
    change Calls Try.prog 61 _ _ _ at hS
    refine hS.mono ?_
    rintro e w' ⟨rfl, rfl⟩
    exact ⟨rfl, ⟨hE.out.1, fun g hg => (hE.out.1.lt g hg).2⟩, ⟨rfl, rfl, rfl, Nat.le_refl _, fun _ _ _ => rfl⟩⟩
  · rcases hE.out.1.2 with ⟨rfl, h1⟩ | ⟨g, cap, cur, rfl, h1, h2, h3, h4, h5, h6⟩
    · omega
    · have eg : ∀ args w, (callFunc 62 args).run Try.prog w = .ok (.enter 62 args) w := enters_of Try.func62 (by kernel_rfl) rfl
      have hH : HoldsK encE 2 w g 0 E.toArray := by
        unfold HoldsK
        rw [flatK_E]
        refine holds_ofE h2 ?_
        rw [flatE_length]; exact h6
      have hS := AnyQ.slices_SortFunc_total (P := Try.prog) (ρ := Try.sortF0_ren) Try.sortF0 2 (fun W => by kernel_rfl) (fun W => by kernel_rfl) encE (fun _ => rfl) (fun x u hu => by simp [encE] at hu; rcases hu with rfl | rfl <;> rfl) cmpE swoE 62 #[] g 0 cap E.toArray w eg (fun m os dk _ x y => compare_p x y _) hH (hE.out.1.lt g rfl).2 (by simp; omega) (fun x y a b => by
        rw [lt_cmpE] at a b
        rcases ltP_total x y with h | h | h
        · rw [h] at a; cases a
        · exact h
        · rw [h] at b; cases b)
      change Calls Try.prog 61 _ _ _ at hS
      have e1 : (fun x y => !(ltOf cmpE) y x) = leE := by funext x y; rw [lt_cmpE]; rfl
      rw [e1, List.toList_toArray, merge_sortP hnd, List.size_toArray] at hS
      refine hS.mono ?_
      rintro e w' ⟨rfl, n, os, rfl⟩
      unfold sortWorldK putRowK
      rw [flatK_E]
      have hl : (sortP E).length = E.length := (sortP_perm E).length_eq
      refine ⟨rfl, ⟨?_, fun k hk => ?_⟩, grownBy_sortedE _⟩
      · rw [hl]
        refine ⟨by rw [flatE_length, hl], .inr ⟨g, cap, _, rfl, h1, heap_sortedE _ h2, h3, h4, ?_, ?_⟩⟩
        · simpa [putCells] using h5
        · rw [← hl, ← flatE_length]
          refine take_putCellsE cur _ ?_
          rw [flatE_length, hl, h5]
          omega
      · simp only [Value.ownBlock, Option.some.injEq] at hk
        subst hk
        have := (hE.out.1.lt g rfl).2
        have h9 := (grownBy_sortedE (w := w) (g := g) (n := n) (os := os) (flatE (sortP E)).toArray).size
        omega
end Go.Proofs.Ythlboikljibohaa
