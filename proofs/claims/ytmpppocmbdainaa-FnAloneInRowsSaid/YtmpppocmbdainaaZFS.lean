/-
  What is answered of free trees, of any rows. Nothing of the program is named here.
  The model's centers, texts and shapes of any rows.
  What is answered of weights of trees, of any rows; the contracts of the model's MostAlone, CountAlone and MostPairs.
-/
import Derived.Test.YtmpppocmbdainaaZW
import Derived.Test.YtmpppocmbdainaaZJ
import Derived.Lib.MinMaxS
import Derived.Test.YtmpppocmbdainaaCTextS
import Derived.Test.YtmpppocmbdainaaZBF
namespace Go.Proofs.Ytmpppocmbdainaa
open Go.RowKit

def intsN (L : List Nat) : List Int := L.map fun (x : Nat) => (x : Int)
def rootOut (n : Int) (rows : List (List Int)) (r : Int) : List UInt8 := if treeB n rows = true ∧ 0 ≤ r ∧ r < n then txt (edgesR rows) 14 r.toNat (-1) else []
def freeOut (n : Int) (rows : List (List Int)) : List UInt8 := if treeB n rows = true then freeT n.toNat (edgesR rows) else []
def mapsOut (n : Int) (rows : List (List Int)) : Int := if treeB n rows = true then IntKind.i64.wrap (mapsN n.toNat (edgesR rows) : Int) else -1
def centsOut (n : Int) (rows : List (List Int)) : List Int := if treeB n rows = true then intsN (cents n.toNat (edgesR rows)) else []
def sameOut (n : Int) (a b : List (List Int)) : Bool := treeB n a && treeB n b && decide (freeT n.toNat (edgesR a) = freeT n.toNat (edgesR b))
def leastT : List (List UInt8) → List UInt8
  | [] => []
  | x :: r => r.foldl minT x
theorem freeT_eq (n : Nat) (E : Edges) : freeT n E = leastT ((cents n E).map fun c => txt E 14 c (-1)) := by
  unfold freeT leastT
  cases (cents n E).map fun c => txt E 14 c (-1) <;> rfl
def bs (l : List UInt8) : ByteArray := ⟨l.toArray⟩
theorem minS_bs (x y : List UInt8) : Lib.minS (bs x) (bs y) = bs (minT x y) := by
  unfold Lib.minS minT
  have e1 : (bs x).data.toList = x := by simp [bs]
  have e2 : (bs y).data.toList = y := by simp [bs]
  rw [e1, e2]
  by_cases h : lessL y x = true
  · have h1 : ¬ (x < y ∨ x = y) := by
      rintro (q | q)
      · rw [← less_lt] at q
        have := less_trans _ _ _ q h
        rw [less_self] at this; cases this
      · subst q; rw [less_self] at h; cases h
    rw [if_neg h1, if_pos h]
  · have h1 : x < y ∨ x = y := by
      rcases less_total x y with q | q | q
      · exact .inl (less_lt.1 q)
      · exact .inr q
      · exact absurd q h
    rw [if_pos h1, if_neg h]
theorem fold_bs (r : List (List UInt8)) : ∀ x, (r.map bs).foldl Lib.minS (bs x) = bs (r.foldl minT x) := by
  induction r with
  | nil => intro x; rfl
  | cons a r ih => intro x; rw [List.map_cons, List.foldl_cons, List.foldl_cons, minS_bs, ih]
theorem minOf_bs {L : List (List UInt8)} (h : L ≠ []) : Lib.minOfS (L.map bs) = bs (leastT L) := by
  cases L with
  | nil => exact absurd rfl h
  | cons x r =>
    unfold Lib.minOfS leastT
    rw [List.map_cons, List.headD_cons, List.foldl_cons, minS_bs, fold_bs]
    have : minT x x = x := by unfold minT; rw [less_self]; rfl
    rw [this]
theorem leastT_mem : ∀ (L : List (List UInt8)), L ≠ [] → leastT L ∈ L
  | [], h => absurd rfl h
  | x :: r, _ => by
    show r.foldl minT x ∈ x :: r
    have key : ∀ (r : List (List UInt8)) (x : List UInt8), r.foldl minT x ∈ x :: r := by
      intro r
      induction r with
      | nil => intro x; simp
      | cons a r ih =>
        intro x
        rw [List.foldl_cons]
        have h1 := ih (minT x a)
        have h2 : minT x a = x ∨ minT x a = a := by
          unfold minT
          by_cases h : lessL a x = true
          · right; rw [if_pos h]
          · left; rw [if_neg h]
        rcases List.mem_cons.1 h1 with h1 | h1
        · rw [h1]; rcases h2 with h2 | h2 <;> rw [h2] <;> simp
        · simp [h1]
    exact key r x
theorem freeT_len {n : Nat} {E : Edges} (hv : ValidT n E) (h7 : n ≤ 7) : (freeT n E).length = 2 * n := by
  rw [freeT_eq]
  have hc := cents_two hv h7
  have h1 := leastT_mem ((cents n E).map fun c => txt E 14 c (-1)) (by
    intro e
    rw [List.map_eq_nil_iff] at e
    rcases hc with ⟨a, h, _⟩ | ⟨a, b, h, _⟩ <;> (rw [h] at e; cases e))
  obtain ⟨c, hcm, he⟩ := List.mem_map.1 h1
  have hcn : c < n := by
    rcases hc with ⟨a, h, h1⟩ | ⟨a, b, h, h1, h2, _⟩
    · rw [h] at hcm; simp at hcm; omega
    · rw [h] at hcm; simp at hcm; omega
  rw [← he, txt_len, nd_len hv h7 hcn]
theorem same_free {n : Int} {a b : List (List Int)} (ha : treeB n a = true) : sameOut n a b = decide (freeOut n a = freeOut n b) := by
  unfold sameOut freeOut
  rw [ha, if_pos rfl, Bool.true_and]
  cases hb : treeB n b with
  | true => rw [if_pos rfl, Bool.true_and]
  | false =>
    rw [if_neg (by decide), Bool.false_and]
    symm
    rw [decide_eq_false_iff_not]
    intro e
    obtain ⟨h1, _, h3⟩ := treeB_iff.1 ha
    have := freeT_len h3 (by omega)
    rw [e] at this
    simp at this; omega
end Go.Proofs.Ytmpppocmbdainaa

namespace Go.Proofs.Ytmpppocmbdainaa
open Go.RowKit

theorem leastT_next {M : List (List UInt8)} {i : Nat} (h1 : 1 ≤ i) (hi : i < M.length) : leastT (M.take (i + 1)) = minT (leastT (M.take i)) M[i] := by
  rw [List.take_succ_eq_append_getElem hi]
  cases M with
  | nil => simp at hi
  | cons x r =>
    cases i with
    | zero => omega
    | succ i =>
      rw [List.take_succ_cons]
      show ((r.take i) ++ [(x :: r)[i + 1]]).foldl minT x = minT ((r.take i).foldl minT x) _
      rw [List.foldl_append]; rfl
theorem rowsE_tree {n : Int} {rows : List (List Int)} (h : treeB n rows = true) : rows = rowsE (edgesR rows) ∧ TreeS n.toNat (edgesR rows) := by
  obtain ⟨h1, h2, h3⟩ := treeB_iff.1 h
  exact ⟨h2, h3, by omega⟩
/-! ### of any rows -/
end Go.Proofs.Ytmpppocmbdainaa

namespace Go.Proofs.Ytmpppocmbdainaa
open Go.RowKit

def treeV (g : Nat → Edges → Nat) (n : Int) (rows : List (List Int)) : Int := if treeB n rows = true then ((g n.toNat (edgesR rows) : Nat) : Int) else -1
def aloneN (_ : Nat) (E : Edges) : Nat := max (alnF E 14 0 (-1)).1 (alnF E 14 0 (-1)).2
def countN (_ : Nat) (E : Edges) : Nat := (setF E 14 0 (-1)).1 + (setF E 14 0 (-1)).2
def pairsN (_ : Nat) (E : Edges) : Nat := (pairF E 14 0 (-1)).1
/-- a function of a tree, by its answer -/
def TreeFn (f : FuncId) (val : Int → List (List Int) → Int) : Prop :=
  ∀ (n : Int) (rows : List (List Int)) (v : Value) (RV : List Value) (w : World) (B0 H0 : Nat), Hid (Grid w B0 H0 v RV rows) → H0 ≤ w.heap.size → rows.length ≤ 1048576 → (∀ r ∈ rows, r.length ≤ 1048576) → (Lit.int .i64 n).wf = true →
    Calls Try.prog f #[.int .i64 n, v] w fun e w' => e = .returned (.int .i64 (val n rows)) ∧ Below w.heap.size w w'
theorem tree_start {n : Nat} {E : Edges} (h : TreeS n E) : Brn E 14 0 (-1) ∧ sz E 14 0 (-1) ≤ 7 := by
  have hn : 0 < n := by have := h.v.len; omega
  exact ⟨valid_brn h.v h.h7 0 (-1), by have := sz_all h.v h.h7 hn; have := h.h7; omega⟩
theorem start_le {n : Nat} {E : Edges} (h : TreeS n E) : (alnF E 14 0 (-1)).1 ≤ 7 ∧ (alnF E 14 0 (-1)).2 ≤ 7 ∧ (pairF E 14 0 (-1)).1 ≤ 7 ∧ (setF E 14 0 (-1)).1 + (setF E 14 0 (-1)).2 ≤ 128 := by
  obtain ⟨h1, h2⟩ := tree_start h
  have h3 := aln_le h1
  have h4 := set_le 14 0 (-1) h1
  have h5 : 2 ^ sz E 14 0 (-1) ≤ 2 ^ 7 := Nat.pow_le_pow_right (by decide) h2
  omega
set_option maxRecDepth 100000 in
set_option maxHeartbeats 800000 in
theorem specMostAlone_any : TreeFn 12 (treeV aloneN) := by
  intro n rows v RV w B0 H0 hG hH hrl _ _
  have CV := Lib.hid (validTree_any n rows v RV w hG hH hrl)
  obtain ⟨av, cv, rfl⟩ : ∃ a c, v = .slice a RV.length c := by
    obtain ⟨a, c, h, _⟩ := hG.out.1.slice; exact ⟨a, c, h⟩
  cases ht : treeB n rows with
  | true =>
    rw [treeV, if_pos ht]
    obtain ⟨h1, h2⟩ := rowsE_tree ht
    obtain ⟨N, rfl⟩ : ∃ N : Nat, n = N := ⟨n.toNat, by have := (treeB_iff.1 ht).1; omega⟩
    rw [Int.toNat_natCast] at h2 ⊢
    obtain ⟨t1, t2⟩ := tree_start h2
    have CC := Lib.hid (fun (W : World) (hW : Below w.heap.size w W) => aloneM_any N (edgesR rows) h2 14 0 (-1) (by omega) (Lib.hid t1) (Lib.hid t2) (.slice av RV.length cv) RV W B0 H0 (Lib.hid (by rw [← h1]; exact hG.out.below (hW.mono hH))) (Nat.le_trans hH hW.size))
    rw [ht] at CV
    have hb := start_le h2
    rw [aloneN]
    obtain ⟨a, ha⟩ : ∃ a, a = (alnF (edgesR rows) 14 0 (-1)).1 := ⟨_, rfl⟩
    obtain ⟨b, hbb⟩ : ∃ b, b = (alnF (edgesR rows) 14 0 (-1)).2 := ⟨_, rfl⟩
    simp only [← ha, ← hbb] at CC hb ⊢
    obtain ⟨_, _, _, _⟩ := hb
    clear hG hH hrl h1 h2 ht t1 t2 ha hbb
    obtain ⟨M, hM⟩ : ∃ M, M = max a b := ⟨_, rfl⟩
    rw [← hM]
    have HM := Lib.hid hM
    clear hM
    go_enter Try.func12, Try.ntmps12
    go_wp2_with fail
    refine CV.out.mono ?_
    rintro e w1 ⟨rfl, hb1⟩
    have HB1 := Lib.hid hb1
    clear hb1 CV
    go_wp2_with fail
    refine (CC.out _ HB1.out).mono ?_
    rintro e w2 ⟨rfl, hb2⟩
    have HB2 : Hid (Below w.heap.size w w2) := HB1.out.trans (hb2.mono HB1.out.size)
    clear hb2 CC
    rcases Nat.lt_trichotomy a b with hz | hz | hz
    · have hz' : (a : Int) < (b : Int) := by omega
      have e9 : max a b = b := by omega
      have E9 := Lib.hid e9
      clear e9
      go_wp2
      go_ret
      exact ⟨(by rw [HM.out, E9.out]; first | rfl | (show Ending.returned (.int .i64 (max ((a : Nat) : Int) ((b : Nat) : Int))) = _; exact ret_int (by omega))), HB2.out⟩
    · subst hz
      have e9 : max a a = a := by omega
      have E9 := Lib.hid e9
      clear e9
      go_wp2
      go_ret
      exact ⟨(by rw [HM.out, E9.out]; first | rfl | (show Ending.returned (.int .i64 (max ((a : Nat) : Int) ((a : Nat) : Int))) = _; exact ret_int (by omega))), HB2.out⟩
    · have hz' : (b : Int) < (a : Int) := by omega
      have e9 : max a b = a := by omega
      have E9 := Lib.hid e9
      clear e9
      go_wp2
      go_ret
      exact ⟨(by rw [HM.out, E9.out]; first | rfl | (show Ending.returned (.int .i64 (max ((a : Nat) : Int) ((b : Nat) : Int))) = _; exact ret_int (by omega))), HB2.out⟩
  | false =>
    rw [treeV, if_neg (by rw [ht]; decide)]
    rw [ht] at CV
    clear hG hH hrl ht
    go_enter Try.func12, Try.ntmps12
    go_wp2_with fail
    refine CV.out.mono ?_
    rintro e w1 ⟨rfl, hb1⟩
    have HB1 := Lib.hid hb1
    clear hb1 CV
    go_wp2
    go_ret
    exact ⟨rfl, HB1.out⟩
set_option maxRecDepth 100000 in
set_option maxHeartbeats 800000 in
theorem specCountAlone_any : TreeFn 16 (treeV countN) := by
  intro n rows v RV w B0 H0 hG hH hrl _ _
  have CV := Lib.hid (validTree_any n rows v RV w hG hH hrl)
  obtain ⟨av, cv, rfl⟩ : ∃ a c, v = .slice a RV.length c := by
    obtain ⟨a, c, h, _⟩ := hG.out.1.slice; exact ⟨a, c, h⟩
  cases ht : treeB n rows with
  | true =>
    rw [treeV, if_pos ht]
    obtain ⟨h1, h2⟩ := rowsE_tree ht
    obtain ⟨N, rfl⟩ : ∃ N : Nat, n = N := ⟨n.toNat, by have := (treeB_iff.1 ht).1; omega⟩
    rw [Int.toNat_natCast] at h2 ⊢
    obtain ⟨t1, t2⟩ := tree_start h2
    have CC := Lib.hid (fun (W : World) (hW : Below w.heap.size w W) => setsM_any N (edgesR rows) h2 14 0 (-1) (by omega) (Lib.hid t1) (Lib.hid t2) (.slice av RV.length cv) RV W B0 H0 (Lib.hid (by rw [← h1]; exact hG.out.below (hW.mono hH))) (Nat.le_trans hH hW.size))
    rw [ht] at CV
    have hb := start_le h2
    rw [countN]
    obtain ⟨a, ha⟩ : ∃ a, a = (setF (edgesR rows) 14 0 (-1)).1 := ⟨_, rfl⟩
    obtain ⟨b, hbb⟩ : ∃ b, b = (setF (edgesR rows) 14 0 (-1)).2 := ⟨_, rfl⟩
    simp only [← ha, ← hbb] at CC hb ⊢
    obtain ⟨_, _, _, _⟩ := hb
    clear hG hH hrl h1 h2 ht t1 t2 ha hbb
    go_enter Try.func16, Try.ntmps16
    go_wp2_with fail
    refine CV.out.mono ?_
    rintro e w1 ⟨rfl, hb1⟩
    have HB1 := Lib.hid hb1
    clear hb1 CV
    go_wp2_with fail
    refine (CC.out _ HB1.out).mono ?_
    rintro e w2 ⟨rfl, hb2⟩
    have HB2 : Hid (Below w.heap.size w w2) := HB1.out.trans (hb2.mono HB1.out.size)
    clear hb2 CC
    have e9 : IntKind.i64.wrap ((a : Int) + (b : Int)) = ((a + b : Nat) : Int) := by rw [IntKind.wrap_i64]; omega
    go_wp2
    go_ret
    exact ⟨by first | rfl | rw [e9], HB2.out⟩
  | false =>
    rw [treeV, if_neg (by rw [ht]; decide)]
    rw [ht] at CV
    clear hG hH hrl ht
    go_enter Try.func16, Try.ntmps16
    go_wp2_with fail
    refine CV.out.mono ?_
    rintro e w1 ⟨rfl, hb1⟩
    have HB1 := Lib.hid hb1
    clear hb1 CV
    go_wp2
    go_ret
    exact ⟨rfl, HB1.out⟩
set_option maxRecDepth 100000 in
set_option maxHeartbeats 800000 in
theorem specMostPairs_any : TreeFn 20 (treeV pairsN) := by
  intro n rows v RV w B0 H0 hG hH hrl _ _
  have CV := Lib.hid (validTree_any n rows v RV w hG hH hrl)
  obtain ⟨av, cv, rfl⟩ : ∃ a c, v = .slice a RV.length c := by
    obtain ⟨a, c, h, _⟩ := hG.out.1.slice; exact ⟨a, c, h⟩
  cases ht : treeB n rows with
  | true =>
    rw [treeV, if_pos ht]
    obtain ⟨h1, h2⟩ := rowsE_tree ht
    obtain ⟨N, rfl⟩ : ∃ N : Nat, n = N := ⟨n.toNat, by have := (treeB_iff.1 ht).1; omega⟩
    rw [Int.toNat_natCast] at h2 ⊢
    obtain ⟨t1, t2⟩ := tree_start h2
    have CC := Lib.hid (fun (W : World) (hW : Below w.heap.size w W) => pairM_any N (edgesR rows) h2 14 0 (-1) (by omega) (Lib.hid t1) (Lib.hid t2) (.slice av RV.length cv) RV W B0 H0 (Lib.hid (by rw [← h1]; exact hG.out.below (hW.mono hH))) (Nat.le_trans hH hW.size))
    rw [ht] at CV
    have hb := start_le h2
    rw [pairsN]
    obtain ⟨a, ha⟩ : ∃ a, a = (pairF (edgesR rows) 14 0 (-1)).1 := ⟨_, rfl⟩
    obtain ⟨b, hbb⟩ : ∃ b, b = (pairF (edgesR rows) 14 0 (-1)).2 := ⟨_, rfl⟩
    simp only [← ha, ← hbb] at CC hb ⊢
    obtain ⟨_, _, _, _⟩ := hb
    clear hG hH hrl h1 h2 ht t1 t2 ha hbb
    go_enter Try.func20, Try.ntmps20
    go_wp2_with fail
    refine CV.out.mono ?_
    rintro e w1 ⟨rfl, hb1⟩
    have HB1 := Lib.hid hb1
    clear hb1 CV
    go_wp2_with fail
    refine (CC.out _ HB1.out).mono ?_
    rintro e w2 ⟨rfl, hb2⟩
    have HB2 : Hid (Below w.heap.size w w2) := HB1.out.trans (hb2.mono HB1.out.size)
    clear hb2 CC
    go_wp2
    go_ret
    exact ⟨rfl, HB2.out⟩
  | false =>
    rw [treeV, if_neg (by rw [ht]; decide)]
    rw [ht] at CV
    clear hG hH hrl ht
    go_enter Try.func20, Try.ntmps20
    go_wp2_with fail
    refine CV.out.mono ?_
    rintro e w1 ⟨rfl, hb1⟩
    have HB1 := Lib.hid hb1
    clear hb1 CV
    go_wp2
    go_ret
    exact ⟨rfl, HB1.out⟩
end Go.Proofs.Ytmpppocmbdainaa
