/-
  Plain facts: a branch's text is a word whose first pair holds all others; depths of it. Nothing of the program is named here.
  What the law on the text seen from a node asks of the plain functions.
  The program's count of the edges of each node, and its DegreesOf.
-/
import Derived.Test.YtafdlilojlmchaaZJ
import Derived.Test.YtafdlilojlmchaaZK
import Derived.Test.YtafdlilojlmchaaZWF
import Derived.Test.YtafdlilojlmchaaZPD
import Derived.Deep.QuietTactic
import Derived.BigQuiet
import Derived.Test.YtafdlilojlmchaaZ6
import Derived.Test.YtafdlilojlmchaaZN
namespace Go.Proofs.Ytafdlilojlmchaa

/-- one pair that holds all others: how brackets are counted over it, and how depths are -/
def OneV (x : List UInt8) : Prop := ∀ o : Nat, x.foldl vstep (some o) = some o
def OneD (x : List UInt8) : Prop := ∀ (R : List (List Nat)) (O : List Nat), ∃ (q : List Nat) (Q : List (List Nat)), x.foldl stepOP (R, O) = (R ++ q :: Q, O) ∧ q.length = O.length ∧ ∀ z ∈ Q, O.length < z.length
/-- several of them beside each other -/
theorem flat_V {L : List (List UInt8)} (h : ∀ x ∈ L, OneV x) : OneV L.flatten := by
  induction L with
  | nil => intro o; rfl
  | cons a r ih =>
    intro o
    rw [List.flatten_cons, List.foldl_append, h a (by simp) o]
    exact ih (fun x hx => h x (List.mem_cons_of_mem _ hx)) o
theorem flat_D {L : List (List UInt8)} (h : ∀ x ∈ L, OneD x) : ∀ (R : List (List Nat)) (O : List Nat), ∃ Q : List (List Nat), L.flatten.foldl stepOP (R, O) = (R ++ Q, O) ∧ (∀ z ∈ Q, O.length ≤ z.length) ∧ Q.countP (fun z => decide (z.length = O.length)) = L.length ∧ (∀ q, Q[0]? = some q → q.length = O.length) := by
  induction L with
  | nil => intro R O; exact ⟨[], by simp, by simp, rfl, by simp⟩
  | cons a r ih =>
    intro R O
    obtain ⟨q, Q, h1, h2, h3⟩ := h a (by simp) R O
    obtain ⟨Q2, k1, k2, k3, _⟩ := ih (fun x hx => h x (List.mem_cons_of_mem _ hx)) (R ++ q :: Q) O
    refine ⟨q :: Q ++ Q2, ?_, ?_, ?_, ?_⟩
    · rw [List.flatten_cons, List.foldl_append, h1, k1, List.append_assoc]
    · intro z hz
      rcases List.mem_append.1 hz with hz | hz
      · rcases List.mem_cons.1 hz with e | hz
        · rw [e, h2]; exact Nat.le_refl _
        · exact Nat.le_of_lt (h3 z hz)
      · exact k2 z hz
    · rw [List.countP_append, k3, List.countP_cons, h2]
      have : Q.countP (fun z => decide (z.length = O.length)) = 0 := by
        rw [List.countP_eq_zero]
        intro z hz
        have := h3 z hz
        simp; omega
      rw [this]; simp; omega
    · intro z hz
      simp at hz
      rw [← hz]; exact h2
theorem pair_V {s : List UInt8} (h : OneV s) : OneV (40 :: (s ++ [41])) := by
  intro o
  rw [List.foldl_cons, List.foldl_append]
  have e1 : vstep (some o) 40 = some (o + 1) := rfl
  rw [e1, h (o + 1)]
  rfl
theorem txt_V {E : Edges} : ∀ (d v : Nat) (fr : Int), OneV (txt E d v fr) := by
  intro d
  induction d with
  | zero => intro v fr o; rfl
  | succ d ih =>
    intro v fr
    rw [txt]
    refine pair_V (flat_V fun x hx => ?_)
    rw [(srtT_perm _).mem_iff] at hx
    obtain ⟨y, _, rfl⟩ := List.mem_map.1 hx
    exact ih y v
theorem pair_fold (s : List UInt8) (R : List (List Nat)) (O : List Nat) {Q : List (List Nat)} (h : s.foldl stepOP (R ++ [O], O ++ [R.length]) = (R ++ [O] ++ Q, O ++ [R.length])) : (40 :: (s ++ [41])).foldl stepOP (R, O) = (R ++ O :: Q, O) := by
  rw [List.foldl_cons, List.foldl_append]
  have e1 : stepOP (R, O) 40 = (R ++ [O], O ++ [R.length]) := rfl
  rw [e1, h]
  show stepOP _ 41 = _
  unfold stepOP
  rw [if_pos (by decide)]
  simp
theorem txt_D {E : Edges} : ∀ (d v : Nat) (fr : Int), Brn E d v fr → OneD (txt E d v fr) := by
  intro d
  induction d with
  | zero => intro v fr h; exact h.elim
  | succ d ih =>
    intro v fr hB R O
    rw [txt]
    have hL : ∀ x ∈ srtT ((away E v fr).map fun x => txt E d x v), OneD x := by
      intro x hx
      rw [(srtT_perm _).mem_iff] at hx
      obtain ⟨y, hy, rfl⟩ := List.mem_map.1 hx
      exact ih y v (hB y hy)
    obtain ⟨Q, h1, h2, _, _⟩ := flat_D hL (R ++ [O]) (O ++ [R.length])
    refine ⟨O, Q, pair_fold _ R O h1, rfl, fun z hz => ?_⟩
    have := h2 z hz
    rw [List.length_append, List.length_singleton] at this
    omega
/-- the depths of a text seen from a node: none first, then one at each neighbour, the first of them at once -/
theorem txt_depths {E : Edges} {d v : Nat} {fr : Int} (hB : Brn E (d + 1) v fr) : ∃ D : List Nat, depthsL (txt E (d + 1) v fr) = (0 : Int) :: D.map (fun (k : Nat) => (k : Int)) ∧ D.countP (fun k => decide (k = 1)) = (away E v fr).length ∧ (∀ k, D[0]? = some k → k = 1) ∧ (∀ k ∈ D, 1 ≤ k) := by
  have hL : ∀ x ∈ srtT ((away E v fr).map fun x => txt E d x v), OneD x := by
    intro x hx
    rw [(srtT_perm _).mem_iff] at hx
    obtain ⟨y, hy, rfl⟩ := List.mem_map.1 hx
    exact txt_D d y v (hB y hy)
  obtain ⟨Q, h1, h2, h3, h4⟩ := flat_D hL ([] ++ [[]]) ([] ++ [0])
  refine ⟨Q.map List.length, ?_, ?_, ?_, ?_⟩
  · unfold depthsL openP
    rw [txt, pair_fold _ [] [] h1]
    simp
  · rw [srtT_len, List.length_map] at h3
    rw [← h3, List.countP_map]; rfl
  · intro k hk
    rw [List.getElem?_map] at hk
    cases hq : Q[0]? with
    | none => rw [hq] at hk; simp at hk
    | some q =>
      rw [hq] at hk
      simp at hk
      rw [← hk, h4 q hq]; rfl
  · intro k hk
    obtain ⟨z, hz, rfl⟩ := List.mem_map.1 hk
    exact h2 z hz
theorem nb_deg {E : Edges} (ho : ∀ e ∈ E, e.1 < e.2) (v : Nat) : (nb E v).length = deg E v := by
  unfold nb deg
  induction E with
  | nil => rfl
  | cons e r ih =>
    rw [List.flatMap_cons, List.length_append, ih (fun x hx => ho x (List.mem_cons_of_mem _ hx)), List.map_cons, List.sum_cons]
    congr 1
    have := ho e (by simp)
    unfold nb1 deg1
    by_cases h1 : e.1 = v
    · have h2 : ¬ e.2 = v := by omega
      simp [h1, h2]
    · by_cases h2 : e.2 = v
      · simp [h1, h2]
      · simp [h1, h2]
theorem away_all (E : Edges) (v : Nat) : away E v (-1) = nb E v := by
  unfold away
  rw [List.filter_eq_self]
  intro x _
  simp
end Go.Proofs.Ytafdlilojlmchaa

namespace Go.Proofs.Ytafdlilojlmchaa
open Go.RowKit

theorem rootL_facts {n r : Int} {rows : List (List Int)} (h : rootOut n rows r ≠ []) : ∃ (N u g : Nat) (D : List Nat), n = N ∧ r = u ∧ u < N ∧ 1 ≤ N ∧ N ≤ 7 ∧ valid (rootOut n rows r) = true ∧ depOut (rootOut n rows r) = (0 : Int) :: D.map (fun (k : Nat) => (k : Int)) ∧ (rootOut n rows r).length = 2 * N ∧ D.countP (fun k => decide (k = 1)) = g ∧ (degOut n rows).length = N ∧ (iv (degOut n rows))[u]? = some (.int .i64 (g : Int)) ∧ (N ≠ 1 → D[0]? = some 1) ∧ g ≤ 100 := by
  have hb : treeB n rows = true ∧ 0 ≤ r ∧ r < n := by
    apply Classical.byContradiction
    intro hn
    apply h
    unfold rootOut
    rw [if_neg hn]
  obtain ⟨ht, hr0, hrn⟩ := hb
  obtain ⟨h1, _, h3⟩ := treeB_iff.1 ht
  have hro : rootOut n rows r = txt (edgesR rows) 14 r.toNat (-1) := by unfold rootOut; rw [if_pos ⟨ht, hr0, hrn⟩]
  have hun : r.toNat < n.toNat := by omega
  have hB := valid_brn h3 (by omega) r.toNat (-1)
  have hln : (txt (edgesR rows) 14 r.toNat (-1)).length = 2 * n.toNat := by rw [txt_len, nd_len h3 (by omega) hun]
  have hv : valid (txt (edgesR rows) 14 r.toNat (-1)) = true := by
    unfold valid
    rw [Bool.and_eq_true]
    refine ⟨decide_eq_true (by rw [hln]; omega), ?_⟩
    have : scan (txt (edgesR rows) 14 r.toNat (-1)) = some 0 := txt_V 14 r.toNat (-1) 0
    rw [this]; rfl
  obtain ⟨D, hD, hc, h0, _⟩ := txt_depths hB
  have hdeg : (away (edgesR rows) r.toNat (-1)).length = deg (edgesR rows) r.toNat := by rw [away_all, nb_deg fun e he => (h3.ord e he).1]
  have hdl : degOut n rows = ((List.range n.toNat).map (deg (edgesR rows))).map fun (k : Nat) => (k : Int) := by unfold degOut; rw [if_pos ht]
  have hle : deg (edgesR rows) r.toNat ≤ 100 := by
    rw [← hdeg, away_all]
    have key : ∀ E : Edges, (nb E r.toNat).length ≤ 2 * E.length := by
      intro E
      unfold nb
      induction E with
      | nil => exact Nat.le_refl _
      | cons e q ih =>
        rw [List.flatMap_cons, List.length_append, List.length_cons]
        have : (nb1 r.toNat e).length ≤ 2 := by unfold nb1; rw [List.length_append]; split <;> split <;> simp
        omega
    have := key (edgesR rows)
    have := h3.len
    omega
  refine ⟨n.toNat, r.toNat, deg (edgesR rows) r.toNat, D, by omega, by omega, hun, by omega, by omega, by rw [hro]; exact hv, ?_, by rw [hro]; exact hln, by rw [hc, hdeg], by rw [hdl]; simp, ?_, ?_, hle⟩
  · rw [hro, depOut, if_pos hv]; exact hD
  · rw [hdl]; simp [iv, hun]
  · intro hN
    have hp := valid_deg h3 (by omega) r.toNat hun
    cases hq : D[0]? with
    | none =>
      exfalso
      have hnil : D = [] := by
        have := List.getElem?_eq_none_iff.1 hq
        exact List.eq_nil_of_length_eq_zero (by omega)
      rw [hnil] at hc
      simp at hc
      rw [hdeg] at hc
      omega
    | some k => rw [h0 k hq]
theorem ones_next (L : List Int) (i : Nat) (hi : i < L.length) : (L.take (i + 1)).countP (fun k => decide (k = 1)) = (L.take i).countP (fun k => decide (k = 1)) + (if L[i] = 1 then 1 else 0) := by
  rw [List.take_succ_eq_append_getElem hi, List.countP_append, List.countP_singleton]
  congr 1
  by_cases h : L[i] = 1 <;> simp [h]
theorem ones_all {D : List Nat} {g : Nat} (h : D.countP (fun k => decide (k = 1)) = g) : ((0 : Int) :: D.map (fun (k : Nat) => (k : Int))).countP (fun k => decide (k = 1)) = g := by
  rw [List.countP_cons, List.countP_map]
  have e : ((fun k : Int => decide (k = 1)) ∘ fun (k : Nat) => (k : Int)) = fun k : Nat => decide (k = 1) := by
    funext k
    simp only [Function.comp_apply]
    rw [decide_eq_decide]; omega
  rw [e, h]
  simp
end Go.Proofs.Ytafdlilojlmchaa

namespace Go.Proofs.Ytafdlilojlmchaa
open Go.RowKit

theorem Dg.over {w0 w w' : World} {B G n : Nat} {d : Nat → Nat} (h : Dg w0 w B G n d) (hb : Below w.heap.size w w') (hB : B ≤ w.heap.size) : Dg w0 w' B G n d :=
  ⟨own_of_blocks h.own fun g hg => hb.block g (h.own.lt g hg).2, h.below.trans (hb.mono hB), h.ge⟩
theorem Dg.blk {w0 w : World} {B G n : Nat} {d : Nat → Nat} (h : Dg w0 w B G n d) : G < w.heap.size := (h.own.lt G rfl).2
set_option maxHeartbeats 3200000 in
set_option maxRecDepth 100000 in
theorem countEnds_p (n : Nat) (E : Edges) (v : Value) (w : World) {B0 H0 : Nat} (hE : Hid (ERow w B0 H0 v E)) (hH : H0 ≤ w.heap.size) (ho : Hid (∀ e ∈ E, e.1 < n ∧ e.2 < n)) (hn : n ≤ 64) (hel : E.length ≤ 64) :
    Calls Try.prog 39 #[.int .i64 (n : Int), v] w fun e w' => ∃ g, e = .returned (.slice (some ⟨g, 0, none⟩) n n) ∧ Dg w w' w.heap.size g n (deg E) := by
  obtain ⟨i0, hi, hz0, hz1, hz2⟩ := info_parts Try.infoIntR
  obtain ⟨ao, cap, rfl, _, hcap, _, _⟩ := hE.out.slice
  go_enter Try.func39, Try.ntmps39
  go_wp2_with (at_make; refine wpList_make_full _ rfl _ _ 30 rfl w.heap.size 3 i0 (.int .i64 0) 1 Try.underlying30 hi hz0 hz1 _ _ _ _ n rfl rfl rfl rfl ?b2 ?b3 (Nat.le_refl _) ?_)
  case b2 => rw [hz2]; omega
  case b3 => unfold maxLen; omega
  intro w1 hown hgrow
  have hb1 : Below w.heap.size w w1 := (Below.refl _ _).grown hgrow (Nat.le_refl _) (fun k hk => by cases hk)
  rw [show (madeCells #[Value.int .i64 0] n).toList = List.replicate n (Value.int .i64 0) from toList_madeCells_one _ _, degV_zero] at hown
  obtain ⟨G, hGe⟩ : ∃ G, G = w.heap.size := ⟨_, rfl⟩
  rw [← hGe] at hown ⊢
  have D0 : Hid (Dg w w1 w.heap.size G n (deg [])) := ⟨hown, hb1, by omega⟩
  rw [← hGe] at D0
  have HGe := Lib.hid hGe
  have HE : Hid (∀ W, Below G w W → ERow W B0 H0 (.slice ao E.length cap) E) := fun W hW => hE.out.below (hW.mono (by rw [hGe]; exact hH))
  clear hown hgrow hb1 hGe hE
  go_wp2
  go_loopw [12] (fun ii wr => ∃ k : Nat, k ≤ E.length ∧ ii = .int .i64 k ∧ Hid (Dg w wr G G n (deg (E.take k)))) (fun ii _ => E.length - (intOf ii).toNat)
  case atStart => exact ⟨0, Nat.zero_le _, rfl, D0⟩
  case round =>
    clear D0
    obtain ⟨k, hk, rfl, D⟩ := hrel
    by_cases hlt : k < E.length
    · have b1 : (k : Int) < (E.length : Int) := by omega
      obtain ⟨g, c', e1, _, _, hg, c1, c2⟩ := (HE.out _ D.out.below).at_ k hlt
      simp only [Value.slice.injEq] at e1
      obtain ⟨rfl, _, rfl⟩ := e1
      obtain ⟨o1, o2⟩ := ho.out _ (List.getElem_mem hlt)
      have DT := Lib.hid (fun v => deg_take E k hlt v)
      have hds := fun v => deg_small E k v
      obtain ⟨x, hx⟩ : ∃ x, x = E[k] := ⟨_, rfl⟩
      rw [← hx] at c1 c2 o1 o2 DT
      obtain ⟨d, hd⟩ : ∃ d, d = deg (E.take k) := ⟨_, rfl⟩
      rw [← hd] at D hds DT
      have hGr := D.out.blk
      have h1 := hds x.1
      have h2 := hds x.2
      clear hx hd hds
      go_upto_region 5 with fail
      obtain ⟨W2, hW2⟩ : ∃ W2, W2 = wr.alloc (.cells #[.int .i64 (x.1 : Int), .int .i64 (x.2 : Int)] 66) := ⟨_, rfl⟩
      obtain ⟨GX, hGX⟩ : ∃ GX, GX = wr.heap.size := ⟨_, rfl⟩
      have a1 : W2.cell? ⟨GX, 0, none⟩ = some (.int .i64 (x.1 : Int)) := by rw [hW2, hGX]; simp
      have a2 : W2.cell? ⟨GX, 1, none⟩ = some (.int .i64 (x.2 : Int)) := by rw [hW2, hGX]; simp
      have D2 : Hid (Dg w W2 G G n d) := by rw [hW2]; exact D.out.over ((Below.refl _ _).alloc (Nat.le_refl _) _) (Nat.le_of_lt hGr)
      have GX2 : G ≠ GX := by omega
      rw [← hW2, ← hGX]
      clear c1 c2 hW2 hGX D hg hGr
      have z1 : (x.1 : Int) < (n : Int) := by omega
      have z2 : (x.2 : Int) < (n : Int) := by omega
      have hcell := (D2.out.own.cellAt x.1 (by omega)).trans (degV_at d o1)
      have hfr := D2.out.own.frozenAt x.1
      have ew : IntKind.i64.wrap ((d x.1 : Int) + 1) = (d x.1 : Int) + 1 := by rw [IntKind.wrap_i64]; omega
      have D3 := Lib.hid (D2.out.store (i := x.1) (x := d x.1 + 1))
      have ec : ((d x.1 + 1 : Nat) : Int) = (d x.1 : Int) + 1 := by omega
      rw [ec] at D3
      have a3 : (W2.setCell ⟨G, x.1, none⟩ (.int .i64 ((d x.1 : Int) + 1))).cell? ⟨GX, 1, none⟩ = some (.int .i64 (x.2 : Int)) := (World.cell?_setCell_other W2 ⟨G, x.1, none⟩ _ _ (fun e => GX2 (congrArg Addr.block e))).trans a2
      clear D2 a2
      go_upto_region 6 with fail
      obtain ⟨W3, hW3⟩ : ∃ W3, W3 = W2.setCell ⟨G, x.1, none⟩ (.int .i64 ((d x.1 : Int) + 1)) := ⟨_, rfl⟩
      rw [← hW3] at D3 a3 ⊢
      obtain ⟨d6, hd6⟩ : ∃ d6 : Nat → Nat, d6 = fun v => if v = x.1 then d x.1 + 1 else d v := ⟨_, rfl⟩
      rw [← hd6] at D3
      have DT6 : Hid (∀ v, deg (E.take (k + 1)) v = if v = x.2 then d6 x.2 + 1 else d6 v) := fun v => by
        rw [DT.out v, hd6]
        exact two_store d x.1 x.2 v
      have x2 : d6 x.2 ≤ 200 := by
        rw [hd6]
        show (if x.2 = x.1 then d x.1 + 1 else d x.2) ≤ 200
        split <;> omega
      clear hW3 hd6 hcell hfr ew ec h1 h2 DT a1 GX2
      have hcell := (D3.out.own.cellAt x.2 (by omega)).trans (degV_at d6 o2)
      have hfr := D3.out.own.frozenAt x.2
      have ew : IntKind.i64.wrap ((d6 x.2 : Int) + 1) = (d6 x.2 : Int) + 1 := by rw [IntKind.wrap_i64]; omega
      have D4 := Lib.hid (D3.out.store (i := x.2) (x := d6 x.2 + 1))
      have ec : ((d6 x.2 + 1 : Nat) : Int) = (d6 x.2 : Int) + 1 := by omega
      rw [ec] at D4
      clear D3
      go_wp2
      rw [← funext DT6.out] at D4
      go_roundw
      case rel => exact ⟨k + 1, by omega, by go_num, D4⟩
      case measure => simp [intOf]; omega
    · obtain rfl : k = E.length := by omega
      rw [List.take_length] at D
      go_wp2
      go_ret
      exact ⟨G, rfl, by rw [← HGe.out]; exact D.out⟩
set_option maxHeartbeats 800000 in
theorem degreesOf_p (n : Int) (rows : List (List Int)) (v : Value) (RV : List Value) (w : World) (B0 H0 : Nat) (hG : Hid (Grid w B0 H0 v RV rows)) (hH : H0 ≤ w.heap.size) (hrl : rows.length ≤ 1048576) (hrs : ∀ r ∈ rows, r.length ≤ 1048576) (hwf : (Lit.int .i64 n).wf = true) :
    Calls Try.prog 14 #[.int .i64 n, v] w (IntsOut (degOut n rows) w) := by
  have C := Lib.hid (treeEdges_p n rows v RV w hG hH hrl hrs hwf)
  obtain ⟨av, cv, rfl⟩ : ∃ a c, v = .slice a RV.length c := by
    obtain ⟨a, c, h, _⟩ := hG.out.1.slice; exact ⟨a, c, h⟩
  clear hG hrs
  cases ht : treeB n rows with
  | false =>
    rw [degOut, if_neg (by rw [ht]; decide)]
    rw [ht] at C
    go_enter Try.func14, Try.ntmps14
    go_wp2_with fail
    refine C.out.mono ?_
    rintro e w1 ⟨x, rfl, _, hb⟩
    have HB := Lib.hid hb
    clear hb C
    go_wp2
    go_ret
    exact nilOut _ _ HB.out
  | true =>
    rw [degOut, if_pos ht]
    rw [ht] at C
    obtain ⟨h1, h2, h3⟩ := treeB_iff.1 ht
    obtain ⟨N, rfl⟩ : ∃ N : Nat, n = N := ⟨n.toNat, by omega⟩
    rw [Int.toNat_natCast] at h3 ⊢
    obtain ⟨E, hE⟩ : ∃ E, E = edgesR rows := ⟨_, rfl⟩
    rw [← hE] at h3 C ⊢
    have hel := h3.len
    have CD := Lib.hid (fun (x : Value) (w1 : World) (B : Nat) (hx : Hid (ERow w1 B w1.heap.size x E)) => countEnds_p N E x w1 hx (Nat.le_refl _) (Lib.hid fun e he => by have := h3.ord e he; omega) (by omega) (by omega))
    clear hE h3 ht h2 hel
    go_enter Try.func14, Try.ntmps14
    go_wp2_with fail
    refine C.out.mono ?_
    rintro e w1 ⟨x, rfl, hx, hb⟩
    have HX := Lib.hid (hx (by first | exact rfl | trivial))
    have HB := Lib.hid hb
    clear hb C hx
    obtain ⟨ao, cap, rfl, _⟩ := HX.out.slice
    go_wp2_with fail
    refine (CD.out _ w1 _ HX).mono ?_
    rintro e w2 ⟨g, rfl, hD⟩
    have HD := Lib.hid hD
    clear hD CD
    go_wp2
    go_ret
    have hb2 := HB.out.trans (HD.out.below.mono HB.out.size)
    refine ⟨_, rfl, ?_, hb2⟩
    rw [← ints_iv2]
    have ho := HD.out.own
    refine Own.of_own ?_
    rw [show ints ((List.range N).map (deg E)) = degV N (deg E) from rfl, degV_length]
    refine own_baseR ho ?_
    have := HD.out.ge
    have := HB.out.size
    omega
end Go.Proofs.Ytafdlilojlmchaa
