/-
  The model's list of the nodes beside a node, and its longest way into a branch.
  The model's longest way into a branch, and its centers.
  The contracts of the model's searches from a node: alone, aloneSets, pairUp.
-/
import Derived.Test.YtmpppocmbdainaaCVTree
import Derived.Test.YtmpppocmbdainaaZJ
import Derived.Test.YtmpppocmbdainaaZW
namespace Go.Proofs.Ytmpppocmbdainaa
open Go.RowKit

def intsB (L : List Nat) : List Int := L.map fun (x : Nat) => (x : Int)
theorem intsB_snoc (L : List Nat) (x : Nat) : iv (intsB (L ++ [x])) = iv (intsB L) ++ [.int .i64 (x : Int)] := by simp [iv, intsB]
theorem intsB_len (L : List Nat) : (iv (intsB L)).length = L.length := by simp [iv, intsB]
/-- the nodes less than x, and x as far as k edges tell -/
def besP (E : Edges) (v x k : Nat) : List Nat := ((List.range x).flatMap fun y => E.flatMap (bes1 v y)) ++ (E.take k).flatMap (bes1 v x)
theorem besP_next {E : Edges} (v x : Nat) {k : Nat} (hk : k < E.length) : besP E v x (k + 1) = besP E v x k ++ bes1 v x E[k] := by
  unfold besP
  rw [List.take_succ_eq_append_getElem hk, List.flatMap_append, List.append_assoc]; simp
theorem besP_turn (E : Edges) (v x : Nat) : besP E v x E.length = besP E v (x + 1) 0 := by
  unfold besP
  rw [List.take_length, List.range_succ, List.flatMap_append]; simp
theorem besP_all (n : Nat) (E : Edges) (v : Nat) : besP E v n 0 = besN n E v := by unfold besP besN; simp
theorem rowsE_at {E : Edges} {k : Nat} (hk : k < (rowsE E).length) : (rowsE E)[k] = [((E[k]'(by simpa [rowsE] using hk)).1 : Int), ((E[k]'(by simpa [rowsE] using hk)).2 : Int)] := by simp [rowsE]
theorem rowsE_len (E : Edges) : (rowsE E).length = E.length := by simp [rowsE]
theorem hit_cases (v x a b : Nat) (h : a < b) : (bes1 v x (a, b) = [x] ∧ ((a = v ∧ b = x) ∨ (a ≠ v ∧ b = v ∧ a = x))) ∨ (bes1 v x (a, b) = [] ∧ ((a = v ∧ b ≠ x ∧ b ≠ v) ∨ (a ≠ v ∧ b = v ∧ a ≠ x) ∨ (a ≠ v ∧ b ≠ v))) := by
  unfold bes1
  simp only
  by_cases h1 : a = v
  · by_cases h2 : b = x
    · left; rw [if_pos (.inl ⟨h1, h2⟩)]; exact ⟨rfl, .inl ⟨h1, h2⟩⟩
    · right; rw [if_neg (by omega)]; exact ⟨rfl, .inl ⟨h1, h2, by omega⟩⟩
  · by_cases h2 : b = v
    · by_cases h3 : a = x
      · left; rw [if_pos (.inr ⟨h2, h3⟩)]; exact ⟨rfl, .inr ⟨h1, h2, h3⟩⟩
      · right; rw [if_neg (by omega)]; exact ⟨rfl, .inr (.inl ⟨h1, h2, h3⟩)⟩
    · right; rw [if_neg (by omega)]; exact ⟨rfl, .inr (.inr ⟨h1, h2⟩)⟩
theorem ieq {a b : Nat} (h : a = b) : ((a : Int) == (b : Int)) = true := by rw [h]; simp
theorem ine {a b : Nat} (h : a ≠ b) : ((a : Int) == (b : Int)) = false := by rw [beq_eq_false_iff_ne]; omega

set_option maxHeartbeats 6400000 in
set_option maxRecDepth 100000 in
theorem beside_any (n : Nat) (E : Edges) (ho : Hid (∀ e ∈ E, e.1 < e.2)) (hn : n ≤ 64) (hel : E.length ≤ 64) (u : Nat) (v : Value) (RV : List Value) (w : World) {B0 H0 : Nat} (hG : Hid (Grid w B0 H0 v RV (rowsE E))) (hH : H0 ≤ w.heap.size) :
    Calls Try.prog 68 #[.int .i64 (n : Int), v, .int .i64 (u : Int)] w fun e w' => ∃ y, e = .returned y ∧ Own w' w.heap.size w'.heap.size 3 y (iv (intsB (besN n E u))) ∧ Below w.heap.size w w' := by
  obtain ⟨i0, hi, hz0, hz1, hz2⟩ := info_parts Try.infoIntR
  obtain ⟨av, cv, rfl, _, hcv, _, _⟩ := hG.out.1.slice
  have hgl := hG.out.2.1
  rw [hgl] at hG hcv ⊢
  have HGr : Hid (∀ W, Below w.heap.size w W → Grid W B0 H0 (.slice av (rowsE E).length cv) RV (rowsE E)) := fun W hW => hG.out.below (hW.mono hH)
  have hlE := rowsE_len E
  obtain ⟨M, hM⟩ : ∃ M, M = (rowsE E).length := ⟨_, rfl⟩
  have HM := Lib.hid hM
  rw [← hM] at hlE ⊢
  have HME : Hid (M = E.length) := hlE
  have hM64 : M ≤ 64 := by omega
  obtain ⟨C, hC⟩ : ∃ C, C = w.heap.size := ⟨_, rfl⟩
  have HC := Lib.hid hC
  rw [← hC] at HGr
  have O0 : Hid ((w.alloc (.cells #[] 3)).ownsRow C 3 1 (.slice (some ⟨w.heap.size, 0, none⟩) 0 0) 0 (iv (intsB (besP E u 0 0)))) :=
    World.ownsRow_lit (base := C) (e := 3) (size := 1) w #[] 0 (by omega) (by unfold maxLen; omega) rfl
  have B1 : Hid (Below C w (w.alloc (.cells #[] 3))) := by show Below _ _ _; rw [hC]; exact (Below.refl _ _).alloc (Nat.le_refl _) _
  have BA := Lib.hid (besP_all n E u)
  clear hG hH hcv hgl hlE hM hC hel
  go_enter Try.func68, Try.ntmps68
  go_wp2_with fail
  go_loopw [7, 8, 9] (fun e7 e8 e9 wr => ∃ (x m c : Nat) (a : Option Addr), x ≤ n ∧ e8 = .int .i64 (x : Int) ∧ e7 = .slice a m c ∧ m ≤ x * 64 ∧ Hid (wr.ownsRow C 3 1 (.slice a m c) m (iv (intsB (besP E u x 0)))) ∧ Hid (Below C w wr)) (fun _ e8 _ _ => n - (intOf e8).toNat)
  case atStart => exact ⟨0, 0, 0, _, Nat.zero_le _, rfl, rfl, Nat.le_refl _, O0, B1⟩
  case round =>
    clear O0 B1
    obtain ⟨x, m, c, a, hx, rfl, rfl, hm, HO, HB⟩ := hrel
    by_cases hlt : x < n
    · have b1 : (x : Int) < (n : Int) := by omega
      go_wp2_with fail
      go_loopw [7, 9] (fun e7 e9 W => ∃ (k q c : Nat) (a : Option Addr), k ≤ M ∧ e9 = .int .i64 (k : Int) ∧ e7 = .slice a q c ∧ q ≤ x * 64 + k ∧ Hid (W.ownsRow C 3 1 (.slice a q c) q (iv (intsB (besP E u x k)))) ∧ Hid (Below C w W)) (fun _ e9 _ => M - (intOf e9).toNat)
      case atStart => exact ⟨0, m, c, a, Nat.zero_le _, rfl, rfl, hm, HO, HB⟩
      case round =>
        clear HO HB
        obtain ⟨k, q, c, a, hk, rfl, rfl, hq, HO, HB⟩ := hrel
        by_cases hlt2 : k < M
        · have b2 : (k : Int) < (M : Int) := by omega
          have hkE : k < E.length := by rw [← HME.out]; exact hlt2
          have hkR : k < (rowsE E).length := by rw [← HM.out]; exact hlt2
          have PA := pair_at (HGr.out _ HB.out) hkR (rowsE_at hkR)
          obtain ⟨ga, gr, cr, rfl, hcr, c1, c2, c3⟩ := PA
          have BN := besP_next u x hkE
          have oe := ho.out _ (List.getElem_mem hkE)
          obtain ⟨⟨p, r⟩, hy⟩ : ∃ y, y = E[k] := ⟨_, rfl⟩
          rw [← hy] at c2 c3 BN oe
          replace c2 : wr.cell? ⟨gr, 0, none⟩ = some (.int .i64 (p : Int)) := c2
          replace c3 : wr.cell? ⟨gr, 1, none⟩ = some (.int .i64 (r : Int)) := c3
          replace oe : p < r := oe
          have z1 : q + 1 ≤ maxLen := by unfold maxLen; omega
          have z2 : (q + 1) * 8 ≤ 140737488355328 := by omega
          have sC : Hid (C ≤ wr.heap.size) := by have := HB.out.size; show _ ≤ _; rw [HC.out]; rw [HC.out] at *; exact this
          have Y3 : Hid (C ≤ (wr.alloc (.cells #[.int .i64 (x : Int)] 3)).heap.size) := by have := sC.out; show _ ≤ _; rw [World.size_alloc]; omega
          have HBN := Lib.hid BN
          rcases hit_cases u x p r oe with ⟨hb, hc⟩ | ⟨hb, hc⟩
          · have BN2 : Hid (iv (intsB (besP E u x (k + 1))) = iv (intsB (besP E u x k)) ++ [.int .i64 (x : Int)]) := by show _ = _; rw [HBN.out, hb, intsB_snoc]
            clear HBN BN hy hkE hkR hb
            rcases hc with ⟨h1, h2⟩ | ⟨h1, h2, h3⟩
            all_goals
              try have q1 := ieq h1
              try have q1 := ine h1
              try have q2 := ieq h2
              try have q3 := ieq h3
              clear h1 h2
              try clear h3
              go_wp2_with (at_builtin; refine wpList_append_lies _ rfl (.tmp 60) (.tmp 62) 29 rfl C 3 i0 (.int .i64 0) 1 8 Try.underlying29 hi hz0 hz1 hz2 rfl (Nat.succ_pos 0) _ q (iv (intsB (besP E u x k))) rfl (HO.out.alloc _) ⟨wr.heap.size, 0, none⟩ 1 1 [.int .i64 (x : Int)] rfl rfl (cell_one_new _ _ _) (one_intR _) (Nat.lt_succ_self 0) z1 z2 Y3.out _ rfl ?_)
              intro g5 c5 w5 hv5 hg5 _ _
              have B5 : Hid (Below C w w5) := (HB.out.alloc sC.out _).grown hg5 Y3.out (fun q hq => (HO.out.lt q hq).1)
              have O5 : Hid (w5.ownsRow C 3 1 (.slice (some ⟨g5, 0, none⟩) (q + 1) c5) (q + 1) (iv (intsB (besP E u x (k + 1))))) := by
                show World.ownsRow _ _ _ _ _ _ _
                rw [BN2.out]; exact hv5
              clear hv5 hg5 HB HO sC Y3 c1 c2 c3
              go_wp2
              go_roundw
              case rel => exact ⟨k + 1, q + 1, c5, _, by omega, by go_num, rfl, by omega, O5, B5⟩
              case measure => simp [intOf]; omega
          · have BN2 : Hid (besP E u x (k + 1) = besP E u x k) := by show _ = _; rw [HBN.out, hb, List.append_nil]
            clear HBN BN hy hkE hkR hb Y3 z1 z2
            rcases hc with ⟨h1, h2, h3⟩ | ⟨h1, h2, h3⟩ | ⟨h1, h2⟩
            · have q1 := ieq h1
              have q2 := ine h2
              have q3 := ine h3
              clear h1 h2 h3
              go_wp2
              go_roundw
              case rel => exact ⟨k + 1, q, c, a, by omega, by go_num, rfl, by omega, by show World.ownsRow _ _ _ _ _ _ _; rw [BN2.out]; exact HO.out, HB⟩
              case measure => simp [intOf]; omega
            · have q1 := ine h1
              have q2 := ieq h2
              have q3 := ine h3
              clear h1 h2 h3
              go_wp2
              go_roundw
              case rel => exact ⟨k + 1, q, c, a, by omega, by go_num, rfl, by omega, by show World.ownsRow _ _ _ _ _ _ _; rw [BN2.out]; exact HO.out, HB⟩
              case measure => simp [intOf]; omega
            · have q1 := ine h1
              have q2 := ine h2
              clear h1 h2
              go_wp2
              go_roundw
              case rel => exact ⟨k + 1, q, c, a, by omega, by go_num, rfl, by omega, by show World.ownsRow _ _ _ _ _ _ _; rw [BN2.out]; exact HO.out, HB⟩
              case measure => simp [intOf]; omega
        · obtain rfl : k = M := by omega
          have OT : Hid (wr.ownsRow C 3 1 (.slice a q c) q (iv (intsB (besP E u (x + 1) 0)))) := by
            have := HO.out
            rw [HME.out] at this
            rw [← besP_turn]; exact this
          clear HO
          go_wp2
          go_roundw
          case rel => exact ⟨x + 1, q, c, a, by omega, by go_num, rfl, by omega, OT, HB⟩
          case measure => simp [intOf]; omega
    · obtain rfl : x = n := by omega
      rw [BA.out] at HO
      have OF : Hid (Own wr C wr.heap.size 3 (.slice a m c) (iv (intsB (besN x E u)))) := by
        refine Own.of_own ?_
        have e : (iv (intsB (besN x E u))).length = m := by have := HO.out.1; simpa using this
        rw [e]; exact HO.out
      clear HO
      go_wp2
      go_ret
      exact ⟨_, rfl, by rw [← HC.out]; exact OF.out, by rw [← HC.out]; exact HB.out⟩
end Go.Proofs.Ytmpppocmbdainaa

namespace Go.Proofs.Ytmpppocmbdainaa
open Go.RowKit

/-- the longest way, as far as k neighbours tell -/
def farS (E : Edges) (d u : Nat) (fr : Int) (k : Nat) : Nat := (((nb E u).take k).filter fun (x : Nat) => !decide ((x : Int) = fr)).foldl (fun m x => max m (1 + far E d x u)) 0
theorem farS_yes {E : Edges} {d u k : Nat} {fr : Int} (hk : k < (nb E u).length) (h : ((nb E u)[k] : Int) ≠ fr) : farS E d u fr (k + 1) = max (farS E d u fr k) (1 + far E d (nb E u)[k] u) := by
  unfold farS
  rw [List.take_succ_eq_append_getElem hk, List.filter_append, List.foldl_append, List.filter_cons_of_pos (by simpa using h)]; rfl
theorem farS_no {E : Edges} {d u k : Nat} {fr : Int} (hk : k < (nb E u).length) (h : ((nb E u)[k] : Int) = fr) : farS E d u fr (k + 1) = farS E d u fr k := by
  unfold farS
  rw [List.take_succ_eq_append_getElem hk, List.filter_append, List.foldl_append, List.filter_cons_of_neg (by simpa using h)]; rfl
theorem farS_all (E : Edges) (d u : Nat) (fr : Int) : farS E d u fr (nb E u).length = far E (d + 1) u fr := by unfold farS; rw [List.take_length]; rfl
theorem far_fuelS (E : Edges) : ∀ (d u : Nat) (fr : Int), far E d u fr ≤ d := by
  intro d
  induction d with
  | zero => intro u fr; exact Nat.le_refl _
  | succ d ih =>
    intro u fr
    rw [far, fold_max]
    exact ⟨by omega, fun x _ => by have := ih x u; omega⟩
theorem farS_le (E : Edges) (d u : Nat) (fr : Int) (k : Nat) : farS E d u fr k ≤ d + 1 := by
  unfold farS
  rw [fold_max]
  exact ⟨by omega, fun x _ => by have := far_fuelS E d x u; omega⟩
/-- what is known of the tree, for the model's functions -/
structure TreeS (n : Nat) (E : Edges) : Prop where
  v : ValidT n E
  h7 : n ≤ 7
theorem TreeS.ord {n : Nat} {E : Edges} (h : TreeS n E) : ∀ e ∈ E, e.1 < e.2 := fun e he => (h.v.ord e he).1
theorem TreeS.bes {n : Nat} {E : Edges} (h : TreeS n E) (u : Nat) : besN n E u = nb E u := bes_nb h.v.ord h.v.asc u
theorem TreeS.len {n : Nat} {E : Edges} (h : TreeS n E) : E.length ≤ 6 := by have := h.v.len; have := h.h7; omega
theorem TreeS.nb12 {n : Nat} {E : Edges} (h : TreeS n E) (u : Nat) : (nb E u).length ≤ 12 := by
  have key : ∀ E : Edges, (nb E u).length ≤ 2 * E.length := by
    intro E
    unfold nb
    induction E with
    | nil => exact Nat.le_refl _
    | cons e r ih =>
      rw [List.flatMap_cons, List.length_append, List.length_cons]
      have : (nb1 u e).length ≤ 2 := by unfold nb1; rw [List.length_append]; split <;> split <;> simp
      omega
  have := key E; have := h.len; omega
theorem beside_nb (n : Nat) (E : Edges) (hT : Hid (TreeS n E)) (u : Nat) (v : Value) (RV : List Value) (w : World) {B0 H0 : Nat} (hG : Hid (Grid w B0 H0 v RV (rowsE E))) (hH : H0 ≤ w.heap.size) :
    Calls Try.prog 68 #[.int .i64 (n : Int), v, .int .i64 (u : Int)] w fun e w' => ∃ y, e = .returned y ∧ Own w' w.heap.size w'.heap.size 3 y (iv (intsB (nb E u))) ∧ Below w.heap.size w w' := by
  have := beside_any n E (Lib.hid hT.out.ord) (by have := hT.out.h7; omega) (by have := hT.out.len; omega) u v RV w hG hH
  rwa [hT.out.bes] at this
end Go.Proofs.Ytmpppocmbdainaa

namespace Go.Proofs.Ytmpppocmbdainaa
open Go.RowKit

theorem ret_two {a b c d : Int} (h1 : a = c) (h2 : b = d) : Ending.returned (.tuple #[.int .i64 a, .int .i64 b]) = .returned (.tuple #[.int .i64 c, .int .i64 d]) := by rw [h1, h2]
set_option maxHeartbeats 3200000 in
set_option maxRecDepth 100000 in
theorem aloneM_any (n : Nat) (E : Edges) (hT : Hid (TreeS n E)) : ∀ (d u : Nat) (fr : Int), d ≤ 64 → Hid (Brn E d u fr) → Hid (sz E d u fr ≤ 7) → ∀ (v : Value) (RV : List Value) (w : World) (B0 H0 : Nat), Hid (Grid w B0 H0 v RV (rowsE E)) → H0 ≤ w.heap.size →
    Calls Try.prog 39 #[.int .i64 (n : Int), v, .int .i64 (u : Int), .int .i64 fr] w fun e w' => e = .returned (.tuple #[.int .i64 ((alnF E d u fr).1 : Int), .int .i64 ((alnF E d u fr).2 : Int)]) ∧ Below w.heap.size w w' := by
  intro d
  induction d with
  | zero => intro u fr _ h; exact h.out.elim
  | succ d ih =>
    intro u fr hd hB hS v RV w B0 H0 hG hH
    have CB := Lib.hid (beside_nb n E hT u v RV w hG hH)
    have CL := Lib.hid (fun (x : Nat) (hb : Hid (Brn E d x u)) (hs : Hid (sz E d x u ≤ 7)) (W : World) (hW : Below w.heap.size w W) => ih x u (by omega) hb hs v RV W B0 H0 (Lib.hid (hG.out.below (hW.mono hH))) (Nat.le_trans hH hW.size))
    obtain ⟨av, cv, rfl⟩ : ∃ a c, v = .slice a RV.length c := by
      obtain ⟨a, c, h, _⟩ := hG.out.1.slice; exact ⟨a, c, h⟩
    have FA : Hid (id (dpS E stA (0, 1) id d u fr (nb E u).length) = alnF E (d + 1) u fr) := dpS_all
    have FZ : Hid (dpS E stA (0, 1) id d u fr 0 = (0, 1)) := dpS_zero
    have FB := Lib.hid (dpS_A hB.out hS.out)
    have HBK : Hid (∀ x ∈ nb E u, (x : Int) ≠ fr → Brn E d x u ∧ sz E d x u ≤ 7 ∧ (alnF E d x u).1 ≤ 7 ∧ (alnF E d x u).2 ≤ 7) := fun x hx hf => by
      have hxa := mem_away.2 ⟨mem_nb.1 hx, hf⟩
      have h1 := hB.out x hxa
      have h2 := kid_sz (b := 6) hS.out hxa
      exact ⟨h1, by omega, by have := aln_le h1; omega⟩
    have h12 := hT.out.nb12 u
    have hiL := intsB_len (nb E u)
    obtain ⟨m, hm⟩ : ∃ m, m = (nb E u).length := ⟨_, rfl⟩
    have HM := Lib.hid hm
    rw [← hm] at FA h12 hiL
    clear hG hH hB hS ih hm
    go_enter Try.func39, Try.ntmps39
    go_wp2_with fail
    refine CB.out.mono ?_
    rintro e w1 ⟨y, rfl, hy, hb1⟩
    obtain ⟨ay, cy, rfl, _⟩ := hy.slice
    rw [hiL] at hy ⊢
    have HY := Lib.hid hy
    have HB1 := Lib.hid hb1
    clear hy hb1 CB hiL
    go_wp2_with fail
    go_loopw [10, 11, 13, 14, 15] (fun e10 e11 ii e14 e15 wr => ∃ (k y z : Nat), k ≤ m ∧ ii = .int .i64 k ∧ e10 = .int .i64 (y : Int) ∧ e11 = .int .i64 (z : Int) ∧ Hid ((y, z) = dpS E stA (0, 1) id d u fr k) ∧ Hid (Below w1.heap.size w1 wr)) (fun _ _ ii _ _ _ => m - (intOf ii).toNat)
    case atStart => exact ⟨0, 0, 1, Nat.zero_le _, rfl, rfl, rfl, FZ.out.symm, Below.refl _ _⟩
    case round =>
      clear FZ
      obtain ⟨k, y, z, hk, rfl, rfl, rfl, HZ, HB⟩ := hrel
      by_cases hlt : k < m
      · have b1 : (k : Int) < (m : Int) := by omega
        have hkn : k < (nb E u).length := by rw [← HM.out]; exact hlt
        obtain ⟨g, rfl, _, hgl, c0, _⟩ := HY.out.at_ k (by rw [intsB_len]; exact hkn)
        have c1 := (HB.out.cell (p := ⟨g, k, none⟩) hgl).trans c0
        have e1 : (iv (intsB (nb E u)))[k]? = some (.int .i64 (((nb E u)[k] : Nat) : Int)) := by simp [iv, intsB, hkn]
        rw [e1] at c1
        have FY := dpS_yes (E := E) (st := stA) (s0 := (0, 1)) (fin := id) (d := d) (fr := fr) hkn
        have FN := dpS_no (E := E) (st := stA) (s0 := (0, 1)) (fin := id) (d := d) (fr := fr) hkn
        have FL := FB.out k
        have hmem := List.getElem_mem hkn
        rw [← HZ.out] at FL
        obtain ⟨x, hx⟩ : ∃ x, x = (nb E u)[k] := ⟨_, rfl⟩
        rw [← hx] at c1 FY FN hmem
        have HBX := HBK.out x hmem
        clear hx hmem hkn c0 e1 hgl
        obtain ⟨f1, f2⟩ := FL
        simp only at f1 f2
        by_cases hxf : (x : Int) = fr
        · have q1 : ((x : Int) == fr) = true := by rw [hxf]; simp
          have ZN : Hid ((y, z) = dpS E stA (0, 1) id d u fr (k + 1)) := by show _ = _; rw [FN hxf]; exact HZ.out
          clear FY FN HZ hxf CL HBX
          go_wp2
          go_roundw
          case rel => exact ⟨k + 1, y, z, by omega, by go_num, rfl, rfl, ZN, HB⟩
          case measure => simp [intOf]; omega
        · have q1 : ((x : Int) == fr) = false := by simpa using hxf
          obtain ⟨g1, g2, g3⟩ := HBX hxf
          have CX := CL.out x (Lib.hid g1) (Lib.hid g2)
          have FY := FY hxf
          rw [← HZ.out, stA] at FY
          have eF : alnF E d x u = dpF E stA (0, 1) id d x u := rfl
          rw [← eF] at FY
          obtain ⟨a, ha⟩ : ∃ a, a = (alnF E d x u).1 := ⟨_, rfl⟩
          obtain ⟨b, hb⟩ : ∃ b, b = (alnF E d x u).2 := ⟨_, rfl⟩
          rw [← ha, ← hb] at FY g3 CX
          obtain ⟨g3, g4⟩ := g3
          have CX := Lib.hid CX
          have FYH := Lib.hid FY
          have BW : Hid (Below w.heap.size w wr) := HB1.out.trans (HB.out.mono HB1.out.size)
          clear ha hb FY FN HZ hxf CL HBX g1 g2 eF
          go_wp2_with fail
          refine (CX.out _ BW.out).mono ?_
          rintro e w2 ⟨rfl, hb2⟩
          have B3 : Hid (Below w1.heap.size w1 w2) := HB.out.trans (hb2.mono HB.out.size)
          clear hb2 HB BW CX c1
          have ez : IntKind.i64.wrap ((z : Int) + (a : Int)) = ((z + a : Nat) : Int) := by rw [IntKind.wrap_i64]; omega
          have ea : IntKind.i64.wrap ((y : Int) + (a : Int)) = ((y + a : Nat) : Int) := by rw [IntKind.wrap_i64]; omega
          have eb : IntKind.i64.wrap ((y : Int) + (b : Int)) = ((y + b : Nat) : Int) := by rw [IntKind.wrap_i64]; omega
          rcases Nat.lt_trichotomy a b with hz | hz | hz
          · have hz' : (a : Int) < (b : Int) := by omega
            have e9 : Hid ((y + b, z + a) = dpS E stA (0, 1) id d u fr (k + 1)) := by show _ = _; rw [FYH.out, Nat.max_eq_right (by omega)]
            go_wp2
            go_roundw
            case rel => exact ⟨k + 1, y + b, z + a, by omega, by go_num, by first | rfl | rw [eb], by first | rfl | rw [ez], e9, B3⟩
            case measure => simp [intOf]; omega
          · subst hz
            have e9 : Hid ((y + a, z + a) = dpS E stA (0, 1) id d u fr (k + 1)) := by show _ = _; rw [FYH.out, Nat.max_self]
            go_wp2
            go_roundw
            case rel => exact ⟨k + 1, y + a, z + a, by omega, by go_num, by first | rfl | rw [ea], by first | rfl | rw [ez], e9, B3⟩
            case measure => simp [intOf]; omega
          · have hz' : (b : Int) < (a : Int) := by omega
            have e9 : Hid ((y + a, z + a) = dpS E stA (0, 1) id d u fr (k + 1)) := by show _ = _; rw [FYH.out, Nat.max_eq_left (by omega)]
            go_wp2
            go_roundw
            case rel => exact ⟨k + 1, y + a, z + a, by omega, by go_num, by first | rfl | rw [ea], by first | rfl | rw [ez], e9, B3⟩
            case measure => simp [intOf]; omega
      · obtain rfl : k = m := by omega
        have HF := FA.out
        rw [← HZ.out, id] at HF
        have HFH := Lib.hid HF
        have BF : Hid (Below w.heap.size w wr) := HB1.out.trans (HB.out.mono HB1.out.size)
        have fl := FB.out k
        rw [HM.out, ← HM.out, ← HZ.out] at fl
        obtain ⟨f1, f2⟩ := fl
        simp only at f1 f2
        clear HZ HB CL HF FB
        go_wp2
        go_ret2
        exact ⟨ret_two (by rw [← HFH.out]) (by rw [← HFH.out]), BF.out⟩
set_option maxHeartbeats 3200000 in
set_option maxRecDepth 100000 in
theorem setsM_any (n : Nat) (E : Edges) (hT : Hid (TreeS n E)) : ∀ (d u : Nat) (fr : Int), d ≤ 64 → Hid (Brn E d u fr) → Hid (sz E d u fr ≤ 7) → ∀ (v : Value) (RV : List Value) (w : World) (B0 H0 : Nat), Hid (Grid w B0 H0 v RV (rowsE E)) → H0 ≤ w.heap.size →
    Calls Try.prog 45 #[.int .i64 (n : Int), v, .int .i64 (u : Int), .int .i64 fr] w fun e w' => e = .returned (.tuple #[.int .i64 ((setF E d u fr).1 : Int), .int .i64 ((setF E d u fr).2 : Int)]) ∧ Below w.heap.size w w' := by
  intro d
  induction d with
  | zero => intro u fr _ h; exact h.out.elim
  | succ d ih =>
    intro u fr hd hB hS v RV w B0 H0 hG hH
    have CB := Lib.hid (beside_nb n E hT u v RV w hG hH)
    have CL := Lib.hid (fun (x : Nat) (hb : Hid (Brn E d x u)) (hs : Hid (sz E d x u ≤ 7)) (W : World) (hW : Below w.heap.size w W) => ih x u (by omega) hb hs v RV W B0 H0 (Lib.hid (hG.out.below (hW.mono hH))) (Nat.le_trans hH hW.size))
    obtain ⟨av, cv, rfl⟩ : ∃ a c, v = .slice a RV.length c := by
      obtain ⟨a, c, h, _⟩ := hG.out.1.slice; exact ⟨a, c, h⟩
    have FA : Hid (id (dpS E stS (1, 1) id d u fr (nb E u).length) = setF E (d + 1) u fr) := dpS_all
    have FZ : Hid (dpS E stS (1, 1) id d u fr 0 = (1, 1)) := dpS_zero
    have FB := Lib.hid (dpS_S hB.out hS.out)
    have HBK : Hid (∀ x ∈ nb E u, (x : Int) ≠ fr → Brn E d x u ∧ sz E d x u ≤ 7 ∧ (setF E d x u).1 ≤ 128 ∧ (setF E d x u).2 ≤ 128) := fun x hx hf => by
      have hxa := mem_away.2 ⟨mem_nb.1 hx, hf⟩
      have h1 := hB.out x hxa
      have h2 := kid_sz (b := 6) hS.out hxa
      exact ⟨h1, by omega, by have h3 := set_le d x u h1; have h4 : 2 ^ sz E d x u ≤ 2 ^ 7 := Nat.pow_le_pow_right (by decide) (by omega); omega⟩
    have h12 := hT.out.nb12 u
    have hiL := intsB_len (nb E u)
    obtain ⟨m, hm⟩ : ∃ m, m = (nb E u).length := ⟨_, rfl⟩
    have HM := Lib.hid hm
    rw [← hm] at FA h12 hiL
    clear hG hH hB hS ih hm
    go_enter Try.func45, Try.ntmps45
    go_wp2_with fail
    refine CB.out.mono ?_
    rintro e w1 ⟨y, rfl, hy, hb1⟩
    obtain ⟨ay, cy, rfl, _⟩ := hy.slice
    rw [hiL] at hy ⊢
    have HY := Lib.hid hy
    have HB1 := Lib.hid hb1
    clear hy hb1 CB hiL
    go_wp2_with fail
    go_loopw [10, 11, 13, 14, 15] (fun e10 e11 ii e14 e15 wr => ∃ (k y z : Nat), k ≤ m ∧ ii = .int .i64 k ∧ e10 = .int .i64 (y : Int) ∧ e11 = .int .i64 (z : Int) ∧ Hid ((y, z) = dpS E stS (1, 1) id d u fr k) ∧ Hid (Below w1.heap.size w1 wr)) (fun _ _ ii _ _ _ => m - (intOf ii).toNat)
    case atStart => exact ⟨0, 1, 1, Nat.zero_le _, rfl, rfl, rfl, FZ.out.symm, Below.refl _ _⟩
    case round =>
      clear FZ
      obtain ⟨k, y, z, hk, rfl, rfl, rfl, HZ, HB⟩ := hrel
      by_cases hlt : k < m
      · have b1 : (k : Int) < (m : Int) := by omega
        have hkn : k < (nb E u).length := by rw [← HM.out]; exact hlt
        obtain ⟨g, rfl, _, hgl, c0, _⟩ := HY.out.at_ k (by rw [intsB_len]; exact hkn)
        have c1 := (HB.out.cell (p := ⟨g, k, none⟩) hgl).trans c0
        have e1 : (iv (intsB (nb E u)))[k]? = some (.int .i64 (((nb E u)[k] : Nat) : Int)) := by simp [iv, intsB, hkn]
        rw [e1] at c1
        have FY := dpS_yes (E := E) (st := stS) (s0 := (1, 1)) (fin := id) (d := d) (fr := fr) hkn
        have FN := dpS_no (E := E) (st := stS) (s0 := (1, 1)) (fin := id) (d := d) (fr := fr) hkn
        have FL := FB.out k
        have hmem := List.getElem_mem hkn
        rw [← HZ.out] at FL
        obtain ⟨x, hx⟩ : ∃ x, x = (nb E u)[k] := ⟨_, rfl⟩
        rw [← hx] at c1 FY FN hmem
        have HBX := HBK.out x hmem
        clear hx hmem hkn c0 e1 hgl
        obtain ⟨f1, f2⟩ := FL
        simp only at f1 f2
        by_cases hxf : (x : Int) = fr
        · have q1 : ((x : Int) == fr) = true := by rw [hxf]; simp
          have ZN : Hid ((y, z) = dpS E stS (1, 1) id d u fr (k + 1)) := by show _ = _; rw [FN hxf]; exact HZ.out
          clear FY FN HZ hxf CL HBX
          go_wp2
          go_roundw
          case rel => exact ⟨k + 1, y, z, by omega, by go_num, rfl, rfl, ZN, HB⟩
          case measure => simp [intOf]; omega
        · have q1 : ((x : Int) == fr) = false := by simpa using hxf
          obtain ⟨g1, g2, g3⟩ := HBX hxf
          have CX := CL.out x (Lib.hid g1) (Lib.hid g2)
          have FY := FY hxf
          rw [← HZ.out, stS] at FY
          have eF : setF E d x u = dpF E stS (1, 1) id d x u := rfl
          rw [← eF] at FY
          obtain ⟨a, ha⟩ : ∃ a, a = (setF E d x u).1 := ⟨_, rfl⟩
          obtain ⟨b, hb⟩ : ∃ b, b = (setF E d x u).2 := ⟨_, rfl⟩
          rw [← ha, ← hb] at FY g3 CX
          obtain ⟨g3, g4⟩ := g3
          have CX := Lib.hid CX
          have FYH := Lib.hid FY
          have BW : Hid (Below w.heap.size w wr) := HB1.out.trans (HB.out.mono HB1.out.size)
          clear ha hb FY FN HZ hxf CL HBX g1 g2 eF
          go_wp2_with fail
          refine (CX.out _ BW.out).mono ?_
          rintro e w2 ⟨rfl, hb2⟩
          have B3 : Hid (Below w1.heap.size w1 w2) := HB.out.trans (hb2.mono HB.out.size)
          clear hb2 HB BW CX c1
          have hm1 : y * (a + b) ≤ 64 * 256 := Nat.mul_le_mul f1 (by omega)
          have hm2 : z * a ≤ 64 * 128 := Nat.mul_le_mul f2 g3
          have hs : IntKind.i64.wrap ((a : Int) + (b : Int)) = ((a + b : Nat) : Int) := by rw [IntKind.wrap_i64]; omega
          obtain ⟨ab, hab⟩ : ∃ ab, ab = a + b := ⟨_, rfl⟩
          rw [← hab] at hs hm1 FYH
          obtain ⟨p1, hp1⟩ : ∃ p, p = y * ab := ⟨_, rfl⟩
          obtain ⟨p2, hp2⟩ : ∃ p, p = z * a := ⟨_, rfl⟩
          have ey : IntKind.i64.wrap ((y : Int) * (ab : Int)) = (p1 : Int) := by rw [IntKind.wrap_i64, ← Int.natCast_mul, ← hp1]; omega
          have ez : IntKind.i64.wrap ((z : Int) * (a : Int)) = (p2 : Int) := by rw [IntKind.wrap_i64, ← Int.natCast_mul, ← hp2]; omega
          have e9 : Hid ((p1, p2) = dpS E stS (1, 1) id d u fr (k + 1)) := by show _ = _; rw [FYH.out, hp1, hp2]
          clear hp1 hp2 hm1 hm2 hab FYH
          go_wp2
          go_roundw
          case rel => exact ⟨k + 1, p1, p2, by omega, by go_num, by first | rfl | rw [ey], by first | rfl | rw [ez], e9, B3⟩
          case measure => simp [intOf]; omega
      · obtain rfl : k = m := by omega
        have HF := FA.out
        rw [← HZ.out, id] at HF
        have HFH := Lib.hid HF
        have BF : Hid (Below w.heap.size w wr) := HB1.out.trans (HB.out.mono HB1.out.size)
        have fl := FB.out k
        rw [HM.out, ← HM.out, ← HZ.out] at fl
        obtain ⟨f1, f2⟩ := fl
        simp only at f1 f2
        clear HZ HB CL HF FB
        go_wp2
        go_ret2
        exact ⟨ret_two (by rw [← HFH.out]) (by rw [← HFH.out]), BF.out⟩
set_option maxHeartbeats 3200000 in
set_option maxRecDepth 100000 in
theorem pairM_any (n : Nat) (E : Edges) (hT : Hid (TreeS n E)) : ∀ (d u : Nat) (fr : Int), d ≤ 64 → Hid (Brn E d u fr) → Hid (sz E d u fr ≤ 7) → ∀ (v : Value) (RV : List Value) (w : World) (B0 H0 : Nat), Hid (Grid w B0 H0 v RV (rowsE E)) → H0 ≤ w.heap.size →
    Calls Try.prog 46 #[.int .i64 (n : Int), v, .int .i64 (u : Int), .int .i64 fr] w fun e w' => e = .returned (.tuple #[.int .i64 ((pairF E d u fr).1 : Int), .int .i64 ((pairF E d u fr).2 : Int)]) ∧ Below w.heap.size w w' := by
  intro d
  induction d with
  | zero => intro u fr _ h; exact h.out.elim
  | succ d ih =>
    intro u fr hd hB hS v RV w B0 H0 hG hH
    have CB := Lib.hid (beside_nb n E hT u v RV w hG hH)
    have CL := Lib.hid (fun (x : Nat) (hb : Hid (Brn E d x u)) (hs : Hid (sz E d x u ≤ 7)) (W : World) (hW : Below w.heap.size w W) => ih x u (by omega) hb hs v RV W B0 H0 (Lib.hid (hG.out.below (hW.mono hH))) (Nat.le_trans hH hW.size))
    obtain ⟨av, cv, rfl⟩ : ∃ a c, v = .slice a RV.length c := by
      obtain ⟨a, c, h, _⟩ := hG.out.1.slice; exact ⟨a, c, h⟩
    have FA : Hid (finP (dpS E stP (0, 0) finP d u fr (nb E u).length) = pairF E (d + 1) u fr) := dpS_all
    have FZ : Hid (dpS E stP (0, 0) finP d u fr 0 = (0, 0)) := dpS_zero
    have FB := Lib.hid (dpS_P hB.out hS.out)
    have HBK : Hid (∀ x ∈ nb E u, (x : Int) ≠ fr → Brn E d x u ∧ sz E d x u ≤ 7 ∧ (pairF E d x u).1 ≤ 7 ∧ (pairF E d x u).2 ≤ 7) := fun x hx hf => by
      have hxa := mem_away.2 ⟨mem_nb.1 hx, hf⟩
      have h1 := hB.out x hxa
      have h2 := kid_sz (b := 6) hS.out hxa
      exact ⟨h1, by omega, by have := aln_le h1; omega⟩
    have h12 := hT.out.nb12 u
    have hiL := intsB_len (nb E u)
    obtain ⟨m, hm⟩ : ∃ m, m = (nb E u).length := ⟨_, rfl⟩
    have HM := Lib.hid hm
    rw [← hm] at FA h12 hiL
    clear hG hH hB hS ih hm
    go_enter Try.func46, Try.ntmps46
    go_wp2_with fail
    refine CB.out.mono ?_
    rintro e w1 ⟨y, rfl, hy, hb1⟩
    obtain ⟨ay, cy, rfl, _⟩ := hy.slice
    rw [hiL] at hy ⊢
    have HY := Lib.hid hy
    have HB1 := Lib.hid hb1
    clear hy hb1 CB hiL
    go_wp2_with fail
    go_loopw [10, 11, 13, 14, 15] (fun e10 e11 ii e14 e15 wr => ∃ (k y z : Nat), k ≤ m ∧ ii = .int .i64 k ∧ e10 = .int .i64 (y : Int) ∧ e11 = .int .i64 (z : Int) ∧ Hid ((y, z) = dpS E stP (0, 0) finP d u fr k) ∧ Hid (Below w1.heap.size w1 wr)) (fun _ _ ii _ _ _ => m - (intOf ii).toNat)
    case atStart => exact ⟨0, 0, 0, Nat.zero_le _, rfl, rfl, rfl, FZ.out.symm, Below.refl _ _⟩
    case round =>
      clear FZ
      obtain ⟨k, y, z, hk, rfl, rfl, rfl, HZ, HB⟩ := hrel
      by_cases hlt : k < m
      · have b1 : (k : Int) < (m : Int) := by omega
        have hkn : k < (nb E u).length := by rw [← HM.out]; exact hlt
        obtain ⟨g, rfl, _, hgl, c0, _⟩ := HY.out.at_ k (by rw [intsB_len]; exact hkn)
        have c1 := (HB.out.cell (p := ⟨g, k, none⟩) hgl).trans c0
        have e1 : (iv (intsB (nb E u)))[k]? = some (.int .i64 (((nb E u)[k] : Nat) : Int)) := by simp [iv, intsB, hkn]
        rw [e1] at c1
        have FY := dpS_yes (E := E) (st := stP) (s0 := (0, 0)) (fin := finP) (d := d) (fr := fr) hkn
        have FN := dpS_no (E := E) (st := stP) (s0 := (0, 0)) (fin := finP) (d := d) (fr := fr) hkn
        have FL := FB.out k
        have hmem := List.getElem_mem hkn
        rw [← HZ.out] at FL
        obtain ⟨x, hx⟩ : ∃ x, x = (nb E u)[k] := ⟨_, rfl⟩
        rw [← hx] at c1 FY FN hmem
        have HBX := HBK.out x hmem
        clear hx hmem hkn c0 e1 hgl
        obtain ⟨f1, f2⟩ := FL
        simp only at f1 f2
        by_cases hxf : (x : Int) = fr
        · have q1 : ((x : Int) == fr) = true := by rw [hxf]; simp
          have ZN : Hid ((y, z) = dpS E stP (0, 0) finP d u fr (k + 1)) := by show _ = _; rw [FN hxf]; exact HZ.out
          clear FY FN HZ hxf CL HBX
          go_wp2
          go_roundw
          case rel => exact ⟨k + 1, y, z, by omega, by go_num, rfl, rfl, ZN, HB⟩
          case measure => simp [intOf]; omega
        · have q1 : ((x : Int) == fr) = false := by simpa using hxf
          obtain ⟨g1, g2, g3⟩ := HBX hxf
          have CX := CL.out x (Lib.hid g1) (Lib.hid g2)
          have FY := FY hxf
          rw [← HZ.out, stP] at FY
          have eF : pairF E d x u = dpF E stP (0, 0) finP d x u := rfl
          rw [← eF] at FY
          obtain ⟨a, ha⟩ : ∃ a, a = (pairF E d x u).1 := ⟨_, rfl⟩
          obtain ⟨b, hb⟩ : ∃ b, b = (pairF E d x u).2 := ⟨_, rfl⟩
          rw [← ha, ← hb] at FY g3 CX
          obtain ⟨g3, g4⟩ := g3
          have CX := Lib.hid CX
          have FYH := Lib.hid FY
          have BW : Hid (Below w.heap.size w wr) := HB1.out.trans (HB.out.mono HB1.out.size)
          clear ha hb FY FN HZ hxf CL HBX g1 g2 eF
          go_wp2_with fail
          refine (CX.out _ BW.out).mono ?_
          rintro e w2 ⟨rfl, hb2⟩
          have B3 : Hid (Below w1.heap.size w1 w2) := HB.out.trans (hb2.mono HB.out.size)
          clear hb2 HB BW CX c1
          have ey : IntKind.i64.wrap ((y : Int) + (a : Int)) = ((y + a : Nat) : Int) := by rw [IntKind.wrap_i64]; omega
          by_cases hz : b = a
          · have q2 : ((b : Int) == (a : Int)) = true := by rw [hz]; simp
            have e9 : Hid ((y + a, 1) = dpS E stP (0, 0) finP d u fr (k + 1)) := by show _ = _; rw [FYH.out]; simp only [if_pos hz]
            go_wp2
            go_roundw
            case rel => exact ⟨k + 1, y + a, 1, by omega, by go_num, by first | rfl | rw [ey], rfl, e9, B3⟩
            case measure => simp [intOf]; omega
          · have q2 : ((b : Int) == (a : Int)) = false := by rw [beq_eq_false_iff_ne]; omega
            have e9 : Hid ((y + a, z) = dpS E stP (0, 0) finP d u fr (k + 1)) := by show _ = _; rw [FYH.out]; simp only [if_neg hz]
            go_wp2
            go_roundw
            case rel => exact ⟨k + 1, y + a, z, by omega, by go_num, by first | rfl | rw [ey], rfl, e9, B3⟩
            case measure => simp [intOf]; omega
      · obtain rfl : k = m := by omega
        have HF := FA.out
        rw [← HZ.out, finP] at HF
        have HFH := Lib.hid HF
        have BF : Hid (Below w.heap.size w wr) := HB1.out.trans (HB.out.mono HB1.out.size)
        have fl := FB.out k
        rw [HM.out, ← HM.out, ← HZ.out] at fl
        obtain ⟨f1, f2⟩ := fl
        simp only at f1 f2
        have ee : IntKind.i64.wrap ((y : Int) + (z : Int)) = ((y + z : Nat) : Int) := by rw [IntKind.wrap_i64]; omega
        clear HZ HB CL HF FB
        go_wp2
        go_ret2
        exact ⟨ret_two (by rw [← HFH.out]; first | rfl | (simp only; omega)) (by rw [← HFH.out]), BF.out⟩
end Go.Proofs.Ytmpppocmbdainaa
