/-
  The model's list of the nodes beside a node, and its longest way into a branch.
  The model's longest way into a branch, and its centers.
  The model's text of a branch. (The region with three appends in each other is written by wip/tools/gentext.py.)
  What is answered of free trees, of any rows. Nothing of the program is named here.
  The model's centers, texts and shapes of any rows.
-/
import Derived.Test.YtafdlilojlmchaaCVTree
import Derived.Test.YtafdlilojlmchaaZJ
import Derived.Test.YtafdlilojlmchaaZTS
import Derived.Test.YtafdlilojlmchaaZW
import Derived.Lib.MinMaxS
namespace Go.Proofs.Ytafdlilojlmchaa
open Go.RowKit

def intsB (L : List Nat) : List Int := L.map fun (x : Nat) => (x : Int)
theorem intsB_snoc (L : List Nat) (x : Nat) : iv (intsB (L ++ [x])) = iv (intsB L) ++ [.int .i64 (x : Int)] := by simp [iv, intsB]
theorem intsB_len (L : List Nat) : (iv (intsB L)).length = L.length := by simp [iv, intsB]
/-- the nodes less than x, and x as far as k edges tell -/
def besP (E : Edges) (v x k : Nat) : List Nat := ((List.range x).flatMap fun y => E.flatMap (bes1 v y)) ++ (E.take k).flatMap (bes1 v x)
theorem besP_next {E : Edges} (v x : Nat) {k : Nat} (hk : k < E.length) : besP E v x (k + 1) = besP E v x k ++ bes1 v x E[k] := by
  unfold besP
  rw [List.take_succ_eq_append_getElem hk, List.flatMap_append, List.append_assoc]; simp
theorem besP_turn (E : Edges) (v x : Nat) : besP E v x E.length = besP E v (x + 1) 0 := by
  unfold besP
  rw [List.take_length, List.range_succ, List.flatMap_append]; simp
theorem besP_all (n : Nat) (E : Edges) (v : Nat) : besP E v n 0 = besN n E v := by unfold besP besN; simp
theorem rowsE_at {E : Edges} {k : Nat} (hk : k < (rowsE E).length) : (rowsE E)[k] = [((E[k]'(by simpa [rowsE] using hk)).1 : Int), ((E[k]'(by simpa [rowsE] using hk)).2 : Int)] := by simp [rowsE]
theorem rowsE_len (E : Edges) : (rowsE E).length = E.length := by simp [rowsE]
theorem hit_cases (v x a b : Nat) (h : a < b) : (bes1 v x (a, b) = [x] ∧ ((a = v ∧ b = x) ∨ (a ≠ v ∧ b = v ∧ a = x))) ∨ (bes1 v x (a, b) = [] ∧ ((a = v ∧ b ≠ x ∧ b ≠ v) ∨ (a ≠ v ∧ b = v ∧ a ≠ x) ∨ (a ≠ v ∧ b ≠ v))) := by
  unfold bes1
  simp only
  by_cases h1 : a = v
  · by_cases h2 : b = x
    · left; rw [if_pos (.inl ⟨h1, h2⟩)]; exact ⟨rfl, .inl ⟨h1, h2⟩⟩
    · right; rw [if_neg (by omega)]; exact ⟨rfl, .inl ⟨h1, h2, by omega⟩⟩
  · by_cases h2 : b = v
    · by_cases h3 : a = x
      · left; rw [if_pos (.inr ⟨h2, h3⟩)]; exact ⟨rfl, .inr ⟨h1, h2, h3⟩⟩
      · right; rw [if_neg (by omega)]; exact ⟨rfl, .inr (.inl ⟨h1, h2, h3⟩)⟩
    · right; rw [if_neg (by omega)]; exact ⟨rfl, .inr (.inr ⟨h1, h2⟩)⟩
theorem ieq {a b : Nat} (h : a = b) : ((a : Int) == (b : Int)) = true := by rw [h]; simp
theorem ine {a b : Nat} (h : a ≠ b) : ((a : Int) == (b : Int)) = false := by rw [beq_eq_false_iff_ne]; omega

set_option maxHeartbeats 6400000 in
set_option maxRecDepth 100000 in
theorem beside_any (n : Nat) (E : Edges) (ho : Hid (∀ e ∈ E, e.1 < e.2)) (hn : n ≤ 64) (hel : E.length ≤ 64) (u : Nat) (v : Value) (RV : List Value) (w : World) {B0 H0 : Nat} (hG : Hid (Grid w B0 H0 v RV (rowsE E))) (hH : H0 ≤ w.heap.size) :
    Calls Try.prog 77 #[.int .i64 (n : Int), v, .int .i64 (u : Int)] w fun e w' => ∃ y, e = .returned y ∧ Own w' w.heap.size w'.heap.size 3 y (iv (intsB (besN n E u))) ∧ Below w.heap.size w w' := by
  obtain ⟨i0, hi, hz0, hz1, hz2⟩ := info_parts Try.infoIntR
  obtain ⟨av, cv, rfl, _, hcv, _, _⟩ := hG.out.1.slice
  have hgl := hG.out.2.1
  rw [hgl] at hG hcv ⊢
  have HGr : Hid (∀ W, Below w.heap.size w W → Grid W B0 H0 (.slice av (rowsE E).length cv) RV (rowsE E)) := fun W hW => hG.out.below (hW.mono hH)
  have hlE := rowsE_len E
  obtain ⟨M, hM⟩ : ∃ M, M = (rowsE E).length := ⟨_, rfl⟩
  have HM := Lib.hid hM
  rw [← hM] at hlE ⊢
  have HME : Hid (M = E.length) := hlE
  have hM64 : M ≤ 64 := by omega
  obtain ⟨C, hC⟩ : ∃ C, C = w.heap.size := ⟨_, rfl⟩
  have HC := Lib.hid hC
  rw [← hC] at HGr
  have O0 : Hid ((w.alloc (.cells #[] 3)).ownsRow C 3 1 (.slice (some ⟨w.heap.size, 0, none⟩) 0 0) 0 (iv (intsB (besP E u 0 0)))) :=
    World.ownsRow_lit (base := C) (e := 3) (size := 1) w #[] 0 (by omega) (by unfold maxLen; omega) rfl
  have B1 : Hid (Below C w (w.alloc (.cells #[] 3))) := by show Below _ _ _; rw [hC]; exact (Below.refl _ _).alloc (Nat.le_refl _) _
  have BA := Lib.hid (besP_all n E u)
  clear hG hH hcv hgl hlE hM hC hel
  go_enter Try.func77, Try.ntmps77
  go_wp2_with fail
  go_loopw [7, 8, 9] (fun e7 e8 e9 wr => ∃ (x m c : Nat) (a : Option Addr), x ≤ n ∧ e8 = .int .i64 (x : Int) ∧ e7 = .slice a m c ∧ m ≤ x * 64 ∧ Hid (wr.ownsRow C 3 1 (.slice a m c) m (iv (intsB (besP E u x 0)))) ∧ Hid (Below C w wr)) (fun _ e8 _ _ => n - (intOf e8).toNat)
  case atStart => exact ⟨0, 0, 0, _, Nat.zero_le _, rfl, rfl, Nat.le_refl _, O0, B1⟩
  case round =>
    clear O0 B1
    obtain ⟨x, m, c, a, hx, rfl, rfl, hm, HO, HB⟩ := hrel
    by_cases hlt : x < n
    · have b1 : (x : Int) < (n : Int) := by omega
      go_wp2_with fail
      go_loopw [7, 9] (fun e7 e9 W => ∃ (k q c : Nat) (a : Option Addr), k ≤ M ∧ e9 = .int .i64 (k : Int) ∧ e7 = .slice a q c ∧ q ≤ x * 64 + k ∧ Hid (W.ownsRow C 3 1 (.slice a q c) q (iv (intsB (besP E u x k)))) ∧ Hid (Below C w W)) (fun _ e9 _ => M - (intOf e9).toNat)
      case atStart => exact ⟨0, m, c, a, Nat.zero_le _, rfl, rfl, hm, HO, HB⟩
      case round =>
        clear HO HB
        obtain ⟨k, q, c, a, hk, rfl, rfl, hq, HO, HB⟩ := hrel
        by_cases hlt2 : k < M
        · have b2 : (k : Int) < (M : Int) := by omega
          have hkE : k < E.length := by rw [← HME.out]; exact hlt2
          have hkR : k < (rowsE E).length := by rw [← HM.out]; exact hlt2
          have PA := pair_at (HGr.out _ HB.out) hkR (rowsE_at hkR)
          obtain ⟨ga, gr, cr, rfl, hcr, c1, c2, c3⟩ := PA
          have BN := besP_next u x hkE
          have oe := ho.out _ (List.getElem_mem hkE)
          obtain ⟨⟨p, r⟩, hy⟩ : ∃ y, y = E[k] := ⟨_, rfl⟩
          rw [← hy] at c2 c3 BN oe
          replace c2 : wr.cell? ⟨gr, 0, none⟩ = some (.int .i64 (p : Int)) := c2
          replace c3 : wr.cell? ⟨gr, 1, none⟩ = some (.int .i64 (r : Int)) := c3
          replace oe : p < r := oe
          have z1 : q + 1 ≤ maxLen := by unfold maxLen; omega
          have z2 : (q + 1) * 8 ≤ 140737488355328 := by omega
          have sC : Hid (C ≤ wr.heap.size) := by have := HB.out.size; show _ ≤ _; rw [HC.out]; rw [HC.out] at *; exact this
          have Y3 : Hid (C ≤ (wr.alloc (.cells #[.int .i64 (x : Int)] 3)).heap.size) := by have := sC.out; show _ ≤ _; rw [World.size_alloc]; omega
          have HBN := Lib.hid BN
          rcases hit_cases u x p r oe with ⟨hb, hc⟩ | ⟨hb, hc⟩
          · have BN2 : Hid (iv (intsB (besP E u x (k + 1))) = iv (intsB (besP E u x k)) ++ [.int .i64 (x : Int)]) := by show _ = _; rw [HBN.out, hb, intsB_snoc]
            clear HBN BN hy hkE hkR hb
            rcases hc with ⟨h1, h2⟩ | ⟨h1, h2, h3⟩
            all_goals
              try have q1 := ieq h1
              try have q1 := ine h1
              try have q2 := ieq h2
              try have q3 := ieq h3
              clear h1 h2
              try clear h3
              go_wp2_with (at_builtin; refine wpList_append_lies _ rfl (.tmp 60) (.tmp 62) 30 rfl C 3 i0 (.int .i64 0) 1 8 Try.underlying30 hi hz0 hz1 hz2 rfl (Nat.succ_pos 0) _ q (iv (intsB (besP E u x k))) rfl (HO.out.alloc _) ⟨wr.heap.size, 0, none⟩ 1 1 [.int .i64 (x : Int)] rfl rfl (cell_one_new _ _ _) (one_intR _) (Nat.lt_succ_self 0) z1 z2 Y3.out _ rfl ?_)
              intro g5 c5 w5 hv5 hg5 _ _
              have B5 : Hid (Below C w w5) := (HB.out.alloc sC.out _).grown hg5 Y3.out (fun q hq => (HO.out.lt q hq).1)
              have O5 : Hid (w5.ownsRow C 3 1 (.slice (some ⟨g5, 0, none⟩) (q + 1) c5) (q + 1) (iv (intsB (besP E u x (k + 1))))) := by
                show World.ownsRow _ _ _ _ _ _ _
                rw [BN2.out]; exact hv5
              clear hv5 hg5 HB HO sC Y3 c1 c2 c3
              go_wp2
              go_roundw
              case rel => exact ⟨k + 1, q + 1, c5, _, by omega, by go_num, rfl, by omega, O5, B5⟩
              case measure => simp [intOf]; omega
          · have BN2 : Hid (besP E u x (k + 1) = besP E u x k) := by show _ = _; rw [HBN.out, hb, List.append_nil]
            clear HBN BN hy hkE hkR hb Y3 z1 z2
            rcases hc with ⟨h1, h2, h3⟩ | ⟨h1, h2, h3⟩ | ⟨h1, h2⟩
            · have q1 := ieq h1
              have q2 := ine h2
              have q3 := ine h3
              clear h1 h2 h3
              go_wp2
              go_roundw
              case rel => exact ⟨k + 1, q, c, a, by omega, by go_num, rfl, by omega, by show World.ownsRow _ _ _ _ _ _ _; rw [BN2.out]; exact HO.out, HB⟩
              case measure => simp [intOf]; omega
            · have q1 := ine h1
              have q2 := ieq h2
              have q3 := ine h3
              clear h1 h2 h3
              go_wp2
              go_roundw
              case rel => exact ⟨k + 1, q, c, a, by omega, by go_num, rfl, by omega, by show World.ownsRow _ _ _ _ _ _ _; rw [BN2.out]; exact HO.out, HB⟩
              case measure => simp [intOf]; omega
            · have q1 := ine h1
              have q2 := ine h2
              clear h1 h2
              go_wp2
              go_roundw
              case rel => exact ⟨k + 1, q, c, a, by omega, by go_num, rfl, by omega, by show World.ownsRow _ _ _ _ _ _ _; rw [BN2.out]; exact HO.out, HB⟩
              case measure => simp [intOf]; omega
        · obtain rfl : k = M := by omega
          have OT : Hid (wr.ownsRow C 3 1 (.slice a q c) q (iv (intsB (besP E u (x + 1) 0)))) := by
            have := HO.out
            rw [HME.out] at this
            rw [← besP_turn]; exact this
          clear HO
          go_wp2
          go_roundw
          case rel => exact ⟨x + 1, q, c, a, by omega, by go_num, rfl, by omega, OT, HB⟩
          case measure => simp [intOf]; omega
    · obtain rfl : x = n := by omega
      rw [BA.out] at HO
      have OF : Hid (Own wr C wr.heap.size 3 (.slice a m c) (iv (intsB (besN x E u)))) := by
        refine Own.of_own ?_
        have e : (iv (intsB (besN x E u))).length = m := by have := HO.out.1; simpa using this
        rw [e]; exact HO.out
      clear HO
      go_wp2
      go_ret
      exact ⟨_, rfl, by rw [← HC.out]; exact OF.out, by rw [← HC.out]; exact HB.out⟩
end Go.Proofs.Ytafdlilojlmchaa

namespace Go.Proofs.Ytafdlilojlmchaa
open Go.RowKit

/-- the longest way, as far as k neighbours tell -/
def farS (E : Edges) (d u : Nat) (fr : Int) (k : Nat) : Nat := (((nb E u).take k).filter fun (x : Nat) => !decide ((x : Int) = fr)).foldl (fun m x => max m (1 + far E d x u)) 0
theorem farS_yes {E : Edges} {d u k : Nat} {fr : Int} (hk : k < (nb E u).length) (h : ((nb E u)[k] : Int) ≠ fr) : farS E d u fr (k + 1) = max (farS E d u fr k) (1 + far E d (nb E u)[k] u) := by
  unfold farS
  rw [List.take_succ_eq_append_getElem hk, List.filter_append, List.foldl_append, List.filter_cons_of_pos (by simpa using h)]; rfl
theorem farS_no {E : Edges} {d u k : Nat} {fr : Int} (hk : k < (nb E u).length) (h : ((nb E u)[k] : Int) = fr) : farS E d u fr (k + 1) = farS E d u fr k := by
  unfold farS
  rw [List.take_succ_eq_append_getElem hk, List.filter_append, List.foldl_append, List.filter_cons_of_neg (by simpa using h)]; rfl
theorem farS_all (E : Edges) (d u : Nat) (fr : Int) : farS E d u fr (nb E u).length = far E (d + 1) u fr := by unfold farS; rw [List.take_length]; rfl
theorem far_fuelS (E : Edges) : ∀ (d u : Nat) (fr : Int), far E d u fr ≤ d := by
  intro d
  induction d with
  | zero => intro u fr; exact Nat.le_refl _
  | succ d ih =>
    intro u fr
    rw [far, fold_max]
    exact ⟨by omega, fun x _ => by have := ih x u; omega⟩
theorem farS_le (E : Edges) (d u : Nat) (fr : Int) (k : Nat) : farS E d u fr k ≤ d + 1 := by
  unfold farS
  rw [fold_max]
  exact ⟨by omega, fun x _ => by have := far_fuelS E d x u; omega⟩
/-- what is known of the tree, for the model's functions -/
structure TreeS (n : Nat) (E : Edges) : Prop where
  v : ValidT n E
  h7 : n ≤ 7
theorem TreeS.ord {n : Nat} {E : Edges} (h : TreeS n E) : ∀ e ∈ E, e.1 < e.2 := fun e he => (h.v.ord e he).1
theorem TreeS.bes {n : Nat} {E : Edges} (h : TreeS n E) (u : Nat) : besN n E u = nb E u := bes_nb h.v.ord h.v.asc u
theorem TreeS.len {n : Nat} {E : Edges} (h : TreeS n E) : E.length ≤ 6 := by have := h.v.len; have := h.h7; omega
theorem TreeS.nb12 {n : Nat} {E : Edges} (h : TreeS n E) (u : Nat) : (nb E u).length ≤ 12 := by
  have key : ∀ E : Edges, (nb E u).length ≤ 2 * E.length := by
    intro E
    unfold nb
    induction E with
    | nil => exact Nat.le_refl _
    | cons e r ih =>
      rw [List.flatMap_cons, List.length_append, List.length_cons]
      have : (nb1 u e).length ≤ 2 := by unfold nb1; rw [List.length_append]; split <;> split <;> simp
      omega
  have := key E; have := h.len; omega
theorem beside_nb (n : Nat) (E : Edges) (hT : Hid (TreeS n E)) (u : Nat) (v : Value) (RV : List Value) (w : World) {B0 H0 : Nat} (hG : Hid (Grid w B0 H0 v RV (rowsE E))) (hH : H0 ≤ w.heap.size) :
    Calls Try.prog 77 #[.int .i64 (n : Int), v, .int .i64 (u : Int)] w fun e w' => ∃ y, e = .returned y ∧ Own w' w.heap.size w'.heap.size 3 y (iv (intsB (nb E u))) ∧ Below w.heap.size w w' := by
  have := beside_any n E (Lib.hid hT.out.ord) (by have := hT.out.h7; omega) (by have := hT.out.len; omega) u v RV w hG hH
  rwa [hT.out.bes] at this
set_option maxHeartbeats 3200000 in
set_option maxRecDepth 100000 in
theorem farthest_any (n : Nat) (E : Edges) (hT : Hid (TreeS n E)) : ∀ (d u : Nat) (fr : Int), d ≤ 64 → Hid (Brn E d u fr) → ∀ (v : Value) (RV : List Value) (w : World) (B0 H0 : Nat), Hid (Grid w B0 H0 v RV (rowsE E)) → H0 ≤ w.heap.size →
    Calls Try.prog 76 #[.int .i64 (n : Int), v, .int .i64 (u : Int), .int .i64 fr] w fun e w' => e = .returned (.int .i64 (far E d u fr : Int)) ∧ Below w.heap.size w w' := by
  intro d
  induction d with
  | zero => intro u fr _ h; exact h.out.elim
  | succ d ih =>
    intro u fr hd hB v RV w B0 H0 hG hH
    have CB := Lib.hid (beside_nb n E hT u v RV w hG hH)
    have CL := Lib.hid (fun (x : Nat) (hb : Hid (Brn E d x u)) (W : World) (hW : Below w.heap.size w W) => ih x u (by omega) hb v RV W B0 H0 (Lib.hid (hG.out.below (hW.mono hH))) (Nat.le_trans hH hW.size))
    obtain ⟨av, cv, rfl⟩ : ∃ a c, v = .slice a RV.length c := by
      obtain ⟨a, c, h, _⟩ := hG.out.1.slice; exact ⟨a, c, h⟩
    have FA := Lib.hid (farS_all E d u fr)
    have HBK : Hid (∀ x ∈ nb E u, (x : Int) ≠ fr → Brn E d x u) := fun x hx hf => hB.out x (mem_away.2 ⟨mem_nb.1 hx, hf⟩)
    have h12 := hT.out.nb12 u
    have hiL := intsB_len (nb E u)
    obtain ⟨m, hm⟩ : ∃ m, m = (nb E u).length := ⟨_, rfl⟩
    have HM := Lib.hid hm
    rw [← hm] at FA h12 hiL
    clear hG hH hB ih hm
    go_enter Try.func76, Try.ntmps76
    go_wp2_with fail
    refine CB.out.mono ?_
    rintro e w1 ⟨y, rfl, hy, hb1⟩
    obtain ⟨ay, cy, rfl, _⟩ := hy.slice
    rw [hiL] at hy ⊢
    have HY := Lib.hid hy
    have HB1 := Lib.hid hb1
    clear hy hb1 CB hiL
    go_wp2_with fail
    go_loopw [9, 11] (fun e9 ii wr => ∃ (k : Nat) (z : Int), k ≤ m ∧ ii = .int .i64 k ∧ e9 = .int .i64 z ∧ Hid (z = (farS E d u fr k : Int)) ∧ Hid (Below w1.heap.size w1 wr)) (fun _ ii _ => m - (intOf ii).toNat)
    case atStart => exact ⟨0, 0, Nat.zero_le _, rfl, rfl, rfl, Below.refl _ _⟩
    case round =>
      obtain ⟨k, z, hk, rfl, rfl, HZ, HB⟩ := hrel
      by_cases hlt : k < m
      · have b1 : (k : Int) < (m : Int) := by omega
        have hkn : k < (nb E u).length := by rw [← HM.out]; exact hlt
        obtain ⟨g, rfl, _, hgl, c0, _⟩ := HY.out.at_ k (by rw [intsB_len]; exact hkn)
        have c1 := (HB.out.cell (p := ⟨g, k, none⟩) hgl).trans c0
        have e1 : (iv (intsB (nb E u)))[k]? = some (.int .i64 (((nb E u)[k] : Nat) : Int)) := by simp [iv, intsB, hkn]
        rw [e1] at c1
        have FY := farS_yes (d := d) (fr := fr) hkn
        have FN := farS_no (d := d) (fr := fr) hkn
        have FL := farS_le E d u fr k
        have hmem := List.getElem_mem hkn
        obtain ⟨x, hx⟩ : ∃ x, x = (nb E u)[k] := ⟨_, rfl⟩
        rw [← hx] at c1 FY FN hmem
        have HBX := HBK.out x hmem
        clear hx hmem hkn c0 e1 hgl
        by_cases hxf : (x : Int) = fr
        · have q1 : ((x : Int) != fr) = false := by rw [hxf]; simp
          have ZN : Hid (z = (farS E d u fr (k + 1) : Int)) := by show _ = _; rw [FN hxf]; exact HZ.out
          clear FY FN HZ hxf CL HBX
          go_wp2
          go_roundw
          case rel => exact ⟨k + 1, z, by omega, by go_num, rfl, ZN, HB⟩
          case measure => simp [intOf]; omega
        · have q1 : ((x : Int) != fr) = true := by simpa using hxf
          have CX := CL.out x (Lib.hid (HBX hxf))
          have F2 := far_fuelS E d x u
          have FY := FY hxf
          obtain ⟨f, hf⟩ : ∃ f, f = far E d x u := ⟨_, rfl⟩
          rw [← hf] at FY F2 CX
          have CX := Lib.hid CX
          have ZN : Hid ((farS E d u fr (k + 1) : Int) = max z (1 + (f : Int))) := by show _ = _; rw [FY, HZ.out]; omega
          have hz1 : 0 ≤ z ∧ z ≤ 65 := by rw [HZ.out]; omega
          obtain ⟨hz0, hz2⟩ := hz1
          have ew : IntKind.i64.wrap (1 + (f : Int)) = 1 + (f : Int) := by rw [IntKind.wrap_i64]; omega
          have BW : Hid (Below w.heap.size w wr) := HB1.out.trans (HB.out.mono HB1.out.size)
          clear hf FY FN FL HZ hxf CL HBX
          go_wp2_with fail
          refine (CX.out _ BW.out).mono ?_
          rintro e w2 ⟨rfl, hb2⟩
          have B3 : Hid (Below w1.heap.size w1 w2) := HB.out.trans (hb2.mono HB.out.size)
          clear hb2 HB BW CX c1
          rcases Int.lt_trichotomy z (1 + (f : Int)) with hz | hz | hz
          · go_wp2
            go_roundw
            case rel => exact ⟨k + 1, _, by omega, by go_num, rfl, by show _ = _; (rw [ZN.out] <;> omega), B3⟩
            case measure => simp [intOf]; omega
          · subst hz
            go_wp2
            go_roundw
            case rel => exact ⟨k + 1, _, by omega, by go_num, rfl, by show _ = _; (rw [ZN.out] <;> omega), B3⟩
            case measure => simp [intOf]; omega
          · go_wp2
            go_roundw
            case rel => exact ⟨k + 1, _, by omega, by go_num, rfl, by show _ = _; (rw [ZN.out] <;> omega), B3⟩
            case measure => simp [intOf]; omega
      · obtain rfl : k = m := by omega
        have HZ2 : Hid (z = (far E (d + 1) u fr : Int)) := by show _ = _; rw [HZ.out, FA.out]
        have BF : Hid (Below w.heap.size w wr) := HB1.out.trans (HB.out.mono HB1.out.size)
        clear HZ HB CL
        go_wp2
        go_ret
        rw [HZ2.out]
        exact ⟨rfl, BF.out⟩
set_option maxHeartbeats 3200000 in
set_option maxRecDepth 100000 in
theorem centersS_any (n : Nat) (E : Edges) (hT : Hid (TreeS n E)) (v : Value) (RV : List Value) (w : World) {B0 H0 : Nat} (hG : Hid (Grid w B0 H0 v RV (rowsE E))) (hH : H0 ≤ w.heap.size) :
    Calls Try.prog 60 #[.int .i64 (n : Int), v] w fun e w' => ∃ y, e = .returned y ∧ Own w' w.heap.size w'.heap.size 3 y (iv (intsB (cents n E))) ∧ Below w.heap.size w w' := by
  obtain ⟨i0, hi, hz0, hz1, hz2⟩ := info_parts Try.infoIntR
  have CL := Lib.hid (fun (u : Nat) (W : World) (hW : Below w.heap.size w W) => farthest_any n E hT 14 u (-1) (by omega) (Lib.hid (valid_brn hT.out.v hT.out.h7 u (-1))) v RV W B0 H0 (Lib.hid (hG.out.below (hW.mono hH))) (Nat.le_trans hH hW.size))
  obtain ⟨av, cv, rfl⟩ : ∃ a c, v = .slice a RV.length c := by
    obtain ⟨a, c, h, _⟩ := hG.out.1.slice; exact ⟨a, c, h⟩
  obtain ⟨SZ, hSZ⟩ : ∃ SZ, SZ = w.heap.size := ⟨_, rfl⟩
  have HSZ := Lib.hid hSZ
  rw [← hSZ] at CL
  have hn7 := hT.out.h7
  have O0 : Hid ((w.alloc (.cells #[] 3)).ownsRow SZ 3 1 (.slice (some ⟨w.heap.size, 0, none⟩) 0 0) 0 (iv (intsB (cfold E n 0).1))) :=
    World.ownsRow_lit (base := SZ) (e := 3) (size := 1) w #[] 0 (by omega) (by unfold maxLen; omega) rfl
  have B1 : Hid (Below SZ w (w.alloc (.cells #[] 3))) := by show Below _ _ _; rw [hSZ]; exact (Below.refl _ _).alloc (Nat.le_refl _) _
  clear hG hH hSZ
  go_enter Try.func60, Try.ntmps60
  go_wp2_with fail
  go_loopw [5, 6, 7, 8] (fun e5 e6 ii e8 wr => ∃ (k m c best : Nat) (a : Option Addr), k ≤ n ∧ ii = .int .i64 k ∧ e5 = .slice a m c ∧ e6 = .int .i64 (best : Int) ∧ best ≤ n ∧ m ≤ k ∧ Hid ((cfold E n k).2 = best ∧ (cfold E n k).1.length = m) ∧ Hid (wr.ownsRow SZ 3 1 (.slice a m c) m (iv (intsB (cfold E n k).1))) ∧ Hid (Below SZ w wr)) (fun _ _ ii _ _ => n - (intOf ii).toNat)
  case atStart => exact ⟨0, 0, 0, n, _, Nat.zero_le _, rfl, rfl, rfl, Nat.le_refl _, Nat.le_refl _, ⟨rfl, rfl⟩, O0, B1⟩
  case round =>
    clear O0 B1
    obtain ⟨k, m, c, best, a, hk, rfl, rfl, rfl, hbn, hmk, HF, HO, HB⟩ := hrel
    by_cases hlt : k < n
    · have b1 : (k : Int) < (n : Int) := by omega
      have CK := CL.out k
      obtain ⟨f, hf⟩ : ∃ f, f = far E 14 k (-1) := ⟨_, rfl⟩
      have hf7 : f ≤ 14 := by rw [hf]; exact far_fuelS E 14 k (-1)
      have CF := cfold_next E n k
      unfold cstep at CF
      rw [← hf, HF.out.1] at CF
      rw [← hf] at CK
      have CK := Lib.hid CK
      have CF := Lib.hid CF
      clear hf
      go_wp2_with fail
      refine (CK.out _ HB.out).mono ?_
      rintro e w2 ⟨rfl, hb2⟩
      have sR : SZ ≤ wr.heap.size := by have := HB.out.size; rw [HSZ.out]; rw [HSZ.out] at *; exact this
      have BW2 : Hid (Below SZ w w2) := HB.out.trans (hb2.mono sR)
      have HO2 : Hid (w2.ownsRow SZ 3 1 (.slice a m c) m (iv (intsB (cfold E n k).1))) := own_of_blocks HO.out fun q hq => hb2.block q (HO.out.lt q hq).2
      have S2 : Hid (SZ ≤ w2.heap.size) := Nat.le_trans sR hb2.size
      have z1 : m + 1 ≤ maxLen := by unfold maxLen; omega
      have z2 : (m + 1) * 8 ≤ 140737488355328 := by omega
      clear hb2 sR HO HB CK
      rcases Nat.lt_trichotomy f best with h1 | h1 | h1
      · have d1 : (f : Int) < (best : Int) := by omega
        have CF2 : Hid (cfold E n (k + 1) = ([k], f)) := by show _ = _; rw [CF.out, if_pos h1]
        have S3 : Hid (SZ ≤ ((w2.alloc (.cells #[] 3)).alloc (.cells #[.int .i64 (k : Int)] 3)).heap.size) := by have := S2.out; show _ ≤ _; rw [World.size_alloc, World.size_alloc]; omega
        have NN : Hid (((w2.alloc (.cells #[] 3)).alloc (.cells #[.int .i64 (k : Int)] 3)).ownsRow SZ 3 1 (.slice (some ⟨w2.heap.size, 0, none⟩) 0 0) 0 []) :=
          (World.ownsRow_lit (base := SZ) (e := 3) (size := 1) w2 #[] 0 S2.out (by unfold maxLen; omega) rfl).alloc _
        clear CF HF HO2
        go_wp2_with (at_builtin; refine wpList_append_lies _ rfl (.tmp 28) (.tmp 30) 30 rfl SZ 3 i0 (.int .i64 0) 1 8 Try.underlying30 hi hz0 hz1 hz2 rfl (Nat.succ_pos 0) _ 0 [] rfl NN.out ⟨(w2.alloc (.cells #[] 3)).heap.size, 0, none⟩ 1 1 [.int .i64 (k : Int)] (by simp; rfl) rfl (cell_one_new _ _ _) (one_intR _) (Nat.lt_succ_self 0) (by unfold maxLen; omega) (by omega) S3.out _ rfl ?_)
        intro g5 c5 w5 hv5 hg5 _ _
        have B5 : Hid (Below SZ w w5) := ((BW2.out.alloc S2.out _).alloc (by have := S2.out; rw [World.size_alloc]; omega) _).grown hg5 S3.out (fun q hq => by cases hq; exact S2.out)
        have O5 : Hid (w5.ownsRow SZ 3 1 (.slice (some ⟨g5, 0, none⟩) (0 + 1) c5) (0 + 1) (iv (intsB (cfold E n (k + 1)).1))) := by
          show World.ownsRow _ _ _ _ _ _ _
          rw [CF2.out]; exact hv5
        clear hv5 hg5 S2 BW2 S3 NN
        go_wp2
        go_roundw
        case rel => exact ⟨k + 1, 0 + 1, c5, f, _, by omega, by go_num, rfl, rfl, by omega, by omega, ⟨by rw [CF2.out], by rw [CF2.out]; rfl⟩, O5, B5⟩
        case measure => simp [intOf]; omega
      · subst h1
        have CF2 : Hid (cfold E n (k + 1) = ((cfold E n k).1 ++ [k], f)) := by show _ = _; rw [CF.out, if_neg (by omega), if_pos rfl]
        have S3 : Hid (SZ ≤ (w2.alloc (.cells #[.int .i64 (k : Int)] 3)).heap.size) := by have := S2.out; show _ ≤ _; rw [World.size_alloc]; omega
        have HM : Hid ((cfold E n k).1.length = m) := HF.out.2
        clear CF HF
        go_wp2_with (at_builtin; refine wpList_append_lies _ rfl (.tmp 28) (.tmp 30) 30 rfl SZ 3 i0 (.int .i64 0) 1 8 Try.underlying30 hi hz0 hz1 hz2 rfl (Nat.succ_pos 0) _ m (iv (intsB (cfold E n k).1)) rfl (HO2.out.alloc _) ⟨w2.heap.size, 0, none⟩ 1 1 [.int .i64 (k : Int)] rfl rfl (cell_one_new _ _ _) (one_intR _) (Nat.lt_succ_self 0) z1 z2 S3.out _ rfl ?_)
        intro g5 c5 w5 hv5 hg5 _ _
        have B5 : Hid (Below SZ w w5) := (BW2.out.alloc S2.out _).grown hg5 S3.out (fun q hq => (HO2.out.lt q hq).1)
        have O5 : Hid (w5.ownsRow SZ 3 1 (.slice (some ⟨g5, 0, none⟩) (m + 1) c5) (m + 1) (iv (intsB (cfold E n (k + 1)).1))) := by
          show World.ownsRow _ _ _ _ _ _ _
          rw [CF2.out, intsB_snoc]; exact hv5
        clear hv5 hg5 S2 BW2 S3 HO2
        go_wp2
        go_roundw
        case rel => exact ⟨k + 1, m + 1, c5, f, _, by omega, by go_num, rfl, rfl, by omega, by omega, ⟨by rw [CF2.out], by rw [CF2.out, List.length_append, HM.out]; rfl⟩, O5, B5⟩
        case measure => simp [intOf]; omega
      · have d1 : ¬ (f : Int) < (best : Int) := by omega
        have d2 : ((f : Int) == (best : Int)) = false := by rw [beq_eq_false_iff_ne]; omega
        have CF2 : Hid (cfold E n (k + 1) = cfold E n k) := by show _ = _; rw [CF.out, if_neg (by omega), if_neg (by omega)]
        clear CF h1
        go_wp2
        go_roundw
        case rel => exact ⟨k + 1, m, c, best, a, by omega, by go_num, rfl, rfl, by omega, by omega, by show _ ∧ _; rw [CF2.out]; exact HF.out, by show World.ownsRow _ _ _ _ _ _ _; rw [CF2.out]; exact HO2.out, BW2⟩
        case measure => simp [intOf]; omega
    · obtain rfl : k = n := by omega
      have HC : Hid ((cfold E k k).1 = cents k E) := rfl
      rw [HC.out] at HO
      have OF : Hid (Own wr SZ wr.heap.size 3 (.slice a m c) (iv (intsB (cents k E)))) := by
        refine Own.of_own ?_
        have e : (iv (intsB (cents k E))).length = m := by rw [intsB_len]; exact HF.out.2
        rw [e]; exact HO.out
      clear HO HF CL
      go_wp2
      go_ret
      exact ⟨_, rfl, by rw [← HSZ.out]; exact OF.out, by rw [← HSZ.out]; exact HB.out⟩
end Go.Proofs.Ytafdlilojlmchaa

namespace Go.Proofs.Ytafdlilojlmchaa
open Go.RowKit

/-- the texts of the first k neighbours but for the one that was come from -/
def txtS (E : Edges) (d u : Nat) (fr : Int) (k : Nat) : List (List UInt8) := (((nb E u).take k).filter fun (x : Nat) => !decide ((x : Int) = fr)).map fun x => txt E d x u
theorem txtS_yes {E : Edges} {d u k : Nat} {fr : Int} (hk : k < (nb E u).length) (h : ((nb E u)[k] : Int) ≠ fr) : txtS E d u fr (k + 1) = txtS E d u fr k ++ [txt E d (nb E u)[k] u] := by
  unfold txtS
  rw [List.take_succ_eq_append_getElem hk, List.filter_append, List.map_append, List.filter_cons_of_pos (by simpa using h)]; rfl
theorem txtS_no {E : Edges} {d u k : Nat} {fr : Int} (hk : k < (nb E u).length) (h : ((nb E u)[k] : Int) = fr) : txtS E d u fr (k + 1) = txtS E d u fr k := by
  unfold txtS
  rw [List.take_succ_eq_append_getElem hk, List.filter_append, List.map_append, List.filter_cons_of_neg (by simpa using h)]; simp
theorem txtS_all (E : Edges) (d u : Nat) (fr : Int) : txtS E d u fr (nb E u).length = (away E u fr).map fun x => txt E d x u := by unfold txtS away; rw [List.take_length]
theorem takeT_while {out : List (List UInt8)} {x : List UInt8} : ∀ {k : Nat}, k ≤ out.length → (∀ (j : Nat) (hj : j < out.length), j < k → leT out[j] x = true) → (∀ (hk : k < out.length), leT out[k] x = false) →
    out.takeWhile (fun y => leT y x) = out.take k ∧ out.dropWhile (fun y => leT y x) = out.drop k := by
  induction out with
  | nil => intro k hk _ _; simp
  | cons z r ih =>
    intro k hk h1 h2
    cases k with
    | zero =>
      have := h2 (by simp)
      rw [List.getElem_cons_zero] at this
      rw [List.takeWhile_cons, List.dropWhile_cons, this]; simp
    | succ k =>
      have hz := h1 0 (by simp) (by omega)
      rw [List.getElem_cons_zero] at hz
      obtain ⟨i1, i2⟩ := ih (k := k) (by simpa using hk) (fun j hj hk => by have := h1 (j + 1) (by simpa using hj) (by omega); simpa using this) (fun hk => by have := h2 (by simpa using hk); simpa using this)
      rw [List.takeWhile_cons, List.dropWhile_cons, if_pos hz, if_pos hz, i1, i2]
      exact ⟨rfl, rfl⟩
theorem insT_at {out : List (List UInt8)} {x : List UInt8} {k : Nat} (hk : k ≤ out.length) (h1 : ∀ (j : Nat) (hj : j < out.length), j < k → leT out[j] x = true) (h2 : ∀ (hk : k < out.length), leT out[k] x = false) : insT out x = out.take k ++ [x] ++ out.drop k := by
  obtain ⟨e1, e2⟩ := takeT_while hk h1 h2
  rw [insT, e1, e2]; simp
theorem nds_subS {E : Edges} {d u x : Nat} {fr : Int} (hx : x ∈ away E u fr) : (nds E d x u).length < (nds E (d + 1) u fr).length := by
  rw [nds, List.length_cons, List.length_flatMap]
  have := le_sum_mem (List.mem_map.2 ⟨x, hx, rfl⟩ : (nds E d x u).length ∈ (away E u fr).map fun x => (nds E d x u).length)
  omega
/-- the texts so far, in a row of the call's own -/
structure TxS (w2 w : World) (B C g m c : Nat) (L : List (List UInt8)) : Prop where
  len : L.length = m
  own : w.ownsRow B 9 1 (.slice (some ⟨g, 0, none⟩) m c) m (sv L)
  below : Below C w2 w
theorem flat_next {L : List (List UInt8)} {k : Nat} (hk : k < L.length) : (L.take (k + 1)).flatten = (L.take k).flatten ++ L[k] := by
  rw [List.take_succ_eq_append_getElem hk, List.flatten_append]; simp
theorem flat_le {L : List (List UInt8)} {k : Nat} : (L.take k).flatten.length ≤ L.flatten.length := by
  have := congrArg List.length (congrArg List.flatten (List.take_append_drop k L))
  rw [List.flatten_append, List.length_append] at this
  omega

set_option maxHeartbeats 12800000 in
set_option maxRecDepth 100000 in
theorem rootTextS_any (n : Nat) (E : Edges) (hT : Hid (TreeS n E)) : ∀ (d u : Nat) (fr : Int), d ≤ 64 → Hid (Brn E d u fr) → (nds E d u fr).length ≤ 64 → ∀ (v : Value) (RV : List Value) (w : World) (B0 H0 : Nat), Hid (Grid w B0 H0 v RV (rowsE E)) → H0 ≤ w.heap.size →
    Calls Try.prog 61 #[.int .i64 (n : Int), v, .int .i64 (u : Int), .int .i64 fr] w fun e w' => e = .returned (.string ⟨(txt E d u fr).toArray⟩) ∧ Below w.heap.size w w' := by
  obtain ⟨i0, hi, hz0, hz1, hz2⟩ := info_parts Try.infoStr
  intro d
  induction d with
  | zero => intro u fr _ h; exact h.out.elim
  | succ d ih =>
    intro u fr hd hB hnd v RV w B0 H0 hG hH
    have CB := Lib.hid (fun (W : World) (hW : Below w.heap.size w W) => beside_nb n E hT u v RV W (Lib.hid (hG.out.below (hW.mono hH))) (Nat.le_trans hH hW.size))
    have CL := Lib.hid (fun (x : Nat) (hb : Hid (Brn E d x u)) (hl : (nds E d x u).length ≤ 64) (W : World) (hW : Below w.heap.size w W) => ih x u (by omega) hb hl v RV W B0 H0 (Lib.hid (hG.out.below (hW.mono hH))) (Nat.le_trans hH hW.size))
    obtain ⟨av, cv, rfl⟩ : ∃ a c, v = .slice a RV.length c := by
      obtain ⟨a, c, h, _⟩ := hG.out.1.slice; exact ⟨a, c, h⟩
    have HBK : Hid (∀ x ∈ nb E u, (x : Int) ≠ fr → Brn E d x u ∧ (nds E d x u).length ≤ 64) := fun x hx hf => by
      have hm := mem_away.2 ⟨mem_nb.1 hx, hf⟩
      exact ⟨hB.out x hm, by have := nds_subS (d := d) hm; omega⟩
    have TXT : Hid (txt E (d + 1) u fr = 40 :: ((srtT (txtS E d u fr (nb E u).length)).flatten ++ [41])) := by show _ = _; rw [txtS_all, txt]
    have hlen : Hid ((txt E (d + 1) u fr).length ≤ 128) := by show _ ≤ _; rw [txt_len]; omega
    have h12 := hT.out.nb12 u
    have hiL := intsB_len (nb E u)
    obtain ⟨M, hm⟩ : ∃ M, M = (nb E u).length := ⟨_, rfl⟩
    have HM := Lib.hid hm
    rw [← hm] at TXT h12 hiL
    obtain ⟨B, hBe⟩ : ∃ B, B = w.heap.size := ⟨_, rfl⟩
    have HB := Lib.hid hBe
    rw [← hBe] at CB CL
    have hst : (w.alloc (.cells #[] 9)).ownsRow B 9 1 (.slice (some ⟨w.heap.size, 0, none⟩) 0 0) 0 [] := World.ownsRow_lit (base := B) (e := 9) (size := 1) w #[] 0 (by omega) (by decide) rfl
    have HST := Lib.hid hst
    have BA : Hid (Below B w (w.alloc (.cells #[] 9))) := by show Below _ _ _; rw [hBe]; exact (Below.refl _ _).alloc (Nat.le_refl _) _
    clear hG hH hB ih hm hst hnd hBe
    go_enter Try.func61, Try.ntmps61
    go_wp2_with fail
    refine (CB.out _ BA.out).mono ?_
    rintro e w2 ⟨y, rfl, hy, hb1⟩
    obtain ⟨ay, cy, rfl, _⟩ := hy.slice
    rw [hiL] at hy ⊢
    have HY := Lib.hid hy
    have BW2 : Hid (Below B w w2) := BA.out.trans (hb1.mono (by have := BA.out.size; rw [HB.out]; exact this))
    obtain ⟨C, hC⟩ : ∃ C, C = w2.heap.size := ⟨_, rfl⟩
    have HC := Lib.hid hC
    have SBC : Hid (B ≤ C) := by show _ ≤ _; rw [hC, HB.out]; exact BW2.out.size
    have T0 : Hid (TxS w2 w2 B C w.heap.size 0 0 (srtT (txtS E d u fr 0))) := ⟨rfl, own_of_blocks HST.out fun q hq => hb1.block q (HST.out.lt q hq).2, Below.refl _ _⟩
    clear hy hb1 CB hiL HST BA hC
    go_wp2_with fail
    go_loopw [9, 11, 12, 13] (fun e9 ii e12 e13 wr => ∃ (k g m c : Nat), k ≤ M ∧ ii = .int .i64 k ∧ e9 = .slice (some ⟨g, 0, none⟩) m c ∧ m ≤ k ∧ Hid (TxS w2 wr B C g m c (srtT (txtS E d u fr k)))) (fun _ ii _ _ _ => M - (intOf ii).toNat)
    case atStart => exact ⟨0, w.heap.size, 0, 0, Nat.zero_le _, rfl, rfl, Nat.le_refl _, T0⟩
    case round =>
      clear T0
      obtain ⟨k, g, m, c, hk, rfl, rfl, hm, T⟩ := hrel
      by_cases hlt : k < M
      · have b1 : (k : Int) < (M : Int) := by omega
        have hkn : k < (nb E u).length := by rw [← HM.out]; exact hlt
        obtain ⟨ga, rfl, _, hgl, c0, _⟩ := HY.out.at_ k (by rw [intsB_len]; exact hkn)
        have c1 := (T.out.below.cell (p := ⟨ga, k, none⟩) (by rw [HC.out]; exact hgl)).trans c0
        have e1 : (iv (intsB (nb E u)))[k]? = some (.int .i64 (((nb E u)[k] : Nat) : Int)) := by simp [iv, intsB, hkn]
        rw [e1] at c1
        have FY := txtS_yes (d := d) (fr := fr) hkn
        have FN := txtS_no (d := d) (fr := fr) hkn
        have hmem := List.getElem_mem hkn
        obtain ⟨z, hz⟩ : ∃ z, z = (nb E u)[k] := ⟨_, rfl⟩
        rw [← hz] at c1 FY FN hmem
        have HBX := HBK.out z hmem
        clear hz hmem hkn c0 e1 hgl
        by_cases hxf : (z : Int) = fr
        · have q1 : ((z : Int) == fr) = true := by rw [hxf]; simp
          have FN := FN hxf
          rw [← FN] at T
          clear FY FN hxf CL HBX
          go_wp2
          go_roundw
          case rel => exact ⟨k + 1, g, m, c, by omega, by go_num, rfl, by omega, T⟩
          case measure => simp [intOf]; omega
        · have q1 : ((z : Int) == fr) = false := by simpa using hxf
          have HBX := HBX hxf
          have CX := CL.out z (Lib.hid HBX.1) HBX.2
          have FY := FY hxf
          have hfl : (txt E d z u).length ≤ 128 := by rw [txt_len]; have := HBX.2; omega
          obtain ⟨f, hf⟩ : ∃ f, f = txt E d z u := ⟨_, rfl⟩
          rw [← hf] at FY CX hfl
          obtain ⟨x, hx⟩ : ∃ x : ByteArray, x = ⟨f.toArray⟩ := ⟨_, rfl⟩
          have hxl : x.data.toList = f := by rw [hx]
          rw [← hx] at CX
          have CX := Lib.hid CX
          obtain ⟨out, hout⟩ : ∃ out, out = srtT (txtS E d u fr k) := ⟨_, rfl⟩
          have STN : Hid (srtT (txtS E d u fr (k + 1)) = insT out x.data.toList) := by show _ = _; rw [FY, srtT_snoc, ← hout, hxl]
          rw [← hout] at T
          have SBW1 : Hid (B ≤ wr.heap.size) := by have := T.out.below.size; have := HC.out; have := SBC.out; show _ ≤ _; omega
          have BW : Hid (Below B w wr) := BW2.out.trans (T.out.below.mono SBC.out)
          clear FY FN hxf CL HBX hf hx hout hxl hfl
          go_wp2_with fail
          refine (CX.out _ BW.out).mono ?_
          rintro e w3 ⟨rfl, hb3⟩
          have T3 : Hid (TxS w2 w3 B C g m c out) := ⟨T.out.len, own_of_blocks T.out.own fun q hq => hb3.block q (T.out.own.lt q hq).2, T.out.below.trans (hb3.mono (by have := T.out.below.size; rw [HC.out]; exact this))⟩
          have SBW : Hid (B ≤ w3.heap.size) := Nat.le_trans SBW1.out hb3.size
          have SCW : Hid (w2.heap.size ≤ w3.heap.size) := by have := T3.out.below.size; exact this
          clear hb3 CX T BW SBW1 c1
          go_wp2_with fail
          go_loopw [13] (fun j wz => ∃ (q : Nat), q ≤ m ∧ j = .int .i64 q ∧ Hid (∀ (j : Nat) (hj : j < out.length), j < q → leT out[j] x.data.toList = true) ∧ Hid (wz = w3)) (fun j _ => m - (intOf j).toNat)
          case atStart => exact ⟨0, Nat.zero_le _, rfl, fun j hj h => by omega, rfl⟩
          case round =>
            obtain ⟨q, hq, rfl, HQ, HWz⟩ := hrel
            obtain rfl : wr = w3 := HWz.out
            have hol := T3.out.len
            by_cases hgo : ∃ h : q < out.length, leT out[q] x.data.toList = true
            · obtain ⟨hqm, hless⟩ := hgo
              have b2 : (q : Int) < (m : Int) := by omega
              have hoc := T3.out.own.cellAt q (by omega)
              rw [sv_get out q hqm] at hoc
              obtain ⟨y, hy⟩ : ∃ y : ByteArray, y = ⟨(out[q]).toArray⟩ := ⟨_, rfl⟩
              have hyl : y.data.toList = out[q] := by rw [hy]
              rw [← hy] at hoc
              have hle : lessL y.data.toList x.data.toList = true ∨ y.data.toList = x.data.toList := by
                rcases less_total y.data.toList x.data.toList with e | e | e
                · exact .inl e
                · exact .inr e
                · rw [hyl] at e; unfold leT at hless; rw [e] at hless; cases hless
              have HQ2 : Hid (∀ (j : Nat) (hj : j < out.length), j < q + 1 → leT out[j] x.data.toList = true) := fun j hj h => by
                by_cases e : j = q
                · subst e; exact hless
                · exact HQ.out j hj (by omega)
              clear hless hyl hy HQ
              rcases hle with hle | hle
              · have m1 : Op.bytesLess y.toList x.toList = true := by rw [less_eq, ByteArray.toList_eq, ByteArray.toList_eq]; exact hle
                clear hle
                go_wp2
                go_roundw
                case rel => exact ⟨q + 1, by omega, by go_num, HQ2, Lib.hid trivial⟩
                case measure => simp [intOf]; omega
              · have m1 : Op.bytesLess y.toList x.toList = false := by rw [less_eq, ByteArray.toList_eq, ByteArray.toList_eq, hle, less_self]
                have m2 : (y.toList == x.toList) = true := by rw [ByteArray.toList_eq, ByteArray.toList_eq, hle]; simp
                clear hle
                go_wp2
                go_roundw
                case rel => exact ⟨q + 1, by omega, by go_num, HQ2, Lib.hid trivial⟩
                case measure => simp [intOf]; omega
            · have EI := Lib.hid (insT_at (x := x.data.toList) (show q ≤ out.length by omega) HQ.out (fun h => by
                cases hh : leT out[q] x.data.toList with
                | false => rfl
                | true => exact absurd ⟨h, hh⟩ hgo))
              have HG := Lib.hid hgo
              clear hgo HQ
              rcases Nat.lt_or_ge q m with hqm | hqm
              case' inl =>
                have b2 : (q : Int) < (m : Int) := by omega
                have hoc := T3.out.own.cellAt q (by omega)
                rw [sv_get out q (by omega)] at hoc
                obtain ⟨y, hy⟩ : ∃ y : ByteArray, y = ⟨(out[q]'(by omega)).toArray⟩ := ⟨_, rfl⟩
                have hyl : y.data.toList = out[q]'(by omega) := by rw [hy]
                rw [← hy] at hoc
                have hgt : lessL x.data.toList y.data.toList = true := by
                  rw [hyl]
                  cases hh : lessL x.data.toList (out[q]'(by omega)) with
                  | true => rfl
                  | false => exact absurd ⟨by omega, by unfold leT; rw [hh]; rfl⟩ HG.out
                have m1 : Op.bytesLess y.toList x.toList = false := by
                  rw [less_eq, ByteArray.toList_eq, ByteArray.toList_eq]
                  cases hh : lessL y.data.toList x.data.toList with
                  | false => rfl
                  | true => have := less_trans _ _ _ hh hgt; rw [less_self] at this; cases this
                have m2 : (y.toList == x.toList) = false := by
                  rw [ByteArray.toList_eq, ByteArray.toList_eq, beq_eq_false_iff_ne]
                  intro e; rw [e, less_self] at hgt; cases hgt
                clear hgt
                clear hyl hy
                go_wp2_with fail
              case' inr =>
                have b2 : (m : Int) ≤ (q : Int) := by omega
                have d0 : decide (q < m) = false := decide_eq_false (by omega)
                go_wp2_with fail
              all_goals
                have hmc := capS T3.out.own
                obtain ⟨d, rfl⟩ : ∃ d, m = q + d := ⟨m - q, by omega⟩
                obtain ⟨ce, rfl⟩ : ∃ ce, c = q + ce := ⟨c - q, by omega⟩
                have hde : d ≤ ce := by omega
                have i1 : (q : Int) ≤ (q : Int) + (ce : Int) := by omega
                have i2 : (0 : Int) ≤ (q : Int) := by omega
                have i3 : (q : Int) ≤ (q : Int) + (d : Int) := by omega
                have hlit := World.ownsRow_lit (base := wr.heap.size) (e := 9) (size := 1) wr #[] 0 (Nat.le_refl _) (by decide) rfl
                have HLIT := Lib.hid hlit
                have CN1 : Hid (∀ (j : Nat) (u : Value), (sv (out.take q))[j]? = some u → (wr.alloc (.cells #[] 9)).cell? ((⟨g, 0, none⟩ : Addr).add j) = some u) := fun j u hu => by
                  rw [← sv_take] at hu
                  have hj : j < q := by
                    have := (List.getElem?_eq_some_iff.1 hu).1
                    rw [List.length_take] at this; omega
                  rw [List.getElem?_take_of_lt hj] at hu
                  exact (T3.out.own.alloc _).cells (g := g) rfl j u hu
                have hg3 : g < wr.heap.size := (T3.out.own.lt g rfl).2
                have y1 : 0 + q ≤ maxLen := by unfold maxLen; omega
                have y2 : (0 + q) * 16 ≤ 140737488355328 := by omega
                have y3 : q + 1 ≤ maxLen := by unfold maxLen; omega
                have y4 : (q + 1) * 16 ≤ 140737488355328 := by omega
                have y5 : q + 1 + d ≤ maxLen := by unfold maxLen; omega
                have y6 : (q + 1 + d) * 16 ≤ 140737488355328 := by omega
                have BS := Lib.hid (show wr.heap.size ≤ (wr.alloc (.cells #[] 9)).heap.size by simp)
                have BS2 := Lib.hid (show wr.heap.size ≤ ((wr.alloc (.cells #[] 9)).alloc (.cells #[.string x] 9)).heap.size by simp; omega)
                have CN2 : Hid (∀ (j : Nat) (u : Value), (sv (out.take q))[j]? = some u → ((wr.alloc (.cells #[] 9)).alloc (.cells #[.string x] 9)).cell? ((⟨g, 0, none⟩ : Addr).add j) = some u) := fun j u hu => by
                  have h1 := CN1.out j u hu
                  exact (World.cell?_of_block (w := wr.alloc (.cells #[] 9)) (Below.heap_alloc _ _ _ (World.block_lt_of_cell? _ _ h1))).trans h1
                have XB : Hid (((wr.alloc (.cells #[] 9)).alloc (.cells #[.string x] 9)).heap[wr.heap.size + 1]? = some (.cells #[.string x] 9 (0, 0))) := by
                  have := heap_alloc_new (wr.alloc (.cells #[] 9)) (.cells #[.string x] 9)
                  rw [World.size_alloc] at this
                  exact this
                obtain ⟨wx, hwx⟩ : ∃ wx, wx = wr.alloc (.cells #[.string x] 9) := ⟨_, rfl⟩
                have wxs : wx.heap.size = wr.heap.size + 1 := by rw [hwx]; simp
                have LITX : Hid ((wx.alloc (.cells #[] 9)).ownsRow wr.heap.size 9 1 (.slice (some ⟨wr.heap.size + 1, 0, none⟩) 0 0) 0 []) := by
                  have h1 := World.ownsRow_lit (base := wr.heap.size) (e := 9) (size := 1) wx #[] 0 (by omega) (by decide) rfl
                  rw [wxs] at h1
                  exact h1
                have BX : Hid (Below wr.heap.size wr (wx.alloc (.cells #[] 9))) := by
                  have h1 := (Below.refl wr.heap.size wr).alloc (Nat.le_refl _) (.cells #[.string x] 9)
                  rw [← hwx] at h1
                  exact h1.alloc (by omega) _
                have BSX := Lib.hid (show wr.heap.size ≤ (wx.alloc (.cells #[] 9)).heap.size by simp; omega)
                have CN3 : Hid (∀ (j : Nat) (u : Value), (sv (out.take q))[j]? = some u → (wx.alloc (.cells #[] 9)).cell? ((⟨g, 0, none⟩ : Addr).add j) = some u) := fun j u hu => by
                  rw [← sv_take] at hu
                  have hj : j < q := by
                    have := (List.getElem?_eq_some_iff.1 hu).1
                    rw [List.length_take] at this; omega
                  rw [List.getElem?_take_of_lt hj] at hu
                  rw [hwx]
                  exact ((T3.out.own.alloc _).alloc _).cells (g := g) rfl j u hu
                have XB2 : Hid ((wx.alloc (.cells #[] 9)).heap[wr.heap.size]? = some (.cells #[.string x] 9 (0, 0))) := by
                  rw [heap_alloc_old _ _ (show wr.heap.size < wx.heap.size by omega), hwx]
                  exact heap_alloc_new wr _
                rw [hwx] at LITX BX BSX CN3 XB2
                clear hwx wxs wx
                have ln1 : (sv (out.take q)).length = q * 1 := by rw [sv_length, List.length_take, T3.out.len]; omega
                have ln3 : (sv (out.drop q)).length = d * 1 := by rw [sv_length, List.length_drop, T3.out.len]; omega
                have LN1 := Lib.hid ln1
                have LN3 := Lib.hid ln3
                try clear m1 m2 hoc
                try clear d0
                clear hlit ln1 ln3 b2 hqm
                rcases ce with _ | ce
                · obtain rfl : d = 0 := by omega
                  simp only [Nat.add_zero] at *
                  go_region_law (first
                    | (refine step_app ?gd (.tmp 55) (.tmp 58) 89 ?ho wr.heap.size 9 i0 (.string ⟨#[]⟩) 1 16 Try.underlying89 hi hz0 hz1 hz2 rfl (Nat.lt_succ_self 0) (.slice (some ⟨wr.heap.size, 0, none⟩) 0 0) 0 [] ?hs ?own ⟨g, 0, none⟩ q q (sv (out.take q)) ?hx LN1.out ?news (sv_one _) y1 y2 ?base ?_
                       case gd => rfl
                       case ho => rfl
                       case hs => rfl
                       case hx => rfl
                       case own => exact own_of_blocks HLIT.out (fun _ _ => rfl)
                       case news => exact CN1.out
                       case base => exact BS.out
                       intro v4 w4 hv4 hg4 hn4
                       obtain ⟨g4, c4, rfl⟩ := own_some3 hv4 (fun e => by cases (hn4.1 e).1)
                       have hb4 : Below wr.heap.size wr w4 := ((Below.refl _ _).alloc (Nat.le_refl _) _).grown (grown_drewS hg4) BS.out (fun z hz => by simp only [Value.ownBlock, Option.some.injEq] at hz; omega)
                       simp only [Nat.zero_add, List.nil_append] at hv4
                       have H4 := Lib.hid hv4
                       have HB4 := Lib.hid hb4
                       have BS4 := Lib.hid (show ∀ o : Obj, wr.heap.size ≤ (w4.alloc o).heap.size by intro o; have := HB4.out.size; simp; omega)
                       clear hv4 hg4 hn4 hb4)
                    | (refine step_app ?gd2 (.tmp 59) (.tmp 61) 89 ?ho2 wr.heap.size 9 i0 (.string ⟨#[]⟩) 1 16 Try.underlying89 hi hz0 hz1 hz2 rfl (Nat.lt_succ_self 0) (.slice (some ⟨g4, 0, none⟩) q c4) q (sv (out.take q)) ?hs2 ?own2 ⟨w4.heap.size, 0, none⟩ 1 1 [.string x] ?hx2 rfl ?news2 (one_str _) y3 y4 ?base2 ?_
                       case gd2 => rfl
                       case ho2 => rfl
                       case hs2 => rfl
                       case hx2 => rfl
                       case own2 => exact H4.out.alloc _
                       case news2 => exact cell_one_new _ _ _
                       case base2 => exact BS4.out _
                       intro v5 w5 hv5 hg5 hn5
                       obtain ⟨g5, c5, rfl⟩ := own_some3 hv5 (fun e => by cases (hn5.1 e).1)
                       have hb5 : Below wr.heap.size wr w5 := (HB4.out.alloc HB4.out.size _).grown hg5 (BS4.out _) (fun z hz => (H4.out.lt z hz).1)
                       have H5 := Lib.hid hv5
                       have HB5 := Lib.hid hb5
                       have CN5 : Hid (∀ (j : Nat) (u : Value), (sv (out.drop q))[j]? = some u → w5.cell? ((⟨g, 0, none⟩ : Addr).add j) = some u) := fun j u hu => by
                         have := (List.getElem?_eq_some_iff.1 hu).1
                         have h2 := LN3.out
                         omega
                       clear hv5 hg5 hn5 hb5)
                    | (refine step_app ?gd4 (.tmp 55) (.tmp 58) 89 ?ho4 wr.heap.size 9 i0 (.string ⟨#[]⟩) 1 16 Try.underlying89 hi hz0 hz1 hz2 rfl (Nat.lt_succ_self 0) (.slice (some ⟨wr.heap.size, 0, none⟩) 0 0) 0 [] ?hs4 ?own4 ⟨g, 0, none⟩ q q (sv (out.take q)) ?hx4 LN1.out ?news4 (sv_one _) y1 y2 ?base4 ?_
                       case gd4 => rfl
                       case ho4 => rfl
                       case hs4 => rfl
                       case hx4 => rfl
                       case own4 => exact own_of_blocks (HLIT.out.alloc _) (fun _ _ => rfl)
                       case news4 => exact CN2.out
                       case base4 => exact BS2.out
                       intro v4 w4 hv4 hg4 hn4
                       obtain ⟨g4, c4, rfl⟩ := own_some3 hv4 (fun e => by cases (hn4.1 e).1)
                       have hb4 : Below wr.heap.size wr w4 := (((Below.refl _ _).alloc (Nat.le_refl _) _).alloc BS.out _).grown (grown_drewS hg4) BS2.out (fun z hz => by simp only [Value.ownBlock, Option.some.injEq] at hz; omega)
                       have CNX : Hid (∀ (j : Nat) (u : Value), [Value.string x][j]? = some u → w4.cell? ((⟨wr.heap.size + 1, 0, none⟩ : Addr).add j) = some u) := by
                         have hbk := (grown_drewS hg4).block (wr.heap.size + 1) (by simp) (by simp [Value.ownBlock])
                         exact World.news_of_block (cs := #[.string x]) (t := 9) (fr := (0, 0)) (hbk.trans XB.out)
                       simp only [Nat.zero_add, List.nil_append] at hv4
                       have H4 := Lib.hid hv4
                       have HB4 := Lib.hid hb4
                       clear hv4 hg4 hn4 hb4)
                    | (refine step_app ?gd5 (.tmp 59) (.tmp 61) 89 ?ho5 wr.heap.size 9 i0 (.string ⟨#[]⟩) 1 16 Try.underlying89 hi hz0 hz1 hz2 rfl (Nat.lt_succ_self 0) (.slice (some ⟨g4, 0, none⟩) q c4) q (sv (out.take q)) ?hs5 ?own5 ⟨wr.heap.size + 1, 0, none⟩ 1 1 [.string x] ?hx5 rfl ?news5 (one_str _) y3 y4 ?base5 ?_
                       case gd5 => rfl
                       case ho5 => rfl
                       case hs5 => rfl
                       case hx5 => rfl
                       case own5 => exact H4.out
                       case news5 => exact CNX.out
                       case base5 => exact HB4.out.size
                       intro v5 w5 hv5 hg5 hn5
                       obtain ⟨g5, c5, rfl⟩ := own_some3 hv5 (fun e => by cases (hn5.1 e).1)
                       have hb5 : Below wr.heap.size wr w5 := HB4.out.grown hg5 HB4.out.size (fun z hz => (H4.out.lt z hz).1)
                       have H5 := Lib.hid hv5
                       have HB5 := Lib.hid hb5
                       have CN5 : Hid (∀ (j : Nat) (u : Value), (sv (out.drop q))[j]? = some u → w5.cell? ((⟨g, 0, none⟩ : Addr).add j) = some u) := fun j u hu => by
                         have := (List.getElem?_eq_some_iff.1 hu).1
                         have h2 := LN3.out
                         omega
                       clear hv5 hg5 hn5 hb5)
                    | (refine step_app ?gd6 (.tmp 55) (.tmp 58) 89 ?ho6 wr.heap.size 9 i0 (.string ⟨#[]⟩) 1 16 Try.underlying89 hi hz0 hz1 hz2 rfl (Nat.lt_succ_self 0) (.slice (some ⟨wr.heap.size + 1, 0, none⟩) 0 0) 0 [] ?hs6 ?own6 ⟨g, 0, none⟩ q q (sv (out.take q)) ?hx6 LN1.out ?news6 (sv_one _) y1 y2 ?base6 ?_
                       case gd6 => rfl
                       case ho6 => rfl
                       case hs6 => rfl
                       case hx6 => rfl
                       case own6 => exact own_of_blocks LITX.out (fun _ _ => rfl)
                       case news6 => exact CN3.out
                       case base6 => exact BSX.out
                       intro v4 w4 hv4 hg4 hn4
                       obtain ⟨g4, c4, rfl⟩ := own_some3 hv4 (fun e => by cases (hn4.1 e).1)
                       have hb4 : Below wr.heap.size wr w4 := BX.out.grown (grown_drewS hg4) BSX.out (fun z hz => by simp only [Value.ownBlock, Option.some.injEq] at hz; omega)
                       have CNX : Hid (∀ (j : Nat) (u : Value), [Value.string x][j]? = some u → w4.cell? ((⟨wr.heap.size, 0, none⟩ : Addr).add j) = some u) := by
                         have hbk := (grown_drewS hg4).block wr.heap.size (by simp; omega) (by simp [Value.ownBlock])
                         exact World.news_of_block (cs := #[.string x]) (t := 9) (fr := (0, 0)) (hbk.trans XB2.out)
                       simp only [Nat.zero_add, List.nil_append] at hv4
                       have H4 := Lib.hid hv4
                       have HB4 := Lib.hid hb4
                       clear hv4 hg4 hn4 hb4)
                    | (refine step_app ?gd7 (.tmp 59) (.tmp 61) 89 ?ho7 wr.heap.size 9 i0 (.string ⟨#[]⟩) 1 16 Try.underlying89 hi hz0 hz1 hz2 rfl (Nat.lt_succ_self 0) (.slice (some ⟨g4, 0, none⟩) q c4) q (sv (out.take q)) ?hs7 ?own7 ⟨wr.heap.size, 0, none⟩ 1 1 [.string x] ?hx7 rfl ?news7 (one_str _) y3 y4 ?base7 ?_
                       case gd7 => rfl
                       case ho7 => rfl
                       case hs7 => rfl
                       case hx7 => rfl
                       case own7 => exact H4.out
                       case news7 => exact CNX.out
                       case base7 => exact HB4.out.size
                       intro v5 w5 hv5 hg5 hn5
                       obtain ⟨g5, c5, rfl⟩ := own_some3 hv5 (fun e => by cases (hn5.1 e).1)
                       have hb5 : Below wr.heap.size wr w5 := HB4.out.grown hg5 HB4.out.size (fun z hz => (H4.out.lt z hz).1)
                       have H5 := Lib.hid hv5
                       have HB5 := Lib.hid hb5
                       have CN5 : Hid (∀ (j : Nat) (u : Value), (sv (out.drop q))[j]? = some u → w5.cell? ((⟨g, 0, none⟩ : Addr).add j) = some u) := fun j u hu => by
                         have := (List.getElem?_eq_some_iff.1 hu).1
                         have h2 := LN3.out
                         omega
                       clear hv5 hg5 hn5 hb5)
                    | (refine step_app ?gd3 (.tmp 62) (.tmp 65) 89 ?ho3 wr.heap.size 9 i0 (.string ⟨#[]⟩) 1 16 Try.underlying89 hi hz0 hz1 hz2 rfl (Nat.lt_succ_self 0) (.slice (some ⟨g5, 0, none⟩) (q + 1) c5) (q + 1) (sv (out.take q) ++ [.string x]) ?hs3 ?own3 ⟨g, 0, none⟩ 0 0 (sv (out.drop q)) ?hx3 LN3.out ?news3 (sv_one _) y5 y6 ?base3 ?_
                       case gd3 => rfl
                       case ho3 => rfl
                       case hs3 => rfl
                       case hx3 => rfl
                       case own3 => exact H5.out
                       case news3 => exact CN5.out
                       case base3 => exact HB5.out.size
                       intro v6 w6 hv6 hg6 hn6
                       obtain ⟨g6, c6, rfl⟩ := own_some3 hv6 (fun e => by cases (hn6.1 e).1))
                    | fail)
                  all_goals
                    have T6 : Hid (TxS w2 w6 B C g6 (q + 1 + 0) c6 (insT out x.data.toList)) := by
                      refine ⟨?_, ?_, T3.out.below.trans ((HB5.out.grown hg6 HB5.out.size (fun z hz => (H5.out.lt z hz).1)).mono (by rw [HC.out]; exact SCW.out))⟩
                      · have h1 := LN1.out
                        have h3 := LN3.out
                        rw [sv_length] at h1 h3
                        rw [EI.out, List.length_append, List.length_append, h1, h3]
                        simp
                      · rw [EI.out]
                        have e9 : sv (out.take q) ++ [Value.string x] ++ sv (out.drop q) = sv (out.take q ++ [x.data.toList] ++ out.drop q) := by
                          rw [str_list x, sv_snoc, sv_append]
                        rw [← e9]
                        have h6 := hv6
                        have hB6 : B ≤ wr.heap.size := SBW.out
                        exact ⟨h6.1, h6.2.imp id (fun ⟨z1, z2, z3, y1, y2, y3⟩ => ⟨z1, z2, z3, y1, Nat.le_trans hB6 y2, y3⟩)⟩
                    clear hv6 hg6 hn6 H5 HB5 CN5 H4 HB4 HLIT CN1 CN2 CN3 LITX BX BSX XB2 XB BS BS2 LN1 LN3 T3 EI SBW SCW
                    rw [← STN.out] at T6
                    go_wp2
                    go_roundw
                    case rel => exact ⟨k + 1, g6, q + 1 + 0, c6, by omega, by go_num, rfl, by omega, T6⟩
                    case measure => simp [intOf]; omega
                · have i4 : (q : Int) ≤ (q : Int) + ((ce : Int) + 1) := by omega
                  go_region_law (first
                    | (refine step_app ?gd (.tmp 55) (.tmp 58) 89 ?ho wr.heap.size 9 i0 (.string ⟨#[]⟩) 1 16 Try.underlying89 hi hz0 hz1 hz2 rfl (Nat.lt_succ_self 0) (.slice (some ⟨wr.heap.size, 0, none⟩) 0 0) 0 [] ?hs ?own ⟨g, 0, none⟩ q (q + (ce + 1)) (sv (out.take q)) ?hx LN1.out ?news (sv_one _) y1 y2 ?base ?_
                       case gd => rfl
                       case ho => rfl
                       case hs => rfl
                       case hx => rfl
                       case own => exact own_of_blocks HLIT.out (fun _ _ => rfl)
                       case news => exact CN1.out
                       case base => exact BS.out
                       intro v4 w4 hv4 hg4 hn4
                       obtain ⟨g4, c4, rfl⟩ := own_some3 hv4 (fun e => by cases (hn4.1 e).1)
                       have hb4 : Below wr.heap.size wr w4 := ((Below.refl _ _).alloc (Nat.le_refl _) _).grown (grown_drewS hg4) BS.out (fun z hz => by simp only [Value.ownBlock, Option.some.injEq] at hz; omega)
                       simp only [Nat.zero_add, List.nil_append] at hv4
                       have H4 := Lib.hid hv4
                       have HB4 := Lib.hid hb4
                       have BS4 := Lib.hid (show ∀ o : Obj, wr.heap.size ≤ (w4.alloc o).heap.size by intro o; have := HB4.out.size; simp; omega)
                       clear hv4 hg4 hn4 hb4)
                    | (refine step_app ?gd2 (.tmp 59) (.tmp 61) 89 ?ho2 wr.heap.size 9 i0 (.string ⟨#[]⟩) 1 16 Try.underlying89 hi hz0 hz1 hz2 rfl (Nat.lt_succ_self 0) (.slice (some ⟨g4, 0, none⟩) q c4) q (sv (out.take q)) ?hs2 ?own2 ⟨w4.heap.size, 0, none⟩ 1 1 [.string x] ?hx2 rfl ?news2 (one_str _) y3 y4 ?base2 ?_
                       case gd2 => rfl
                       case ho2 => rfl
                       case hs2 => rfl
                       case hx2 => rfl
                       case own2 => exact H4.out.alloc _
                       case news2 => exact cell_one_new _ _ _
                       case base2 => exact BS4.out _
                       intro v5 w5 hv5 hg5 hn5
                       obtain ⟨g5, c5, rfl⟩ := own_some3 hv5 (fun e => by cases (hn5.1 e).1)
                       have hb5 : Below wr.heap.size wr w5 := (HB4.out.alloc HB4.out.size _).grown hg5 (BS4.out _) (fun z hz => (H4.out.lt z hz).1)
                       have H5 := Lib.hid hv5
                       have HB5 := Lib.hid hb5
                       have CN5 : Hid (∀ (j : Nat) (u : Value), (sv (out.drop q))[j]? = some u → w5.cell? ((⟨g, q, none⟩ : Addr).add j) = some u) := fun j u hu => by
                         rw [← sv_drop, List.getElem?_drop] at hu
                         have h1 := T3.out.own.cells (g := g) rfl (q + j) u hu
                         rw [Addr.add_lit] at h1 ⊢
                         rw [Nat.zero_add] at h1
                         exact (HB5.out.cell (p := ⟨g, q + j, none⟩) hg3).trans h1
                       clear hv5 hg5 hn5 hb5)
                    | (refine step_app ?gd4 (.tmp 55) (.tmp 58) 89 ?ho4 wr.heap.size 9 i0 (.string ⟨#[]⟩) 1 16 Try.underlying89 hi hz0 hz1 hz2 rfl (Nat.lt_succ_self 0) (.slice (some ⟨wr.heap.size, 0, none⟩) 0 0) 0 [] ?hs4 ?own4 ⟨g, 0, none⟩ q (q + (ce + 1)) (sv (out.take q)) ?hx4 LN1.out ?news4 (sv_one _) y1 y2 ?base4 ?_
                       case gd4 => rfl
                       case ho4 => rfl
                       case hs4 => rfl
                       case hx4 => rfl
                       case own4 => exact own_of_blocks (HLIT.out.alloc _) (fun _ _ => rfl)
                       case news4 => exact CN2.out
                       case base4 => exact BS2.out
                       intro v4 w4 hv4 hg4 hn4
                       obtain ⟨g4, c4, rfl⟩ := own_some3 hv4 (fun e => by cases (hn4.1 e).1)
                       have hb4 : Below wr.heap.size wr w4 := (((Below.refl _ _).alloc (Nat.le_refl _) _).alloc BS.out _).grown (grown_drewS hg4) BS2.out (fun z hz => by simp only [Value.ownBlock, Option.some.injEq] at hz; omega)
                       have CNX : Hid (∀ (j : Nat) (u : Value), [Value.string x][j]? = some u → w4.cell? ((⟨wr.heap.size + 1, 0, none⟩ : Addr).add j) = some u) := by
                         have hbk := (grown_drewS hg4).block (wr.heap.size + 1) (by simp) (by simp [Value.ownBlock])
                         exact World.news_of_block (cs := #[.string x]) (t := 9) (fr := (0, 0)) (hbk.trans XB.out)
                       simp only [Nat.zero_add, List.nil_append] at hv4
                       have H4 := Lib.hid hv4
                       have HB4 := Lib.hid hb4
                       clear hv4 hg4 hn4 hb4)
                    | (refine step_app ?gd5 (.tmp 59) (.tmp 61) 89 ?ho5 wr.heap.size 9 i0 (.string ⟨#[]⟩) 1 16 Try.underlying89 hi hz0 hz1 hz2 rfl (Nat.lt_succ_self 0) (.slice (some ⟨g4, 0, none⟩) q c4) q (sv (out.take q)) ?hs5 ?own5 ⟨wr.heap.size + 1, 0, none⟩ 1 1 [.string x] ?hx5 rfl ?news5 (one_str _) y3 y4 ?base5 ?_
                       case gd5 => rfl
                       case ho5 => rfl
                       case hs5 => rfl
                       case hx5 => rfl
                       case own5 => exact H4.out
                       case news5 => exact CNX.out
                       case base5 => exact HB4.out.size
                       intro v5 w5 hv5 hg5 hn5
                       obtain ⟨g5, c5, rfl⟩ := own_some3 hv5 (fun e => by cases (hn5.1 e).1)
                       have hb5 : Below wr.heap.size wr w5 := HB4.out.grown hg5 HB4.out.size (fun z hz => (H4.out.lt z hz).1)
                       have H5 := Lib.hid hv5
                       have HB5 := Lib.hid hb5
                       have CN5 : Hid (∀ (j : Nat) (u : Value), (sv (out.drop q))[j]? = some u → w5.cell? ((⟨g, q, none⟩ : Addr).add j) = some u) := fun j u hu => by
                         rw [← sv_drop, List.getElem?_drop] at hu
                         have h1 := T3.out.own.cells (g := g) rfl (q + j) u hu
                         rw [Addr.add_lit] at h1 ⊢
                         rw [Nat.zero_add] at h1
                         exact (HB5.out.cell (p := ⟨g, q + j, none⟩) hg3).trans h1
                       clear hv5 hg5 hn5 hb5)
                    | (refine step_app ?gd6 (.tmp 55) (.tmp 58) 89 ?ho6 wr.heap.size 9 i0 (.string ⟨#[]⟩) 1 16 Try.underlying89 hi hz0 hz1 hz2 rfl (Nat.lt_succ_self 0) (.slice (some ⟨wr.heap.size + 1, 0, none⟩) 0 0) 0 [] ?hs6 ?own6 ⟨g, 0, none⟩ q (q + (ce + 1)) (sv (out.take q)) ?hx6 LN1.out ?news6 (sv_one _) y1 y2 ?base6 ?_
                       case gd6 => rfl
                       case ho6 => rfl
                       case hs6 => rfl
                       case hx6 => rfl
                       case own6 => exact own_of_blocks LITX.out (fun _ _ => rfl)
                       case news6 => exact CN3.out
                       case base6 => exact BSX.out
                       intro v4 w4 hv4 hg4 hn4
                       obtain ⟨g4, c4, rfl⟩ := own_some3 hv4 (fun e => by cases (hn4.1 e).1)
                       have hb4 : Below wr.heap.size wr w4 := BX.out.grown (grown_drewS hg4) BSX.out (fun z hz => by simp only [Value.ownBlock, Option.some.injEq] at hz; omega)
                       have CNX : Hid (∀ (j : Nat) (u : Value), [Value.string x][j]? = some u → w4.cell? ((⟨wr.heap.size, 0, none⟩ : Addr).add j) = some u) := by
                         have hbk := (grown_drewS hg4).block wr.heap.size (by simp; omega) (by simp [Value.ownBlock])
                         exact World.news_of_block (cs := #[.string x]) (t := 9) (fr := (0, 0)) (hbk.trans XB2.out)
                       simp only [Nat.zero_add, List.nil_append] at hv4
                       have H4 := Lib.hid hv4
                       have HB4 := Lib.hid hb4
                       clear hv4 hg4 hn4 hb4)
                    | (refine step_app ?gd7 (.tmp 59) (.tmp 61) 89 ?ho7 wr.heap.size 9 i0 (.string ⟨#[]⟩) 1 16 Try.underlying89 hi hz0 hz1 hz2 rfl (Nat.lt_succ_self 0) (.slice (some ⟨g4, 0, none⟩) q c4) q (sv (out.take q)) ?hs7 ?own7 ⟨wr.heap.size, 0, none⟩ 1 1 [.string x] ?hx7 rfl ?news7 (one_str _) y3 y4 ?base7 ?_
                       case gd7 => rfl
                       case ho7 => rfl
                       case hs7 => rfl
                       case hx7 => rfl
                       case own7 => exact H4.out
                       case news7 => exact CNX.out
                       case base7 => exact HB4.out.size
                       intro v5 w5 hv5 hg5 hn5
                       obtain ⟨g5, c5, rfl⟩ := own_some3 hv5 (fun e => by cases (hn5.1 e).1)
                       have hb5 : Below wr.heap.size wr w5 := HB4.out.grown hg5 HB4.out.size (fun z hz => (H4.out.lt z hz).1)
                       have H5 := Lib.hid hv5
                       have HB5 := Lib.hid hb5
                       have CN5 : Hid (∀ (j : Nat) (u : Value), (sv (out.drop q))[j]? = some u → w5.cell? ((⟨g, q, none⟩ : Addr).add j) = some u) := fun j u hu => by
                         rw [← sv_drop, List.getElem?_drop] at hu
                         have h1 := T3.out.own.cells (g := g) rfl (q + j) u hu
                         rw [Addr.add_lit] at h1 ⊢
                         rw [Nat.zero_add] at h1
                         exact (HB5.out.cell (p := ⟨g, q + j, none⟩) hg3).trans h1
                       clear hv5 hg5 hn5 hb5)
                    | (refine step_app ?gd3 (.tmp 62) (.tmp 65) 89 ?ho3 wr.heap.size 9 i0 (.string ⟨#[]⟩) 1 16 Try.underlying89 hi hz0 hz1 hz2 rfl (Nat.lt_succ_self 0) (.slice (some ⟨g5, 0, none⟩) (q + 1) c5) (q + 1) (sv (out.take q) ++ [.string x]) ?hs3 ?own3 ⟨g, q, none⟩ d (ce + 1) (sv (out.drop q)) ?hx3 LN3.out ?news3 (sv_one _) y5 y6 ?base3 ?_
                       case gd3 => rfl
                       case ho3 => rfl
                       case hs3 => rfl
                       case hx3 => rfl
                       case own3 => exact H5.out
                       case news3 => exact CN5.out
                       case base3 => exact HB5.out.size
                       intro v6 w6 hv6 hg6 hn6
                       obtain ⟨g6, c6, rfl⟩ := own_some3 hv6 (fun e => by cases (hn6.1 e).1))
                    | fail)
                  all_goals
                    have T6 : Hid (TxS w2 w6 B C g6 (q + 1 + d) c6 (insT out x.data.toList)) := by
                      refine ⟨?_, ?_, T3.out.below.trans ((HB5.out.grown hg6 HB5.out.size (fun z hz => (H5.out.lt z hz).1)).mono (by rw [HC.out]; exact SCW.out))⟩
                      · have h1 := LN1.out
                        have h3 := LN3.out
                        rw [sv_length] at h1 h3
                        rw [EI.out, List.length_append, List.length_append, h1, h3]
                        simp
                      · rw [EI.out]
                        have e9 : sv (out.take q) ++ [Value.string x] ++ sv (out.drop q) = sv (out.take q ++ [x.data.toList] ++ out.drop q) := by
                          rw [str_list x, sv_snoc, sv_append]
                        rw [← e9]
                        have h6 := hv6
                        have hB6 : B ≤ wr.heap.size := SBW.out
                        exact ⟨h6.1, h6.2.imp id (fun ⟨z1, z2, z3, y1, y2, y3⟩ => ⟨z1, z2, z3, y1, Nat.le_trans hB6 y2, y3⟩)⟩
                    clear hv6 hg6 hn6 H5 HB5 CN5 H4 HB4 HLIT CN1 CN2 CN3 LITX BX BSX XB2 XB BS BS2 LN1 LN3 T3 EI SBW SCW
                    rw [← STN.out] at T6
                    go_wp2
                    go_roundw
                    case rel => exact ⟨k + 1, g6, q + 1 + d, c6, by omega, by go_num, rfl, by omega, T6⟩
                    case measure => simp [intOf]; omega
      · obtain rfl : k = M := by omega
        obtain ⟨L, hL⟩ : ∃ L, L = srtT (txtS E d u fr k) := ⟨_, rfl⟩
        rw [← hL] at T TXT
        have HFL : Hid (L.flatten.length ≤ 128) := by have := hlen.out; rw [TXT.out] at this; simp only [List.length_cons, List.length_append] at this; show _ ≤ _; omega
        have hmL : L.length = m := T.out.len
        have A0 : Hid ((⟨#[40]⟩ : ByteArray).data.toList = 40 :: (L.take 0).flatten) := rfl
        clear hL CL HBK hlen HM hlt
        go_wp2_with fail
        go_loopw [14, 15] (fun e14 e15 W => ∃ (i : Nat) (acc : ByteArray), i ≤ m ∧ e15 = .int .i64 (i : Int) ∧ e14 = .string acc ∧ Hid (acc.data.toList = 40 :: (L.take i).flatten) ∧ Hid (TxS w2 W B C g m c L)) (fun _ e15 _ => m - (intOf e15).toNat)
        case atStart => exact ⟨0, _, Nat.zero_le _, rfl, rfl, A0, T⟩
        case round =>
          clear A0 T
          obtain ⟨i, acc, hi2, rfl, rfl, HA, T⟩ := hrel
          have hsa : acc.size = 1 + (L.take i).flatten.length := by
            have := congrArg List.length HA.out
            rw [List.length_cons] at this
            have e : acc.size = acc.data.toList.length := (size_list acc).symm
            omega
          have hfl := flat_le (L := L) (k := i)
          have HF := HFL.out
          by_cases hlt2 : i < m
          · have b2 : (i : Int) < (m : Int) := by omega
            have hiL : i < L.length := by omega
            have hoc := T.out.own.cellAt i (by omega)
            rw [sv_get L i hiL] at hoc
            have FX := flat_next hiL
            have hfl2 := flat_le (L := L) (k := i + 1)
            obtain ⟨y, hy⟩ : ∃ y : ByteArray, y = ⟨(L[i]).toArray⟩ := ⟨_, rfl⟩
            have hyl : y.data.toList = L[i] := by rw [hy]
            rw [← hy] at hoc
            have hys : y.size = (L[i]).length := by rw [← hyl, size_list]
            have hlen2 : (L.take (i + 1)).flatten.length = (L.take i).flatten.length + (L[i]).length := by rw [FX, List.length_append]
            have n1 : ¬ (9223372036854775807 < acc.size + y.size) := by omega
            have HA2 : Hid ((acc ++ y).data.toList = 40 :: (L.take (i + 1)).flatten) := by
              show _ = _
              rw [FX, ByteArray.data_append, Array.toList_append, HA.out, hyl]; rfl
            clear FX hy hyl hys hlen2 hfl hfl2 hsa HF hiL
            go_wp2
            go_roundw
            case rel => exact ⟨i + 1, _, by omega, by go_num, rfl, HA2, T⟩
            case measure => simp [intOf]; omega
          · obtain rfl : i = m := by omega
            have hfull : L.take i = L := by rw [← hmL, List.take_length]
            rw [hfull] at HA hsa hfl
            have n1 : ¬ (9223372036854775807 < acc.size + 1) := by omega
            have HE : Hid ((acc ++ ⟨#[41]⟩ : ByteArray) = ⟨(txt E (d + 1) u fr).toArray⟩) := by
              show _ = _
              apply ByteArray.ext
              rw [TXT.out, ByteArray.data_append]
              apply Array.ext'
              rw [Array.toList_append, HA.out]; rfl
            have BF : Hid (Below B w wr) := BW2.out.trans (T.out.below.mono SBC.out)
            clear hfull HA hsa hfl HF T
            go_wp2
            go_ret
            rw [← HE.out]
            exact ⟨rfl, by rw [← HB.out]; exact BF.out⟩
end Go.Proofs.Ytafdlilojlmchaa

namespace Go.Proofs.Ytafdlilojlmchaa
open Go.RowKit

def intsN (L : List Nat) : List Int := L.map fun (x : Nat) => (x : Int)
def rootOut (n : Int) (rows : List (List Int)) (r : Int) : List UInt8 := if treeB n rows = true ∧ 0 ≤ r ∧ r < n then txt (edgesR rows) 14 r.toNat (-1) else []
def freeOut (n : Int) (rows : List (List Int)) : List UInt8 := if treeB n rows = true then freeT n.toNat (edgesR rows) else []
def mapsOut (n : Int) (rows : List (List Int)) : Int := if treeB n rows = true then IntKind.i64.wrap (mapsN n.toNat (edgesR rows) : Int) else -1
def centsOut (n : Int) (rows : List (List Int)) : List Int := if treeB n rows = true then intsN (cents n.toNat (edgesR rows)) else []
def sameOut (n : Int) (a b : List (List Int)) : Bool := treeB n a && treeB n b && decide (freeT n.toNat (edgesR a) = freeT n.toNat (edgesR b))
def leastT : List (List UInt8) → List UInt8
  | [] => []
  | x :: r => r.foldl minT x
theorem freeT_eq (n : Nat) (E : Edges) : freeT n E = leastT ((cents n E).map fun c => txt E 14 c (-1)) := by
  unfold freeT leastT
  cases (cents n E).map fun c => txt E 14 c (-1) <;> rfl
def bs (l : List UInt8) : ByteArray := ⟨l.toArray⟩
theorem minS_bs (x y : List UInt8) : Lib.minS (bs x) (bs y) = bs (minT x y) := by
  unfold Lib.minS minT
  have e1 : (bs x).data.toList = x := by simp [bs]
  have e2 : (bs y).data.toList = y := by simp [bs]
  rw [e1, e2]
  by_cases h : lessL y x = true
  · have h1 : ¬ (x < y ∨ x = y) := by
      rintro (q | q)
      · rw [← less_lt] at q
        have := less_trans _ _ _ q h
        rw [less_self] at this; cases this
      · subst q; rw [less_self] at h; cases h
    rw [if_neg h1, if_pos h]
  · have h1 : x < y ∨ x = y := by
      rcases less_total x y with q | q | q
      · exact .inl (less_lt.1 q)
      · exact .inr q
      · exact absurd q h
    rw [if_pos h1, if_neg h]
theorem fold_bs (r : List (List UInt8)) : ∀ x, (r.map bs).foldl Lib.minS (bs x) = bs (r.foldl minT x) := by
  induction r with
  | nil => intro x; rfl
  | cons a r ih => intro x; rw [List.map_cons, List.foldl_cons, List.foldl_cons, minS_bs, ih]
theorem minOf_bs {L : List (List UInt8)} (h : L ≠ []) : Lib.minOfS (L.map bs) = bs (leastT L) := by
  cases L with
  | nil => exact absurd rfl h
  | cons x r =>
    unfold Lib.minOfS leastT
    rw [List.map_cons, List.headD_cons, List.foldl_cons, minS_bs, fold_bs]
    have : minT x x = x := by unfold minT; rw [less_self]; rfl
    rw [this]
theorem leastT_mem : ∀ (L : List (List UInt8)), L ≠ [] → leastT L ∈ L
  | [], h => absurd rfl h
  | x :: r, _ => by
    show r.foldl minT x ∈ x :: r
    have key : ∀ (r : List (List UInt8)) (x : List UInt8), r.foldl minT x ∈ x :: r := by
      intro r
      induction r with
      | nil => intro x; simp
      | cons a r ih =>
        intro x
        rw [List.foldl_cons]
        have h1 := ih (minT x a)
        have h2 : minT x a = x ∨ minT x a = a := by
          unfold minT
          by_cases h : lessL a x = true
          · right; rw [if_pos h]
          · left; rw [if_neg h]
        rcases List.mem_cons.1 h1 with h1 | h1
        · rw [h1]; rcases h2 with h2 | h2 <;> rw [h2] <;> simp
        · simp [h1]
    exact key r x
theorem freeT_len {n : Nat} {E : Edges} (hv : ValidT n E) (h7 : n ≤ 7) : (freeT n E).length = 2 * n := by
  rw [freeT_eq]
  have hc := cents_two hv h7
  have h1 := leastT_mem ((cents n E).map fun c => txt E 14 c (-1)) (by
    intro e
    rw [List.map_eq_nil_iff] at e
    rcases hc with ⟨a, h, _⟩ | ⟨a, b, h, _⟩ <;> (rw [h] at e; cases e))
  obtain ⟨c, hcm, he⟩ := List.mem_map.1 h1
  have hcn : c < n := by
    rcases hc with ⟨a, h, h1⟩ | ⟨a, b, h, h1, h2, _⟩
    · rw [h] at hcm; simp at hcm; omega
    · rw [h] at hcm; simp at hcm; omega
  rw [← he, txt_len, nd_len hv h7 hcn]
theorem same_free {n : Int} {a b : List (List Int)} (ha : treeB n a = true) : sameOut n a b = decide (freeOut n a = freeOut n b) := by
  unfold sameOut freeOut
  rw [ha, if_pos rfl, Bool.true_and]
  cases hb : treeB n b with
  | true => rw [if_pos rfl, Bool.true_and]
  | false =>
    rw [if_neg (by decide), Bool.false_and]
    symm
    rw [decide_eq_false_iff_not]
    intro e
    obtain ⟨h1, _, h3⟩ := treeB_iff.1 ha
    have := freeT_len h3 (by omega)
    rw [e] at this
    simp at this; omega
end Go.Proofs.Ytafdlilojlmchaa

namespace Go.Proofs.Ytafdlilojlmchaa
open Go.RowKit

theorem leastT_next {M : List (List UInt8)} {i : Nat} (h1 : 1 ≤ i) (hi : i < M.length) : leastT (M.take (i + 1)) = minT (leastT (M.take i)) M[i] := by
  rw [List.take_succ_eq_append_getElem hi]
  cases M with
  | nil => simp at hi
  | cons x r =>
    cases i with
    | zero => omega
    | succ i =>
      rw [List.take_succ_cons]
      show ((r.take i) ++ [(x :: r)[i + 1]]).foldl minT x = minT ((r.take i).foldl minT x) _
      rw [List.foldl_append]; rfl
theorem rowsE_tree {n : Int} {rows : List (List Int)} (h : treeB n rows = true) : rows = rowsE (edgesR rows) ∧ TreeS n.toNat (edgesR rows) := by
  obtain ⟨h1, h2, h3⟩ := treeB_iff.1 h
  exact ⟨h2, h3, by omega⟩
set_option maxHeartbeats 1600000 in
set_option maxRecDepth 100000 in
theorem freeTextS_any (n : Nat) (E : Edges) (hT : Hid (TreeS n E)) (v : Value) (RV : List Value) (w : World) {B0 H0 : Nat} (hG : Hid (Grid w B0 H0 v RV (rowsE E))) (hH : H0 ≤ w.heap.size) :
    Calls Try.prog 32 #[.int .i64 (n : Int), v] w fun e w' => e = .returned (.string ⟨(freeT n E).toArray⟩) ∧ Below w.heap.size w w' := by
  have hmin := fun (ts : Array TypeId) (t : TypeId) (x y : ByteArray) (W : World) => Lib.run_min_strs (P := Try.prog) W ts t x y
  have CC := Lib.hid (centersS_any n E hT v RV w hG hH)
  have hn7 := hT.out.h7
  have hc2 := cents_two hT.out.v hn7
  have CT := Lib.hid (fun (u : Nat) (hu : u < n) (W : World) (hW : Below w.heap.size w W) => rootTextS_any n E hT 14 u (-1) (by omega) (Lib.hid (valid_brn hT.out.v hn7 u (-1))) (by rw [nd_len hT.out.v hn7 hu]; omega) v RV W B0 H0 (Lib.hid (hG.out.below (hW.mono hH))) (Nat.le_trans hH hW.size))
  obtain ⟨av, cv, rfl⟩ : ∃ a c, v = .slice a RV.length c := by
    obtain ⟨a, c, h, _⟩ := hG.out.1.slice; exact ⟨a, c, h⟩
  have hLn : Hid (∀ c ∈ cents n E, c < n) := fun c hc => by
    rcases hc2 with ⟨a, h, h1⟩ | ⟨a, b, h, h1, h2, _⟩
    · rw [h] at hc; simp at hc; omega
    · rw [h] at hc; simp at hc; omega
  have hL2 : Hid (1 ≤ (cents n E).length ∧ (cents n E).length ≤ 2) := by
    rcases hc2 with ⟨a, h, h1⟩ | ⟨a, b, h, h1, h2, _⟩ <;> (rw [h]; exact ⟨by simp, by simp⟩)
  have FT := Lib.hid (freeT_eq n E)
  obtain ⟨L, hL⟩ : ∃ L, L = cents n E := ⟨_, rfl⟩
  rw [← hL] at hLn hL2 FT CC
  obtain ⟨M, hMt⟩ : ∃ M, M = L.map fun c => txt E 14 c (-1) := ⟨_, rfl⟩
  rw [← hMt] at FT
  have HMt := Lib.hid hMt
  clear hG hH hc2 hL hMt
  go_enter Try.func32, Try.ntmps32
  go_wp2_with fail
  refine CC.out.mono ?_
  rintro e w1 ⟨y, rfl, hy, hb1⟩
  have hiL := intsB_len L
  obtain ⟨ay, cy, rfl, _⟩ := hy.slice
  rw [hiL] at hy ⊢
  have HY := Lib.hid hy
  have HB1 := Lib.hid hb1
  obtain ⟨m, hm⟩ : ∃ m, m = L.length := ⟨_, rfl⟩
  have HM := Lib.hid hm
  rw [← hm] at HY hL2 ⊢
  obtain ⟨hm1, hm2⟩ := hL2.out
  have hML : M.length = m := by rw [HMt.out, List.length_map, hm]
  have h0L : 0 < L.length := by omega
  obtain ⟨g, rfl, _, hgl, c0, _⟩ := HY.out.at_ 0 (by rw [hiL]; omega)
  have e1 : (iv (intsB L))[0]? = some (.int .i64 ((L[0] : Nat) : Int)) := by simp [iv, intsB, h0L]
  rw [e1] at c0
  have HML := Lib.hid hML
  have M0 : Hid (leastT (M.take 1) = txt E 14 L[0] (-1)) := by
    show _ = _
    have h0M : 0 < M.length := by omega
    rw [show (1 : Nat) = 0 + 1 from rfl, List.take_succ_eq_append_getElem h0M]
    simp [leastT, HMt.out]
  have hu0 := hLn.out _ (List.getElem_mem h0L)
  obtain ⟨u, hu⟩ : ∃ u, u = L[0] := ⟨_, rfl⟩
  rw [← hu] at c0 M0 hu0
  have CT0 := Lib.hid (CT.out u hu0 w1 HB1.out)
  rw [← M0.out] at CT0
  clear hy hb1 CC hiL hm hML e1 hu hu0 M0 hgl
  have b0 : (0 : Int) < (m : Int) := by omega
  go_wp2_with fail
  refine CT0.out.mono ?_
  rintro e w2 ⟨rfl, hb2⟩
  have B2 : Hid (Below w1.heap.size w1 w2) := hb2
  clear hb2 CT0 c0
  go_wp2_with fail
  go_loopw [6, 7] (fun e6 ii wr => ∃ i : Nat, 1 ≤ i ∧ i ≤ m ∧ ii = .int .i64 (i : Int) ∧ e6 = .string (bs (leastT (M.take i))) ∧ Hid (Below w1.heap.size w1 wr)) (fun _ ii _ => m - (intOf ii).toNat)
  case atStart => exact ⟨1, Nat.le_refl _, hm1, rfl, rfl, B2⟩
  case round =>
    clear B2
    obtain ⟨i, hi1, him, rfl, rfl, HB⟩ := hrel
    by_cases hlt : i < m
    · have b1 : (i : Int) < (m : Int) := by omega
      have hiL : i < L.length := by rw [← HM.out]; exact hlt
      obtain ⟨g', e0, _, hgl, c0, _⟩ := HY.out.at_ i (by rw [intsB_len]; exact hiL)
      cases e0
      have c1 := (HB.out.cell (p := ⟨g, i, none⟩) hgl).trans c0
      have e1 : (iv (intsB L))[i]? = some (.int .i64 ((L[i] : Nat) : Int)) := by simp [iv, intsB, hiL]
      rw [e1] at c1
      have hiM : i < M.length := by rw [HML.out]; exact hlt
      have LN := leastT_next hi1 hiM
      have eM : M[i] = txt E 14 L[i] (-1) := by simp [HMt.out]
      have hu := hLn.out _ (List.getElem_mem hiL)
      obtain ⟨u, hue⟩ : ∃ u, u = L[i] := ⟨_, rfl⟩
      rw [← hue] at c1 eM hu
      obtain ⟨f, hf⟩ : ∃ f, f = M[i] := ⟨_, rfl⟩
      rw [← hf] at eM LN
      have BW : Hid (Below w.heap.size w wr) := HB1.out.trans (HB.out.mono HB1.out.size)
      have CX := CT.out u hu wr BW.out
      rw [← eM] at CX
      have CX := Lib.hid CX
      obtain ⟨A, hA⟩ : ∃ A, A = bs (leastT (M.take i)) := ⟨_, rfl⟩
      have HN : Hid (Lib.minS A ⟨f.toArray⟩ = bs (leastT (M.take (i + 1)))) := by
        show _ = _
        rw [LN, hA]
        exact minS_bs _ _
      rw [← hA]
      clear c0 e1 hiM LN eM hue hf hiL hgl CT hA
      go_wp2_with fail
      refine CX.out.mono ?_
      rintro e w3 ⟨rfl, hb3⟩
      have B3 : Hid (Below w1.heap.size w1 w3) := HB.out.trans (hb3.mono HB.out.size)
      clear hb3 CX HB BW c1
      go_wp2
      go_roundw
      case rel => exact ⟨i + 1, by omega, by omega, by go_num, by rw [HN.out], B3⟩
      case measure => simp [intOf]; omega
    · obtain rfl : i = m := by omega
      have HF : Hid (bs (leastT (M.take i)) = ⟨(freeT n E).toArray⟩) := by
        show _ = _
        rw [FT.out, ← HML.out, List.take_length]; rfl
      have BF : Hid (Below w.heap.size w wr) := HB1.out.trans (HB.out.mono HB1.out.size)
      clear CT hmin
      go_wp2
      go_ret
      rw [HF.out]
      exact ⟨rfl, BF.out⟩
/-! ### of any rows -/
set_option maxHeartbeats 1600000 in
set_option maxRecDepth 100000 in
theorem specSameShape_any (n : Int) (ra rb : List (List Int)) (va vb : Value) (RA RB : List Value) (w : World) {B0 H0 B1 H1 : Nat} (hG : Hid (Grid w B0 H0 va RA ra)) (hH : H0 ≤ w.heap.size) (hK : Hid (Grid w B1 H1 vb RB rb)) (hH1 : H1 ≤ w.heap.size) (hra : ra.length ≤ 1048576) (hrb : rb.length ≤ 1048576) :
    Calls Try.prog 8 #[.int .i64 n, va, vb] w fun e w' => e = .returned (.bool (sameOut n ra rb)) ∧ Below w.heap.size w w' := by
  have CV := Lib.hid (validTree_any n ra va RA w hG hH hra)
  have CW := Lib.hid (fun (W : World) (hW : Below w.heap.size w W) => validTree_any n rb vb RB W (Lib.hid (hK.out.below (hW.mono hH1))) (Nat.le_trans hH1 hW.size) hrb)
  have CA : Hid (treeB n ra = true → ∀ (W : World), Below w.heap.size w W → Calls Try.prog 32 #[.int .i64 n, va] W fun e w' => e = .returned (.string ⟨(freeT n.toNat (edgesR ra)).toArray⟩) ∧ Below W.heap.size W w') := fun ht W hW => by
    obtain ⟨h1, h2⟩ := rowsE_tree ht
    obtain ⟨N, rfl⟩ : ∃ N : Nat, n = N := ⟨n.toNat, by have := (treeB_iff.1 ht).1; omega⟩
    rw [Int.toNat_natCast] at h2 ⊢
    exact freeTextS_any N (edgesR ra) h2 va RA W (Lib.hid (by rw [← h1]; exact hG.out.below (hW.mono hH))) (Nat.le_trans hH hW.size)
  have CB : Hid (treeB n rb = true → ∀ (W : World), Below w.heap.size w W → Calls Try.prog 32 #[.int .i64 n, vb] W fun e w' => e = .returned (.string ⟨(freeT n.toNat (edgesR rb)).toArray⟩) ∧ Below W.heap.size W w') := fun ht W hW => by
    obtain ⟨h1, h2⟩ := rowsE_tree ht
    obtain ⟨N, rfl⟩ : ∃ N : Nat, n = N := ⟨n.toNat, by have := (treeB_iff.1 ht).1; omega⟩
    rw [Int.toNat_natCast] at h2 ⊢
    exact freeTextS_any N (edgesR rb) h2 vb RB W (Lib.hid (by rw [← h1]; exact hK.out.below (hW.mono hH1))) (Nat.le_trans hH1 hW.size)
  obtain ⟨aa, ca, rfl⟩ : ∃ a c, va = .slice a RA.length c := by
    obtain ⟨a, c, h, _⟩ := hG.out.1.slice; exact ⟨a, c, h⟩
  obtain ⟨ab, cb, rfl⟩ : ∃ a c, vb = .slice a RB.length c := by
    obtain ⟨a, c, h, _⟩ := hK.out.1.slice; exact ⟨a, c, h⟩
  unfold sameOut
  obtain ⟨fa, hfa⟩ : ∃ fa, fa = freeT n.toNat (edgesR ra) := ⟨_, rfl⟩
  obtain ⟨fb, hfb⟩ : ∃ fb, fb = freeT n.toNat (edgesR rb) := ⟨_, rfl⟩
  rw [← hfa] at CA ⊢
  rw [← hfb] at CB ⊢
  obtain ⟨ta, hta⟩ : ∃ t, t = treeB n ra := ⟨_, rfl⟩
  obtain ⟨tb, htb⟩ : ∃ t, t = treeB n rb := ⟨_, rfl⟩
  rw [← hta] at CV CA ⊢
  rw [← htb] at CW CB ⊢
  clear hG hK hH hH1 hra hrb hfa hfb hta htb
  cases ta with
  | false =>
    clear CA CB CW
    go_enter Try.func8, Try.ntmps8
    go_wp2_with fail
    refine CV.out.mono ?_
    rintro e w1 ⟨rfl, hb1⟩
    have HB1 := Lib.hid hb1
    clear hb1 CV
    go_wp2
    go_ret
    exact ⟨rfl, HB1.out⟩
  | true =>
    cases tb with
    | false =>
      clear CA CB
      go_enter Try.func8, Try.ntmps8
      go_wp2_with fail
      refine CV.out.mono ?_
      rintro e w1 ⟨rfl, hb1⟩
      have HB1 := Lib.hid hb1
      clear hb1 CV
      go_wp2_with fail
      refine (CW.out _ HB1.out).mono ?_
      rintro e w2 ⟨rfl, hb2⟩
      have HB2 : Hid (Below w.heap.size w w2) := HB1.out.trans (hb2.mono HB1.out.size)
      clear hb2 CW
      go_wp2
      go_ret
      exact ⟨rfl, HB2.out⟩
    | true =>
      have CA2 := Lib.hid (fun (W : World) (hW : Below w.heap.size w W) => CA.out rfl W hW)
      have CB2 := Lib.hid (fun (W : World) (hW : Below w.heap.size w W) => CB.out rfl W hW)
      clear CA CB
      go_enter Try.func8, Try.ntmps8
      go_wp2_with fail
      refine CV.out.mono ?_
      rintro e w1 ⟨rfl, hb1⟩
      have HB1 := Lib.hid hb1
      clear hb1 CV
      go_wp2_with fail
      refine (CW.out _ HB1.out).mono ?_
      rintro e w2 ⟨rfl, hb2⟩
      have HB2 : Hid (Below w.heap.size w w2) := HB1.out.trans (hb2.mono HB1.out.size)
      clear hb2 CW
      go_wp2_with fail
      refine (CA2.out _ HB2.out).mono ?_
      rintro e w3 ⟨rfl, hb3⟩
      have HB3 : Hid (Below w.heap.size w w3) := HB2.out.trans (hb3.mono HB2.out.size)
      clear hb3
      go_wp2_with fail
      refine (CB2.out _ HB3.out).mono ?_
      rintro e w4 ⟨rfl, hb4⟩
      have HB4 : Hid (Below w.heap.size w w4) := HB3.out.trans (hb4.mono HB3.out.size)
      clear hb4 CA2 CB2
      go_wp2
      go_ret
      refine ⟨?_, HB4.out⟩
      by_cases h : fa = fb
      · subst h; simp
      · simp [h]
end Go.Proofs.Ytafdlilojlmchaa
