/-
  The model's list of the nodes beside a node, and its longest way into a branch.
-/
import Derived.Test.YtmoelhaobnloaaaCVTree
import Derived.Test.YtmoelhaobnloaaaWFreeC
namespace Go.Proofs.Ytmoelhaobnloaaa
open Go.RowKit

def intsB (L : List Nat) : List Int := L.map fun (x : Nat) => (x : Int)
theorem intsB_snoc (L : List Nat) (x : Nat) : iv (intsB (L ++ [x])) = iv (intsB L) ++ [.int .i64 (x : Int)] := by simp [iv, intsB]
theorem intsB_len (L : List Nat) : (iv (intsB L)).length = L.length := by simp [iv, intsB]
/-- the nodes less than x, and x as far as k edges tell -/
def besP (E : Edges) (v x k : Nat) : List Nat := ((List.range x).flatMap fun y => E.flatMap (bes1 v y)) ++ (E.take k).flatMap (bes1 v x)
theorem besP_next {E : Edges} (v x : Nat) {k : Nat} (hk : k < E.length) : besP E v x (k + 1) = besP E v x k ++ bes1 v x E[k] := by
  unfold besP
  rw [List.take_succ_eq_append_getElem hk, List.flatMap_append, List.append_assoc]; simp
theorem besP_turn (E : Edges) (v x : Nat) : besP E v x E.length = besP E v (x + 1) 0 := by
  unfold besP
  rw [List.take_length, List.range_succ, List.flatMap_append]; simp
theorem besP_all (n : Nat) (E : Edges) (v : Nat) : besP E v n 0 = besN n E v := by unfold besP besN; simp
theorem rowsE_at {E : Edges} {k : Nat} (hk : k < (rowsE E).length) : (rowsE E)[k] = [((E[k]'(by simpa [rowsE] using hk)).1 : Int), ((E[k]'(by simpa [rowsE] using hk)).2 : Int)] := by simp [rowsE]
theorem rowsE_len (E : Edges) : (rowsE E).length = E.length := by simp [rowsE]
theorem hit_cases (v x a b : Nat) (h : a < b) : (bes1 v x (a, b) = [x] ∧ ((a = v ∧ b = x) ∨ (a ≠ v ∧ b = v ∧ a = x))) ∨ (bes1 v x (a, b) = [] ∧ ((a = v ∧ b ≠ x ∧ b ≠ v) ∨ (a ≠ v ∧ b = v ∧ a ≠ x) ∨ (a ≠ v ∧ b ≠ v))) := by
  unfold bes1
  simp only
  by_cases h1 : a = v
  · by_cases h2 : b = x
    · left; rw [if_pos (.inl ⟨h1, h2⟩)]; exact ⟨rfl, .inl ⟨h1, h2⟩⟩
    · right; rw [if_neg (by omega)]; exact ⟨rfl, .inl ⟨h1, h2, by omega⟩⟩
  · by_cases h2 : b = v
    · by_cases h3 : a = x
      · left; rw [if_pos (.inr ⟨h2, h3⟩)]; exact ⟨rfl, .inr ⟨h1, h2, h3⟩⟩
      · right; rw [if_neg (by omega)]; exact ⟨rfl, .inr (.inl ⟨h1, h2, h3⟩)⟩
    · right; rw [if_neg (by omega)]; exact ⟨rfl, .inr (.inr ⟨h1, h2⟩)⟩
theorem ieq {a b : Nat} (h : a = b) : ((a : Int) == (b : Int)) = true := by rw [h]; simp
theorem ine {a b : Nat} (h : a ≠ b) : ((a : Int) == (b : Int)) = false := by rw [beq_eq_false_iff_ne]; omega

set_option maxHeartbeats 6400000 in
set_option maxRecDepth 100000 in
theorem beside_any (n : Nat) (E : Edges) (ho : Hid (∀ e ∈ E, e.1 < e.2)) (hn : n ≤ 64) (hel : E.length ≤ 64) (u : Nat) (v : Value) (RV : List Value) (w : World) {B0 H0 : Nat} (hG : Hid (Grid w B0 H0 v RV (rowsE E))) (hH : H0 ≤ w.heap.size) :
    Calls Try.prog 75 #[.int .i64 (n : Int), v, .int .i64 (u : Int)] w fun e w' => ∃ y, e = .returned y ∧ Own w' w.heap.size w'.heap.size 3 y (iv (intsB (besN n E u))) ∧ Below w.heap.size w w' := by
  obtain ⟨i0, hi, hz0, hz1, hz2⟩ := info_parts Try.infoIntR
  obtain ⟨av, cv, rfl, _, hcv, _, _⟩ := hG.out.1.slice
  have hgl := hG.out.2.1
  rw [hgl] at hG hcv ⊢
  have HGr : Hid (∀ W, Below w.heap.size w W → Grid W B0 H0 (.slice av (rowsE E).length cv) RV (rowsE E)) := fun W hW => hG.out.below (hW.mono hH)
  have hlE := rowsE_len E
  obtain ⟨M, hM⟩ : ∃ M, M = (rowsE E).length := ⟨_, rfl⟩
  have HM := Lib.hid hM
  rw [← hM] at hlE ⊢
  have HME : Hid (M = E.length) := hlE
  have hM64 : M ≤ 64 := by omega
  obtain ⟨C, hC⟩ : ∃ C, C = w.heap.size := ⟨_, rfl⟩
  have HC := Lib.hid hC
  rw [← hC] at HGr
  have O0 : Hid ((w.alloc (.cells #[] 3)).ownsRow C 3 1 (.slice (some ⟨w.heap.size, 0, none⟩) 0 0) 0 (iv (intsB (besP E u 0 0)))) :=
    World.ownsRow_lit (base := C) (e := 3) (size := 1) w #[] 0 (by omega) (by unfold maxLen; omega) rfl
  have B1 : Hid (Below C w (w.alloc (.cells #[] 3))) := by show Below _ _ _; rw [hC]; exact (Below.refl _ _).alloc (Nat.le_refl _) _
  have BA := Lib.hid (besP_all n E u)
  clear hG hH hcv hgl hlE hM hC hel
  go_enter Try.func75, Try.ntmps75
  go_wp2_with fail
  go_loopw [7, 8, 9] (fun e7 e8 e9 wr => ∃ (x m c : Nat) (a : Option Addr), x ≤ n ∧ e8 = .int .i64 (x : Int) ∧ e7 = .slice a m c ∧ m ≤ x * 64 ∧ Hid (wr.ownsRow C 3 1 (.slice a m c) m (iv (intsB (besP E u x 0)))) ∧ Hid (Below C w wr)) (fun _ e8 _ _ => n - (intOf e8).toNat)
  case atStart => exact ⟨0, 0, 0, _, Nat.zero_le _, rfl, rfl, Nat.le_refl _, O0, B1⟩
  case round =>
    clear O0 B1
    obtain ⟨x, m, c, a, hx, rfl, rfl, hm, HO, HB⟩ := hrel
    by_cases hlt : x < n
    · have b1 : (x : Int) < (n : Int) := by omega
      go_wp2_with fail
      go_loopw [7, 9] (fun e7 e9 W => ∃ (k q c : Nat) (a : Option Addr), k ≤ M ∧ e9 = .int .i64 (k : Int) ∧ e7 = .slice a q c ∧ q ≤ x * 64 + k ∧ Hid (W.ownsRow C 3 1 (.slice a q c) q (iv (intsB (besP E u x k)))) ∧ Hid (Below C w W)) (fun _ e9 _ => M - (intOf e9).toNat)
      case atStart => exact ⟨0, m, c, a, Nat.zero_le _, rfl, rfl, hm, HO, HB⟩
      case round =>
        clear HO HB
        obtain ⟨k, q, c, a, hk, rfl, rfl, hq, HO, HB⟩ := hrel
        by_cases hlt2 : k < M
        · have b2 : (k : Int) < (M : Int) := by omega
          have hkE : k < E.length := by rw [← HME.out]; exact hlt2
          have hkR : k < (rowsE E).length := by rw [← HM.out]; exact hlt2
          have PA := pair_at (HGr.out _ HB.out) hkR (rowsE_at hkR)
          obtain ⟨ga, gr, cr, rfl, hcr, c1, c2, c3⟩ := PA
          have BN := besP_next u x hkE
          have oe := ho.out _ (List.getElem_mem hkE)
          obtain ⟨⟨p, r⟩, hy⟩ : ∃ y, y = E[k] := ⟨_, rfl⟩
          rw [← hy] at c2 c3 BN oe
          replace c2 : wr.cell? ⟨gr, 0, none⟩ = some (.int .i64 (p : Int)) := c2
          replace c3 : wr.cell? ⟨gr, 1, none⟩ = some (.int .i64 (r : Int)) := c3
          replace oe : p < r := oe
          have z1 : q + 1 ≤ maxLen := by unfold maxLen; omega
          have z2 : (q + 1) * 8 ≤ 140737488355328 := by omega
          have sC : Hid (C ≤ wr.heap.size) := by have := HB.out.size; show _ ≤ _; rw [HC.out]; rw [HC.out] at *; exact this
          have Y3 : Hid (C ≤ (wr.alloc (.cells #[.int .i64 (x : Int)] 3)).heap.size) := by have := sC.out; show _ ≤ _; rw [World.size_alloc]; omega
          have HBN := Lib.hid BN
          rcases hit_cases u x p r oe with ⟨hb, hc⟩ | ⟨hb, hc⟩
          · have BN2 : Hid (iv (intsB (besP E u x (k + 1))) = iv (intsB (besP E u x k)) ++ [.int .i64 (x : Int)]) := by show _ = _; rw [HBN.out, hb, intsB_snoc]
            clear HBN BN hy hkE hkR hb
            rcases hc with ⟨h1, h2⟩ | ⟨h1, h2, h3⟩
            all_goals
              try have q1 := ieq h1
              try have q1 := ine h1
              try have q2 := ieq h2
              try have q3 := ieq h3
              clear h1 h2
              try clear h3
              go_wp2_with (at_builtin; refine wpList_append_lies _ rfl (.tmp 60) (.tmp 62) 26 rfl C 3 i0 (.int .i64 0) 1 8 Try.underlying26 hi hz0 hz1 hz2 rfl (Nat.succ_pos 0) _ q (iv (intsB (besP E u x k))) rfl (HO.out.alloc _) ⟨wr.heap.size, 0, none⟩ 1 1 [.int .i64 (x : Int)] rfl rfl (cell_one_new _ _ _) (one_intR _) (Nat.lt_succ_self 0) z1 z2 Y3.out _ rfl ?_)
              intro g5 c5 w5 hv5 hg5 _ _
              have B5 : Hid (Below C w w5) := (HB.out.alloc sC.out _).grown hg5 Y3.out (fun q hq => (HO.out.lt q hq).1)
              have O5 : Hid (w5.ownsRow C 3 1 (.slice (some ⟨g5, 0, none⟩) (q + 1) c5) (q + 1) (iv (intsB (besP E u x (k + 1))))) := by
                show World.ownsRow _ _ _ _ _ _ _
                rw [BN2.out]; exact hv5
              clear hv5 hg5 HB HO sC Y3 c1 c2 c3
              go_wp2
              go_roundw
              case rel => exact ⟨k + 1, q + 1, c5, _, by omega, by go_num, rfl, by omega, O5, B5⟩
              case measure => simp [intOf]; omega
          · have BN2 : Hid (besP E u x (k + 1) = besP E u x k) := by show _ = _; rw [HBN.out, hb, List.append_nil]
            clear HBN BN hy hkE hkR hb Y3 z1 z2
            rcases hc with ⟨h1, h2, h3⟩ | ⟨h1, h2, h3⟩ | ⟨h1, h2⟩
            · have q1 := ieq h1
              have q2 := ine h2
              have q3 := ine h3
              clear h1 h2 h3
              go_wp2
              go_roundw
              case rel => exact ⟨k + 1, q, c, a, by omega, by go_num, rfl, by omega, by show World.ownsRow _ _ _ _ _ _ _; rw [BN2.out]; exact HO.out, HB⟩
              case measure => simp [intOf]; omega
            · have q1 := ine h1
              have q2 := ieq h2
              have q3 := ine h3
              clear h1 h2 h3
              go_wp2
              go_roundw
              case rel => exact ⟨k + 1, q, c, a, by omega, by go_num, rfl, by omega, by show World.ownsRow _ _ _ _ _ _ _; rw [BN2.out]; exact HO.out, HB⟩
              case measure => simp [intOf]; omega
            · have q1 := ine h1
              have q2 := ine h2
              clear h1 h2
              go_wp2
              go_roundw
              case rel => exact ⟨k + 1, q, c, a, by omega, by go_num, rfl, by omega, by show World.ownsRow _ _ _ _ _ _ _; rw [BN2.out]; exact HO.out, HB⟩
              case measure => simp [intOf]; omega
        · obtain rfl : k = M := by omega
          have OT : Hid (wr.ownsRow C 3 1 (.slice a q c) q (iv (intsB (besP E u (x + 1) 0)))) := by
            have := HO.out
            rw [HME.out] at this
            rw [← besP_turn]; exact this
          clear HO
          go_wp2
          go_roundw
          case rel => exact ⟨x + 1, q, c, a, by omega, by go_num, rfl, by omega, OT, HB⟩
          case measure => simp [intOf]; omega
    · obtain rfl : x = n := by omega
      rw [BA.out] at HO
      have OF : Hid (Own wr C wr.heap.size 3 (.slice a m c) (iv (intsB (besN x E u)))) := by
        refine Own.of_own ?_
        have e : (iv (intsB (besN x E u))).length = m := by have := HO.out.1; simpa using this
        rw [e]; exact HO.out
      clear HO
      go_wp2
      go_ret
      exact ⟨_, rfl, by rw [← HC.out]; exact OF.out, by rw [← HC.out]; exact HB.out⟩
end Go.Proofs.Ytmoelhaobnloaaa
