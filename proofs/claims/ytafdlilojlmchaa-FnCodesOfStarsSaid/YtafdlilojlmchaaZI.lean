/-
  The order of edges: what the program's comparison of two edges answers.
  Rows of edges (arrays of two numbers), where they lie; whether they ascend.
  The program's edge of two nodes, whichever is the lesser, and its reading of a row as an edge.
-/
import Derived.Test.YtafdlilojlmchaaZW
import Derived.Test.YtafdlilojlmchaaCInts
import Derived.Sort.Grow
import Derived.Test.YtafdlilojlmchaaZH
import Derived.Shelf.SlSortCmp.QuietGrown
import Derived.Test.YtafdlilojlmchaaZ5
import Derived.StillTailTactics
import Derived.Laws.ResultCell
namespace Go.Proofs.Ytafdlilojlmchaa
open Go.RowKit

/-- how two numbers stand to each other -/
def cmpZ (x y : Int) : Int := if x < y then -1 else if y < x then 1 else 0
/-- how two edges stand to each other -/
def cmpE (x y : Nat × Nat) : Int := if x.1 = y.1 then cmpZ x.2 y.2 else cmpZ x.1 y.1
def encE (e : Nat × Nat) : List Value := [.int .i64 (e.1 : Int), .int .i64 (e.2 : Int)]

set_option maxHeartbeats 800000 in
theorem cmpInt_p (x y : Int) (w : World) :
    Calls Try.prog 91 #[.int .i64 x, .int .i64 y] w fun e w' => e = .returned (.int .i64 (cmpZ x y)) ∧ w = w' := by
  have CN : Hid (∀ (z : Int) (W : World), Calls Try.prog 102 #[.int .i64 z] W fun e w' => e = .returned (.bool false) ∧ W = w') := fun z W => by
    go_enter Try.func102, Try.ntmps102
    go_wp2
    go_ret
    exact ⟨by simp, rfl⟩
  have h : (x < y ∧ cmpZ x y = -1) ∨ (¬ x < y ∧ y < x ∧ cmpZ x y = 1) ∨ (¬ x < y ∧ ¬ y < x ∧ cmpZ x y = 0) := by
    unfold cmpZ
    by_cases h1 : x < y
    · rw [if_pos h1]; exact .inl ⟨h1, rfl⟩
    · by_cases h2 : y < x
      · rw [if_neg h1, if_pos h2]; exact .inr (.inl ⟨h1, h2, rfl⟩)
      · rw [if_neg h1, if_neg h2]; exact .inr (.inr ⟨h1, h2, rfl⟩)
  obtain ⟨c, hc⟩ : ∃ c, c = cmpZ x y := ⟨_, rfl⟩
  rw [← hc] at h ⊢
  clear hc
  rcases h with ⟨h1, rfl⟩ | ⟨h1, h2, rfl⟩ | ⟨h1, h2, rfl⟩
  all_goals
    go_enter Try.func91, Try.ntmps91
    go_wp2_with fail
    refine (CN.out x _).mono ?_
    rintro e w1 ⟨rfl, rfl⟩
    go_wp2_with fail
    refine (CN.out y _).mono ?_
    rintro e w1 ⟨rfl, rfl⟩
    go_wp2
    go_ret
    exact ⟨rfl, rfl⟩

set_option maxHeartbeats 1600000 in
theorem cmpInts_p (a b c d : Int) (g1 g2 c1 c2 : Nat) (w : World)
    (h1 : w.cell? ⟨g1, 0, none⟩ = some (.int .i64 a)) (h2 : w.cell? ⟨g1, 1, none⟩ = some (.int .i64 b)) (h3 : w.cell? ⟨g2, 0, none⟩ = some (.int .i64 c)) (h4 : w.cell? ⟨g2, 1, none⟩ = some (.int .i64 d)) :
    Calls Try.prog 71 #[.slice (some ⟨g1, 0, none⟩) 2 c1, .slice (some ⟨g2, 0, none⟩) 2 c2] w fun e w' => e = .returned (.int .i64 (if a = c then cmpZ b d else cmpZ a c)) ∧ w = w' := by
  have CA := Lib.hid (cmpInt_p a c w)
  have CB := Lib.hid (cmpInt_p b d w)
  have hz : ∀ x y : Int, cmpZ x y = 0 ↔ x = y := fun x y => by unfold cmpZ; split <;> (try split) <;> omega
  have za := hz a c
  have zb := hz b d
  obtain ⟨p, hp⟩ : ∃ p, p = cmpZ a c := ⟨_, rfl⟩
  obtain ⟨q, hq⟩ : ∃ q, q = cmpZ b d := ⟨_, rfl⟩
  rw [← hp, ← hq]
  rw [← hp] at CA za
  rw [← hq] at CB zb
  clear hp hq hz
  obtain ⟨r, hr⟩ : ∃ r, r = (if a = c then q else p) := ⟨_, rfl⟩
  rw [← hr]
  have HR := Lib.hid hr
  have ZA := Lib.hid za
  have ZB := Lib.hid zb
  clear hr za zb
  go_enter Try.func71, Try.ntmps71
  go_wp2
  go_loop [11] (fun i => ∃ k : Nat, k ≤ 2 ∧ i = .int .i64 (k : Int) ∧ Hid (1 ≤ k → p = 0) ∧ Hid (2 ≤ k → q = 0)) (fun i => 2 - (intOf i).toNat)
  case atStart => exact ⟨0, by omega, rfl, fun h => by omega, fun h => by omega⟩
  case round =>
    obtain ⟨k, hk, rfl, H1, H2⟩ := hrel
    rcases Nat.lt_or_ge k 1 with hk0 | hk0
    · obtain rfl : k = 0 := by omega
      by_cases hp : p = 0
      · have H1' : Hid (p = 0) := hp
        have hp2 : (p == 0) = true := by simpa using hp
        clear hp
        go_wp2_with fail
        refine CA.out.mono ?_
        rintro e w1 ⟨rfl, rfl⟩
        go_wp2
        go_round
        case rel => exact ⟨1, by omega, by go_num, fun _ => H1'.out, fun h => by omega⟩
        case measure => simp [intOf]
      · have hp2 : (p == 0) = false := by simpa using hp
        have hac : ¬ a = c := fun h => hp (ZA.out.2 h)
        have E : Hid (r = p) := by show _ = _; rw [HR.out, if_neg hac]
        clear hac
        go_wp2_with fail
        refine CA.out.mono ?_
        rintro e w1 ⟨rfl, rfl⟩
        go_wp2
        go_ret
        exact ⟨by rw [E.out]; rfl, rfl⟩
    · have hp0 : p = 0 := H1.out hk0
      have hac : a = c := ZA.out.1 hp0
      have E : Hid (r = q) := by show _ = _; rw [HR.out, if_pos hac]
      clear hac hp0
      rcases Nat.lt_or_ge k 2 with hk1 | hk1
      · obtain rfl : k = 1 := by omega
        by_cases hq : q = 0
        · have E0 : Hid (p = 0) := H1.out hk0
          have E1 : Hid (q = 0) := hq
          have hq2 : (q == 0) = true := by simpa using hq
          clear hq
          go_wp2_with fail
          refine CB.out.mono ?_
          rintro e w1 ⟨rfl, rfl⟩
          go_wp2
          go_round
          case rel => exact ⟨2, by omega, by go_num, fun _ => E0.out, fun _ => E1.out⟩
          case measure => simp [intOf]
        · have hp2 : (q == 0) = false := by simpa using hq
          go_wp2_with fail
          refine CB.out.mono ?_
          rintro e w1 ⟨rfl, rfl⟩
          go_wp2
          go_ret
          exact ⟨by rw [E.out]; rfl, rfl⟩
      · obtain rfl : k = 2 := by omega
        have E0 : Hid (q = 0) := H2.out (by omega)
        go_wp2
        go_ret
        exact ⟨by rw [E.out, E0.out]; rfl, rfl⟩

set_option maxHeartbeats 1600000 in
/-- the program's comparison of two edges: it lays both; nothing else turns -/
theorem compare_p (x y : Nat × Nat) (w : World) :
    Calls Try.prog 45 #[.agg (encE x).toArray, .agg (encE y).toArray] w fun e w' => e = .returned (.int .i64 (cmpE x y)) ∧ ∃ q os, w' = Sort.grow (w.drewN q) os := by
  obtain ⟨a, b⟩ := x
  obtain ⟨c, d⟩ := y
  have hz : (if (a : Int) = (c : Int) then cmpZ b d else cmpZ a c) = cmpE (a, b) (c, d) := by
    unfold cmpE
    by_cases h : a = c
    · rw [if_pos (by omega), if_pos h]
    · rw [if_neg (by omega), if_neg h]
  have C := Lib.hid (fun (c1 c2 : Nat) (W : World) (g1 g2 : Nat) h1 h2 h3 h4 => cmpInts_p (a : Int) b c d g1 g2 c1 c2 W h1 h2 h3 h4)
  simp only [hz] at C
  obtain ⟨r, hr⟩ : ∃ r, r = cmpE (a, b) (c, d) := ⟨_, rfl⟩
  simp only [← hr] at C ⊢
  clear hr hz
  obtain ⟨G, hG⟩ : ∃ G, G = w.heap.size := ⟨_, rfl⟩
  obtain ⟨W2, hW2⟩ : ∃ W2, W2 = (w.alloc (.cells #[.int .i64 (a : Int), .int .i64 (b : Int)] 66)).alloc (.cells #[.int .i64 (c : Int), .int .i64 (d : Int)] 66) := ⟨_, rfl⟩
  have k1 : W2.cell? ⟨G, 0, none⟩ = some (.int .i64 (a : Int)) := by rw [hW2, hG]; simp
  have k2 : W2.cell? ⟨G, 1, none⟩ = some (.int .i64 (b : Int)) := by rw [hW2, hG]; simp
  have k3 : W2.cell? ⟨G + 1, 0, none⟩ = some (.int .i64 (c : Int)) := by rw [hW2, hG]; simp
  have k4 : W2.cell? ⟨G + 1, 1, none⟩ = some (.int .i64 (d : Int)) := by rw [hW2, hG]; simp
  have CC : Hid (∀ (c1 c2 z : Nat), Calls Try.prog 71 #[.slice (some ⟨G, 0, none⟩) 2 c1, .slice (some ⟨G + 1, 0, none⟩) 2 c2] (W2.drewN z) fun e w' => e = .returned (.int .i64 r) ∧ w' = W2.drewN z) := fun c1 c2 z =>
    (C.out c1 c2 (W2.drewN z) G (G + 1) k1 k2 k3 k4).mono fun _ _ ⟨h, h2⟩ => ⟨h, h2.symm⟩
  have HW : Hid (W2 = Sort.grow w #[.cells #[.int .i64 (a : Int), .int .i64 (b : Int)] 66, .cells #[.int .i64 (c : Int), .int .i64 (d : Int)] 66]) := by
    show _ = _
    rw [hW2, Sort.alloc_eq_grow, Sort.alloc_eq_grow, Sort.grow_grow]; rfl
  clear C k1 k2 k3 k4
  go_enter Try.func45, Try.ntmps45
  simp only [encE]
  go_wp2_with fail
  simp only [← hG, ← hW2]
  clear hG hW2
  go_quiet ((go_at_call 71; exact Calls.quiet_of_same (CC.out _ _ _)))
  go_wp2
  go_ret
  exact ⟨rfl, nq, #[.cells #[.int .i64 (a : Int), .int .i64 (b : Int)] 66, .cells #[.int .i64 (c : Int), .int .i64 (d : Int)] 66], by rw [HW.out]; rfl⟩
end Go.Proofs.Ytafdlilojlmchaa

namespace Go.Proofs.Ytafdlilojlmchaa
open Go.RowKit

def flatE (E : Edges) : List Value := E.flatMap encE
theorem flatE_length (E : Edges) : (flatE E).length = E.length * 2 := by
  induction E with
  | nil => rfl
  | cons e r ih => simp only [flatE, List.flatMap_cons, List.length_append, List.length_cons] at ih ⊢; rw [ih]; simp [encE]; omega
theorem flatE_cons (e : Nat × Nat) (E : Edges) : flatE (e :: E) = [.int .i64 (e.1 : Int), .int .i64 (e.2 : Int)] ++ flatE E := rfl
theorem flatE_append (A B : Edges) : flatE (A ++ B) = flatE A ++ flatE B := by simp [flatE]
theorem flatE_at (E : Edges) : ∀ (j : Nat) (h : j < E.length), (flatE E)[j * 2]? = some (.int .i64 (E[j].1 : Int)) ∧ (flatE E)[j * 2 + 1]? = some (.int .i64 (E[j].2 : Int)) := by
  induction E with
  | nil => intro j h; simp at h
  | cons e r ih =>
    intro j h
    cases j with
    | zero => rw [flatE_cons]; exact ⟨rfl, rfl⟩
    | succ j =>
      obtain ⟨i1, i2⟩ := ih j (by simpa using h)
      rw [flatE_cons]
      have e1 : (j + 1) * 2 = (j * 2) + 1 + 1 := by omega
      rw [e1]
      exact ⟨by simpa using i1, by simpa using i2⟩
theorem flatE_one (E : Edges) : ∀ u ∈ flatE E, u.oneCell' = true := by
  intro u hu
  obtain ⟨e, _, h⟩ := List.mem_flatMap.1 hu
  simp only [encE, List.mem_cons, List.not_mem_nil, or_false] at h
  rcases h with rfl | rfl <;> rfl
/-- a row of edges of the call's own, in blocks from B on and below H -/
def ERow (w : World) (B H : Nat) (v : Value) (E : Edges) : Prop := w.ownsRow B 66 2 v E.length (flatE E) ∧ ∀ g, v.ownBlock = some g → g < H
section
variable {w w' : World} {B H : Nat} {v : Value} {E : Edges}
theorem own_blocks2 {n k : Nat} {xs : List Value} {t : TypeId} (h : w.ownsRow B t k v n xs) (hb : ∀ g, v.ownBlock = some g → w'.heap[g]? = w.heap[g]?) : w'.ownsRow B t k v n xs := by
  refine ⟨h.1, ?_⟩
  rcases h.2 with hn | ⟨g, cap, cur, rfl, h1, h2, rest⟩
  · exact .inl hn
  · exact .inr ⟨g, cap, cur, rfl, h1, by rw [hb g rfl]; exact h2, rest⟩
theorem ERow.below (h : ERow w B H v E) (hb : Below H w w') : ERow w' B H v E := ⟨own_blocks2 h.1 fun g hg => hb.block g (h.2 g hg), h.2⟩
theorem ERow.more {H' : Nat} (h : ERow w B H v E) (hH : H ≤ H') : ERow w B H' v E := ⟨h.1, fun g hg => Nat.lt_of_lt_of_le (h.2 g hg) hH⟩
theorem ERow.of (h : w.ownsRow B 66 2 v E.length (flatE E)) : ERow w B w.heap.size v E := ⟨h, fun g hg => (h.lt g hg).2⟩
theorem ERow.slice (h : ERow w B H v E) : ∃ ao cap, v = .slice ao E.length cap ∧ (ao = none → E = [] ∧ cap = 0) ∧ E.length ≤ cap ∧ cap ≤ maxLen ∧ ∀ a, ao = some a → ∃ g, a = ⟨g, 0, none⟩ ∧ B ≤ g ∧ g < H := by
  rcases h.1.2 with ⟨rfl, h0⟩ | ⟨g, cap, cur, rfl, h1, h2, h3, h4, _⟩
  · exact ⟨none, 0, by rw [h0], fun _ => ⟨List.eq_nil_of_length_eq_zero h0, rfl⟩, by omega, by simp [maxLen], fun a ha => by cases ha⟩
  · exact ⟨some ⟨g, 0, none⟩, cap, rfl, (fun e => by cases e), h3, h4, fun a ha => ⟨g, by cases ha; rfl, h1, h.2 g rfl⟩⟩
/-- an edge of it, where it lies -/
theorem ERow.at_ (h : ERow w B H v E) (j : Nat) (hj : j < E.length) : ∃ g cap, v = .slice (some ⟨g, 0, none⟩) E.length cap ∧ B ≤ g ∧ g < H ∧ g < w.heap.size ∧ w.cell? ⟨g, j * 2, none⟩ = some (.int .i64 (E[j].1 : Int)) ∧ w.cell? ⟨g, j * 2 + 1, none⟩ = some (.int .i64 (E[j].2 : Int)) := by
  have hl := h.1.1
  rcases h.1.2 with ⟨rfl, h0⟩ | ⟨g, cap, cur, rfl, h1, h2, h3, h4, h5, h6⟩
  · omega
  · have hg : g < w.heap.size := (h.1.lt g rfl).2
    obtain ⟨f1, f2⟩ := flatE_at E j hj
    have hc : ∀ i, i < E.length * 2 → w.cell? ⟨g, i, none⟩ = (flatE E)[i]? := fun i hi => by
      rw [← h6, List.getElem?_take_of_lt hi]
      simp [World.cell?, h2]
    exact ⟨g, cap, rfl, h1, h.2 g rfl, hg, (hc _ (by omega)).trans f1, (hc _ (by omega)).trans f2⟩
end
theorem cmpE_lt (x y : Nat × Nat) : cmpE x y < 0 ↔ ltP x y = true := by
  rw [ltP_iff]
  unfold cmpE cmpZ
  split <;> split <;> (try split) <;> omega
/-- no edge is less than the one ahead of it, from the place k on -/
def upB (E : Edges) : Bool := (List.range (E.length - 1)).all fun i => !ltP (E.getD (i + 1) (0, 0)) (E.getD i (0, 0))
theorem upB_iff (E : Edges) : upB E = true ↔ ∀ (i : Nat) (h : i + 1 < E.length), ltP E[i + 1] (E[i]'(by omega)) = false := by
  unfold upB
  rw [List.all_eq_true]
  constructor
  · intro h i hi
    have := h i (List.mem_range.2 (by omega))
    rw [Bool.not_eq_true', List.getD_eq_getElem?_getD, List.getD_eq_getElem?_getD, List.getElem?_eq_getElem hi, List.getElem?_eq_getElem (by omega : i < E.length)] at this
    exact this
  · intro h i hi
    have hi := List.mem_range.1 hi
    have := h i (by omega)
    rw [Bool.not_eq_true', List.getD_eq_getElem?_getD, List.getD_eq_getElem?_getD, List.getElem?_eq_getElem (by omega : i + 1 < E.length), List.getElem?_eq_getElem (by omega : i < E.length)]
    exact this
/-- a world with draws and new blocks behind -/
def Wide (w w' : World) : Prop := ∃ q os, w' = Sort.grow (w.drewN q) os
theorem Wide.refl (w : World) : Wide w w := ⟨0, #[], (Sort.grow_empty _).symm⟩
theorem Wide.trans {a b c : World} (h : Wide a b) (k : Wide b c) : Wide a c := by
  obtain ⟨q, os, rfl⟩ := h
  obtain ⟨q', os', rfl⟩ := k
  exact ⟨q + q', os ++ os', by show Sort.grow (Sort.grow ((a.drewN q).drewN q') os) os' = _; rw [Sort.grow_grow, World.drewN_drewN]⟩
theorem Wide.below {a b : World} (h : Wide a b) : Below a.heap.size a b := by
  obtain ⟨q, os, rfl⟩ := h
  exact ⟨rfl, rfl, rfl, by rw [Sort.size_grow]; exact Nat.le_add_right _ _, fun k hk => Sort.heap_grow_old (a.drewN q) os hk⟩

set_option maxHeartbeats 1600000 in
theorem isSorted_p (E : Edges) (v : Value) (w : World) {B H : Nat} (hE : Hid (ERow w B H v E)) (hel : E.length ≤ 64) :
    Calls Try.prog 63 #[v, .func (.func 45) #[] #[]] w fun e w' => e = .returned (.bool (upB E)) ∧ Wide w w' := by
  have eg : ∀ args w, (callFunc 45 args).run Try.prog w = .ok (.enter 45 args) w := enters_of Try.func45 (by kernel_rfl) rfl
  have mixed : Try.prog.follows .mixedOrders = true := by kernel_rfl
  rcases Nat.eq_zero_or_pos E.length with h0 | h0
  · obtain rfl := List.eq_nil_of_length_eq_zero h0
    obtain ⟨ao, cap, rfl, _, _, _, _⟩ := hE.out.slice
    clear hE h0
    go_enter Try.func63, Try.ntmps63
    go_wp2
    refine wp_loop_rounds 1 ?_
    rw [rounds_succ]
    go_wp2
    go_ret
    exact ⟨rfl, Wide.refl _⟩
  · obtain ⟨g, cap, rfl, hd1, hd2, hg, hd3⟩ := hE.out.at_ 0 h0
    have HE : Hid (∀ W, Wide w W → ∀ (j : Nat) (hj : j < E.length), W.cell? ⟨g, j * 2, none⟩ = some (.int .i64 (E[j].1 : Int)) ∧ W.cell? ⟨g, j * 2 + 1, none⟩ = some (.int .i64 (E[j].2 : Int))) := fun W hW j hj => by
      obtain ⟨g', cap', e1, _, _, _, c1, c2⟩ := hE.out.at_ j hj
      simp only [Value.slice.injEq, Option.some.injEq, Addr.mk.injEq] at e1
      obtain ⟨⟨rfl, _, _⟩, _, _⟩ := e1
      exact ⟨(hW.below.cell (p := ⟨g, j * 2, none⟩) hg).trans c1, (hW.below.cell (p := ⟨g, j * 2 + 1, none⟩) hg).trans c2⟩
    have HG := Lib.hid hg
    obtain ⟨n, hn⟩ : ∃ n, E.length = n + 1 := ⟨E.length - 1, by omega⟩
    have HU := Lib.hid (upB_iff E)
    have HN := Lib.hid hn
    rw [hn]
    have e0 : IntKind.i64.wrap (((n + 1 : Nat) : Int) - 1) = (n : Int) := by rw [IntKind.wrap_i64]; omega
    have e0' : Hid (wrap64 (n : Int) = (n : Int)) := by show _ = _; unfold wrap64; omega
    clear hd1 hd2 hd3 hE h0 hn hg
    go_enter Try.func63, Try.ntmps63
    go_wp2
    go_loopw [5] (fun i wr => ∃ k : Nat, k ≤ n ∧ i = .int .i64 (k : Int) ∧ Hid (Wide w wr) ∧ Hid (∀ (i : Nat) (h : i + 1 < E.length), k ≤ i → ltP E[i + 1] (E[i]'(by omega)) = false)) (fun i _ => (intOf i).toNat)
    case atStart => exact ⟨n, Nat.le_refl _, by first | rfl | (congr 1; done) | (congr 1; exact e0'.out), Wide.refl _, fun i h hk => by have := HN.out; omega⟩
    case round =>
      obtain ⟨k, hk, rfl, HW, HK⟩ := hrel
      rcases Nat.eq_zero_or_pos k with hk0 | hk0
      · subst hk0
        have hu := Lib.hid (HU.out.2 fun i h => HK.out i h (Nat.zero_le _))
        go_wp2
        go_ret
        exact ⟨by rw [hu.out]; rfl, HW.out⟩
      · obtain ⟨t, rfl⟩ : ∃ t, k = t + 1 := ⟨k - 1, by omega⟩
        have hl : t + 1 < E.length := by have := HN.out; omega
        obtain ⟨a1, a2⟩ := HE.out wr HW.out (t + 1) hl
        obtain ⟨b1, b2⟩ := HE.out wr HW.out t (by omega)
        obtain ⟨x, hx⟩ : ∃ x, x = E[t + 1] := ⟨_, rfl⟩
        obtain ⟨y, hy⟩ : ∃ y, y = E[t] := ⟨_, rfl⟩
        have HX : Hid (ltP x y = ltP E[t + 1] E[t]) := by show _ = _; rw [hx, hy]
        rw [← hx] at a1 a2
        rw [← hy] at b1 b2
        obtain ⟨t1, ht1⟩ : ∃ t1, t1 = t + 1 := ⟨_, rfl⟩
        rw [← ht1] at a1 a2
        have hgr : g < wr.heap.size := Nat.lt_of_lt_of_le HG.out HW.out.below.size
        have A1 := fun n os => cell_grown (by exact hgr) a1 n os
        have A2 := fun n os => cell_grown (by exact hgr) a2 n os
        have B1 := fun n os => cell_grown (by exact hgr) b1 n os
        have B2 := fun n os => cell_grown (by exact hgr) b2 n os
        have C := Lib.hid (fun (n : Nat) (os : Array Obj) => compare_p x y (Sort.grow (wr.drewN n) os))
        have p0 : (0 : Int) < (t : Int) + 1 := by omega
        have p1 : (0 : Int) ≤ (t : Int) + 1 := by omega
        have p2 : (t : Int) + 1 < (n : Int) + 1 := by have := HN.out; omega
        have p3 : ((t : Int) + 1).toNat = t1 := by omega
        have p4 : (t : Int) < (n : Int) + 1 := by have := HN.out; omega
        have p5 : IntKind.i64.wrap ((t : Int) + 1) = (t : Int) + 1 := by rw [IntKind.wrap_i64]; have := HN.out; omega
        have p6 : IntKind.i64.wrap (t : Int) = (t : Int) := by rw [IntKind.wrap_i64]; have := HN.out; omega
        have hc := cmpE_lt x y
        obtain ⟨c, hcc⟩ : ∃ c, c = cmpE x y := ⟨_, rfl⟩
        rw [← hcc] at hc
        simp only [← hcc] at C
        clear hx hy hcc a1 a2 b1 b2 hgr ht1 hk0
        cases hl : ltP x y with
        | true =>
          have hn : c < 0 := hc.2 hl
          have hz : Hid (upB E = false) := by
            show _ = _
            cases hh : upB E with
            | false => rfl
            | true =>
              have := HU.out.1 hh t (by omega)
              rw [← HX.out, hl] at this
              cases this
          clear hl hc
          go_wp2
          go_quiet_grown ((go_at_call 45; exact Calls.grown_of (C.out _ _)))
          go_wp2
          go_ret
          exact ⟨by rw [hz.out]; rfl, HW.out.trans ⟨_, _, rfl⟩⟩
        | false =>
          have hlt := hl
          have hn : ¬ c < 0 := fun h => by rw [hc.1 h] at hl; cases hl
          have HK2 : Hid (∀ (i : Nat) (h : i + 1 < E.length), t ≤ i → ltP E[i + 1] (E[i]'(by omega)) = false) := fun i h ht => by
            by_cases e : i = t
            · subst e; rw [← HX.out]; exact hlt
            · exact HK.out i h (by omega)
          clear hl hlt hc HK
          go_wp2
          go_quiet_grown ((go_at_call 45; exact Calls.grown_of (C.out _ _)))
          have HW2 : Hid (Wide w (Sort.grow (wr.drewN nq) osq)) := HW.out.trans ⟨_, _, rfl⟩
          go_wp2
          go_roundw
          case rel => exact ⟨t, by omega, by go_num, HW2, HK2⟩
          case measure => simp [intOf]
end Go.Proofs.Ytafdlilojlmchaa

namespace Go.Proofs.Ytafdlilojlmchaa
open Go.RowKit

set_option maxHeartbeats 400000 in
theorem edgeOf_any (a b : Nat) (w : World) :
    Calls Try.prog 43 #[.int .i64 (a : Int), .int .i64 (b : Int)] w fun e w' => e = .returned (.agg #[.int .i64 ((norm (a, b)).1 : Int), .int .i64 ((norm (a, b)).2 : Int)]) ∧ Below w.heap.size w w' := by
  rcases Nat.lt_trichotomy a b with h | h | h
  · have hn : norm (a, b) = (a, b) := by unfold norm; simp only [Prod.mk.injEq]; omega
    rw [hn]
    have d1 : (a : Int) < (b : Int) := by omega
    clear hn h
    go_enter Try.func43, Try.ntmps43
    go_wp2
    refine bodyPost_ret (results_cell_row rfl _ _ w.heap.size _ _ _ _ rfl (heap_alloc_new w _) Try.underlying66 rfl (by kernel_rfl)) rfl ?_
    exact ⟨rfl, (Below.refl _ _).alloc (Nat.le_refl _) _⟩
  · subst h
    have hn : norm (a, a) = (a, a) := by unfold norm; simp only [Prod.mk.injEq]; omega
    rw [hn]
    have d1 : ¬ (a : Int) < (a : Int) := by omega
    clear hn
    go_enter Try.func43, Try.ntmps43
    go_wp2
    refine bodyPost_ret (results_cell_row rfl _ _ w.heap.size _ _ _ _ rfl (heap_alloc_new w _) Try.underlying66 rfl (by kernel_rfl)) rfl ?_
    exact ⟨rfl, (Below.refl _ _).alloc (Nat.le_refl _) _⟩
  · have hn : norm (a, b) = (b, a) := by unfold norm; simp only [Prod.mk.injEq]; omega
    rw [hn]
    have d1 : (b : Int) < (a : Int) := by omega
    clear hn h
    go_enter Try.func43, Try.ntmps43
    go_wp2
    refine bodyPost_ret (results_cell_row rfl _ _ w.heap.size _ _ _ _ rfl (heap_alloc_new w _) Try.underlying66 rfl (by kernel_rfl)) rfl ?_
    exact ⟨rfl, (Below.refl _ _).alloc (Nat.le_refl _) _⟩
/-- the edge of a row, or two zeros -/
def rowEdge (n : Int) (r : List Int) : Nat × Nat := if rowW n r then norm ((r.getD 0 0).toNat, (r.getD 1 0).toNat) else (0, 0)

theorem below_draw {B : Nat} {w w1 : World} (h : Below B w w1) (z : Nat) : Below B w (w1.drewN z) := h.trans ⟨rfl, rfl, rfl, Nat.le_refl _, fun _ _ => rfl⟩
theorem results_row_tmp {P : Program} {fn : Func} {p u : Tmp} {ty : TypeId} (h : fn.results = #[.cell p ty, .tmp u]) (tmps : Array Value) (w : World) (g : Nat) (t : TypeId) (cs : Array Value) (fr : Nat × Nat) (d : TypeDesc)
    (hp : tmps.getD p undef = .pointer (some ⟨g, 0, none⟩)) (hg : w.heap[g]? = some (.cells cs t fr))
    (hu : P.underlying ty = some d) (hd : (match d with | .struct _ | .array _ _ => true | _ => false) = true) (hi : (P.info? ty).map (·.size) = some cs.size) :
    (results fn tmps).run P w = .ok (.tuple #[.agg cs, tmps.getD u undef]) w := by
  rw [results_cell_tmp h, hp]
  simp [asAddr, Result.andThen, run_loadVar_row w g t ty cs fr d hg hu hd hi]
set_option maxRecDepth 100000 in
set_option maxHeartbeats 3200000 in
theorem edgeOfRow_two (n x y : Int) (gr cr : Nat) (w : World) (h0 : w.cell? ⟨gr, 0, none⟩ = some (.int .i64 x)) (h1 : w.cell? ⟨gr, 1, none⟩ = some (.int .i64 y)) :
    Calls Try.prog 62 #[.int .i64 n, .slice (some ⟨gr, 0, none⟩) 2 cr] w fun e w' => e = .returned (.tuple #[.agg #[.int .i64 ((rowEdge n [x, y]).1 : Int), .int .i64 ((rowEdge n [x, y]).2 : Int)], .bool (decide (rowW n [x, y]))]) ∧ Below w.heap.size w w' := by
  obtain ⟨G, hG⟩ : ∃ G, G = w.heap.size := ⟨_, rfl⟩
  have hgr : gr < w.heap.size := World.block_lt_of_cell? w _ h0
  have HG := Lib.hid hG
  have RA := Lib.hid (heap_alloc_new w (.cells #[.int .i64 0, .int .i64 0] 66))
  have k1 : ∀ z : Nat, ((w.alloc (.cells #[.int .i64 0, .int .i64 0] 66)).drewN z).heap[w.heap.size]? = some (.cells #[.int .i64 0, .int .i64 0] 66 (0, 0)) := fun _ => RA.out
  have RZ : Hid (∀ z : Nat, ((((w.alloc (.cells #[.int .i64 0, .int .i64 0] 66)).drewN z).setCell ⟨w.heap.size, 0, none⟩ (.int .i64 0)).setCell ⟨w.heap.size, 1, none⟩ (.int .i64 0)).heap[w.heap.size]? = some (.cells #[.int .i64 0, .int .i64 0] 66 (0, 0))) := fun z =>
    heap_setCell_same _ w.heap.size 1 _ _ (.int .i64 0) (heap_setCell_same _ w.heap.size 0 _ _ (.int .i64 0) (k1 z))
  have BZ : Hid (∀ z : Nat, Below w.heap.size w ((((w.alloc (.cells #[.int .i64 0, .int .i64 0] 66)).drewN z).setCell ⟨w.heap.size, 0, none⟩ (.int .i64 0)).setCell ⟨w.heap.size, 1, none⟩ (.int .i64 0))) := fun z =>
    ((below_draw ((Below.refl _ w).alloc (Nat.le_refl _) _) z).setCell (p := ⟨w.heap.size, 0, none⟩) (Nat.le_refl _) _).setCell (p := ⟨w.heap.size, 1, none⟩) (Nat.le_refl _) _
  have q2 : ((2 : Int) != 2) = false := rfl
  clear k1 hG
  by_cases hbad : min x y < 0 ∨ n ≤ max x y
  · have hW : ¬ rowW n [x, y] := by rintro ⟨_, ⟨h1, h2⟩, h3, h4⟩; simp only [List.getD_cons_zero, List.getD_cons_succ] at h1 h2 h3 h4; omega
    rw [rowEdge, if_neg hW, decide_eq_false hW]
    clear hW
    rcases Int.lt_trichotomy x y with d | d | d
    · by_cases hlow : x < 0
      · clear hbad
        go_enter Try.func62, Try.ntmps62
        go_wp2_with fail
        go_quiet (fail)
        go_wp2
        refine bodyPost_ret (results_row_tmp rfl _ _ w.heap.size _ _ _ _ rfl (RZ.out nq) Try.underlying66 rfl (by kernel_rfl)) rfl ?_
        exact ⟨rfl, BZ.out nq⟩
      · have hhigh : decide (n ≤ y) = true := decide_eq_true (by omega)
        have hlo : decide (x < 0) = false := decide_eq_false hlow
        clear hbad hlow
        go_enter Try.func62, Try.ntmps62
        go_wp2_with fail
        go_quiet (fail)
        go_wp2
        refine bodyPost_ret (results_row_tmp rfl _ _ w.heap.size _ _ _ _ rfl (RZ.out nq) Try.underlying66 rfl (by kernel_rfl)) rfl ?_
        exact ⟨rfl, BZ.out nq⟩
    · subst d
      have d : ¬ x < x := by omega
      by_cases hlow : x < 0
      · clear hbad
        go_enter Try.func62, Try.ntmps62
        go_wp2_with fail
        go_quiet (fail)
        go_wp2
        refine bodyPost_ret (results_row_tmp rfl _ _ w.heap.size _ _ _ _ rfl (RZ.out nq) Try.underlying66 rfl (by kernel_rfl)) rfl ?_
        exact ⟨rfl, BZ.out nq⟩
      · have hhigh : decide (n ≤ x) = true := decide_eq_true (by omega)
        have hlo : decide (x < 0) = false := decide_eq_false hlow
        clear hbad hlow
        go_enter Try.func62, Try.ntmps62
        go_wp2_with fail
        go_quiet (fail)
        go_wp2
        refine bodyPost_ret (results_row_tmp rfl _ _ w.heap.size _ _ _ _ rfl (RZ.out nq) Try.underlying66 rfl (by kernel_rfl)) rfl ?_
        exact ⟨rfl, BZ.out nq⟩
    · by_cases hlow : y < 0
      · clear hbad
        go_enter Try.func62, Try.ntmps62
        go_wp2_with fail
        go_quiet (fail)
        go_wp2
        refine bodyPost_ret (results_row_tmp rfl _ _ w.heap.size _ _ _ _ rfl (RZ.out nq) Try.underlying66 rfl (by kernel_rfl)) rfl ?_
        exact ⟨rfl, BZ.out nq⟩
      · have hhigh : decide (n ≤ x) = true := decide_eq_true (by omega)
        have hlo : decide (y < 0) = false := decide_eq_false hlow
        clear hbad hlow
        go_enter Try.func62, Try.ntmps62
        go_wp2_with fail
        go_quiet (fail)
        go_wp2
        refine bodyPost_ret (results_row_tmp rfl _ _ w.heap.size _ _ _ _ rfl (RZ.out nq) Try.underlying66 rfl (by kernel_rfl)) rfl ?_
        exact ⟨rfl, BZ.out nq⟩
  · have hW : rowW n [x, y] := ⟨rfl, by simp only [List.getD_cons_zero]; omega, by simp only [List.getD_cons_succ, List.getD_cons_zero]; omega⟩
    rw [rowEdge, if_pos hW, decide_eq_true hW]
    simp only [List.getD_cons_zero, List.getD_cons_succ]
    have CE : Hid (∀ W, Calls Try.prog 43 #[.int .i64 x, .int .i64 y] W fun e w' => e = .returned (.agg #[.int .i64 ((norm (x.toNat, y.toNat)).1 : Int), .int .i64 ((norm (x.toNat, y.toNat)).2 : Int)]) ∧ Below W.heap.size W w') := fun W => by
      have := edgeOf_any x.toNat y.toNat W
      rwa [Int.toNat_of_nonneg (by omega), Int.toNat_of_nonneg (by omega)] at this
    obtain ⟨z, hz⟩ : ∃ z, z = norm (x.toNat, y.toNat) := ⟨_, rfl⟩
    simp only [← hz] at CE ⊢
    clear hW hz RZ BZ
    rcases Int.lt_trichotomy x y with d0 | d0 | d0
    · have d : x < y := d0
      have l0 : decide (x < 0) = false := decide_eq_false (by omega)
      have l1 : decide (n ≤ y) = false := decide_eq_false (by omega)
      clear hbad d0
      go_enter Try.func62, Try.ntmps62
      go_wp2_with fail
      go_quiet (fail)
      go_wp2_with fail
      obtain ⟨w1, hw1⟩ : ∃ w1, w1 = (w.alloc (.cells #[.int .i64 0, .int .i64 0] 66)).drewN nq := ⟨_, rfl⟩
      have hb1 : Below w.heap.size w w1 := by rw [hw1]; exact below_draw ((Below.refl _ w).alloc (Nat.le_refl _) _) _
      have hr1 : w1.heap[w.heap.size]? = some (.cells #[.int .i64 0, .int .i64 0] 66 (0, 0)) := by rw [hw1]; exact RA.out
      have c0 := (hb1.cell (p := ⟨gr, 0, none⟩) hgr).trans h0
      have c1 := (hb1.cell (p := ⟨gr, 1, none⟩) hgr).trans h1
      have hz1 : w.heap.size < w1.heap.size := by rw [hw1]; show _ < (w.alloc _).heap.size; rw [World.size_alloc]; omega
      rw [← hw1]
      have HB1 := Lib.hid hb1
      have HR1 := Lib.hid hr1
      have HZ1 := Lib.hid hz1
      clear h0 h1 RA hw1 hb1 hr1 hz1
      go_still_tail 6, (by kernel_rfl)
      change wpList _ _ _ _ _ w1.drew
      obtain ⟨w2, hw2⟩ : ∃ w2, w2 = w1.drew := ⟨_, rfl⟩
      have HB2 : Hid (Below w.heap.size w w2) := by show Below _ _ _; rw [hw2]; exact HB1.out.trans ⟨rfl, rfl, rfl, Nat.le_refl _, fun _ _ => rfl⟩
      have HR2 : Hid (w2.heap[w.heap.size]? = some (.cells #[.int .i64 0, .int .i64 0] 66 (0, 0))) := by show _ = _; rw [hw2]; exact HR1.out
      have HZ2 : Hid (w.heap.size < w2.heap.size) := by show _ < _; rw [hw2]; exact HZ1.out
      rw [← hw2]
      clear hw2 HB1 HR1 HZ1 c0 c1
      go_wp2_with fail
      refine (CE.out w2).mono ?_
      rintro e w3 ⟨rfl, b3⟩
      have hr3 : w3.heap[w.heap.size]? = some (.cells #[.int .i64 0, .int .i64 0] 66 (0, 0)) := (b3.block _ HZ2.out).trans HR2.out
      have B3 := Lib.hid (HB2.out.trans (b3.mono (Nat.le_of_lt HZ2.out)))
      have z1 : w3.cell? ⟨w.heap.size, 0, none⟩ = some (.int .i64 0) := by simp [World.cell?, hr3]
      have z2 : w3.cell? ⟨w.heap.size, 1, none⟩ = some (.int .i64 0) := by simp [World.cell?, hr3]
      have f1 := frozen_of_row w3 w.heap.size 0 _ _ hr3
      have f2 := frozen_of_row w3 w.heap.size 1 _ _ hr3
      have R1 := heap_setCell_same w3 w.heap.size 0 _ _ (.int .i64 (z.1 : Int)) hr3
      have R2 := Lib.hid (heap_setCell_same _ w.heap.size 1 _ _ (.int .i64 (z.2 : Int)) R1)
      have B4 : Hid (Below w.heap.size w ((w3.setCell ⟨w.heap.size, 0, none⟩ (.int .i64 (z.1 : Int))).setCell ⟨w.heap.size, 1, none⟩ (.int .i64 (z.2 : Int)))) := (B3.out.setCell (p := ⟨w.heap.size, 0, none⟩) (Nat.le_refl _) _).setCell (p := ⟨w.heap.size, 1, none⟩) (Nat.le_refl _) _
      clear hr3 b3 R1 CE
      go_wp2
      refine bodyPost_ret (results_row_tmp rfl _ _ w.heap.size _ _ _ _ rfl R2.out Try.underlying66 rfl (by kernel_rfl)) rfl ?_
      exact ⟨rfl, B4.out⟩
    · subst d0
      have d : ¬ x < x := by omega
      have l0 : decide (x < 0) = false := decide_eq_false (by omega)
      have l1 : decide (n ≤ x) = false := decide_eq_false (by omega)
      clear hbad
      go_enter Try.func62, Try.ntmps62
      go_wp2_with fail
      go_quiet (fail)
      go_wp2_with fail
      obtain ⟨w1, hw1⟩ : ∃ w1, w1 = (w.alloc (.cells #[.int .i64 0, .int .i64 0] 66)).drewN nq := ⟨_, rfl⟩
      have hb1 : Below w.heap.size w w1 := by rw [hw1]; exact below_draw ((Below.refl _ w).alloc (Nat.le_refl _) _) _
      have hr1 : w1.heap[w.heap.size]? = some (.cells #[.int .i64 0, .int .i64 0] 66 (0, 0)) := by rw [hw1]; exact RA.out
      have c0 := (hb1.cell (p := ⟨gr, 0, none⟩) hgr).trans h0
      have c1 := (hb1.cell (p := ⟨gr, 1, none⟩) hgr).trans h1
      have hz1 : w.heap.size < w1.heap.size := by rw [hw1]; show _ < (w.alloc _).heap.size; rw [World.size_alloc]; omega
      rw [← hw1]
      have HB1 := Lib.hid hb1
      have HR1 := Lib.hid hr1
      have HZ1 := Lib.hid hz1
      clear h0 h1 RA hw1 hb1 hr1 hz1
      go_still_tail 6, (by kernel_rfl)
      change wpList _ _ _ _ _ w1.drew
      obtain ⟨w2, hw2⟩ : ∃ w2, w2 = w1.drew := ⟨_, rfl⟩
      have HB2 : Hid (Below w.heap.size w w2) := by show Below _ _ _; rw [hw2]; exact HB1.out.trans ⟨rfl, rfl, rfl, Nat.le_refl _, fun _ _ => rfl⟩
      have HR2 : Hid (w2.heap[w.heap.size]? = some (.cells #[.int .i64 0, .int .i64 0] 66 (0, 0))) := by show _ = _; rw [hw2]; exact HR1.out
      have HZ2 : Hid (w.heap.size < w2.heap.size) := by show _ < _; rw [hw2]; exact HZ1.out
      rw [← hw2]
      clear hw2 HB1 HR1 HZ1 c0 c1
      go_wp2_with fail
      refine (CE.out w2).mono ?_
      rintro e w3 ⟨rfl, b3⟩
      have hr3 : w3.heap[w.heap.size]? = some (.cells #[.int .i64 0, .int .i64 0] 66 (0, 0)) := (b3.block _ HZ2.out).trans HR2.out
      have B3 := Lib.hid (HB2.out.trans (b3.mono (Nat.le_of_lt HZ2.out)))
      have z1 : w3.cell? ⟨w.heap.size, 0, none⟩ = some (.int .i64 0) := by simp [World.cell?, hr3]
      have z2 : w3.cell? ⟨w.heap.size, 1, none⟩ = some (.int .i64 0) := by simp [World.cell?, hr3]
      have f1 := frozen_of_row w3 w.heap.size 0 _ _ hr3
      have f2 := frozen_of_row w3 w.heap.size 1 _ _ hr3
      have R1 := heap_setCell_same w3 w.heap.size 0 _ _ (.int .i64 (z.1 : Int)) hr3
      have R2 := Lib.hid (heap_setCell_same _ w.heap.size 1 _ _ (.int .i64 (z.2 : Int)) R1)
      have B4 : Hid (Below w.heap.size w ((w3.setCell ⟨w.heap.size, 0, none⟩ (.int .i64 (z.1 : Int))).setCell ⟨w.heap.size, 1, none⟩ (.int .i64 (z.2 : Int)))) := (B3.out.setCell (p := ⟨w.heap.size, 0, none⟩) (Nat.le_refl _) _).setCell (p := ⟨w.heap.size, 1, none⟩) (Nat.le_refl _) _
      clear hr3 b3 R1 CE
      go_wp2
      refine bodyPost_ret (results_row_tmp rfl _ _ w.heap.size _ _ _ _ rfl R2.out Try.underlying66 rfl (by kernel_rfl)) rfl ?_
      exact ⟨rfl, B4.out⟩
    · have d : y < x := d0
      have l0 : decide (y < 0) = false := decide_eq_false (by omega)
      have l1 : decide (n ≤ x) = false := decide_eq_false (by omega)
      clear hbad d0
      go_enter Try.func62, Try.ntmps62
      go_wp2_with fail
      go_quiet (fail)
      go_wp2_with fail
      obtain ⟨w1, hw1⟩ : ∃ w1, w1 = (w.alloc (.cells #[.int .i64 0, .int .i64 0] 66)).drewN nq := ⟨_, rfl⟩
      have hb1 : Below w.heap.size w w1 := by rw [hw1]; exact below_draw ((Below.refl _ w).alloc (Nat.le_refl _) _) _
      have hr1 : w1.heap[w.heap.size]? = some (.cells #[.int .i64 0, .int .i64 0] 66 (0, 0)) := by rw [hw1]; exact RA.out
      have c0 := (hb1.cell (p := ⟨gr, 0, none⟩) hgr).trans h0
      have c1 := (hb1.cell (p := ⟨gr, 1, none⟩) hgr).trans h1
      have hz1 : w.heap.size < w1.heap.size := by rw [hw1]; show _ < (w.alloc _).heap.size; rw [World.size_alloc]; omega
      rw [← hw1]
      have HB1 := Lib.hid hb1
      have HR1 := Lib.hid hr1
      have HZ1 := Lib.hid hz1
      clear h0 h1 RA hw1 hb1 hr1 hz1
      go_still_tail 6, (by kernel_rfl)
      change wpList _ _ _ _ _ w1.drew
      obtain ⟨w2, hw2⟩ : ∃ w2, w2 = w1.drew := ⟨_, rfl⟩
      have HB2 : Hid (Below w.heap.size w w2) := by show Below _ _ _; rw [hw2]; exact HB1.out.trans ⟨rfl, rfl, rfl, Nat.le_refl _, fun _ _ => rfl⟩
      have HR2 : Hid (w2.heap[w.heap.size]? = some (.cells #[.int .i64 0, .int .i64 0] 66 (0, 0))) := by show _ = _; rw [hw2]; exact HR1.out
      have HZ2 : Hid (w.heap.size < w2.heap.size) := by show _ < _; rw [hw2]; exact HZ1.out
      rw [← hw2]
      clear hw2 HB1 HR1 HZ1 c0 c1
      go_wp2_with fail
      refine (CE.out w2).mono ?_
      rintro e w3 ⟨rfl, b3⟩
      have hr3 : w3.heap[w.heap.size]? = some (.cells #[.int .i64 0, .int .i64 0] 66 (0, 0)) := (b3.block _ HZ2.out).trans HR2.out
      have B3 := Lib.hid (HB2.out.trans (b3.mono (Nat.le_of_lt HZ2.out)))
      have z1 : w3.cell? ⟨w.heap.size, 0, none⟩ = some (.int .i64 0) := by simp [World.cell?, hr3]
      have z2 : w3.cell? ⟨w.heap.size, 1, none⟩ = some (.int .i64 0) := by simp [World.cell?, hr3]
      have f1 := frozen_of_row w3 w.heap.size 0 _ _ hr3
      have f2 := frozen_of_row w3 w.heap.size 1 _ _ hr3
      have R1 := heap_setCell_same w3 w.heap.size 0 _ _ (.int .i64 (z.1 : Int)) hr3
      have R2 := Lib.hid (heap_setCell_same _ w.heap.size 1 _ _ (.int .i64 (z.2 : Int)) R1)
      have B4 : Hid (Below w.heap.size w ((w3.setCell ⟨w.heap.size, 0, none⟩ (.int .i64 (z.1 : Int))).setCell ⟨w.heap.size, 1, none⟩ (.int .i64 (z.2 : Int)))) := (B3.out.setCell (p := ⟨w.heap.size, 0, none⟩) (Nat.le_refl _) _).setCell (p := ⟨w.heap.size, 1, none⟩) (Nat.le_refl _) _
      clear hr3 b3 R1 CE
      go_wp2
      refine bodyPost_ret (results_row_tmp rfl _ _ w.heap.size _ _ _ _ rfl R2.out Try.underlying66 rfl (by kernel_rfl)) rfl ?_
      exact ⟨rfl, B4.out⟩
set_option maxRecDepth 100000 in
set_option maxHeartbeats 800000 in
theorem edgeOfRow_len (n : Int) (au : Option Addr) (m c : Nat) (w : World) (hm : m ≠ 2) :
    Calls Try.prog 62 #[.int .i64 n, .slice au m c] w fun e w' => e = .returned (.tuple #[.agg #[.int .i64 0, .int .i64 0], .bool false]) ∧ Below w.heap.size w w' := by
  have RA := Lib.hid (heap_alloc_new w (.cells #[.int .i64 0, .int .i64 0] 66))
  have RZ : Hid (∀ z : Nat, ((((w.alloc (.cells #[.int .i64 0, .int .i64 0] 66)).drewN z).setCell ⟨w.heap.size, 0, none⟩ (.int .i64 0)).setCell ⟨w.heap.size, 1, none⟩ (.int .i64 0)).heap[w.heap.size]? = some (.cells #[.int .i64 0, .int .i64 0] 66 (0, 0))) := fun z =>
    heap_setCell_same _ w.heap.size 1 _ _ (.int .i64 0) (heap_setCell_same _ w.heap.size 0 _ _ (.int .i64 0) RA.out)
  have BZ : Hid (∀ z : Nat, Below w.heap.size w ((((w.alloc (.cells #[.int .i64 0, .int .i64 0] 66)).drewN z).setCell ⟨w.heap.size, 0, none⟩ (.int .i64 0)).setCell ⟨w.heap.size, 1, none⟩ (.int .i64 0))) := fun z =>
    ((below_draw ((Below.refl _ w).alloc (Nat.le_refl _) _) z).setCell (p := ⟨w.heap.size, 0, none⟩) (Nat.le_refl _) _).setCell (p := ⟨w.heap.size, 1, none⟩) (Nat.le_refl _) _
  have q1 : ((m : Int) == 2) = false := by rw [beq_eq_false_iff_ne]; omega
  have q2 : ((m : Int) != 2) = true := by rw [bne, q1]; rfl
  clear hm
  go_enter Try.func62, Try.ntmps62
  go_wp2_with fail
  go_quiet (fail)
  go_wp2
  refine bodyPost_ret (results_row_tmp rfl _ _ w.heap.size _ _ _ _ rfl (RZ.out nq) Try.underlying66 rfl (by kernel_rfl)) rfl ?_
  exact ⟨rfl, BZ.out nq⟩
end Go.Proofs.Ytafdlilojlmchaa
