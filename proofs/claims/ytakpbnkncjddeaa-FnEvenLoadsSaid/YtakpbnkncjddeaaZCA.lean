/-
  The contracts of the functions that append a word's triangles and its nodes' arms to a list of rows.
  The contract of the function that appends the arms of a word's nodes to a list of rows.
  The contracts of a stack's two methods, for a stack of numbers.
  The contracts of the program's functions that answer a word's arms, its nodes between their arms, its triangles, its row behind a stack.
-/
import Derived.Test.YtakpbnkncjddeaaCReadN
import Derived.Test.YtakpbnkncjddeaaZPD
import Derived.Deep.RegionLaw
import Derived.Deep.AppendLies
import Derived.Test.YtakpbnkncjddeaaZP
namespace Go.Proofs.Ytakpbnkncjddeaa
open Go.RowKit

/-- a list of rows in the call's own memory, from the block H on, no two rows in one block -/
structure GridA (w : World) (H : Nat) (v : Value) (RV : List Value) (rows : List (List Int)) : Prop where
  grid : Grid w H w.heap.size v RV rows
  dist : Dist RV
def GridRet (H : Nat) (rows : List (List Int)) (w : World) (e : Ending) (w' : World) : Prop := ∃ v RV, e = .returned v ∧ GridA w' H v RV rows ∧ Below H w w'
theorem GridA.below {w w' : World} {H : Nat} {v : Value} {RV : List Value} {rows : List (List Int)} (h : GridA w H v RV rows) (hb : Below w.heap.size w w') : GridA w' H v RV rows :=
  ⟨(h.grid.below hb).more hb.size, h.dist⟩
theorem GridA.nil (w : World) (H : Nat) : GridA w H (.slice none 0 0) [] [] :=
  ⟨⟨⟨World.ownsRow_nil _ _ _ _, fun q hq => by simp [Value.ownBlock] at hq⟩, RowsI.nil⟩, fun i j u v _ h => by simp at h⟩
theorem GridA.drewN {w : World} {H : Nat} {v : Value} {RV : List Value} {rows : List (List Int)} (h : GridA w H v RV rows) (n : Nat) : GridA (w.drewN n) H v RV rows := ⟨h.grid.same rfl, h.dist⟩
theorem GridA.shape {w : World} {H : Nat} {v : Value} {RV : List Value} {rows : List (List Int)} (h : GridA w H v RV rows) : ∃ a c, v = .slice a rows.length c ∧ w.ownsRow H 23 1 v rows.length RV := by
  obtain ⟨a, c, rfl, _⟩ := h.grid.1.slice
  have := h.grid.1.1
  rw [h.grid.2.1] at this ⊢
  exact ⟨a, c, rfl, this⟩
theorem GridA.form {w : World} {H : Nat} {v : Value} {RV : List Value} {rows : List (List Int)} (h : GridA w H v RV rows) : ∃ a n c, v = .slice a n c := by
  obtain ⟨a, c, e, _⟩ := h.shape
  exact ⟨a, _, c, e⟩
/-- a row is made and appended -/
theorem GridA.push {w w2 : World} {H m n g c : Nat} {v : Value} {RV : List Value} {rows : List (List Int)} {cs : Array Value} {row : List Int} (h : GridA w H v RV rows) (hm : rows.length = m) (hc : cs.toList = iv row) (hn : cs.size = n) (hn9 : n ≤ 9) (hH : H ≤ w.heap.size)
    (hv : w2.ownsRow H 23 1 (.slice (some ⟨g, 0, none⟩) (m + 1) c) (m + 1) (RV ++ [.slice (some ⟨w.heap.size, 0, none⟩) n n])) (hg : ((w.alloc (.cells cs 3)).alloc (.cells #[.slice (some ⟨w.heap.size, 0, none⟩) n n] 23)).grownBy w2 v.ownBlock) :
    GridA w2 H (.slice (some ⟨g, 0, none⟩) (m + 1) c) (RV ++ [.slice (some ⟨w.heap.size, 0, none⟩) n n]) (rows ++ [row]) ∧ Below H w w2 := by
  have hz : ((w.alloc (.cells cs 3)).alloc (.cells #[.slice (some ⟨w.heap.size, 0, none⟩) n n] 23)).heap.size = w.heap.size + 2 := by simp
  have hsz := hg.size
  rw [hz] at hsz
  have hlen := h.grid.2.1
  have o1 : Own ((w.alloc (.cells cs 3)).alloc (.cells #[.slice (some ⟨w.heap.size, 0, none⟩) n n] 23)) w.heap.size (w.heap.size + 1) 3 (.slice (some ⟨w.heap.size, 0, none⟩) n n) (iv row) := by
    have h1 := lit_own2 w cs 3 (by unfold maxLen; omega)
    rw [hn, hc] at h1
    exact h1.alloc _
  have hb1 : Below w.heap.size w ((w.alloc (.cells cs 3)).alloc (.cells #[.slice (some ⟨w.heap.size, 0, none⟩) n n] 23)) := ((Below.refl _ w).alloc (Nat.le_refl _) _).alloc (by simp) _
  have G1 := h.grid.below hb1
  have r1 := G1.2.grown G1.1 (by decide) hg
  have r2 := o1.grown hg (o1.ne G1.1 (by decide))
  refine ⟨⟨⟨Own.of_own ?_, (r1.more (by omega)).append (RowsI.one (own_lo (r2.more (by omega)) hH))⟩, ?_⟩, (hb1.mono hH).grown hg (by omega) (fun k hk => (h.grid.1.1.lt k hk).1)⟩
  · have e : (RV ++ [Value.slice (some ⟨w.heap.size, 0, none⟩) n n]).length = m + 1 := by rw [List.length_append, hlen, hm]; rfl
    rw [e]; exact hv
  · intro i j u x hij hu hx
    by_cases hj : j < RV.length
    · rw [List.getElem?_append_left (by omega)] at hu
      rw [List.getElem?_append_left hj] at hx
      exact h.dist i j u x hij hu hx
    · rw [List.getElem?_append_right (by omega)] at hx
      have hj0 : j - RV.length = 0 := by
        have := (List.getElem?_eq_some_iff.1 hx).1
        simp at this; omega
      rw [hj0] at hx
      simp only [List.getElem?_cons_zero, Option.some.injEq] at hx
      subst hx
      rw [List.getElem?_append_left (by omega)] at hu
      right
      intro e
      have hi : i < rows.length := by omega
      have ho := h.grid.2.2 i u rows[i] hu (List.getElem?_eq_getElem hi)
      have := ho.2 w.heap.size (by rw [e]; rfl)
      omega

end Go.Proofs.Ytakpbnkncjddeaa

namespace Go.Proofs.Ytakpbnkncjddeaa
open Go.RowKit

theorem TA.same {w w' : World} {B H : Nat} {f : Nat} {s : List UInt8} {n : Nat} {p : Option Addr} (h : TA w B H f s n p) (e : w'.heap = w.heap) : TA w' B H f s n p := by
  revert h
  revert s n p
  induction f with
  | zero => intro s n p h; exact h
  | succ f ih =>
    intro s n p h
    have c : ∀ a, w'.cell? a = w.cell? a := fun a => World.cell?_of_block (by rw [e])
    rcases h with h | ⟨h0, b, l, r, h1, h2, h3, h4, h5, h6, h7, h8⟩
    · exact .inl h
    · exact .inr ⟨h0, b, l, r, h1, h2, h3, (c _).trans h4, (c _).trans h5, (c _).trans h6, ih h7, ih h8⟩
theorem rootA_lo (s : List UInt8) (n : Nat) : -1 ≤ rootA s n := by unfold rootA; split <;> omega

theorem grown_drew {w w' : World} {row : Option Nat} (h : w.drew.grownBy w' row) : w.grownBy w' row := ⟨h.1, h.2, h.3, h.4, h.5⟩
set_option maxHeartbeats 3200000 in
theorem appendArms_any {B H : Nat} : ∀ (f : Nat) (s : List UInt8) (n : Nat) (p : Option Addr) (v : Value) (RV : List Value) (rows : List (List Int)) (w : World), Hid (TA w B H f s n p) → Hid (scan s = some 0 ∧ s.length ≤ f) → f ≤ 18 → Hid (GridA w H v RV rows) → Hid (H ≤ w.heap.size) → rows.length + s.length / 2 ≤ 60 →
    Calls Try.prog 60 #[v, .pointer p] w (GridRet H (rows ++ binL f s n) w) := by
  obtain ⟨i0, hi0, hz0, hz1, hz2⟩ := info_parts Try.infoRowF
  intro f
  induction f with
  | zero =>
    intro s n p v RV rows w hT hf _ hR _ _
    have h0 : s = [] := List.eq_nil_of_length_eq_zero (by have := hf.out.2; omega)
    subst h0
    obtain rfl := hT.out.nil
    rw [binL_nil, List.append_nil]
    go_enter Try.func60, Try.ntmps60
    go_wp2
    go_ret
    exact ⟨_, _, rfl, hR.out, Below.refl _ _⟩
  | succ f ih =>
    intro s n p v RV rows w hT hf h18 hR hH hl
    rcases hT.out with ⟨rfl, rfl⟩ | ⟨h0, b, l, r, rfl, _, hbH, h4, h5, h6, h7, h8⟩
    · clear ih
      rw [binL_nil, List.append_nil]
      go_enter Try.func60, Try.ntmps60
      go_wp2
      go_ret
      exact ⟨_, _, rfl, hR.out, Below.refl _ _⟩
    · obtain ⟨_, _, k3, k4, _, k6⟩ := parts_ok hf.out.1 h0
      have e1 := fold_even _ 0 0 k3
      have e2 := fold_even _ 0 0 k4
      have hl2 := hf.out.2
      have N1 := Lib.hid (fun W (hW : Hid (W.heap = w.heap)) => numberOf_any f (fstL s) (n + 1) l W (Lib.hid (h7.same hW.out)) ⟨k3, by omega⟩)
      have N2 := Lib.hid (fun W (hW : Hid (W.heap = w.heap)) => numberOf_any f (rstL s) (n + 1 + (fstL s).length / 2) r W (Lib.hid (h8.same hW.out)) ⟨k4, by omega⟩)
      have L1 := binL_length f (fstL s) (n + 1) k3 (by omega)
      have I1 := Lib.hid (fun v' RV' rows' w' (hT' : TA w' B H f (fstL s) (n + 1) l) hR' hH' hl' => ih (fstL s) (n + 1) l v' RV' rows' w' (Lib.hid hT') ⟨k3, by omega⟩ (by omega) hR' hH' hl')
      have I2 := Lib.hid (fun v' RV' rows' w' (hT' : TA w' B H f (rstL s) (n + 1 + (fstL s).length / 2) r) hR' hH' hl' => ih (rstL s) (n + 1 + (fstL s).length / 2) r v' RV' rows' w' (Lib.hid hT') ⟨k4, by omega⟩ (by omega) hR' hH' hl')
      have H7 := Lib.hid h7
      have H8 := Lib.hid h8
      rw [binL_cons _ _ _ h0]
      have ra : (if fstL s = [] then -1 else (n : Int) + 1) = rootA (fstL s) (n + 1) := by unfold rootA; split <;> simp
      have rb : (if rstL s = [] then -1 else (n : Int) + 1 + ((fstL s).length / 2 : Nat)) = rootA (rstL s) (n + 1 + (fstL s).length / 2) := by
        unfold rootA; split
        · rfl
        · omega
      rw [ra, rb]
      obtain ⟨X, hX⟩ : ∃ X, X = binL f (fstL s) (n + 1) := ⟨_, rfl⟩
      obtain ⟨Y, hY⟩ : ∃ Y, Y = binL f (rstL s) (n + 1 + (fstL s).length / 2) := ⟨_, rfl⟩
      obtain ⟨x, hx⟩ : ∃ x, x = rootA (fstL s) (n + 1) := ⟨_, rfl⟩
      obtain ⟨y, hy⟩ : ∃ y, y = rootA (rstL s) (n + 1 + (fstL s).length / 2) := ⟨_, rfl⟩
      rw [← hX] at I1 L1 ⊢
      rw [← hY] at I2 ⊢
      rw [← hx] at N1 ⊢
      rw [← hy] at N2 ⊢
      obtain ⟨a, ha⟩ : ∃ a, a = (fstL s).length / 2 := ⟨_, rfl⟩
      obtain ⟨c, hc⟩ : ∃ c, c = (rstL s).length / 2 := ⟨_, rfl⟩
      have b1 : rows.length + a + 1 + c ≤ 60 := by omega
      rw [← ha] at L1 I1 I2 H8
      rw [← hc] at I2
      obtain ⟨rl, hrl⟩ : ∃ rl, rl = rows.length := ⟨_, rfl⟩
      rw [← hrl] at b1
      have RL := Lib.hid hrl
      have LX := Lib.hid L1
      obtain ⟨av, cv, rfl, hov⟩ := hR.out.shape
      rw [← RL.out] at hov ⊢
      rw [← RL.out] at hR
      have HO := Lib.hid hov
      have hbq : b < w.heap.size := by have := hH.out; omega
      have z1 : rl + 1 ≤ maxLen := by unfold maxLen; omega
      have z2 : (rl + 1) * 24 ≤ 140737488355328 := by omega
      have hlast : H ≤ ((w.alloc (.cells #[.int .i64 x, .int .i64 y] 3)).alloc (.cells #[.slice (some ⟨w.heap.size, 0, none⟩) 2 2] 23)).heap.size := by
        have := hH.out; simp; omega
      have HO := Lib.hid ((hov.alloc (.cells #[.int .i64 x, .int .i64 y] 3)).alloc (.cells #[.slice (some ⟨w.heap.size, 0, none⟩) 2 2] 23))
      have HL := Lib.hid hlast
      have CN := cell_one_new (w.alloc (.cells #[.int .i64 x, .int .i64 y] 3)) (.slice (some ⟨w.heap.size, 0, none⟩) 2 2) 23
      rw [World.size_alloc] at CN
      have CN := Lib.hid CN
      have ONE : Hid (∀ u ∈ [Value.slice (some ⟨w.heap.size, 0, none⟩) 2 2], u.oneCell' = true) := by intro u hu; simp at hu; subst hu; rfl
      clear ih h7 h8 h0 k3 k4 k6 e1 e2 hl2 ha hc hX hY hl hrl L1 hx hy ra rb hov hlast
      go_enter Try.func60, Try.ntmps60
      go_wp2
      go_region_law (first
        | ((try go_simp); go_at_call_of 76 l; refine (N1.out _ ?_).mono ?_; (exact rfl); rintro e w1 ⟨rfl, rfl⟩)
        | ((try go_simp); go_at_call_of 76 r; refine (N2.out _ ?_).mono ?_; (exact rfl); rintro e w1 ⟨rfl, rfl⟩)
        | (refine step_append_own ?gd (.tmp 8) (.tmp 20) 32 ?ho H 23 i0 (.slice none 0 0) 1 24 Try.underlying32 hi0 hz0 hz1 hz2 rfl (Nat.lt_succ_self 0) (.slice av rl cv) rl RV ?hs ?own ⟨w.heap.size + 1, 0, none⟩ 1 1 [.slice (some ⟨w.heap.size, 0, none⟩) 2 2] ?hx rfl ?news ONE.out z1 z2 ?base ?_
           case gd => rfl
           case ho => rfl
           case hs => rfl
           case hx => rfl
           case own => exact own_of_blocks HO.out (fun _ _ => rfl)
           case news => exact CN.out
           case base => exact HL.out
           intro v2 w2 hv2 hg2 hn2
           obtain ⟨g2, c2, rfl⟩ := own_some3 hv2 (fun e => by cases (hn2.1 e).2)))
      all_goals
        obtain ⟨G2, hb2⟩ := hR.out.push (cs := #[.int .i64 x, .int .i64 y]) (n := 2) (row := [x, y]) RL.out.symm rfl rfl (by omega) hH.out hv2 (grown_drew hg2)
        have d5 := ((hb2.cell (p := ⟨b, 1, none⟩) hbH).trans h5)
        have d6 := ((hb2.cell (p := ⟨b, 2, none⟩) hbH).trans h6)
        have U1 := TA.below hb2 f _ _ _ H7.out
        have U2 := Lib.hid (TA.below hb2 f _ _ _ H8.out)
        have l2 : (rows ++ [[x, y]]).length = rl + 1 := by rw [List.length_append, ← RL.out]; rfl
        have HH2 := Nat.le_trans hH.out hb2.size
        have C1 := Lib.hid (I1.out _ _ _ w2 U1 (Lib.hid G2) HH2 (by rw [l2]; omega))
        have HB2 := Lib.hid hb2
        have HH2 := Lib.hid HH2
        have L2 := Lib.hid l2
        clear hv2 hg2 hn2 G2 hb2 h5 h6 H7 H8 U1 l2 HO HL CN ONE hR I1 z1 z2 N1 N2
        go_wp2_with (go_at_call_of 60 l; refine C1.out.mono ?_)
        rintro e w3 ⟨v3, RV3, rfl, G3, hb3⟩
        have f6 := ((hb3.cell (p := ⟨b, 2, none⟩) hbH).trans d6)
        have U3 := TA.below hb3 f _ _ _ U2.out
        obtain ⟨av3, n3, cv3, rfl⟩ := G3.form
        have l3 : (rows ++ [[x, y]] ++ X).length + c ≤ 60 := by rw [List.length_append, L2.out, LX.out]; omega
        have C2 := Lib.hid (I2.out _ _ _ w3 U3 (Lib.hid G3) (Nat.le_trans HH2.out hb3.size) l3)
        have HB3 := Lib.hid (HB2.out.trans hb3)
        clear G3 hb3 d5 d6 U2 U3 l3 HB2 I2 C1
        go_wp2_with (go_at_call_of 60 r; refine C2.out.mono ?_)
        rintro e w4 ⟨v4, RV4, rfl, G4, hb4⟩
        obtain ⟨av4, n4, cv4, rfl⟩ := G4.form
        have G4 := Lib.hid G4
        have HB4 := Lib.hid (HB3.out.trans hb4)
        clear hb4
        go_wp2
        go_ret
        refine ⟨_, RV4, rfl, ?_, HB4.out⟩
        have e4 : rows ++ [x, y] :: (X ++ Y) = rows ++ [[x, y]] ++ X ++ Y := by simp
        rw [e4]
        exact G4.out
end Go.Proofs.Ytakpbnkncjddeaa

namespace Go.Proofs.Ytakpbnkncjddeaa
open Go.RowKit

end Go.Proofs.Ytakpbnkncjddeaa

namespace Go.Proofs.Ytakpbnkncjddeaa
open Go.RowKit

theorem stackL18 (s : List UInt8) (h : scan s = some 0) (h18 : s.length ≤ 18) : stackL s = (btwP 18 s 0).map fun (k : Nat) => (k : Int) := by
  rw [stackL, stackF, fold_btw 18 s [] [] 0 h h18]; rfl
/-- what is answered: rows in the call's own memory, no two in one block -/
def RowsNew (rows : List (List Int)) (w : World) (e : Ending) (w' : World) : Prop := ∃ v RV, e = .returned v ∧ GridA w' w.heap.size v RV rows ∧ Below w.heap.size w w'
theorem GridA.lo {w : World} {H B : Nat} {v : Value} {RV : List Value} {rows : List (List Int)} (h : GridA w H v RV rows) (hB : B ≤ H) : GridA w B v RV rows := ⟨h.grid.lo hB, h.dist⟩
theorem RowsNew.rows {rows : List (List Int)} {w : World} {e : Ending} {w' : World} (h : RowsNew rows w e w') : RowsOut rows w e w' := by
  obtain ⟨v, RV, rfl, hG, hb⟩ := h
  exact ⟨v, RV, rfl, hG.grid, hb⟩
theorem nilNew (w w' : World) (hb : Below w.heap.size w w') : RowsNew [] w (.returned (.slice none 0 0)) w' := ⟨_, [], rfl, GridA.nil _ _, hb⟩
theorem iv_ints (l : List Nat) : iv (l.map fun (k : Nat) => (k : Int)) = ints l := (ints_iv l).symm

set_option maxHeartbeats 800000 in
theorem implBinOf_yes (s : ByteArray) (w : World) (hv : Hid (valid s.data.toList = true)) :
    Calls Try.prog 35 #[.string s] w (RowsNew (binL 18 s.data.toList 0) w) := by
  have h18 := valid_size hv.out
  have hsm : s.size ≤ maxLen := by unfold maxLen; omega
  have HSC := Lib.hid (valid_scan hv.out).1
  have HL := Lib.hid (show s.data.toList.length ≤ 18 by rw [size_list]; exact h18)
  go_enter Try.func35, Try.ntmps35
  go_wp2_with (first
    | (go_at_call 54; refine (implValid_is true _ _ hsm hv).mono ?_; rintro e w1 ⟨rfl, hb1⟩)
    | (go_at_call 56; refine (firstNode_any s _ hv).mono ?_; rintro e w2 ⟨p, rfl, hT, hb2⟩))
  have HT := Lib.hid hT
  have HB1 := Lib.hid hb1
  have HB2 := Lib.hid hb2
  have HC := Lib.hid (appendArms_any 18 s.data.toList 0 p (.slice none 0 0) [] [] w2 HT ⟨HSC.out, HL.out⟩ (Nat.le_refl _) (Lib.hid (GridA.nil w2 w2.heap.size)) (Lib.hid (Nat.le_refl _)) (by have := HL.out; simp only [List.length_nil]; omega))
  clear hT hb1 hb2
  refine HC.out.mono ?_
  rintro e w3 ⟨v, RV, rfl, hG, hb3⟩
  obtain ⟨a, n, c, rfl⟩ := hG.form
  have h1 := HB1.out.size
  have h2 := HB2.out.size
  have HG := Lib.hid (hG.lo (B := w.heap.size) (by omega))
  have HB := Lib.hid (HB1.out.trans ((HB2.out.mono h1).trans (hb3.mono (by omega))))
  clear hG hb3 HC h1 h2
  go_wp2
  go_ret
  exact ⟨_, RV, rfl, HG.out, HB.out⟩
theorem implBinOf_no (s : ByteArray) (w : World) (hs : s.size ≤ maxLen) (hv : Hid (valid s.data.toList = false)) :
    Calls Try.prog 35 #[.string s] w (RowsNew [] w) := by
  go_enter Try.func35, Try.ntmps35
  go_wp2_with (go_at_call 54; refine (implValid_is false _ _ hs hv).mono ?_; rintro e w1 ⟨rfl, hb⟩)
  go_ret
  exact nilNew _ _ (by assumption)
theorem implBinOf_any (s : ByteArray) (w : World) (hs : s.size ≤ maxLen) :
    Calls Try.prog 35 #[.string s] w (RowsNew (binOut s.data.toList) w) := by
  cases hv : valid s.data.toList with
  | true => rw [binOut, if_pos hv]; exact implBinOf_yes s w hv
  | false => rw [binOut, if_neg (by rw [hv]; decide)]; exact implBinOf_no s w hs hv

end Go.Proofs.Ytakpbnkncjddeaa
