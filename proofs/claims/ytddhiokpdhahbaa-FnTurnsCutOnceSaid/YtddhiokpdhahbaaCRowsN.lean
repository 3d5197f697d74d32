/-
  The contracts of the functions that append a word's triangles and its nodes' arms to a list of rows.
-/
import Derived.Test.YtddhiokpdhahbaaCReadN
import Derived.Test.YtddhiokpdhahbaaCFamB
namespace Go.Proofs.Ytddhiokpdhahbaa
open Go.RowKit

/-- a list of rows in the call's own memory, from the block H on, no two rows in one block -/
structure GridA (w : World) (H : Nat) (v : Value) (RV : List Value) (rows : List (List Int)) : Prop where
  grid : Grid w H w.heap.size v RV rows
  dist : Dist RV
def GridRet (H : Nat) (rows : List (List Int)) (w : World) (e : Ending) (w' : World) : Prop := ∃ v RV, e = .returned v ∧ GridA w' H v RV rows ∧ Below H w w'
theorem GridA.below {w w' : World} {H : Nat} {v : Value} {RV : List Value} {rows : List (List Int)} (h : GridA w H v RV rows) (hb : Below w.heap.size w w') : GridA w' H v RV rows :=
  ⟨(h.grid.below hb).more hb.size, h.dist⟩
theorem GridA.nil (w : World) (H : Nat) : GridA w H (.slice none 0 0) [] [] :=
  ⟨⟨⟨World.ownsRow_nil _ _ _ _, fun q hq => by simp [Value.ownBlock] at hq⟩, RowsI.nil⟩, fun i j u v _ h => by simp at h⟩
theorem GridA.drewN {w : World} {H : Nat} {v : Value} {RV : List Value} {rows : List (List Int)} (h : GridA w H v RV rows) (n : Nat) : GridA (w.drewN n) H v RV rows := ⟨h.grid.same rfl, h.dist⟩
theorem GridA.shape {w : World} {H : Nat} {v : Value} {RV : List Value} {rows : List (List Int)} (h : GridA w H v RV rows) : ∃ a c, v = .slice a rows.length c ∧ w.ownsRow H 38 1 v rows.length RV := by
  obtain ⟨a, c, rfl, _⟩ := h.grid.1.slice
  have := h.grid.1.1
  rw [h.grid.2.1] at this ⊢
  exact ⟨a, c, rfl, this⟩
theorem GridA.form {w : World} {H : Nat} {v : Value} {RV : List Value} {rows : List (List Int)} (h : GridA w H v RV rows) : ∃ a n c, v = .slice a n c := by
  obtain ⟨a, c, e, _⟩ := h.shape
  exact ⟨a, _, c, e⟩
/-- a row is made and appended -/
theorem GridA.push {w w2 : World} {H m n g c : Nat} {v : Value} {RV : List Value} {rows : List (List Int)} {cs : Array Value} {row : List Int} (h : GridA w H v RV rows) (hm : rows.length = m) (hc : cs.toList = iv row) (hn : cs.size = n) (hn9 : n ≤ 9) (hH : H ≤ w.heap.size)
    (hv : w2.ownsRow H 38 1 (.slice (some ⟨g, 0, none⟩) (m + 1) c) (m + 1) (RV ++ [.slice (some ⟨w.heap.size, 0, none⟩) n n])) (hg : ((w.alloc (.cells cs 3)).alloc (.cells #[.slice (some ⟨w.heap.size, 0, none⟩) n n] 38)).grownBy w2 v.ownBlock) :
    GridA w2 H (.slice (some ⟨g, 0, none⟩) (m + 1) c) (RV ++ [.slice (some ⟨w.heap.size, 0, none⟩) n n]) (rows ++ [row]) ∧ Below H w w2 := by
  have hz : ((w.alloc (.cells cs 3)).alloc (.cells #[.slice (some ⟨w.heap.size, 0, none⟩) n n] 38)).heap.size = w.heap.size + 2 := by simp
  have hsz := hg.size
  rw [hz] at hsz
  have hlen := h.grid.2.1
  have o1 : Own ((w.alloc (.cells cs 3)).alloc (.cells #[.slice (some ⟨w.heap.size, 0, none⟩) n n] 38)) w.heap.size (w.heap.size + 1) 3 (.slice (some ⟨w.heap.size, 0, none⟩) n n) (iv row) := by
    have h1 := lit_own2 w cs 3 (by unfold maxLen; omega)
    rw [hn, hc] at h1
    exact h1.alloc _
  have hb1 : Below w.heap.size w ((w.alloc (.cells cs 3)).alloc (.cells #[.slice (some ⟨w.heap.size, 0, none⟩) n n] 38)) := ((Below.refl _ w).alloc (Nat.le_refl _) _).alloc (by simp) _
  have G1 := h.grid.below hb1
  have r1 := G1.2.grown G1.1 (by decide) hg
  have r2 := o1.grown hg (o1.ne G1.1 (by decide))
  refine ⟨⟨⟨Own.of_own ?_, (r1.more (by omega)).append (RowsI.one (own_lo (r2.more (by omega)) hH))⟩, ?_⟩, (hb1.mono hH).grown hg (by omega) (fun k hk => (h.grid.1.1.lt k hk).1)⟩
  · have e : (RV ++ [Value.slice (some ⟨w.heap.size, 0, none⟩) n n]).length = m + 1 := by rw [List.length_append, hlen, hm]; rfl
    rw [e]; exact hv
  · intro i j u x hij hu hx
    by_cases hj : j < RV.length
    · rw [List.getElem?_append_left (by omega)] at hu
      rw [List.getElem?_append_left hj] at hx
      exact h.dist i j u x hij hu hx
    · rw [List.getElem?_append_right (by omega)] at hx
      have hj0 : j - RV.length = 0 := by
        have := (List.getElem?_eq_some_iff.1 hx).1
        simp at this; omega
      rw [hj0] at hx
      simp only [List.getElem?_cons_zero, Option.some.injEq] at hx
      subst hx
      rw [List.getElem?_append_left (by omega)] at hu
      right
      intro e
      have hi : i < rows.length := by omega
      have ho := h.grid.2.2 i u rows[i] hu (List.getElem?_eq_getElem hi)
      have := ho.2 w.heap.size (by rw [e]; rfl)
      omega

theorem countNodes_at {B H : Nat} (f : Nat) (s : List UInt8) (n : Nat) (p : Option Addr) (w : World) (m : Nat) (hT : Hid (TA w B H f s n p)) (hf : Hid (scan s = some 0 ∧ s.length ≤ f)) (h18 : f ≤ 18) :
    Calls Try.prog 65 #[.pointer p] (w.drewN m) fun e w' => e = .returned (.int .i64 ((s.length / 2 : Nat) : Int)) ∧ ∃ m, w' = w.drewN m := by
  refine (countNodes_any f s n p (w.drewN m) (Lib.hid (hT.out.drewN m)) hf h18).mono ?_
  rintro e w' ⟨rfl, q, rfl⟩
  exact ⟨rfl, _, World.drewN_drewN _ _ _⟩
set_option maxHeartbeats 3200000 in
theorem appendTriangles_any {B H : Nat} : ∀ (f : Nat) (s : List UInt8) (n lo hi : Nat) (p : Option Addr) (v : Value) (RV : List Value) (rows : List (List Int)) (w : World), Hid (TA w B H f s n p) → Hid (scan s = some 0 ∧ s.length ≤ f) → f ≤ 18 → Hid (GridA w H v RV rows) → Hid (H ≤ w.heap.size) → rows.length + s.length / 2 ≤ 60 → lo + s.length / 2 ≤ 40 → Hid (hi = lo + 1 + s.length / 2) →
    Calls Try.prog 49 #[v, .pointer p, .int .i64 lo] w (GridRet H (rows ++ fansL f s lo hi) w) := by
  obtain ⟨i0, hi0, hz0, hz1, hz2⟩ := info_parts Try.infoRowF
  intro f
  induction f with
  | zero =>
    intro s n lo hi p v RV rows w hT hf _ hR _ _ _ _
    have h0 : s = [] := List.eq_nil_of_length_eq_zero (by have := hf.out.2; omega)
    subst h0
    obtain rfl := hT.out.nil
    rw [fansL_nil, List.append_nil]
    go_enter Try.func49, Try.ntmps49
    go_wp2
    go_ret
    exact ⟨_, _, rfl, hR.out, Below.refl _ _⟩
  | succ f ih =>
    intro s n lo hi p v RV rows w hT hf h18 hR hH hl hlo HI
    rcases hT.out with ⟨rfl, rfl⟩ | ⟨h0, b, l, r, rfl, _, hbH, h4, h5, h6, h7, h8⟩
    · clear ih
      rw [fansL_nil, List.append_nil]
      go_enter Try.func49, Try.ntmps49
      go_wp2
      go_ret
      exact ⟨_, _, rfl, hR.out, Below.refl _ _⟩
    · obtain ⟨_, _, k3, k4, _, k6⟩ := parts_ok hf.out.1 h0
      have e1 := fold_even _ 0 0 k3
      have e2 := fold_even _ 0 0 k4
      have hl2 := hf.out.2
      have hhi := HI.out
      have K1 := Lib.hid (countNodes_any f (fstL s) (n + 1) l w (Lib.hid h7) ⟨k3, by omega⟩ (by omega))
      have K2 := Lib.hid (fun m => countNodes_at f (rstL s) (n + 1 + (fstL s).length / 2) r w m (Lib.hid h8) ⟨k4, by omega⟩ (by omega))
      have L1 := fansL_length f (fstL s) lo (lo + 1 + (fstL s).length / 2) k3 (by omega)
      have I1 := Lib.hid (fun v' RV' rows' w' (hT' : TA w' B H f (fstL s) (n + 1) l) hR' hH' hl' => ih (fstL s) (n + 1) lo (lo + 1 + (fstL s).length / 2) l v' RV' rows' w' (Lib.hid hT') ⟨k3, by omega⟩ (by omega) hR' hH' hl' (by omega) rfl)
      have I2 := Lib.hid (fun v' RV' rows' w' (hT' : TA w' B H f (rstL s) (n + 1 + (fstL s).length / 2) r) hR' hH' hl' hlo' => ih (rstL s) (n + 1 + (fstL s).length / 2) (lo + 1 + (fstL s).length / 2) hi r v' RV' rows' w' (Lib.hid hT') ⟨k4, by omega⟩ (by omega) hR' hH' hl' hlo' (show hi = _ by omega))
      have H7 := Lib.hid h7
      have H8 := Lib.hid h8
      rw [fansL_cons _ _ _ _ h0]
      obtain ⟨X, hX⟩ : ∃ X, X = fansL f (fstL s) lo (lo + 1 + (fstL s).length / 2) := ⟨_, rfl⟩
      obtain ⟨Y, hY⟩ : ∃ Y, Y = fansL f (rstL s) (lo + 1 + (fstL s).length / 2) hi := ⟨_, rfl⟩
      rw [← hX] at I1 L1 ⊢
      rw [← hY] at I2 ⊢
      obtain ⟨a, ha⟩ : ∃ a, a = (fstL s).length / 2 := ⟨_, rfl⟩
      obtain ⟨c, hc⟩ : ∃ c, c = (rstL s).length / 2 := ⟨_, rfl⟩
      have b1 : rows.length + a + 1 + c ≤ 60 := by omega
      have b2 : hi = lo + a + 1 + c + 1 := by omega
      have b3 : a ≤ 9 := by omega
      have b4 : c ≤ 9 := by omega
      rw [← ha] at L1 I1 I2 H8 K1 ⊢
      rw [← hc] at I2 K2
      obtain ⟨mid, hmid⟩ : ∃ mid, mid = lo + 1 + a := ⟨_, rfl⟩
      rw [← hmid] at I2 ⊢
      have m1 : (lo : Int) + (a : Int) + 1 = (mid : Int) := by omega
      have m2 : (mid : Int) + (c : Int) + 1 = (hi : Int) := by omega
      have m3 : mid ≤ 200 := by omega
      have m4 : hi ≤ 300 := by omega
      obtain ⟨rl, hrl⟩ : ∃ rl, rl = rows.length := ⟨_, rfl⟩
      rw [← hrl] at b1
      have RL := Lib.hid hrl
      have LX := Lib.hid L1
      have b6 : mid + c ≤ 40 := by omega
      have HMID := Lib.hid hmid
      have b5 : lo + a + 1 + c ≤ 40 := by omega
      clear ih h7 h8 h0 k3 k4 k6 e1 e2 hl2 ha hc hX hY hl hhi HI hmid hrl b2 L1
      go_enter Try.func49, Try.ntmps49
      go_wp2_with fail
      refine K1.out.mono ?_
      rintro e w1 ⟨rfl, q1, rfl⟩
      go_wp2_with fail
      refine (K2.out q1).mono ?_
      rintro e w1 ⟨rfl, q2, rfl⟩
      have HR1 := Lib.hid (hR.out.drewN q2)
      have hb1 : Below w.heap.size w (w.drewN q2) := ⟨rfl, rfl, rfl, Nat.le_refl _, fun _ _ => rfl⟩
      have HB1 := Lib.hid (hb1.mono hH.out)
      have c5 : (w.drewN q2).cell? ⟨b, 1, none⟩ = some (.pointer l) := h5
      have c6 : (w.drewN q2).cell? ⟨b, 2, none⟩ = some (.pointer r) := h6
      have T1 := Lib.hid (H7.out.drewN q2)
      have T2 := Lib.hid (H8.out.drewN q2)
      have HH1 : Hid (H ≤ (w.drewN q2).heap.size) := hH
      obtain ⟨wq, hwq⟩ : ∃ wq, wq = w.drewN q2 := ⟨_, rfl⟩
      rw [← hwq] at HR1 HB1 c5 c6 T1 T2 HH1 ⊢
      obtain ⟨av, cv, rfl, hov⟩ := HR1.out.shape
      rw [← RL.out] at hov ⊢
      rw [← RL.out] at HR1
      have hlast : H ≤ ((wq.alloc (.cells #[.int .i64 lo, .int .i64 mid, .int .i64 hi] 3)).alloc (.cells #[.slice (some ⟨wq.heap.size, 0, none⟩) 3 3] 38)).heap.size := by
        have := HH1.out; simp; omega
      have HO := Lib.hid ((hov.alloc (.cells #[.int .i64 lo, .int .i64 mid, .int .i64 hi] 3)).alloc (.cells #[.slice (some ⟨wq.heap.size, 0, none⟩) 3 3] 38))
      have HL := Lib.hid hlast
      have z1 : rl + 1 ≤ maxLen := by unfold maxLen; omega
      have z2 : (rl + 1) * 24 ≤ 140737488355328 := by omega
      have hbq : b < wq.heap.size := by have := HH1.out; omega
      have CN := cell_one_new (wq.alloc (.cells #[.int .i64 lo, .int .i64 mid, .int .i64 hi] 3)) (.slice (some ⟨wq.heap.size, 0, none⟩) 3 3) 38
      rw [World.size_alloc] at CN
      have CN := Lib.hid CN
      have ONE : Hid (∀ u ∈ [Value.slice (some ⟨wq.heap.size, 0, none⟩) 3 3], u.oneCell' = true) := by intro u hu; simp at hu; subst hu; rfl
      clear hwq hb1 h4 h5 h6 hR hH H7 H8 K1 K2 hov hlast hT hf
      go_wp2_with (at_builtin; refine wpList_append_own _ rfl (.tmp 28) (.tmp 33) 40 rfl H 38 i0 (.slice none 0 0) 1 24 Try.underlying40 hi0 hz0 hz1 hz2 rfl (by decide) _ rl RV rfl HO.out ⟨wq.heap.size + 1, 0, none⟩ 1 1 [.slice (some ⟨wq.heap.size, 0, none⟩) 3 3] rfl rfl CN.out ONE.out z1 z2 HL.out ?_)
      intro v2 w2 hv2 hg2 hn2
      obtain ⟨g2, c2, rfl⟩ := own_some3 hv2 hn2
      obtain ⟨G2, hb2⟩ := HR1.out.push (cs := #[.int .i64 lo, .int .i64 mid, .int .i64 hi]) (n := 3) (row := [(lo : Int), (mid : Int), (hi : Int)]) RL.out.symm rfl rfl (by omega) HH1.out hv2 hg2
      have d5 := ((hb2.cell (p := ⟨b, 1, none⟩) hbH).trans c5)
      have d6 := ((hb2.cell (p := ⟨b, 2, none⟩) hbH).trans c6)
      have U1 := TA.below hb2 f _ _ _ T1.out
      have U2 := Lib.hid (TA.below hb2 f _ _ _ T2.out)
      have l2 : (rows ++ [[(lo : Int), (mid : Int), (hi : Int)]]).length = rl + 1 := by rw [List.length_append, ← RL.out]; rfl
      have HH2 := Nat.le_trans HH1.out hb2.size
      have C1 := Lib.hid (I1.out _ _ _ w2 U1 (Lib.hid G2) HH2 (by rw [l2]; omega))
      have HB2 := Lib.hid (HB1.out.trans hb2)
      have HH2 := Lib.hid HH2
      have L2 := Lib.hid l2
      clear hv2 hg2 hn2 G2 hb2 c5 c6 T1 T2 U1 l2 HO HL CN ONE HR1 HB1 I1 z1 z2
      go_wp2_with (go_at_call_of 49 l; refine C1.out.mono ?_)
      rintro e w3 ⟨v3, RV3, rfl, G3, hb3⟩
      have f6 := ((hb3.cell (p := ⟨b, 2, none⟩) hbH).trans d6)
      have U3 := TA.below hb3 f _ _ _ U2.out
      obtain ⟨av3, n3, cv3, rfl⟩ := G3.form
      have l3 : (rows ++ [[(lo : Int), (mid : Int), (hi : Int)]] ++ X).length + c ≤ 60 := by rw [List.length_append, L2.out, LX.out]; omega
      have C2 := Lib.hid (I2.out _ _ _ w3 U3 (Lib.hid G3) (Nat.le_trans HH2.out hb3.size) l3 b6)
      have HB3 := Lib.hid (HB2.out.trans hb3)
      clear G3 hb3 d5 d6 U2 U3 l3 HB2 I2 C1
      go_wp2_with (go_at_call_of 49 r; refine C2.out.mono ?_)
      rintro e w4 ⟨v4, RV4, rfl, G4, hb4⟩
      obtain ⟨av4, n4, cv4, rfl⟩ := G4.form
      have G4 := Lib.hid G4
      have HB4 := Lib.hid (HB3.out.trans hb4)
      clear hb4
      go_wp2
      go_ret
      refine ⟨_, RV4, rfl, ?_, HB4.out⟩
      have e4 : rows ++ [(lo : Int), (mid : Int), (hi : Int)] :: (X ++ Y) = rows ++ [[(lo : Int), (mid : Int), (hi : Int)]] ++ X ++ Y := by simp
      rw [e4]
      exact G4.out
end Go.Proofs.Ytddhiokpdhahbaa
