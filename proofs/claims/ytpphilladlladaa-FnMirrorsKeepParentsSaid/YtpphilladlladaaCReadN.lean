/-
  The contracts of the functions that go through a word's tree: a node's number, how many nodes, the nodes' arms, the nodes between their arms, the triangles.
-/
import Derived.Test.YtpphilladlladaaCFirstN
import Derived.Test.YtpphilladlladaaCBtwB
import Derived.Test.YtpphilladlladaaWOos
namespace Go.Proofs.Ytpphilladlladaa
open Go.RowKit

theorem TA.nil {w : World} {B H f n : Nat} {p : Option Addr} (h : TA w B H f [] n p) : p = none := by
  cases f with
  | zero => exact h
  | succ f =>
    rcases h with h | ⟨h0, _⟩
    · exact h.2
    · exact absurd rfl h0
theorem TA.drewN {w : World} {B H : Nat} {f : Nat} {s : List UInt8} {n : Nat} {p : Option Addr} (h : TA w B H f s n p) (m : Nat) : TA (w.drewN m) B H f s n p := by
  have hb : Below H w (w.drewN m) := ⟨rfl, rfl, rfl, Nat.le_refl _, fun _ _ => rfl⟩
  exact TA.below hb f s n p h
theorem numberOf_any {B H : Nat} (f : Nat) (s : List UInt8) (n : Nat) (p : Option Addr) (w : World) (hT : Hid (TA w B H f s n p)) (hf : Hid (scan s = some 0 ∧ s.length ≤ f)) :
    Calls Try.prog 58 #[.pointer p] w fun e w' => e = .returned (.int .i64 (rootA s n)) ∧ w' = w := by
  cases f with
  | zero =>
    have h0 : s = [] := List.eq_nil_of_length_eq_zero (by have := hf.out.2; omega)
    subst h0
    obtain rfl := hT.out.nil
    go_enter Try.func58, Try.ntmps58
    go_wp2
    go_ret
    exact ⟨rfl, rfl⟩
  | succ f =>
    rcases hT.out with ⟨rfl, rfl⟩ | ⟨h0, b, l, r, rfl, _, _, h4, _, _, _, _⟩
    · go_enter Try.func58, Try.ntmps58
      go_wp2
      go_ret
      exact ⟨rfl, rfl⟩
    · rw [rootA_cons n h0]
      clear h0
      go_enter Try.func58, Try.ntmps58
      go_wp2
      go_ret
      exact ⟨rfl, rfl⟩
set_option maxHeartbeats 800000 in
theorem countNodes_any {B H : Nat} : ∀ (f : Nat) (s : List UInt8) (n : Nat) (p : Option Addr) (w : World), Hid (TA w B H f s n p) → Hid (scan s = some 0 ∧ s.length ≤ f) → f ≤ 18 →
    Calls Try.prog 65 #[.pointer p] w fun e w' => e = .returned (.int .i64 ((s.length / 2 : Nat) : Int)) ∧ ∃ m, w' = w.drewN m := by
  intro f
  induction f with
  | zero =>
    intro s n p w hT hf _
    have h0 : s = [] := List.eq_nil_of_length_eq_zero (by have := hf.out.2; omega)
    subst h0
    obtain rfl := hT.out.nil
    go_enter Try.func65, Try.ntmps65
    go_wp2
    go_ret
    exact ⟨rfl, 0, rfl⟩
  | succ f ih =>
    intro s n p w hT hf h18
    rcases hT.out with ⟨rfl, rfl⟩ | ⟨h0, b, l, r, rfl, _, _, h4, h5, h6, h7, h8⟩
    · clear ih
      go_enter Try.func65, Try.ntmps65
      go_wp2
      go_ret
      exact ⟨rfl, 0, rfl⟩
    · obtain ⟨_, _, k3, k4, _, k6⟩ := parts_ok hf.out.1 h0
      have e1 := fold_even _ 0 0 k3
      have e2 := fold_even _ 0 0 k4
      have hl := hf.out.2
      have I1 := Lib.hid (fun m => ih (fstL s) (n + 1) l (w.drewN m) (Lib.hid (h7.drewN m)) ⟨k3, by omega⟩ (by omega))
      have I2 := Lib.hid (fun m => ih (rstL s) (n + 1 + (fstL s).length / 2) r (w.drewN m) (Lib.hid (h8.drewN m)) ⟨k4, by omega⟩ (by omega))
      obtain ⟨a, ha⟩ : ∃ a, a = (fstL s).length / 2 := ⟨_, rfl⟩
      obtain ⟨c, hc⟩ : ∃ c, c = (rstL s).length / 2 := ⟨_, rfl⟩
      have e3 : s.length / 2 = a + 1 + c := by omega
      have b1 : a ≤ 9 := by omega
      have b2 : c ≤ 9 := by omega
      rw [e3]
      rw [← ha] at I1
      rw [← hc] at I2
      clear ih h7 h8 h0 k3 k4 k6 e1 e2 hl ha hc e3
      go_enter Try.func65, Try.ntmps65
      go_wp2
      go_quiet (first | (go_at_call_of 65 l; exact Calls.quiet_of (I1.out _)) | (go_at_call_of 65 r; exact Calls.quiet_of (I2.out _)))
      go_wp2
      go_ret
      exact ⟨rfl, nq, rfl⟩

/-- a row in the call's own memory, from the block H on -/
def RowFrom (H : Nat) (xs : List Nat) (w : World) (e : Ending) (w' : World) : Prop := ∃ v, e = .returned v ∧ w'.ownsRow H 3 1 v xs.length (ints xs) ∧ Below H w w'
set_option maxHeartbeats 1600000 in
theorem appendBetween_any {B H : Nat} : ∀ (f : Nat) (s : List UInt8) (n : Nat) (p : Option Addr) (v : Value) (xs : List Nat) (w : World), Hid (TA w B H f s n p) → Hid (scan s = some 0 ∧ s.length ≤ f) → Hid (w.ownsRow H 3 1 v xs.length (ints xs)) → Hid (H ≤ w.heap.size) → xs.length + s.length / 2 ≤ 60 →
    Calls Try.prog 47 #[v, .pointer p] w (RowFrom H (xs ++ btwP f s n) w) := by
  obtain ⟨i0, hi, hz0, hz1, hz2⟩ := info_parts Try.infoIntS
  intro f
  induction f with
  | zero =>
    intro s n p v xs w hT hf hR _ _
    have h0 : s = [] := List.eq_nil_of_length_eq_zero (by have := hf.out.2; omega)
    subst h0
    obtain rfl := hT.out.nil
    rw [btwP_nil, List.append_nil]
    go_enter Try.func47, Try.ntmps47
    go_wp2
    go_ret
    exact ⟨_, rfl, hR.out, Below.refl _ _⟩
  | succ f ih =>
    intro s n p v xs w hT hf hR hH hl
    rcases hT.out with ⟨rfl, rfl⟩ | ⟨h0, b, l, r, rfl, _, hbH, h4, h5, h6, h7, h8⟩
    · clear ih
      rw [btwP_nil, List.append_nil]
      go_enter Try.func47, Try.ntmps47
      go_wp2
      go_ret
      exact ⟨_, rfl, hR.out, Below.refl _ _⟩
    · obtain ⟨_, _, k3, k4, _, k6⟩ := parts_ok hf.out.1 h0
      have e1 := fold_even _ 0 0 k3
      have e2 := fold_even _ 0 0 k4
      have hl2 := hf.out.2
      have I1 := Lib.hid (ih (fstL s) (n + 1) l v xs w (Lib.hid h7) ⟨k3, by omega⟩ hR hH (by omega))
      have L1 := btwP_length f (fstL s) (n + 1) k3 (by omega)
      have I2 := Lib.hid (fun v' xs' w' (hT' : TA w' B H f (rstL s) (n + 1 + (fstL s).length / 2) r) hR' hH' hl' => ih (rstL s) (n + 1 + (fstL s).length / 2) r v' xs' w' (Lib.hid hT') ⟨k4, by omega⟩ hR' hH' hl')
      have H8 := Lib.hid h8
      rw [btwP_cons _ _ _ h0]
      obtain ⟨X, hX⟩ : ∃ X, X = btwP f (fstL s) (n + 1) := ⟨_, rfl⟩
      obtain ⟨Y, hY⟩ : ∃ Y, Y = btwP f (rstL s) (n + 1 + (fstL s).length / 2) := ⟨_, rfl⟩
      rw [← hX] at I1 L1 ⊢
      rw [← hY] at I2 ⊢
      obtain ⟨a, ha⟩ : ∃ a, a = (fstL s).length / 2 := ⟨_, rfl⟩
      rw [← ha] at L1 I2 H8
      have b1 : xs.length + a + 1 + (rstL s).length / 2 ≤ 60 := by omega
      obtain ⟨c, hc⟩ : ∃ c, c = (rstL s).length / 2 := ⟨_, rfl⟩
      rw [← hc] at b1 I2
      obtain ⟨B1, hB1⟩ : ∃ m, m = xs.length + a := ⟨_, rfl⟩
      have lX : (xs ++ X).length = B1 := by rw [List.length_append, L1, hB1]
      have LX := Lib.hid lX
      rw [← hB1] at b1
      clear ih h7 h8 h0 k3 k4 k6 e1 e2 hl2 ha hX hY hl hc L1 hB1 lX
      go_enter Try.func47, Try.ntmps47
      go_wp2_with (go_at_call_of 47 l; refine I1.out.mono ?_)
      rintro e w1 ⟨v1, rfl, hv1, hb1⟩
      have c4 := (hb1.cell (p := ⟨b, 0, none⟩) hbH).trans h4
      have c6 := (hb1.cell (p := ⟨b, 2, none⟩) hbH).trans h6
      have hs1 := hb1.size
      have hT1 := Lib.hid (TA.below hb1 f _ _ _ H8.out)
      rw [LX.out] at hv1
      obtain ⟨a1, cap1, rfl, _, _⟩ := own_shape hv1
      have HV1 := Lib.hid hv1
      have HB1 := Lib.hid hb1
      have y1 : B1 + 1 ≤ maxLen := by unfold maxLen; omega
      have y2 : (B1 + 1) * 8 ≤ 140737488355328 := by omega
      have Y3 := Lib.hid (show ∀ o : Obj, H ≤ (w1.alloc o).heap.size by intro o; simp; have := hH.out; omega)
      clear hv1 hb1 h4 h5 h6 hs1
      go_wp2_with (at_builtin; refine wpList_append_own _ rfl (.tmp 14) (.tmp 19) 29 rfl H 3 i0 (.int .i64 0) 1 8 Try.underlying29 hi hz0 hz1 hz2 rfl (by decide) _ B1 (ints (xs ++ X)) rfl (HV1.out.alloc _) ⟨w1.heap.size, 0, none⟩ 1 1 [.int .i64 n] rfl rfl (cell_one_new _ _ _) (one_int2 _) y1 y2 (Y3.out _) ?_)
      intro v2 w2 hv2 hg2 hn2
      obtain ⟨g2, c2, rfl⟩ := own_some3 hv2 hn2
      have hb2 : Below H w1 w2 := ((Below.refl _ _).alloc (by have := hH.out; have := HB1.out.size; omega) _).grown hg2 (Y3.out _) (fun q hq => (HV1.out.lt q hq).1)
      have d6 := (hb2.cell (p := ⟨b, 2, none⟩) hbH).trans c6
      have hT2 := TA.below hb2 f _ _ _ hT1.out
      have e3 : ints (xs ++ X) ++ [.int .i64 (n : Int)] = ints (xs ++ X ++ [n]) := by rw [ints_snoc]
      rw [e3] at hv2
      have lX2 : (xs ++ X ++ [n]).length = B1 + 1 := by rw [List.length_append, LX.out]; rfl
      have C2 := Lib.hid (I2.out (.slice (some ⟨g2, 0, none⟩) (B1 + 1) c2) (xs ++ X ++ [n]) w2 hT2 (by rw [lX2]; exact hv2) (Nat.le_trans hH.out (Nat.le_trans HB1.out.size hb2.size)) (by rw [lX2]; exact b1))
      have HB2 := Lib.hid (HB1.out.trans hb2)
      clear hv2 hg2 hn2 hb2 HV1 HB1 c4 c6 hT1 hT2 e3 lX2 I1 I2
      go_wp2_with (go_at_call_of 47 r; refine C2.out.mono ?_)
      rintro e w3 ⟨v3, rfl, hv3, hb3⟩
      have HV3 := Lib.hid hv3
      have HB3 := Lib.hid (HB2.out.trans hb3)
      clear hv3 hb3
      go_wp2
      go_ret
      refine ⟨_, rfl, ?_, HB3.out⟩
      have e4 : xs ++ (X ++ [n] ++ Y) = xs ++ X ++ [n] ++ Y := by simp
      rw [e4]
      exact HV3.out
end Go.Proofs.Ytpphilladlladaa
