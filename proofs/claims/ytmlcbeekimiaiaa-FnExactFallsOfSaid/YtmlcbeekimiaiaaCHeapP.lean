/-
  The contracts of the program's HeapsOf and HeapsByHooks.
-/
import Derived.Test.YtmlcbeekimiaiaaCProd
import Derived.Test.YtmlcbeekimiaiaaCHeapsS
import Derived.Test.YtmlcbeekimiaiaaCReadN
import Derived.Test.YtmlcbeekimiaiaaCRowsN
import Derived.Deep.RegionHeld3
namespace Go.Proofs.Ytmlcbeekimiaiaa
open Go.RowKit

theorem implWordUp_any (k : Nat) (s : ByteArray) (w : World) (hs : s.size ≤ maxLen) (hk : k ≤ 100) :
    Calls Try.prog 29 #[.int .i64 (k : Int), .string s] w fun e w' => e = .returned (.bool (decide (valid s.data.toList = true ∧ s.data.toList.length ≤ 2 * k))) ∧ Below w.heap.size w w' := by
  have e1 : IntKind.i64.wrap (2 * (k : Int)) = 2 * (k : Int) := by rw [IntKind.wrap_i64]; omega
  cases hv : valid s.data.toList with
  | false =>
    rw [decide_eq_false (fun h => by exact absurd h.1 (by decide))]
    have HV := Lib.hid hv
    clear hv
    go_enter Try.func29, Try.ntmps29
    go_wp2_with fail
    refine (implValid_is false _ _ hs HV).mono ?_
    rintro e w1 ⟨rfl, hb⟩
    have HB := Lib.hid hb
    clear hb
    go_wp2
    go_ret
    exact ⟨rfl, HB.out⟩
  | true =>
    have HV := Lib.hid hv
    have hd : decide (true = true ∧ s.data.toList.length ≤ 2 * k) = decide (s.size ≤ 2 * k) := by rw [size_list]; simp
    rw [hd]
    clear hv hd
    by_cases hl : s.size ≤ 2 * k
    · have b1 : (s.size : Int) ≤ 2 * (k : Int) := by omega
      rw [decide_eq_true hl]
      clear hl
      go_enter Try.func29, Try.ntmps29
      go_wp2_with fail
      refine (implValid_is true _ _ hs HV).mono ?_
      rintro e w1 ⟨rfl, hb⟩
      have HB := Lib.hid hb
      clear hb
      go_wp2
      go_ret
      exact ⟨(by first | rfl | (simp [b1]; done) | (rw [decide_eq_true b1]; rfl) | (rw [decide_eq_false b1]; rfl)), HB.out⟩
    · have b1 : ¬ (s.size : Int) ≤ 2 * (k : Int) := by omega
      rw [decide_eq_false hl]
      clear hl
      go_enter Try.func29, Try.ntmps29
      go_wp2_with fail
      refine (implValid_is true _ _ hs HV).mono ?_
      rintro e w1 ⟨rfl, hb⟩
      have HB := Lib.hid hb
      clear hb
      go_wp2
      go_ret
      exact ⟨(by first | rfl | (simp [b1]; done) | (rw [decide_eq_true b1]; rfl) | (rw [decide_eq_false b1]; rfl)), HB.out⟩

/-- the tree in memory, told by the tree -/
theorem ta_tree {w : World} {B H f n : Nat} {p : Option Addr} {a b : Tw} (h : TA w B H f (Tw.n a b).lst n p) (hf : 1 ≤ f) : ∃ g k l r, p = some ⟨k, 0, none⟩ ∧ f = g + 1 ∧ k < H ∧ w.cell? ⟨k, 1, none⟩ = some (.pointer l) ∧ w.cell? ⟨k, 2, none⟩ = some (.pointer r) ∧ TA w B H g a.lst (n + 1) l ∧ TA w B H g b.lst (n + 1 + a.size) r := by
  cases f with
  | zero => omega
  | succ f =>
    rcases h with ⟨h0, _⟩ | ⟨_, k, l, r, h1, _, h3, _, h5, h6, h7, h8⟩
    · exact absurd h0 (Tw.lst_ne a b)
    · rw [Tw.fst_lst] at h7 h8
      rw [Tw.rst_lst, Tw.half_lst] at h8
      exact ⟨f, k, l, r, h1, rfl, h3, h5, h6, h7, h8⟩
theorem lit3 (A B C : Nat) (W : World) : RdI (W.alloc (.cells #[.int .i64 (A : Int), .int .i64 (B : Int), .int .i64 (C : Int)] 3)) (W.heap.size + 1) (some ⟨W.heap.size, 0, none⟩) (natI [A, B, C]) := fun j hj => by
  refine ⟨_, _, rfl, by omega, ?_⟩
  rw [Nat.zero_add, World.cell?_alloc_new]
  simp only [natI_length, List.length_cons, List.length_nil] at hj
  match j, hj with
  | 0, _ => rfl
  | 1, _ => rfl
  | 2, _ => rfl
set_option maxRecDepth 100000 in
set_option maxHeartbeats 3200000 in
theorem heapsFrom_any {B H : Nat} : ∀ (t : Tw), t.size ≤ 8 → ∀ (f n : Nat) (p : Option Addr) (w : World), Hid (TA w B H f t.lst n p) → t.lst.length ≤ f → f ≤ 18 → H ≤ w.heap.size →
    Calls Try.prog 30 #[.pointer p] w fun e w' => e = .returned (.int .i64 ((t.heaps : Nat) : Int)) ∧ Below w.heap.size w w' := by
  intro t
  induction t with
  | e =>
    intro _ f n p w hT _ _ _
    obtain rfl := hT.out.nil
    go_enter Try.func30, Try.ntmps30
    go_wp2
    go_ret
    exact ⟨rfl, Below.refl _ _⟩
  | n a b iha ihb =>
    intro h8 f n p w hT hf h18 hH
    have hab : a.size + 1 + b.size ≤ 8 := h8
    have hl0 := Tw.lst_length (Tw.n a b)
    have hla := Tw.lst_length a
    have hlb := Tw.lst_length b
    have hsz : (Tw.n a b).size = a.size + 1 + b.size := rfl
    obtain ⟨g, k, l, r, rfl, rfl, hk, c1, c2, hTa, hTb⟩ := ta_tree hT.out (by omega)
    have K1 := Lib.hid (fun m => countNodes_any g a.lst (n + 1) l (w.drewN m) (Lib.hid (hTa.drewN m)) (Lib.hid ⟨Tw.lst_scan a, by omega⟩) (by omega))
    have K2 := Lib.hid (fun m => countNodes_any g b.lst (n + 1 + a.size) r (w.drewN m) (Lib.hid (hTb.drewN m)) (Lib.hid ⟨Tw.lst_scan b, by omega⟩) (by omega))
    rw [Tw.half_lst] at K1 K2
    have I1 : Hid (∀ W, Below w.heap.size w W → Calls Try.prog 30 #[.pointer l] W fun e w' => e = .returned (.int .i64 ((a.heaps : Nat) : Int)) ∧ Below W.heap.size W w') :=
      fun W hW => iha (by omega) g (n + 1) l W (Lib.hid (TA.below (hW.mono hH) g _ _ _ hTa)) (by omega) (by omega) (Nat.le_trans hH hW.size)
    have I2 : Hid (∀ W, Below w.heap.size w W → Calls Try.prog 30 #[.pointer r] W fun e w' => e = .returned (.int .i64 ((b.heaps : Nat) : Int)) ∧ Below W.heap.size W w') :=
      fun W hW => ihb (by omega) g (n + 1 + a.size) r W (Lib.hid (TA.below (hW.mono hH) g _ _ _ hTb)) (by omega) (by omega) (Nat.le_trans hH hW.size)
    have I3 : Hid (∀ W : World, Calls Try.prog 49 #[.int .i64 ((a.size + b.size : Nat) : Int), .int .i64 ((a.size : Nat) : Int)] W fun e w' => e = .returned (.int .i64 ((chs (a.size + b.size) a.size : Nat) : Int)) ∧ Below W.heap.size W w') :=
      fun W => choices_any (a.size + b.size) a.size W (by omega) (by omega)
    have hle := Tw.heaps_le h8
    have h40 := fct_le8 _ h8
    have hpa := Tw.heaps_pos (t := a) (by omega)
    have hpb := Tw.heaps_pos (t := b) (by omega)
    have hpc : 1 ≤ chs (a.size + b.size) a.size := by
      have h1 := chs_fac (a.size + b.size) (by omega) a.size (by omega)
      have h2 := fct_pos (a.size + b.size)
      rcases Nat.eq_zero_or_pos (chs (a.size + b.size) a.size) with e | e
      · rw [e, Nat.zero_mul, Nat.zero_mul] at h1; omega
      · exact e
    rw [Tw.heaps] at hle ⊢
    obtain ⟨A, hA⟩ : ∃ A, A = a.heaps := ⟨_, rfl⟩
    obtain ⟨D, hD⟩ : ∃ D, D = b.heaps := ⟨_, rfl⟩
    obtain ⟨C, hC⟩ : ∃ C, C = chs (a.size + b.size) a.size := ⟨_, rfl⟩
    rw [← hA] at I1 hle hpa ⊢
    rw [← hD] at I2 hle hpb ⊢
    rw [← hC] at I3 hle hpc ⊢
    have hR : prodN [A, D, C] = C * A * D := by simp only [prodN, Nat.mul_one]; ac_rfl
    have hca : C * A ≤ 40320 := Nat.le_trans (Nat.le_mul_of_pos_right _ hpb) (Nat.le_trans hle h40)
    have bA : A ≤ 40320 := Nat.le_trans (Nat.le_mul_of_pos_left _ hpc) hca
    have bC : C ≤ 40320 := Nat.le_trans (Nat.le_mul_of_pos_right _ hpa) hca
    have bD : D ≤ 40320 := Nat.le_trans (Nat.le_mul_of_pos_left _ (Nat.mul_pos hpc hpa)) (Nat.le_trans hle h40)
    have bR : C * A * D ≤ 40320 := Nat.le_trans hle h40
    obtain ⟨R, hRR⟩ : ∃ R, R = C * A * D := ⟨_, rfl⟩
    rw [← hRR] at hR bR ⊢
    have eR : IntKind.i64.wrap (R : Int) = (R : Int) := by rw [IntKind.wrap_i64]; omega
    have I4 : Hid (∀ W : World, Calls Try.prog 36 #[.slice (some ⟨W.heap.size, 0, none⟩) 3 3] (W.alloc (.cells #[.int .i64 (A : Int), .int .i64 (D : Int), .int .i64 (C : Int)] 3)) fun e w' => e = .returned (.int .i64 (R : Int)) ∧ w' = W.alloc (.cells #[.int .i64 (A : Int), .int .i64 (D : Int), .int .i64 (C : Int)] 3)) := fun W => by
      refine (product_any [A, D, C] (some ⟨W.heap.size, 0, none⟩) 3 3 _ (Lib.hid (lit3 A D C W)) rfl (by omega) (fun x hx => ?_)).mono ?_
      · simp only [List.mem_cons, List.not_mem_nil, or_false] at hx
        rcases hx with rfl | rfl | rfl <;> omega
      · rintro e w' ⟨rfl, rfl⟩
        refine ⟨?_, rfl⟩
        rw [hR, eR]
    obtain ⟨x, hx⟩ : ∃ x, x = a.size := ⟨_, rfl⟩
    obtain ⟨y, hy⟩ : ∃ y, y = b.size := ⟨_, rfl⟩
    obtain ⟨z, hz⟩ : ∃ z, z = a.size + b.size := ⟨_, rfl⟩
    rw [← hz, ← hx] at I3
    rw [← hx] at K1
    rw [← hy] at K2
    have ez : IntKind.i64.wrap ((x : Int) + (y : Int)) = (z : Int) := by rw [IntKind.wrap_i64]; omega
    have hkw : k < w.heap.size := by omega
    have KS : Hid (∀ W, Below w.heap.size w W → (Below w.heap.size w W ∧ W.cell? ⟨k, 1, none⟩ = some (.pointer l) ∧ W.cell? ⟨k, 2, none⟩ = some (.pointer r))) := fun W h => ⟨h, (h.cell (p := ⟨k, 1, none⟩) hkw).trans c1, (h.cell (p := ⟨k, 2, none⟩) hkw).trans c2⟩
    have z7 : z ≤ 7 := by omega
    have bx : x ≤ 7 := by omega
    have by_ : y ≤ 7 := by omega
    clear iha ihb hT hTa hTb hle h40 hpa hpb hpc hA hD hC hR hca bR hRR hx hy hz hkw hl0 hla hlb hsz hab h8 hf h18 hk hH
    go_enter Try.func30, Try.ntmps30
    go_wp2_with fail
    go_quiet (first | (go_at_call_of 48 l; exact Calls.quiet_of (K1.out _)) | (go_at_call_of 48 r; exact Calls.quiet_of (K2.out _)))
    have hB0 : Below w.heap.size w (w.drewN nq) := ⟨rfl, rfl, rfl, Nat.le_refl _, fun _ _ => rfl⟩
    obtain ⟨wq, hwq⟩ : ∃ wq, wq = w.drewN nq := ⟨_, rfl⟩
    rw [← hwq] at hB0 ⊢
    obtain ⟨_, d1, d2⟩ := KS.out wq hB0
    clear hwq K1 K2 c1 c2
    go_wp2_with fail
    go_region_held3 (fun w' => Below w.heap.size w w' ∧ w'.cell? ⟨k, 1, none⟩ = some (.pointer l) ∧ w'.cell? ⟨k, 2, none⟩ = some (.pointer r))
      (first
        | exact KS.out _ (by assumption)
        | exact KS.out _ (Below.drew (by assumption))
        | exact KS.out _ (hB6.alloc hB6.size _)
        | exact KS.out _ (hB5.alloc hB5.size _)
        | exact KS.out _ (hB4.alloc hB4.size _))
      (first
        | (go_at_call 36; have mk3 := mk2; have mk4 := mk1; have mk6 := mk5; refine (I4.out _).mono ?_; rintro e w9 ⟨rfl, hw9⟩)
        | (go_at_call_of 30 r; have mk2 : True := trivial; go_split_ands; refine (I2.out _ (by assumption)).mono ?_; rintro e w5 ⟨rfl, hb5⟩
           have hB5 : Below w.heap.size w w5 := by
             refine Below.trans (B := w.heap.size) ?_ (hb5.mono (Below.size (B := w.heap.size) ?_)) <;> assumption)
        | (go_at_call_of 30 l; have mk1 : True := trivial; go_split_ands; refine (I1.out _ (by assumption)).mono ?_; rintro e w4 ⟨rfl, hb4⟩
           have hB4 : Below w.heap.size w w4 := by
             refine Below.trans (B := w.heap.size) ?_ (hb4.mono (Below.size (B := w.heap.size) ?_)) <;> assumption)
        | (go_at_call 49; have mk5 : True := trivial; go_split_ands; refine (I3.out _).mono ?_; rintro e w6 ⟨rfl, hb6⟩
           have hB6 : Below w.heap.size w w6 := by
             refine Below.trans (B := w.heap.size) ?_ (hb6.mono (Below.size (B := w.heap.size) ?_)) <;> assumption))
    have hF := Lib.hid (hB6.alloc hB6.size (.cells #[.int .i64 (A : Int), .int .i64 (D : Int), .int .i64 (C : Int)] 3))
    clear hw9 hB4 hB5 hb4 hb5 hb6 hB6 KS I1 I2 I3 I4
    go_wp2
    go_ret
    exact ⟨rfl, hF.out⟩

theorem ints_nat (l : List Nat) : iv (natI l) = ints l := by simp [iv, natI, ints]
set_option maxRecDepth 100000 in
set_option maxHeartbeats 1600000 in
theorem appendHooks_any {B H : Nat} : ∀ (t : Tw), t.size ≤ 8 → ∀ (f n : Nat) (p : Option Addr) (v : Value) (xs : List Nat) (w : World), Hid (TA w B H f t.lst n p) → t.lst.length ≤ f → f ≤ 18 → Hid (w.ownsRow H 3 1 v xs.length (ints xs)) → Hid (H ≤ w.heap.size) → xs.length + t.size ≤ 60 →
    Calls Try.prog 35 #[v, .pointer p] w (RowFrom H (xs ++ Tw.hkl t) w) := by
  obtain ⟨i0, hi, hz0, hz1, hz2⟩ := info_parts Try.infoIntS
  intro t
  induction t with
  | e =>
    intro _ f n p v xs w hT _ _ hR _ _
    obtain rfl := hT.out.nil
    rw [Tw.hkl, List.append_nil]
    go_enter Try.func35, Try.ntmps35
    go_wp2
    go_ret
    exact ⟨_, rfl, hR.out, Below.refl _ _⟩
  | n a b iha ihb =>
    intro h8 f n p v xs w hT hf h18 hR hH hl
    have hab : a.size + 1 + b.size ≤ 8 := h8
    have hl0 := Tw.lst_length (Tw.n a b)
    have hla := Tw.lst_length a
    have hlb := Tw.lst_length b
    have hsz : (Tw.n a b).size = a.size + 1 + b.size := rfl
    have CN := countNodes_any f (Tw.n a b).lst n p w hT (Lib.hid ⟨Tw.lst_scan _, hf⟩) h18
    rw [Tw.half_lst, hsz] at CN
    obtain ⟨g, k, l, r, rfl, rfl, hk, c1, c2, hTa, hTb⟩ := ta_tree hT.out (by omega)
    have CN := Lib.hid CN
    have HA := Lib.hid hTa
    have HB := Lib.hid hTb
    have I1 := Lib.hid (fun v' xs' w' (hT' : TA w' B H g a.lst (n + 1) l) hR' hH' hl' => iha (by omega) g (n + 1) l v' xs' w' (Lib.hid hT') (by omega) (by omega) hR' hH' hl')
    have I2 := Lib.hid (fun v' xs' w' (hT' : TA w' B H g b.lst (n + 1 + a.size) r) hR' hH' hl' => ihb (by omega) g (n + 1 + a.size) r v' xs' w' (Lib.hid hT') (by omega) (by omega) hR' hH' hl')
    rw [Tw.hkl]
    have LX := Tw.hkl_length a
    obtain ⟨X, hX⟩ : ∃ X, X = Tw.hkl a := ⟨_, rfl⟩
    obtain ⟨Y, hY⟩ : ∃ Y, Y = Tw.hkl b := ⟨_, rfl⟩
    rw [← hX] at I1 LX ⊢
    rw [← hY] at I2 ⊢
    obtain ⟨z, hz⟩ : ∃ z, z = a.size + 1 + b.size := ⟨_, rfl⟩
    rw [← hz] at CN ⊢
    rw [hsz] at hl
    obtain ⟨x, hx⟩ : ∃ x, x = a.size := ⟨_, rfl⟩
    obtain ⟨y, hy⟩ : ∃ y, y = b.size := ⟨_, rfl⟩
    rw [← hx] at I1 I2 LX HB
    rw [← hy] at I2
    have b1 : xs.length + (x + 1 + y) ≤ 60 := by omega
    obtain ⟨L, hL⟩ : ∃ L, L = xs.length := ⟨_, rfl⟩
    have HL := Lib.hid hL
    have LX := Lib.hid LX
    obtain ⟨a1, cap1, rfl, _, _⟩ := own_shape hR.out
    rw [← hL] at hR b1 ⊢
    have hbk := hk
    have y1 : L + 1 ≤ maxLen := by unfold maxLen; omega
    have y2 : (L + 1) * 8 ≤ 140737488355328 := by omega
    have Y3 := Lib.hid (show ∀ (q : Nat) (o : Obj), H ≤ ((w.drewN q).alloc o).heap.size by intro q o; have := hH.out; rw [World.size_alloc]; exact Nat.le_succ_of_le this)
    have C1 := Lib.hid c1
    have C2 := Lib.hid c2
    clear iha ihb hT hTa hTb hX hY hz hx hy hL hl0 hla hlb hsz hab h8 hf h18 hl c1 c2
    go_enter Try.func35, Try.ntmps35
    go_wp2_with fail
    refine CN.out.mono ?_
    rintro e w0 ⟨rfl, q, rfl⟩
    clear CN
    have R0 : Hid ((w.drewN q).ownsRow H 3 1 (.slice a1 L cap1) L (ints xs)) := hR.out
    go_wp2_with (at_builtin; refine wpList_append_own _ rfl (.tmp 8) (.tmp 11) 22 rfl H 3 i0 (.int .i64 0) 1 8 Try.underlying22 hi hz0 hz1 hz2 rfl (by decide) _ L (ints xs) rfl (R0.out.alloc _) ⟨(w.drewN q).heap.size, 0, none⟩ 1 1 [.int .i64 z] rfl rfl (cell_one_new _ _ _) (one_int2 _) y1 y2 (Y3.out q _) ?_)
    intro v2 w2 hv2 hg2 hn2
    obtain ⟨g2, c2, rfl⟩ := own_some3 hv2 hn2
    have hb2 : Below H w w2 := by
      have h0 : Below H w (w.drewN q) := ⟨rfl, rfl, rfl, Nat.le_refl _, fun _ _ => rfl⟩
      exact (h0.alloc (by have := hH.out; exact this) _).grown hg2 (Y3.out q _) (fun j hj => (R0.out.lt j hj).1)
    have e3 : ints xs ++ [.int .i64 (z : Int)] = ints (xs ++ [z]) := by rw [ints_snoc]
    rw [e3] at hv2
    have lX2 : (xs ++ [z]).length = L + 1 := by rw [List.length_append, HL.out]; rfl
    have D1 := (hb2.cell (p := ⟨k, 1, none⟩) hbk).trans C1.out
    have J1 := Lib.hid (I1.out (.slice (some ⟨g2, 0, none⟩) (L + 1) c2) (xs ++ [z]) w2 (TA.below hb2 g _ _ _ HA.out) (Lib.hid (by rw [lX2]; exact hv2)) (Lib.hid (Nat.le_trans hH.out hb2.size)) (by rw [lX2]; omega))
    have HB2 := Lib.hid hb2
    clear hv2 hg2 hn2 hb2 e3 R0 Y3 hR I1
    go_wp2_with (go_at_call_of 35 l; refine J1.out.mono ?_)
    rintro e w3 ⟨v3, rfl, hv3, hb3⟩
    have HB3 := Lib.hid (HB2.out.trans hb3)
    have lX3 : (xs ++ [z] ++ X).length = L + 1 + x := by rw [List.length_append, lX2, LX.out]
    rw [lX3] at hv3
    obtain ⟨a3, cap3, rfl, _, _⟩ := own_shape hv3
    have D2 := (HB3.out.cell (p := ⟨k, 2, none⟩) hbk).trans C2.out
    have J2 := Lib.hid (I2.out (.slice a3 (L + 1 + x) cap3) (xs ++ [z] ++ X) w3 (TA.below HB3.out g _ _ _ HB.out) (Lib.hid (by rw [lX3]; exact hv3)) (Lib.hid (Nat.le_trans hH.out HB3.out.size)) (by rw [lX3]; omega))
    clear hv3 hb3 J1 I2 D1 lX3 lX2 HB2
    go_wp2_with (go_at_call_of 35 r; refine J2.out.mono ?_)
    rintro e w4 ⟨v4, rfl, hv4, hb4⟩
    have HV4 := Lib.hid hv4
    have HB4 := Lib.hid (HB3.out.trans hb4)
    clear hv4 hb4 J2 D2
    go_wp2
    go_ret
    refine ⟨_, rfl, ?_, HB4.out⟩
    have e4 : xs ++ z :: (X ++ Y) = xs ++ [z] ++ X ++ Y := by simp
    rw [e4]
    exact HV4.out

set_option maxRecDepth 100000 in
set_option maxHeartbeats 800000 in
theorem implHeapsOf_any (s : ByteArray) (w : World) (hs : s.size ≤ maxLen) :
    Calls Try.prog 16 #[.string s] w fun e w' => e = .returned (.int .i64 (heapsO s.data.toList)) ∧ Below w.heap.size w w' := by
  have CV := Lib.hid (implWordUp_any 8 s w hs (by omega))
  by_cases h : valid s.data.toList = true ∧ s.data.toList.length ≤ 2 * 8
  · rw [decide_eq_true h] at CV
    obtain ⟨t, ht, ht8⟩ := tree_of h.1 h.2
    have CF := Lib.hid (fun W => firstNode_any s W (Lib.hid h.1))
    have hlen : t.lst.length ≤ 18 := by rw [ht]; omega
    rw [← ht, heapsO_lst ht8]
    rw [← ht] at CF
    have CH : Hid (∀ (B H n : Nat) (p : Option Addr) (W : World), Hid (TA W B H 18 t.lst n p) → H ≤ W.heap.size → Calls Try.prog 30 #[.pointer p] W fun e w' => e = .returned (.int .i64 ((t.heaps : Nat) : Int)) ∧ Below W.heap.size W w') :=
      fun B H n p W h1 h2 => heapsFrom_any t ht8 18 n p W h1 hlen (Nat.le_refl _) h2
    obtain ⟨R, hR⟩ : ∃ R, R = t.heaps := ⟨_, rfl⟩
    rw [← hR] at CH ⊢
    clear h hR ht ht8 hlen
    go_enter Try.func16, Try.ntmps16
    go_wp2_with fail
    refine CV.out.mono ?_
    rintro e w1 ⟨rfl, hb1⟩
    have B1 := Lib.hid hb1
    clear hb1 CV
    go_wp2_with fail
    refine (CF.out w1).mono ?_
    rintro e w2 ⟨p, rfl, hT, hb2⟩
    have T2 := Lib.hid hT
    have B2 := Lib.hid (B1.out.trans (hb2.mono B1.out.size))
    clear hb2 hT CF
    go_wp2_with fail
    refine (CH.out _ _ _ _ _ T2 (Nat.le_refl _)).mono ?_
    rintro e w3 ⟨rfl, hb3⟩
    have B3 := Lib.hid (B2.out.trans (hb3.mono B2.out.size))
    clear hb3 CH T2
    go_wp2
    go_ret
    exact ⟨rfl, B3.out⟩
  · rw [decide_eq_false h] at CV
    rw [heapsO, if_neg (fun hh => h ⟨hh.1, by omega⟩)]
    clear h
    go_enter Try.func16, Try.ntmps16
    go_wp2_with fail
    refine CV.out.mono ?_
    rintro e w1 ⟨rfl, hb1⟩
    have B1 := Lib.hid hb1
    clear hb1 CV
    go_wp2
    go_ret
    exact ⟨rfl, B1.out⟩

set_option maxRecDepth 100000 in
set_option maxHeartbeats 1600000 in
theorem implHeapsByHooks_any (s : ByteArray) (w : World) (hs : s.size ≤ maxLen) :
    Calls Try.prog 18 #[.string s] w fun e w' => e = .returned (.int .i64 (heapsO s.data.toList)) ∧ Below w.heap.size w w' := by
  have CV := Lib.hid (implWordUp_any 8 s w hs (by omega))
  by_cases h : valid s.data.toList = true ∧ s.data.toList.length ≤ 2 * 8
  · rw [decide_eq_true h] at CV
    obtain ⟨t, ht, ht8⟩ := tree_of h.1 h.2
    have CF := Lib.hid (fun W => firstNode_any s W (Lib.hid h.1))
    have hlen : t.lst.length ≤ 18 := by rw [ht]; omega
    rw [← ht, heapsO_lst ht8]
    rw [← ht] at CF
    have CH : Hid (∀ (B H n : Nat) (p : Option Addr) (W : World), Hid (TA W B H 18 t.lst n p) → Hid (W.ownsRow H 3 1 (.slice none 0 0) ([] : List Nat).length (ints [])) → Hid (H ≤ W.heap.size) → Calls Try.prog 35 #[.slice none 0 0, .pointer p] W (RowFrom H ([] ++ Tw.hkl t) W)) :=
      fun B H n p W h1 h2 h3 => appendHooks_any t ht8 18 n p (.slice none 0 0) [] W h1 hlen (Nat.le_refl _) h2 h3 (by simp; omega)
    rw [List.nil_append] at CH
    have hkl := Tw.hkl_length t
    have hkp := Tw.hkl_prod t
    have hkb : ∀ x ∈ Tw.hkl t, x ≤ 1000000 := by
      have key : ∀ u : Tw, ∀ x ∈ Tw.hkl u, x ≤ u.size := by
        intro u
        induction u with
        | e => intro x hx; cases hx
        | n a b iha ihb =>
          intro x hx
          rw [Tw.hkl] at hx
          rw [Tw.size]
          rcases List.mem_cons.mp hx with hx | hx
          · omega
          · rcases List.mem_append.mp hx with hx | hx
            · have := iha x hx; omega
            · have := ihb x hx; omega
      intro x hx
      have := key t x hx
      omega
    have hhk := Tw.hooks_le ht8
    have hhp := Tw.hooks_pos t
    have h40 := fct_le8 _ ht8
    have C1 := Lib.hid (fun W => numbersBetween_any 1 t.size ((t.size : Nat) : Int) W (by omega) (by omega) (by omega))
    have hpf := prod_fct t.size ht8
    have P1 := Lib.hid (fun u W B H (ho : Hid (Own W B H 3 u (iv (natI (betN 1 t.size))))) => product_own (betN 1 t.size) u W ho (by rw [betN_length]; omega) (fun x hx => by have := betN_le _ _ x hx; omega) (by rw [hpf]; omega))
    have P2 := Lib.hid (fun u W B H (ho : Hid (Own W B H 3 u (iv (natI (Tw.hkl t))))) => product_own (Tw.hkl t) u W ho (by omega) hkb (by rw [hkp]; omega))
    rw [hpf] at P1
    rw [hkp] at P2
    have hd := Tw.heaps_div ht8
    obtain ⟨R, hR⟩ : ∃ R, R = t.heaps := ⟨_, rfl⟩
    rw [← hR] at hd ⊢
    obtain ⟨F, hF⟩ : ∃ F, F = fct t.size := ⟨_, rfl⟩
    rw [← hF] at hd P1 h40 hhk
    obtain ⟨G, hG⟩ : ∃ G, G = t.hooks := ⟨_, rfl⟩
    rw [← hG] at hd P2 hhp hhk
    obtain ⟨z, hz⟩ : ∃ z, z = t.size := ⟨_, rfl⟩
    rw [← hz] at C1 P1 hkl
    obtain ⟨K, hK⟩ : ∃ K, K = Tw.hkl t := ⟨_, rfl⟩
    rw [← hK] at CH P2 hkl
    have HKL := Lib.hid hkl
    have bG : G ≤ 40320 := by omega
    have ne : ((G : Int) == 0) = false := beq_false_of_ne (by omega)
    have HQ4 : Hid (wrap64 ((F : Int) / (G : Int)) = (R : Int)) := by
      show _ = _
      have : R ≤ F := by rw [← hd]; exact Nat.div_le_self _ _
      have e : (F : Int) / (G : Int) = (R : Int) := by rw [← hd]; rfl
      rw [e]; unfold wrap64; omega
    clear h hR ht ht8 hlen hkb hhk hkp hkl hpf hd hF hG hz hK
    go_enter Try.func18, Try.ntmps18
    go_wp2_with fail
    refine CV.out.mono ?_
    rintro e w1 ⟨rfl, hb1⟩
    have B1 := Lib.hid hb1
    clear hb1 CV
    go_wp2_with fail
    refine (CF.out w1).mono ?_
    rintro e w2 ⟨p, rfl, hT, hb2⟩
    have T2 := Lib.hid hT
    have B2 := Lib.hid (B1.out.trans (hb2.mono B1.out.size))
    clear hb2 hT CF
    go_wp2_with fail
    refine (CH.out _ _ _ _ _ T2 (Lib.hid (World.ownsRow_nil _ _ _ _)) (Lib.hid (Nat.le_refl _))).mono ?_
    rintro e w3 ⟨v, rfl, hv, hb3⟩
    have B3 := Lib.hid (B2.out.trans (hb3.mono B2.out.size))
    have O3 : Hid (Own w3 w2.heap.size w3.heap.size 3 v (iv (natI K))) := by
      refine Own.of_own ?_
      rw [ints_nat, show (ints K).length = K.length by simp [ints]]
      exact hv
    obtain ⟨av, cv, rfl, _⟩ := O3.out.slice
    have hkl2 : (iv (natI K)).length = z := by rw [iv_length, natI_length]; exact HKL.out
    rw [hkl2] at O3 ⊢
    clear hb3 hv CH T2 hkl2
    go_wp2_with fail
    refine (C1.out _).mono ?_
    rintro e w4 ⟨u4, rfl, ho4, hb4⟩
    have O4 := Lib.hid ho4
    have O3b := Lib.hid (O3.out.below hb4)
    have B4 := Lib.hid (B3.out.trans (hb4.mono B3.out.size))
    clear ho4 hb4 O3 C1
    go_wp2_with fail
    refine (P1.out _ _ _ _ O4).mono ?_
    rintro e w5 ⟨rfl, rfl⟩
    clear P1 O4
    go_wp2_with fail
    refine (P2.out _ _ _ _ O3b).mono ?_
    rintro e w6 ⟨rfl, rfl⟩
    clear P2 O3b
    go_wp2
    go_ret
    exact ⟨(by rw [HQ4.out]; rfl), B4.out⟩
  · rw [decide_eq_false h] at CV
    rw [heapsO, if_neg (fun hh => h ⟨hh.1, by omega⟩)]
    clear h
    go_enter Try.func18, Try.ntmps18
    go_wp2_with fail
    refine CV.out.mono ?_
    rintro e w1 ⟨rfl, hb1⟩
    have B1 := Lib.hid hb1
    clear hb1 CV
    go_wp2
    go_ret
    exact ⟨rfl, B1.out⟩
end Go.Proofs.Ytmlcbeekimiaiaa
