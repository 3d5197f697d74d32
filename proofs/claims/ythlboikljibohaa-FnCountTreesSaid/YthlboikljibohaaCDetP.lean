/-
  The program's determinant of up to four rows of small numbers.
-/
import Derived.Test.YthlboikljibohaaCLess
namespace Go.Proofs.Ythlboikljibohaa
open Go.RowKit

theorem less_lens {c m : Nat} {rest : List (List Int)} (h : ∀ r ∈ rest, r.length = m + 1) (hc : c < m + 1) : ∀ r ∈ lessG c rest, r.length = m := by
  intro r hr
  obtain ⟨x, hx, rfl⟩ := List.mem_map.1 hr
  have := h x hx
  rw [List.length_append, List.length_take, List.length_drop]
  omega
theorem getD_atD {r0 : List Int} {c : Nat} (h : c < r0.length) : r0.getD c opI.zero = r0[c] := by
  rw [List.getD_eq_getElem?_getD, List.getElem?_eq_getElem h]; rfl
set_option maxHeartbeats 3200000 in
set_option maxRecDepth 100000 in
theorem det_p : ∀ (m : Nat), m ≤ 4 → ∀ (rows : List (List Int)) (a : Option Addr) (cv : Nat) (w : World) (H : Nat), rows.length = m → Hid (∀ r ∈ rows, r.length = m) → Hid (In8 rows) → m ≤ cv → H ≤ w.heap.size → Hid (RdR w H a rows) →
    Calls Try.prog 36 #[.slice a m cv] w fun e w' => e = .returned (.int .i64 (detG opI m rows)) ∧ Below w.heap.size w w' := by
  intro m
  induction m with
  | zero =>
    intro _ rows a cv w H hl _ _ _ _ _
    show Calls Try.prog 36 #[.slice a 0 cv] w fun e w' => e = .returned (.int .i64 1) ∧ Below w.heap.size w w'
    clear hl
    go_enter Try.func36, Try.ntmps36
    go_wp2
    go_ret
    exact ⟨rfl, Below.refl _ _⟩
  | succ m ih =>
    intro hm4 rows a cv w H hl hrs h8 hcv hH hR
    cases rows with
    | nil => simp at hl
    | cons r0 rest =>
      have hrl : rest.length = m := by simpa using hl
      have l0 : r0.length = m + 1 := hrs.out r0 (by simp)
      have hrest : Hid (∀ r ∈ rest, r.length = m + 1) := fun r hr => hrs.out r (by simp [hr])
      have h8r : Hid (In8 rest) := fun r hr => h8.out r (by simp [hr])
      have h80 : Hid (∀ x ∈ r0, -8 ≤ x ∧ x ≤ 8) := fun x hx => h8.out r0 (by simp) x hx
      obtain ⟨b, off, ar, cr, rfl, hbH, hcr, hcm, c1, hrd⟩ := hR.out 0 (by simp)
      have RT := Lib.hid hR.out.tail
      simp only [List.getElem_cons_zero, Nat.add_zero] at c1 hrd hcr
      obtain ⟨gr, rfl, hgr⟩ : ∃ gr, ar = some ⟨gr, 0, none⟩ ∧ gr < H := by
        obtain ⟨gr, e1, e2, _⟩ := hrd 0 (by omega)
        exact ⟨gr, e1, e2⟩
      have RC : Hid (∀ (j : Nat) (hj : j < r0.length), w.cell? ⟨gr, j, none⟩ = some (.int .i64 r0[j])) := fun j hj => by
        obtain ⟨gr', e1, _, e3⟩ := hrd j hj
        simp only [Option.some.injEq, Addr.mk.injEq] at e1
        obtain ⟨rfl, _, _⟩ := e1
        exact e3
      rw [l0] at c1
      obtain ⟨D, hD⟩ : ∃ D, D = detG opI (m + 1) (r0 :: rest) := ⟨_, rfl⟩
      have HD : Hid (D = sumD r0 rest (m + 1)) := by
        show _ = _
        rw [hD, ← hrl]; exact sumD_full r0 rest
      rw [← hD]
      obtain ⟨aa, haa⟩ : ∃ aa, aa = if cv = 1 then some (Addr.mk b off none) else some (Addr.mk b (off + 1) none) := ⟨_, rfl⟩
      have RA : Hid (RdR w H aa rest) := by
        show RdR _ _ _ _
        rw [haa]
        by_cases hcap1 : cv = 1
        · have : rest = [] := List.eq_nil_of_length_eq_zero (by omega)
          rw [this]
          exact fun k hk => absurd hk (by simp)
        · rw [if_neg hcap1]; exact RT.out
      obtain ⟨B, hB⟩ : ∃ B, B = w.heap.size := ⟨_, rfl⟩
      have HB0 := Lib.hid hB
      have hm0 : ¬ ((m : Int) + 1 = 0) := by omega
      have q0 : (((m : Int) + 1) == 0) = false := by rw [beq_eq_false_iff_ne]; omega
      have u1 : (1 : Int) ≤ (m : Int) + 1 := by omega
      have dl : ∀ c, c < m + 1 → -(bndD m : Int) ≤ detG opI rest.length (lessG c rest) ∧ detG opI rest.length (lessG c rest) ≤ bndD m := fun c hc => by
        rw [hrl]
        exact det_bound m (lessG c rest) (by rw [less_len, hrl]) h8r.out.less
      have SB : Hid (∀ c, c < m + 1 → (-98304 ≤ sumD r0 rest c ∧ sumD r0 rest c ≤ 98304) ∧ (-98304 ≤ termG opI r0 c (detG opI rest.length (lessG c rest)) ∧ termG opI r0 c (detG opI rest.length (lessG c rest)) ≤ 98304)) := fun c hc => by
        have hd : ∀ c, -(bndD m : Int) ≤ detG opI rest.length (lessG c rest) ∧ detG opI rest.length (lessG c rest) ≤ bndD m := fun c => by
          rw [hrl]
          exact det_bound m (lessG c rest) (by rw [less_len, hrl]) h8r.out.less
        have s := sumD_bound (b := bndD m) h80.out hd c
        have t := term_bound (b := bndD m) c h80.out (hd c)
        have hb : bndD (m + 1) ≤ 98304 := bnd_small (m + 1) hm4
        have e1 : bndD (m + 1) = (m + 1) * (8 * bndD m) := rfl
        have e2 : c * (8 * bndD m) ≤ (m + 1) * (8 * bndD m) := Nat.mul_le_mul_right _ (by omega)
        have e3 : 1 * (8 * bndD m) ≤ (m + 1) * (8 * bndD m) := Nat.mul_le_mul_right _ (by omega)
        omega
      have SS := Lib.hid (sumD_step r0 rest)
      have S0 : Hid (sumD r0 rest 0 = 0) := rfl
      clear hrs h8 hrd hD hR RT hl hB dl hcv
      go_enter Try.func36, Try.ntmps36
      go_wp2_with fail
      have hm3 : m + 1 ≤ 4 := hm4
      have HIH := Lib.hid (ih (by omega))
      have CL := Lib.hid (fun (c : Nat) (hc : c < m + 1) (W : World) (hW : Below H w W) (cv' : Nat) => less_p c (m + 1) rest aa cv' W (Lib.hid (RA.out.below hW)) (Nat.le_trans hH hW.size) (by omega) hrest hc (by omega))
      rw [hrl] at CL
      clear ih
      go_loopw [3, 4, 5, 6, 14] (fun e3 e4 e5 e6 ii wr => ∃ (c : Nat) (su σ : Int), c ≤ m + 1 ∧ ii = .int .i64 (c : Int) ∧ e3 = .int .i64 su ∧ e4 = .int .i64 σ ∧ Hid (su = sumD r0 rest c) ∧ Hid (σ = if c % 2 = 0 then 1 else -1) ∧ Hid (Below B w wr)) (fun _ _ _ _ ii _ => m + 1 - (intOf ii).toNat)
      case atStart => exact ⟨0, 0, 1, Nat.zero_le _, rfl, rfl, rfl, S0.out.symm, rfl, Below.refl _ _⟩
      case round =>
        obtain ⟨c, su, σ, hc, rfl, rfl, rfl, HS, Hσ, HB⟩ := hrel
        by_cases hlt : c < m + 1
        · have b1 : (c : Int) < (m : Int) + 1 := by omega
          have hc0 : c < r0.length := by omega
          have hBw : Below H w wr := HB.out.mono (by rw [HB0.out]; exact hH)
          have hcell := (hBw.cell (p := ⟨gr, c, none⟩) hgr).trans (RC.out c hc0)
          have hx8 := h80.out _ (List.getElem_mem hc0)
          obtain ⟨⟨s1, s2⟩, t1, t2⟩ := SB.out c hlt
          have ST := SS.out c
          have hT : termG opI r0 c (detG opI rest.length (lessG c rest)) = (if c % 2 = 0 then r0[c] else -(r0[c])) * detG opI rest.length (lessG c rest) := by
            unfold termG
            rw [getD_atD hc0]
            rfl
          obtain ⟨x, hx⟩ : ∃ x, x = r0[c] := ⟨_, rfl⟩
          rw [← hx] at hcell hx8 hT
          obtain ⟨y, hy⟩ : ∃ y, y = if c % 2 = 0 then x else -x := ⟨_, rfl⟩
          rw [← hy] at hT
          have hs01 : -98304 ≤ su ∧ su ≤ 98304 := by have := HS.out; omega
          have ey : IntKind.i64.wrap (σ * x) = y := by
            have h1 := Hσ.out
            rw [IntKind.wrap_i64, hy, h1]
            split
            · rw [Int.one_mul]; omega
            · rw [Int.neg_mul, Int.one_mul]; omega
          have CD : Hid (∀ (W : World) (u : Value) (RV : List Value) (B' : Nat), Hid (GridA W B' u RV (lessG c rest)) → ∃ (av : Option Addr) (cv' : Nat), u = .slice av m cv' ∧ Calls Try.prog 36 #[.slice av m cv'] W fun e w' => e = .returned (.int .i64 (detG opI m (lessG c rest))) ∧ Below W.heap.size W w') := fun W u RV B' hG => by
            have hll : (lessG c rest).length = m := by rw [less_len, hrl]
            obtain ⟨av, cv', rfl, hO⟩ := hG.out.shape
            rw [hll] at hO hG ⊢
            have hcv' : m ≤ cv' := by
              rcases hO.2 with ⟨h0, h1⟩ | ⟨g, cap, cur, h0, _, _, h3, _⟩
              · omega
              · cases h0; exact h3
            exact ⟨av, cv', rfl, HIH.out (lessG c rest) av cv' W W.heap.size hll (Lib.hid (less_lens hrest.out hlt)) (Lib.hid h8r.out.less) hcv' (Nat.le_refl _) (Lib.hid (RdR.of hG.out.grid))⟩
          rw [hrl] at hT ST t1 t2
          obtain ⟨d, hd⟩ : ∃ d, d = detG opI m (lessG c rest) := ⟨_, rfl⟩
          rw [← hd] at hT ST t1 t2
          simp only [← hd] at CD
          obtain ⟨tt, htt⟩ : ∃ tt, tt = termG opI r0 c d := ⟨_, rfl⟩
          rw [← htt] at hT ST t1 t2
          have et : IntKind.i64.wrap (y * d) = tt := by rw [← hT, IntKind.wrap_i64]; omega
          have es : IntKind.i64.wrap (su + tt) = su + tt := by rw [IntKind.wrap_i64]; omega
          have HS2 : Hid (su + tt = sumD r0 rest (c + 1)) := by show _ = _; rw [ST, HS.out]
          obtain ⟨σ', hσ'⟩ : ∃ σ' : Int, σ' = if (c + 1) % 2 = 0 then 1 else -1 := ⟨_, rfl⟩
          have en : IntKind.i64.wrap (-σ) = σ' := by
            rw [hσ', Hσ.out, IntKind.wrap_i64]
            by_cases hc2 : c % 2 = 0
            · rw [if_pos hc2, if_neg (by omega)]; decide
            · rw [if_neg hc2, if_pos (by omega)]; decide
          have Hσ2 := Lib.hid hσ'
          have C1 := Lib.hid (CL.out c hlt wr hBw)
          have sB : Hid (B ≤ wr.heap.size) := by show _ ≤ _; rw [HB0.out]; exact HB.out.size
          clear hx8 s1 s2 t1 t2 ST hT hx hy hs01 hd htt hσ' HS Hσ hBw hc0
          have hcc : (cv = 1 ∧ aa = some ⟨b, off, none⟩) ∨ (¬ cv = 1 ∧ aa = some ⟨b, off + 1, none⟩) := by
            by_cases h1 : cv = 1
            · exact .inl ⟨h1, by rw [haa, if_pos h1]⟩
            · exact .inr ⟨h1, by rw [haa, if_neg h1]⟩
          clear haa RA CL RC
          have u2 : (1 : Int) ≤ (m : Int) + 1 := by omega
          have u3 : 1 ≤ m + 1 := by omega
          rcases hcc with ⟨rfl, rfl⟩ | ⟨hne, rfl⟩
          all_goals
            go_wp2_with fail
            refine (C1.out _).mono ?_
            rintro e w1 ⟨u, RV, rfl, hG, hb⟩
            obtain ⟨av, cv', rfl, hC⟩ := CD.out w1 u RV _ (Lib.hid hG)
            have HC := Lib.hid hC
            have B1 : Hid (Below B w w1) := HB.out.trans (hb.mono sB.out)
            have s1 : Hid (B ≤ w1.heap.size) := Nat.le_trans sB.out hb.size
            clear hG hb hC C1 CD HB sB hcell
            go_wp2_with fail
            refine HC.out.mono ?_
            rintro e w2 ⟨rfl, hb2⟩
            have B2 : Hid (Below B w w2) := B1.out.trans (hb2.mono s1.out)
            clear hb2 HC B1 s1
            go_wp2
            go_roundw
            case rel => exact ⟨c + 1, su + tt, σ', by omega, by go_num, by first | rfl | rw [es], by first | rfl | rw [en], HS2, Hσ2, B2⟩
            case measure => simp [intOf]; omega
        · obtain rfl : c = m + 1 := by omega
          have HE : Hid (su = D) := by show _ = _; rw [HS.out, HD.out]
          have HBB := Lib.hid HB.out
          clear HS HD
          go_wp2
          go_ret
          exact ⟨by rw [← HE.out]; rfl, by rw [← HB0.out]; exact HBB.out⟩
end Go.Proofs.Ythlboikljibohaa
