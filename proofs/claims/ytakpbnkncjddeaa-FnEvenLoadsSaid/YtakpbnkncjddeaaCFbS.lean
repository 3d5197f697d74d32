/-
  The contract of the model's findBy: what a word's tree costs.
-/
import Derived.Test.YtakpbnkncjddeaaZLS
import Derived.Test.YtakpbnkncjddeaaZC
import Derived.Test.YtakpbnkncjddeaaZL
import Derived.Deep.QuietTactic
import Derived.BigQuiet
namespace Go.Proofs.Ytakpbnkncjddeaa
open Go.RowKit

theorem rd_dropS {w : World} {H g off : Nat} {l : List Int} (h : RdI w H (some ⟨g, off, none⟩) l) (k : Nat) : RdI w H (some ⟨g, off + k, none⟩) (l.drop k) := fun j hj => by
  rw [List.length_drop] at hj
  obtain ⟨b, o, e, h2, h3⟩ := h (k + j) (by omega)
  simp only [Option.some.injEq, Addr.mk.injEq] at e
  obtain ⟨rfl, rfl, _⟩ := e
  exact ⟨g, off + k, rfl, h2, by rw [List.getElem_drop, Nat.add_assoc]; exact h3⟩
theorem fbT_bd : ∀ (t : Tw) (L : List Nat) (d : Nat), L.length = t.size → fbT t L d ≤ (d + t.size) * L.sum := by
  intro t
  induction t with
  | e => intro L d _; exact Nat.zero_le _
  | n a b iha ihb =>
    intro L d h
    obtain ⟨u, x, v, rfl, hu, hv, e1, e2, e3⟩ := tw_parts h
    rw [fbT, e1, e2, e3]
    have i1 := iha u (d + 1) hu
    have i2 := ihb v (d + 1) hv
    obtain ⟨S, hS⟩ : ∃ S, S = (u ++ x :: v).sum := ⟨_, rfl⟩
    have es : S = u.sum + (x + v.sum) := by rw [hS, List.sum_append, List.sum_cons]
    rw [← hS]
    obtain ⟨D, hD⟩ : ∃ D, D = d + (Tw.n a b).size := ⟨_, rfl⟩
    have sz : (Tw.n a b).size = a.size + 1 + b.size := rfl
    have j1 : (d + 1 + a.size) * u.sum ≤ D * u.sum := Nat.mul_le_mul_right _ (by omega)
    have j2 : (d + 1 + b.size) * v.sum ≤ D * v.sum := Nat.mul_le_mul_right _ (by omega)
    have j3 : d * x ≤ D * x := Nat.mul_le_mul_right _ (by omega)
    rw [← hD, es, Nat.mul_add, Nat.mul_add]
    omega

set_option maxHeartbeats 6400000 in
set_option maxRecDepth 100000 in
theorem findBy_any : ∀ (t : Tw) (s : ByteArray) (L : List Nat) (a : Option Addr) (cv d : Nat) (w : World) (H : Nat), s.data.toList = t.lst → L.length = t.size → t.size ≤ 7 → d + t.size ≤ 20 → (∀ x ∈ L, x ≤ 20) → L.length ≤ cv → Hid (RdI w H a (ldI L)) →
    Calls Try.prog 58 #[.slice a t.size cv, .string s, .int .i64 (d : Int)] w fun e w' => e = .returned (.int .i64 (fbT t L d : Int)) ∧ ∃ q, w' = w.drewN q := by
  intro t
  induction t with
  | e =>
    intro s L a cv d w H hs _ _ _ _ _ _
    have hs0 : s = ⟨#[]⟩ := bytes_ext (by rw [hs]; rfl)
    subst hs0
    clear hs
    go_enter Try.func58, Try.ntmps58
    go_wp2
    go_ret
    exact ⟨rfl, 0, rfl⟩
  | n ta tb iha ihb =>
    intro s L a cv d w H hs hL h7 hd h20 hcv hR
    have hv : valid s.data.toList = true := by rw [hs]; exact of_scan (Tw.lst_scan _) (by rw [Tw.lst_length]; omega)
    have hne : s.data.toList ≠ [] := by rw [hs]; exact List.cons_ne_nil _ _
    have hlen : s.size = 2 * (Tw.n ta tb).size := by rw [← size_list, hs, Tw.lst_length]
    have hsz : (Tw.n ta tb).size = ta.size + 1 + tb.size := rfl
    obtain ⟨k1, k2, k3, k4, k5, k6⟩ := parts_ok (valid_scan hv).1 hne
    rw [size_list] at k2 k6
    have f1 : fstL s.data.toList = ta.lst := by rw [hs]; exact Tw.fst_lst ta tb
    have f2 : rstL s.data.toList = tb.lst := by rw [hs]; exact Tw.rst_lst ta tb
    have cc := fun w => closing_any s hv (by omega) w
    obtain ⟨K, hK⟩ : ∃ K, K = cl 0 s.data.toList - 1 := ⟨_, rfl⟩
    rw [← hK] at cc
    have eL : (s.extract 1 K).data.toList = ta.lst := by rw [extract_list, ← f1, fstL]; congr 1; omega
    have eR : (s.extract (K + 1) s.size).data.toList = tb.lst := by
      rw [extract_list, ← f2, rstL, show K + 1 = cl 0 s.data.toList by omega, List.take_of_length_le (by simp)]
    have lL : (fstL s.data.toList).length = K - 1 := by omega
    rw [f1, Tw.lst_length] at lL
    obtain ⟨A, hA⟩ : ∃ A, A = ta.size := ⟨_, rfl⟩
    obtain ⟨M, hM⟩ : ∃ M, M = tb.size := ⟨_, rfl⟩
    obtain ⟨N, hN⟩ : ∃ N, N = (Tw.n ta tb).size := ⟨_, rfl⟩
    have hKA : K = 2 * A + 1 := by omega
    obtain ⟨A1, hA1⟩ : ∃ A1, A1 = A + 1 := ⟨_, rfl⟩
    obtain ⟨d1, hd1⟩ : ∃ d1, d1 = d + 1 := ⟨_, rfl⟩
    obtain ⟨b, off, rfl, hbH, hx0⟩ := hR.out 0 (by rw [ldI_len]; omega)
    have c0 : w.cell? ⟨b, off + A, none⟩ = some (.int .i64 ((L.getD A 0 : Nat) : Int)) := by
      obtain ⟨b', o', e, _, h3⟩ := hR.out A (by rw [ldI_len]; omega)
      simp only [Option.some.injEq, Addr.mk.injEq] at e
      obtain ⟨rfl, rfl, _⟩ := e
      rw [h3, ldI_get L A (by omega)]
      simp [List.getElem?_eq_getElem (show A < L.length by omega)]
    clear hx0
    have R1 : ∀ m, Hid (RdI (w.drewN m) H (some ⟨b, off, none⟩) (ldI (L.take A))) := fun m => by
      have := (hR.out.drew m).take A
      rw [ldI_take] at this
      exact this
    have R2 : ∀ m, RdI (w.drewN m) H (some ⟨b, off + A1, none⟩) (ldI (L.drop A1)) := fun m => by
      have := rd_dropS (hR.out.drew m) A1
      rw [ldI_drop] at this
      exact this
    have i1 : ∀ m, Calls Try.prog 58 #[.slice (some ⟨b, off, none⟩) A cv, .string (s.extract 1 K), .int .i64 (d1 : Int)] (w.drewN m) fun e w' => e = .returned (.int .i64 (fbT ta (L.take A) d1 : Int)) ∧ ∃ q, w' = (w.drewN m).drewN q := fun m => by
      have := iha (s.extract 1 K) (L.take A) (some ⟨b, off, none⟩) cv d1 (w.drewN m) H eL (by rw [List.length_take]; omega) (by omega) (by omega) (fun x hx => h20 x (List.mem_of_mem_take hx)) (by rw [List.length_take]; omega) (R1 m)
      rw [← hA] at this
      exact this
    have i2 : ∀ m (a2 : Option Addr) (c2 : Nat), M ≤ c2 → RdI (w.drewN m) H a2 (ldI (L.drop A1)) → Calls Try.prog 58 #[.slice a2 M c2, .string (s.extract (K + 1) s.size), .int .i64 (d1 : Int)] (w.drewN m) fun e w' => e = .returned (.int .i64 (fbT tb (L.drop A1) d1 : Int)) ∧ ∃ q, w' = (w.drewN m).drewN q := fun m a2 c2 hc2 hR2 => by
      have := ihb (s.extract (K + 1) s.size) (L.drop A1) a2 c2 d1 (w.drewN m) H eR (by rw [List.length_drop]; omega) (by omega) (by omega) (fun x hx => h20 x (List.mem_of_mem_drop hx)) (by rw [List.length_drop]; omega) (Lib.hid hR2)
      rw [← hM] at this
      exact this
    have V : fbT (.n ta tb) L d = d * L.getD A 0 + fbT ta (L.take A) d1 + fbT tb (L.drop A1) d1 := by rw [fbT, ← hA, hd1, hA1]
    have bd := fbT_bd (.n ta tb) L d hL
    have bs := sum_bd h20
    have bd2 : (d + (Tw.n ta tb).size) * L.sum ≤ 20 * (20 * 7) := Nat.mul_le_mul hd (Nat.le_trans bs (Nat.mul_le_mul_left _ (by omega)))
    obtain ⟨Z, hZ⟩ : ∃ Z, Z = fbT (.n ta tb) L d := ⟨_, rfl⟩
    obtain ⟨x, hx⟩ : ∃ x, x = L.getD A 0 := ⟨_, rfl⟩
    obtain ⟨X1, hX1⟩ : ∃ X, X = fbT ta (L.take A) d1 := ⟨_, rfl⟩
    obtain ⟨X2, hX2⟩ : ∃ X, X = fbT tb (L.drop A1) d1 := ⟨_, rfl⟩
    obtain ⟨P, hP⟩ : ∃ P, P = d * x := ⟨_, rfl⟩
    have hPI : (d : Int) * (x : Int) = (P : Int) := by rw [hP, Int.natCast_mul]
    rw [← hZ, ← hx, ← hX1, ← hX2, ← hP] at V
    rw [← hZ] at bd ⊢
    rw [← hN]
    rw [← hx] at c0
    simp only [← hX1] at i1
    simp only [← hX2] at i2
    obtain ⟨sL, hsL⟩ : ∃ q, q = s.extract 1 K := ⟨_, rfl⟩
    obtain ⟨sR, hsR⟩ : ∃ q, q = s.extract (K + 1) s.size := ⟨_, rfl⟩
    simp only [← hsL] at i1
    simp only [← hsR] at i2
    have xL := hsL.symm
    have xR := hsR.symm
    have C := Lib.hid cc
    have I1 := Lib.hid i1
    have I2 := Lib.hid i2
    have R2 := Lib.hid R2
    have ep : IntKind.i64.wrap ((d : Int) * (x : Int)) = (P : Int) := by rw [hPI, IntKind.wrap_i64]; omega
    have es : IntKind.i64.wrap ((P : Int) + (X1 : Int)) = (P : Int) + (X1 : Int) := by rw [IntKind.wrap_i64]; omega
    have ez : IntKind.i64.wrap ((P : Int) + (X1 : Int) + (X2 : Int)) = (Z : Int) := by rw [IntKind.wrap_i64]; omega
    have ed : IntKind.i64.wrap ((d : Int) + 1) = (d1 : Int) := by rw [IntKind.wrap_i64]; omega
    have ea : IntKind.i64.wrap ((A : Int) + 1) = (A1 : Int) := by rw [IntKind.wrap_i64]; omega
    have ek1 : IntKind.i64.wrap ((K : Int) - 1) = (K : Int) - 1 := by rw [IntKind.wrap_i64]; omega
    have ek3 : IntKind.i64.wrap ((K : Int) + 1) = (K : Int) + 1 := by rw [IntKind.wrap_i64]; omega
    have b5 : (A : Int) ≤ (cv : Int) := by omega
    have b6 : (A1 : Int) ≤ (N : Int) := by omega
    have b7 : A1 ≤ N := by omega
    have b1 : (1 : Int) ≤ (K : Int) := by omega
    have b2 : (K : Int) ≤ (s.size : Int) := by omega
    have b3 : (K : Int) + 1 ≤ (s.size : Int) := by omega
    have hKs : K + 1 ≤ s.size := by omega
    have b8 : (0 : Int) ≤ (K : Int) + 1 := by omega
    have b4 : (A : Int) < (N : Int) := by omega
    have q0 : s.toList.isEmpty = false := by rw [ByteArray.toList_eq]; simpa using hne
    have em : ((K : Int) - 1) / 2 = (A : Int) := by omega
    have em2 : Int.tdiv ((K : Int) - 1) 2 = (A : Int) := by rw [Int.tdiv_eq_ediv_of_nonneg (by omega)]; exact em
    have ek2 : IntKind.i64.wrap (A : Int) = (A : Int) := by rw [IntKind.wrap_i64]; omega
    have hcvA : A1 = cv ∨ ∃ ce, cv = A1 + (ce + 1) := by
      rcases Nat.eq_or_lt_of_le (show A1 ≤ cv by omega) with h | h
      · exact .inl h
      · exact .inr ⟨cv - A1 - 1, by omega⟩
    have HNM : Hid (N = A1 + M ∧ L.length = N ∧ N ≤ cv) := ⟨by omega, by omega, by omega⟩
    clear hsL hsR
    clear cc hK iha ihb i1 i2 eL eR lL k1 k2 k3 k4 k5 k6 hv hne hs hL h7 hd h20 hR f1 f2 hA hM hN hsz hlen V bd bs bd2 hZ hx hX1 hX2 hP hPI R1 hKA hA1 hd1 hcv
    go_enter Try.func58, Try.ntmps58
    go_wp2_with fail
    refine (C.out _).mono ?_
    rintro e0 w1 ⟨rfl, rfl⟩
    go_wp2_with fail
    rcases hcvA with rfl | ⟨ce, rfl⟩
    case' inl =>
      have I3 := Lib.hid (fun m => I2.out m (some ⟨b, off, none⟩) 0 (by have := HNM.out; omega) (fun j hj => by rw [ldI_len, List.length_drop] at hj; have := HNM.out; omega))
      obtain rfl : M = 0 := by have := HNM.out; omega
      have u1 : N - A1 = 0 := by have := HNM.out; omega
    case' inr =>
      have I3 := Lib.hid (fun m => I2.out m (some ⟨b, off + A1, none⟩) (ce + 1) (by have := HNM.out; omega) (R2.out m))
      have u1 : N - A1 = M := by have := HNM.out; omega
      have u2 : (N : Int) ≤ (A1 : Int) + ((ce : Int) + 1) := by have := HNM.out; omega
    all_goals
      clear I2 R2
      go_quiet (first | (go_at_call_of 58 sL; exact Calls.quiet_of (I1.out _)) | (go_at_call_of 58 sR; exact Calls.quiet_of (I3.out _)))
      go_wp2
      go_ret
      exact ⟨rfl, nq, rfl⟩
end Go.Proofs.Ytakpbnkncjddeaa
