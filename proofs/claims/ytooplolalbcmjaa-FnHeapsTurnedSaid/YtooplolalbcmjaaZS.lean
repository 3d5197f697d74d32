/-
  The contracts of the model's heapWord and HeapWord, of numbers that can be read.
  The contracts of the model's choose, heaps and HeapsOf.
  The contract of the model's HeapsTried.
  The contract of the model's factorial.
  The contract of the model's HeapsByHooks.
  Contracts of functions of rows and of texts, in one form.
-/
import Derived.Test.YtooplolalbcmjaaZAR
import Derived.Test.YtooplolalbcmjaaWHeapP
import Derived.Test.YtooplolalbcmjaaZB
import Derived.Test.YtooplolalbcmjaaWHeapT
import Derived.Test.YtooplolalbcmjaaWFct
import Derived.Test.YtooplolalbcmjaaCInts
namespace Go.Proofs.Ytooplolalbcmjaa
open Go.RowKit

/-- the word of a row, as a text -/
def hwS (l : List Int) : ByteArray := ⟨(Tw.row l).lst.toArray⟩
theorem hwS_size (l : List Int) : (hwS l).size = 2 * l.length := by
  show (Tw.row l).lst.toArray.size = _
  rw [List.size_toArray, Tw.lst_length, Tw.row_size]
theorem hwS_nil : hwS [] = ⟨#[]⟩ := rfl
theorem hwS_cons {l : List Int} (h : l ≠ []) : hwS l = ⟨#[40]⟩ ++ hwS (l.take (leastA l)) ++ ⟨#[41]⟩ ++ hwS (l.drop (leastA l + 1)) := by
  have e : hwS l = ⟨((Tw.row (l.take (leastA l))).n (Tw.row (l.drop (leastA l + 1)))).lst.toArray⟩ := by rw [hwS, Tw.row_cons h]
  rw [e, Tw.lst]
  apply ByteArray.ext
  simp [hwS, ByteArray.data_append]
theorem atL_one (l : List Int) : atL l 1 = 0 := by
  have : atL l 1 = if l.getD 0 0 < l.getD (atL l 0) 0 then 0 else atL l 0 := rfl
  rw [this]; split <;> rfl
/-- numbers that can be read, with their slice -/
def RdL (w : World) (H : Nat) (a : Option Addr) (l : List Int) (n c f : Nat) : Prop := RdI w H a l ∧ l.length = n ∧ n ≤ c ∧ n ≤ f
theorem RdI.drop {w : World} {H b off m : Nat} {l : List Int} (h : RdI w H (some ⟨b, off, none⟩) l) : RdI w H (some ⟨b, off + m, none⟩) (l.drop m) := fun j hj => by
  rw [List.length_drop] at hj
  have h3 := rd_at h (m + j) (by omega)
  obtain ⟨_, _, e, hb, _⟩ := h (m + j) (by omega)
  simp only [Option.some.injEq, Addr.mk.injEq] at e
  refine ⟨b, off + m, rfl, by omega, ?_⟩
  rw [List.getElem_drop, Nat.add_assoc]
  exact h3
theorem RdI.none_of {w : World} {H : Nat} {a : Option Addr} {l : List Int} (h : l.length = 0) : RdI w H a l := fun j hj => absurd hj (by omega)

set_option maxRecDepth 100000 in
set_option maxHeartbeats 3200000 in
theorem heapWordM_any : ∀ (f : Nat), f ≤ 10 → ∀ (a : Option Addr) (l : List Int) (n cv : Nat) (w : World) (H : Nat), Hid (RdL w H a l n cv f) →
    Calls Try.prog 58 #[.slice a n cv] w fun e w' => e = .returned (.string (hwS l)) ∧ ∃ q, w' = w.drewN q := by
  intro f
  induction f with
  | zero =>
    intro _ a l n cv w H hL
    obtain ⟨_, h1, h2, h3⟩ := hL.out
    obtain rfl : n = 0 := by omega
    obtain rfl : l = [] := List.eq_nil_of_length_eq_zero h1
    rw [hwS_nil]
    clear h1 h2 h3
    go_enter Try.func58, Try.ntmps58
    go_wp2
    go_ret
    exact ⟨rfl, 0, rfl⟩
  | succ f ih =>
    intro hf a l n cv w H hL
    obtain ⟨hR0, h1, h2, h3⟩ := hL.out
    by_cases hn : n = 0
    · subst hn
      obtain rfl : l = [] := List.eq_nil_of_length_eq_zero h1
      rw [hwS_nil]
      clear h1 h2 h3
      go_enter Try.func58, Try.ntmps58
      go_wp2
      go_ret
      exact ⟨rfl, 0, rfl⟩
    · have hR := Lib.hid hR0
      have HL := Lib.hid h1
      have hne : l ≠ [] := by intro e; subst e; exact hn h1.symm
      have hml := Tw.leastA_lt hne
      have HM : Hid (leastA l = atL l n) := by show _ = _; rw [leastA, h1]
      rw [h1] at hml
      rw [hwS_cons hne]
      have HSA := hwS_size (l.take (leastA l))
      have HSB := hwS_size (l.drop (leastA l + 1))
      rw [List.length_take, h1] at HSA
      rw [List.length_drop, h1] at HSB
      obtain ⟨m, hm⟩ : ∃ m, m = leastA l := ⟨_, rfl⟩
      rw [← hm] at hml HM HSA HSB ⊢
      obtain ⟨TA, hTA⟩ : ∃ TA, TA = l.take m := ⟨_, rfl⟩
      obtain ⟨TB, hTB⟩ : ∃ TB, TB = l.drop (m + 1) := ⟨_, rfl⟩
      have HTA := Lib.hid hTA
      have HTB := Lib.hid hTB
      rw [← hTA] at HSA ⊢
      rw [← hTB] at HSB ⊢
      have z1 : (hwS TA).size ≤ 100 := by omega
      have z2 : (hwS TB).size ≤ 100 := by omega
      obtain ⟨b, off, rfl, hx0⟩ := hR.out 0 (by omega)
      clear hx0
      have HIH := Lib.hid (ih (by omega))
      have q1 : ((n : Int) == 0) = false := beq_false_of_ne (by omega)
      have LA : Hid (RdL w H (some ⟨b, off, none⟩) TA m cv f) := by show _ ∧ _; rw [HTA.out]; exact ⟨hR.out.take m, by rw [List.length_take]; omega, by omega, by omega⟩
      have LB : Hid (RdL w H (if cv = m + 1 then some ⟨b, off, none⟩ else some ⟨b, off + (m + 1), none⟩) TB (n - (m + 1)) (cv - (m + 1)) f) := by
        show _ ∧ _
        rw [HTB.out]
        refine ⟨?_, by rw [List.length_drop]; omega, by omega, by omega⟩
        split
        · exact RdI.none_of (by rw [List.length_drop]; omega)
        · exact hR.out.drop
      clear hm hTA hTB hL hR0 ih HSA HSB hne h1
      go_enter Try.func58, Try.ntmps58
      go_wp2
      go_loopw [3, 4] (fun at_ i wr => ∃ K J : Nat, 1 ≤ K ∧ K ≤ n ∧ J < K ∧ i = .int .i64 K ∧ at_ = .int .i64 J ∧ Hid (J = atL l K) ∧ Hid (∃ q, wr = w.drewN q)) (fun _ i _ => n - (intOf i).toNat)
      case atStart => exact ⟨1, 0, Nat.le_refl _, by omega, Nat.zero_lt_one, rfl, rfl, (atL_one l).symm, 0, rfl⟩
      case round =>
        obtain ⟨K, J, hK1, hK, hJK, rfl, rfl, HJ, HS⟩ := hrel
        have hRr : Hid (RdI wr H (some ⟨b, off, none⟩) l) := by obtain ⟨q, hq⟩ := HS.out; rw [hq]; exact hR.out.drew q
        by_cases hlt : K < n
        · have g1 := rd_at hRr.out K (by rw [HL.out]; omega)
          have g0 := rd_at hRr.out J (by rw [HL.out]; omega)
          have b1 : (K : Int) < (n : Int) := by omega
          have b2 : (J : Int) < (n : Int) := by omega
          have HF : Hid (atL l (K + 1) = if l[K]'(by rw [HL.out]; omega) < l[J]'(by rw [HL.out]; omega) then K else J) := by
            show _ = _
            rw [atL, ← HJ.out, getD_at _ _ (by rw [HL.out]; omega), getD_at _ _ (by rw [HL.out]; omega)]
          obtain ⟨y, hy⟩ : ∃ y, y = l[K]'(by rw [HL.out]; omega) := ⟨_, rfl⟩
          obtain ⟨x, hx⟩ : ∃ x, x = l[J]'(by rw [HL.out]; omega) := ⟨_, rfl⟩
          rw [← hy] at g1 HF
          rw [← hx] at g0 HF
          clear hy hx hRr
          by_cases hyx : y < x
          · have HN2 : Hid (K = atL l (K + 1)) := by show _ = _; rw [HF.out, if_pos hyx]
            go_wp2_with fail
            go_quiet (fail)
            go_wp2
            go_roundw
            case rel => exact ⟨K + 1, K, by omega, by omega, by omega, by go_num, rfl, HN2, by obtain ⟨q, hq⟩ := HS.out; exact ⟨q + nq, by rw [hq, World.drewN_drewN]⟩⟩
            case measure => simp [intOf]; omega
          · have HN2 : Hid (J = atL l (K + 1)) := by show _ = _; rw [HF.out, if_neg hyx]
            go_wp2_with fail
            go_quiet (fail)
            go_wp2
            go_roundw
            case rel => exact ⟨K + 1, J, by omega, by omega, by omega, by go_num, rfl, HN2, by obtain ⟨q, hq⟩ := HS.out; exact ⟨q + nq, by rw [hq, World.drewN_drewN]⟩⟩
            case measure => simp [intOf]; omega
        · obtain rfl : K = n := by omega
          obtain rfl : J = m := by rw [HJ.out, HM.out]
          obtain ⟨q0, hq0⟩ := HS.out
          have LA2 : Hid (RdL wr H (some ⟨b, off, none⟩) TA J cv f) := by rw [hq0]; exact ⟨LA.out.1.drew q0, LA.out.2⟩
          have LB2 : Hid (RdL wr H (if cv = J + 1 then some ⟨b, off, none⟩ else some ⟨b, off + (J + 1), none⟩) TB (K - (J + 1)) (cv - (J + 1)) f) := by rw [hq0]; exact ⟨LB.out.1.drew q0, LB.out.2⟩
          have I2 : Hid (∀ (q : Nat) (a' : Option Addr) (l' : List Int) (n' c' : Nat), Hid (RdL wr H a' l' n' c' f) → Calls Try.prog 58 #[.slice a' n' c'] (wr.drewN q) fun e w' => e = .returned (.string (hwS l')) ∧ ∃ m, w' = (wr.drewN q).drewN m) :=
            fun q a' l' n' c' hy => HIH.out a' l' n' c' (wr.drewN q) H (Lib.hid ⟨hy.out.1.drew q, hy.out.2⟩)
          clear LA LB hq0
          have j1 : (J : Int) ≤ (cv : Int) := by omega
          have j2 : J ≤ cv := by omega
          have j3 : (J : Int) + 1 ≤ (K : Int) := by omega
          have j4 : J + 1 ≤ K := by omega
          have j5 : (0 : Int) ≤ (J : Int) + 1 := by omega
          have j6 : (0 : Int) ≤ (J : Int) := by omega
          have ewc : IntKind.i64.wrap ((J : Int) + 1) = (J : Int) + 1 := by rw [IntKind.wrap_i64]; omega
          clear HIH HJ HM hRr
          go_wp2_with fail
          go_quiet ((go_at_call 58; exact Calls.quiet_of (I2.out _ _ _ _ _ (by assumption))))
          all_goals go_wp2
          all_goals go_ret
          all_goals exact ⟨rfl, by obtain ⟨q, hq⟩ := HS.out; exact ⟨q + nq, by rw [hq, World.drewN_drewN]⟩⟩

/-- what HeapWord answers -/
def hwO (l : List Int) : ByteArray := if rowB l = true then hwS l else ⟨#[]⟩
set_option maxHeartbeats 800000 in
theorem specHeapWord_any (l : List Int) (a : Option Addr) (cv : Nat) (w : World) {H : Nat} (hR : Hid (RdI w H a l)) (hl : l.length ≤ 1048576) (hcv : l.length ≤ cv) :
    Calls Try.prog 23 #[.slice a l.length cv] w fun e w' => e = .returned (.string (hwO l)) ∧ ∃ q, w' = w.drewN q := by
  have CV := Lib.hid (validRowM_any l a cv w hR hl hcv)
  rw [hwO]
  cases hr : rowB l
  · rw [hr] at CV
    go_enter Try.func23, Try.ntmps23
    go_wp2_with fail
    refine CV.out.mono ?_
    rintro e w1 ⟨rfl, q, rfl⟩
    go_wp2
    go_ret
    exact ⟨rfl, q, rfl⟩
  · rw [hr] at CV
    have h8 := ((rowB_iff l).mp hr).1
    have CF := Lib.hid (fun q => heapWordM_any 10 (Nat.le_refl _) a l l.length cv (w.drewN q) H (Lib.hid ⟨hR.out.drew q, rfl, hcv, by omega⟩))
    go_enter Try.func23, Try.ntmps23
    go_wp2_with fail
    refine CV.out.mono ?_
    rintro e w1 ⟨rfl, q, rfl⟩
    go_wp2_with fail
    refine (CF.out q).mono ?_
    rintro e w1 ⟨rfl, q2, rfl⟩
    go_wp2
    go_ret
    exact ⟨rfl, q + q2, by first | rfl | rw [World.drewN_drewN]⟩
end Go.Proofs.Ytooplolalbcmjaa

namespace Go.Proofs.Ytooplolalbcmjaa
open Go.RowKit

set_option maxRecDepth 100000 in
set_option maxHeartbeats 1600000 in
theorem choose_any (n k : Nat) (w : World) (hn : n ≤ 7) (hk : k ≤ n) :
    Calls Try.prog 93 #[.int .i64 (n : Int), .int .i64 (k : Int)] w fun e w' => e = .returned (.int .i64 ((chs n k : Nat) : Int)) ∧ w = w' := by
  have HB := Lib.hid (fun i hi => chs_bound n hn k hk i hi)
  have HC : Hid (chs n k = chsF n k k) := rfl
  obtain ⟨R, hR⟩ : ∃ R, R = chs n k := ⟨_, rfl⟩
  rw [← hR] at HC ⊢
  clear hR
  obtain ⟨D, hD⟩ : ∃ D, D = n - k := ⟨_, rfl⟩
  have HD := Lib.hid hD
  have e0 : IntKind.i64.wrap ((n : Int) - (k : Int)) = (D : Int) := by rw [IntKind.wrap_i64]; omega
  have b0 : ¬ (k : Int) < 0 := by omega
  have b1 : ¬ (n : Int) < (k : Int) := by omega
  have hD7 : D ≤ 7 := by omega
  clear hD
  go_enter Try.func93, Try.ntmps93
  go_wp2
  go_loop [5, 6] (fun out i => ∃ I p : Nat, 1 ≤ I ∧ I ≤ k + 1 ∧ i = .int .i64 I ∧ out = .int .i64 p ∧ Hid (p = chsF n k (I - 1))) (fun _ i => k + 1 - (intOf i).toNat)
  case atStart => exact ⟨1, 1, Nat.le_refl _, by omega, rfl, rfl, rfl⟩
  case round =>
    obtain ⟨I, p, hI1, hI, rfl, rfl, HP⟩ := hrel
    by_cases hlt : I ≤ k
    · have b2 : (I : Int) ≤ (k : Int) := by omega
      obtain ⟨J, hJ⟩ : ∃ J, I = J + 1 := ⟨I - 1, by omega⟩
      have hp : p ≤ 40 := by rw [HP.out]; exact HB.out _ (by omega)
      have HN : Hid (chsF n k (I + 1 - 1) = p * (D + I) / I) := by
        show _ = _
        rw [HP.out, HD.out, hJ]; rfl
      clear hJ
      obtain ⟨M, hM⟩ : ∃ M, M = D + I := ⟨_, rfl⟩
      have e1 : IntKind.i64.wrap ((D : Int) + (I : Int)) = (M : Int) := by rw [IntKind.wrap_i64]; omega
      have hM16 : M ≤ 16 := by omega
      rw [← hM] at HN
      clear hM
      obtain ⟨Q, hQ⟩ : ∃ Q, Q = p * M := ⟨_, rfl⟩
      have hQ2 : Q ≤ 40 * 16 := by rw [hQ]; exact Nat.mul_le_mul hp hM16
      have hQc : (p : Int) * (M : Int) = (Q : Int) := by rw [hQ]; push_cast; rfl
      have e2 : IntKind.i64.wrap ((p : Int) * (M : Int)) = (Q : Int) := by rw [hQc, IntKind.wrap_i64]; omega
      rw [← hQ] at HN
      clear hQ hQc
      obtain ⟨T, hT⟩ : ∃ T, T = Q / I := ⟨_, rfl⟩
      have hT2 : T ≤ 640 := by rw [hT]; exact Nat.le_trans (Nat.div_le_self _ _) hQ2
      have e3 : Int.tdiv (Q : Int) (I : Int) = (T : Int) := by rw [hT]; rfl
      have e4 : IntKind.i64.wrap (Int.tdiv (Q : Int) (I : Int)) = (T : Int) := by rw [e3, IntKind.wrap_i64]; omega
      rw [← hT] at HN
      clear hT hp hM16 hQ2 HP
      have b3 : (I : Int) ≠ 0 := by omega
      have b4 : ((I : Int) == 0) = false := beq_false_of_ne b3
      go_wp2
      go_round
      case rel => exact ⟨I + 1, T, by omega, by omega, by go_num, by first | rfl | rw [e4], HN.out.symm⟩
      case measure => simp [intOf]; omega
    · obtain rfl : I = k + 1 := by omega
      have b2 : ¬ ((k + 1 : Nat) : Int) ≤ (k : Int) := by omega
      have hy : Hid (p = R) := by show _ = _; rw [HP.out, HC.out, Nat.add_sub_cancel]
      go_wp2
      go_ret
      exact ⟨(by rw [hy.out]; rfl), rfl⟩

set_option maxRecDepth 100000 in
set_option maxHeartbeats 3200000 in
theorem heapsM_any : ∀ (t : Tw), t.size ≤ 8 → ∀ (s : ByteArray) (w : World), s.data.toList = t.lst →
    Calls Try.prog 66 #[.string s] w fun e w' => e = .returned (.int .i64 ((t.heaps : Nat) : Int)) ∧ ∃ q, w' = w.drewN q := by
  intro t
  induction t with
  | e =>
    intro _ s w hs
    obtain rfl : s = ⟨#[]⟩ := bytes_ext hs
    clear hs
    go_enter Try.func66, Try.ntmps66
    go_wp2
    go_ret
    exact ⟨rfl, 0, rfl⟩
  | n a b iha ihb =>
    intro h8 s w hs
    have hab : a.size + 1 + b.size ≤ 8 := h8
    have hsc : scan s.data.toList = some 0 := by rw [hs]; exact Tw.lst_scan _
    have hsz : s.size = 2 * (a.size + 1 + b.size) := by rw [← size_list, hs, Tw.lst_length]; rfl
    have hne : s.data.toList ≠ [] := by rw [hs]; exact Tw.lst_ne a b
    have hv := of_scan hsc (by rw [size_list]; omega)
    obtain ⟨k1, k2, k3, k4, k5, k6⟩ := parts_ok hsc hne
    rw [size_list] at k2 k6
    have cc := fun w => closing_any s hv (by omega) w
    obtain ⟨K, hK⟩ : ∃ K, K = cl 0 s.data.toList - 1 := ⟨_, rfl⟩
    rw [← hK] at cc
    have fL : fstL s.data.toList = a.lst := by rw [hs, Tw.fst_lst]
    have rL : rstL s.data.toList = b.lst := by rw [hs, Tw.rst_lst]
    have eL : (s.extract 1 K).data.toList = a.lst := by rw [← fL, extract_list, fstL]; congr 1; omega
    have eR : (s.extract (K + 1) s.size).data.toList = b.lst := by
      rw [← rL, extract_list, rstL, show K + 1 = cl 0 s.data.toList by omega, List.take_of_length_le (by simp)]
    have lL : K = 2 * a.size + 1 := by
      have := Tw.lst_length a
      rw [fL] at k5
      omega
    have I1 : Hid (∀ q, Calls Try.prog 66 #[.string (s.extract 1 K)] (w.drewN q) fun e w' => e = .returned (.int .i64 ((a.heaps : Nat) : Int)) ∧ ∃ m, w' = (w.drewN q).drewN m) := fun q => iha (by omega) _ _ eL
    have I2 : Hid (∀ q, Calls Try.prog 66 #[.string (s.extract (K + 1) s.size)] (w.drewN q) fun e w' => e = .returned (.int .i64 ((b.heaps : Nat) : Int)) ∧ ∃ m, w' = (w.drewN q).drewN m) := fun q => ihb (by omega) _ _ eR
    have I3 : Hid (∀ q, Calls Try.prog 93 #[.int .i64 ((a.size + b.size : Nat) : Int), .int .i64 ((a.size : Nat) : Int)] (w.drewN q) fun e w' => e = .returned (.int .i64 ((chs (a.size + b.size) a.size : Nat) : Int)) ∧ ∃ m, w' = (w.drewN q).drewN m) :=
      fun q => (choose_any (a.size + b.size) a.size (w.drewN q) (by omega) (by omega)).mono fun e w' h => ⟨h.1, 0, h.2.symm⟩
    have hle := Tw.heaps_le h8
    have h40 := fct_le8 _ h8
    have hpb := Tw.heaps_pos (t := b) (by omega)
    rw [Tw.heaps] at hle ⊢
    obtain ⟨A, hA⟩ : ∃ A, A = a.heaps := ⟨_, rfl⟩
    obtain ⟨B, hB⟩ : ∃ B, B = b.heaps := ⟨_, rfl⟩
    obtain ⟨C, hC⟩ : ∃ C, C = chs (a.size + b.size) a.size := ⟨_, rfl⟩
    rw [← hA] at I1 hle ⊢
    rw [← hB] at I2 hle hpb ⊢
    rw [← hC] at I3 hle ⊢
    have h1 : C * A ≤ 40320 := Nat.le_trans (Nat.le_mul_of_pos_right _ hpb) (Nat.le_trans hle h40)
    have h2 : C * A * B ≤ 40320 := Nat.le_trans hle h40
    obtain ⟨CA, hCA⟩ : ∃ CA, CA = C * A := ⟨_, rfl⟩
    rw [← hCA] at h1 h2 ⊢
    obtain ⟨CAB, hCAB⟩ : ∃ CAB, CAB = CA * B := ⟨_, rfl⟩
    rw [← hCAB] at h2 ⊢
    have c1 : (C : Int) * (A : Int) = (CA : Int) := by rw [hCA]; push_cast; rfl
    have c2 : (CA : Int) * (B : Int) = (CAB : Int) := by rw [hCAB]; push_cast; rfl
    have e1 : IntKind.i64.wrap ((C : Int) * (A : Int)) = (CA : Int) := by rw [c1, IntKind.wrap_i64]; omega
    have e2 : IntKind.i64.wrap ((CA : Int) * (B : Int)) = (CAB : Int) := by rw [c2, IntKind.wrap_i64]; omega
    obtain ⟨x, hx⟩ : ∃ x, x = a.size := ⟨_, rfl⟩
    obtain ⟨y, hy⟩ : ∃ y, y = a.size + b.size := ⟨_, rfl⟩
    rw [← hy] at I3
    rw [← hx] at I3
    have e3 : Int.tdiv ((K : Int) - 1) 2 = (x : Int) := by rw [Int.tdiv_eq_ediv_of_nonneg (by omega)]; omega
    have e4 : Int.tdiv (s.size : Int) 2 = (y : Int) + 1 := by rw [Int.tdiv_eq_ediv_of_nonneg (by omega)]; omega
    have e5 : IntKind.i64.wrap ((y : Int) + 1 - 1) = (y : Int) := by rw [IntKind.wrap_i64]; omega
    have C0 := Lib.hid cc
    have b1 : (1 : Int) ≤ (K : Int) := by omega
    have b2 : (K : Int) ≤ (s.size : Int) := by omega
    have b3 : (K : Int) + 1 ≤ (s.size : Int) := by omega
    have b4 : K + 1 ≤ s.size := by omega
    have b5 : s.size ≤ 16 := by omega
    have b6 : x ≤ 8 := by omega
    have b8 : K ≤ 16 := by omega
    have b9 : (0 : Int) ≤ (K : Int) + 1 := by omega
    have e6 : IntKind.i64.wrap ((K : Int) + 1) = (K : Int) + 1 := by rw [IntKind.wrap_i64]; omega
    have b7 : y ≤ 8 := by omega
    have q0 : s.toList.isEmpty = false := by rw [ByteArray.toList_eq]; simpa using hne
    clear cc hK iha ihb k1 k2 k3 k4 k5 k6 hv hne fL rL eL eR lL hsz hsc hs hle h40 hpb h1 hA hB hC hCA hCAB c1 c2 hx hy hab h8
    go_enter Try.func66, Try.ntmps66
    go_wp2_with fail
    refine (C0.out _).mono ?_
    rintro e0 w1 ⟨rfl, rfl⟩
    go_wp2_with fail
    go_quiet (first
      | (go_at_call 93; exact Calls.quiet_of (I3.out _))
      | (go_at_call_of 66 (s.extract 1 K); exact Calls.quiet_of (I1.out _))
      | (go_at_call_of 66 (s.size); exact Calls.quiet_of (I2.out _)))
    go_wp2
    go_ret
    exact ⟨rfl, nq, rfl⟩

/-- how many rows have a word, -1 where it is none -/
def heapsO (l : List UInt8) : Int := if valid l = true ∧ l.length ≤ 16 then ((Tw.heapsL 16 l : Nat) : Int) else -1
theorem heapsO_lst {t : Tw} (h : t.size ≤ 8) : heapsO t.lst = ((t.heaps : Nat) : Int) := by
  have hl := Tw.lst_length t
  rw [heapsO, if_pos ⟨of_scan (Tw.lst_scan t) (by omega), by omega⟩, Tw.heapsL_lst 16 t (by omega)]
theorem tree_of {l : List UInt8} (hv : valid l = true) (h : l.length ≤ 16) : ∃ t : Tw, t.lst = l ∧ t.size ≤ 8 := by
  obtain ⟨t, ht⟩ := Tw.of_word l.length l (Nat.le_refl _) (valid_scan hv).1
  refine ⟨t, ht, ?_⟩
  have := Tw.lst_length t
  rw [ht] at this
  omega
set_option maxHeartbeats 800000 in
theorem specHeapsOf_any (s : ByteArray) (w : World) (hs : s.size ≤ maxLen) :
    Calls Try.prog 30 #[.string s] w fun e w' => e = .returned (.int .i64 (heapsO s.data.toList)) ∧ ∃ q, w' = w.drewN q := by
  cases hv : valid s.data.toList with
  | false =>
    rw [heapsO, if_neg (fun h => by rw [hv] at h; exact absurd h.1 (by decide))]
    have HV := Lib.hid hv
    go_enter Try.func30, Try.ntmps30
    go_wp2_with (go_at_call 65; refine (specValid_is false _ _ hs HV).mono ?_; rintro e w1 ⟨rfl, rfl⟩)
    go_ret
    exact ⟨rfl, 0, rfl⟩
  | true =>
    have HV := Lib.hid hv
    have h18 := (valid_scan hv).2
    rw [size_list] at h18
    by_cases h16 : s.size ≤ 16
    · obtain ⟨t, ht, ht8⟩ := tree_of hv (by rw [size_list]; exact h16)
      have C := Lib.hid (fun w => heapsM_any t ht8 s w ht.symm)
      rw [← ht, heapsO_lst ht8]
      obtain ⟨R, hR⟩ : ∃ R, R = t.heaps := ⟨_, rfl⟩
      rw [← hR] at C ⊢
      have b1 : ¬ (16 : Int) < (s.size : Int) := by omega
      clear hv ht hR
      go_enter Try.func30, Try.ntmps30
      go_wp2_with (go_at_call 65; refine (specValid_is true _ _ hs HV).mono ?_; rintro e w1 ⟨rfl, rfl⟩)
      refine (C.out _).mono ?_
      rintro e w1 ⟨rfl, q, rfl⟩
      go_wp2
      go_ret
      exact ⟨rfl, q, rfl⟩
    · rw [heapsO, if_neg (fun h => h16 (by have := h.2; rw [size_list] at this; exact this))]
      have b1 : (16 : Int) < (s.size : Int) := by omega
      clear hv
      go_enter Try.func30, Try.ntmps30
      go_wp2_with (go_at_call 65; refine (specValid_is true _ _ hs HV).mono ?_; rintro e w1 ⟨rfl, rfl⟩)
      go_ret
      exact ⟨rfl, 0, rfl⟩
end Go.Proofs.Ytooplolalbcmjaa

namespace Go.Proofs.Ytooplolalbcmjaa
open Go.RowKit

set_option maxRecDepth 100000 in
set_option maxHeartbeats 3200000 in
theorem rowsFrom_any (n : Nat) (hn : n ≤ 5) (s : ByteArray) : ∀ (m : Nat) (head : List Int) (v : Value) (w : World) {B H : Nat}, head.length + m = n → Hid (Own w B H 3 v (iv head)) → H ≤ w.heap.size →
    Calls Try.prog 74 #[.int .i64 (n : Int), v, .string s] w fun e w' => e = .returned (.int .i64 ((rowsN m n head s.data.toList : Nat) : Int)) ∧ Below w.heap.size w w' := by
  obtain ⟨i0, hi, hz0, hz1, hz2⟩ := info_parts Try.infoIntR
  intro m
  induction m with
  | zero =>
    intro head v w B H hm hv hH
    obtain ⟨av, cv, rfl, _, hcv, _, _⟩ := hv.out.slice
    rw [iv_length] at hv hcv ⊢
    have hR := own_rd hv.out
    have hl : head.length = n := by omega
    rw [hl] at hv hcv ⊢
    have CW := Lib.hid (heapWordM_any 10 (Nat.le_refl _) av head n cv w H (Lib.hid ⟨hR, hl, hcv, by omega⟩))
    have q1 : ((n : Int) == (n : Int)) = true := beq_self_eq_true _
    rw [rowsN_zero]
    by_cases he : (Tw.row head).lst = s.data.toList
    · rw [if_pos he]
      obtain rfl : hwS head = s := bytes_ext he
      clear he hR hl
      go_enter Try.func74, Try.ntmps74
      go_wp2_with fail
      refine CW.out.mono ?_
      rintro e w1 ⟨rfl, q, rfl⟩
      have q2 : ((hwS head).toList == (hwS head).toList) = true := beq_self_eq_true _
      go_wp2
      go_ret
      exact ⟨rfl, ⟨rfl, rfl, rfl, Nat.le_refl _, fun _ _ => rfl⟩⟩
    · rw [if_neg he]
      have hne : (hwS head).toList ≠ s.toList := fun e => he (by rw [ByteArray.toList_eq, ByteArray.toList_eq] at e; exact e)
      obtain ⟨T, hT⟩ : ∃ T, T = hwS head := ⟨_, rfl⟩
      rw [← hT] at CW hne
      have q2 : (T.toList == s.toList) = false := beq_false_of_ne hne
      clear he hR hl hT
      go_enter Try.func74, Try.ntmps74
      go_wp2_with fail
      refine CW.out.mono ?_
      rintro e w1 ⟨rfl, q, rfl⟩
      go_wp2
      go_ret
      exact ⟨rfl, ⟨rfl, rfl, rfl, Nat.le_refl _, fun _ _ => rfl⟩⟩
  | succ m ih =>
    intro head v w B H hm hv hH
    obtain ⟨av, cv, rfl, _, hcv, _, hav⟩ := hv.out.slice
    rw [iv_length] at hv hcv ⊢
    have hR := own_rd hv.out
    have HL := Lib.hid hm
    have hlt0 : head.length < n := by omega
    have q1 : ((head.length : Int) == (n : Int)) = false := beq_false_of_ne (by omega)
    have RD : Hid (∀ W, Below w.heap.size w W → RdI W w.heap.size av head) := fun W hW => (hR.below (hW.mono hH)).more hH
    have CH : Hid (∀ (x : Int) W, Below w.heap.size w W → Calls Try.prog 83 #[.slice av head.length cv, .int .i64 x] W fun e w' => e = .returned (.bool (head.contains x)) ∧ W = w') := fun x W hW => by
      have := hasIntR_any head av cv x W (Lib.hid (RD.out W hW)) (by omega)
      rw [show decide (x ∈ head) = head.contains x from by rw [Bool.eq_iff_iff, decide_eq_true_eq, List.contains_iff_mem]] at this
      exact this
    have CT : Hid (∀ (x : Nat) (v' : Value) (W : World) (B' H' : Nat), Hid (Own W B' H' 3 v' (iv (head ++ [(x : Int)]))) → H' ≤ W.heap.size → Calls Try.prog 74 #[.int .i64 (n : Int), v', .string s] W fun e w' => e = .returned (.int .i64 ((rowsN m n (head ++ [(x : Int)]) s.data.toList : Nat) : Int)) ∧ Below W.heap.size W w') :=
      fun x v' W B' H' ho hh => ih (head ++ [(x : Int)]) v' W (by rw [List.length_append, List.length_singleton]; omega) ho hh
    have HF : Hid (rowsN (m + 1) n head s.data.toList = rowsK m n head s.data.toList n) := rowsN_succ m n head _
    have hp : n ^ m ≤ 5 ^ 5 := Nat.le_trans (Nat.pow_le_pow_left hn m) (Nat.pow_le_pow_right (by decide) (by omega))
    have HKB : Hid (∀ x : Nat, rowsN m n (head ++ [(x : Int)]) s.data.toList ≤ 3125) := fun x => Nat.le_trans (rowsN_le n _ m _) hp
    have HKK : Hid (∀ k, k ≤ n → rowsK m n head s.data.toList k ≤ 5 * 3125) := fun k hk => Nat.le_trans (rowsK_le m n head _ 3125 HKB.out k) (Nat.mul_le_mul_right _ (by omega))
    have HSTEP : Hid (∀ k : Nat, rowsK m n head s.data.toList (k + 1) = rowsK m n head s.data.toList k + if head.contains (k : Int) then 0 else rowsN m n (head ++ [(k : Int)]) s.data.toList) := fun k => rfl
    rw [HF.out]
    obtain ⟨l, hl⟩ : ∃ l, l = head.length := ⟨_, rfl⟩
    have HLL := Lib.hid hl
    rw [← hl] at CH q1 hlt0 hcv ⊢
    have hl5 : l ≤ 5 := by omega
    clear hv hR hm hp hav ih hl
    go_enter Try.func74, Try.ntmps74
    go_wp2
    go_loopw [7, 8] (fun o x wr => ∃ k z : Nat, k ≤ n ∧ x = .int .i64 k ∧ o = .int .i64 z ∧ Hid (z = rowsK m n head s.data.toList k) ∧ Hid (Below w.heap.size w wr)) (fun _ x _ => n - (intOf x).toNat)
    case atStart => exact ⟨0, 0, Nat.zero_le _, rfl, rfl, rfl, Below.refl _ _⟩
    case round =>
      obtain ⟨k, z, hk, rfl, rfl, HZ, HB⟩ := hrel
      by_cases hlt : k < n
      · have b1 : (k : Int) < (n : Int) := by omega
        have CH1 := Lib.hid (CH.out k wr HB.out)
        have HS := Lib.hid (HSTEP.out k)
        obtain ⟨c, hc⟩ : ∃ c, c = head.contains (k : Int) := ⟨_, rfl⟩
        rw [← hc] at CH1 HS
        clear hc
        cases c with
        | true =>
          have HZ2 : Hid (z = rowsK m n head s.data.toList (k + 1)) := by show _ = _; rw [HS.out, HZ.out]; rfl
          clear HS HZ
          go_wp2_with fail
          refine CH1.out.mono ?_
          rintro e w1 ⟨rfl, rfl⟩
          go_wp2
          go_roundw
          case rel => exact ⟨k + 1, z, by omega, by go_num, rfl, HZ2, HB⟩
          case measure => simp [intOf]; omega
        | false =>
          have CT1 := fun v' W B' H' h1 h2 => CT.out k v' W B' H' h1 h2
          have hz := HKK.out k hk
          have hy := HKB.out k
          have HS2 := HS.out
          rw [← HZ.out] at hz
          obtain ⟨y, hyy⟩ : ∃ y, y = rowsN m n (head ++ [(k : Int)]) s.data.toList := ⟨_, rfl⟩
          rw [← hyy] at CT1 hy HS2
          have CT1 := Lib.hid CT1
          have HZ2 : Hid (z + y = rowsK m n head s.data.toList (k + 1)) := by show _ = _; rw [HS2, HZ.out]; rfl
          have ew : IntKind.i64.wrap ((z : Int) + (y : Int)) = ((z + y : Nat) : Int) := by rw [IntKind.wrap_i64]; omega
          have O0 : Hid ((wr.alloc (.cells #[] 3)).ownsRow w.heap.size 3 1 (.slice (some ⟨wr.heap.size, 0, none⟩) 0 0) 0 []) :=
            World.ownsRow_lit (base := w.heap.size) (e := 3) (size := 1) wr #[] 0 HB.out.size (by unfold maxLen; omega) rfl
          have B1 : Hid (Below w.heap.size w (wr.alloc (.cells #[] 3))) := HB.out.alloc HB.out.size _
          have z1 : l + 1 ≤ maxLen := by unfold maxLen; omega
          have z2 : (l + 1) * 8 ≤ 140737488355328 := by omega
          have IVL : Hid ((iv head).length = l) := by show _ = _; rw [iv_length]; exact HLL.out.symm
          have IVS : Hid (iv (head ++ [(k : Int)]) = iv head ++ [.int .i64 (k : Int)]) := iv_app _ _
          clear HS HZ HS2 hyy CT CH
          go_wp2_with fail
          refine CH1.out.mono ?_
          rintro e w1 ⟨rfl, rfl⟩
          clear CH1
          go_wp2_with (at_builtin; first
            | (refine wpList_append_rd rfl (.tmp 28) (.tmp 29) rfl w.heap.size _ 0 [] rfl O0.out av l cv rfl HLL.out.symm (RD.out _ B1.out) (by omega) (by omega) B1.out.size ?_
               intro v4 w4 hv4 hg4
               have B4 : Hid (Below w.heap.size w w4) := B1.out.grown hg4 B1.out.size (fun q hq => (O0.out.lt q hq).1)
               rw [Nat.zero_add, List.nil_append] at hv4
               have O4 := Lib.hid hv4
               have Y4 : Hid (∀ o : Obj, w.heap.size ≤ (w4.alloc o).heap.size) := fun o => by have := B4.out.size; rw [World.size_alloc]; omega
               clear hv4 hg4)
            | (refine wpList_append_lies _ rfl (.tmp 30) (.tmp 32) 23 rfl w.heap.size 3 i0 (.int .i64 0) 1 8 Try.underlying23 hi hz0 hz1 hz2 rfl (Nat.succ_pos 0) _ l (iv head) rfl (O4.out.alloc _) ⟨w4.heap.size, 0, none⟩ 1 1 [.int .i64 (k : Int)] rfl rfl (cell_one_new _ _ _) (one_intR _) (Nat.succ_pos 0) z1 z2 (Y4.out _) _ rfl ?_
               intro g5 c5 w5 hv5 hg5 _ hgs5)
            | fail)
          rw [← IVS.out] at hv5
          have B5 : Hid (Below w.heap.size w w5) := (B4.out.alloc B4.out.size _).grown hg5 (Y4.out _) (fun q hq => (O4.out.lt q hq).1)
          have O5 : Hid (Own w5 w.heap.size w5.heap.size 3 (.slice (some ⟨g5, 0, none⟩) (l + 1) c5) (iv (head ++ [(k : Int)]))) := by
            refine Own.of_own ?_
            have e : (iv (head ++ [(k : Int)])).length = l + 1 := by rw [iv_length, List.length_append, List.length_singleton, HLL.out]
            rw [e]; exact hv5
          clear hv5 hg5 hgs5 O4 Y4 B4 O0 B1 RD
          go_wp2_with fail
          refine (CT1.out _ _ _ _ O5 (Nat.le_refl _)).mono ?_
          rintro e w6 ⟨rfl, hb6⟩
          have BW6 : Hid (Below w.heap.size w w6) := B5.out.trans (hb6.mono B5.out.size)
          clear hb6 CT1 O5 B5 HB
          go_wp2
          go_roundw
          case rel => exact ⟨k + 1, z + y, by omega, by go_num, by first | rfl | rw [ew], HZ2, BW6⟩
          case measure => simp [intOf]; omega
      · obtain rfl : k = n := by omega
        go_wp2
        go_ret
        exact ⟨(by rw [HZ.out]; rfl), HB.out⟩
/-- what HeapsTried answers -/
def triedO (l : List UInt8) : Int := if valid l = true ∧ l.length ≤ 10 then ((Tw.heapsL 16 l : Nat) : Int) else -1
set_option maxHeartbeats 800000 in
theorem specHeapsTried_any (s : ByteArray) (w : World) (hs : s.size ≤ maxLen) :
    Calls Try.prog 38 #[.string s] w fun e w' => e = .returned (.int .i64 (triedO s.data.toList)) ∧ Below w.heap.size w w' := by
  cases hv : valid s.data.toList with
  | false =>
    rw [triedO, if_neg (fun h => by rw [hv] at h; exact absurd h.1 (by decide))]
    have HV := Lib.hid hv
    go_enter Try.func38, Try.ntmps38
    go_wp2_with (go_at_call 65; refine (specValid_is false _ _ hs HV).mono ?_; rintro e w1 ⟨rfl, rfl⟩)
    go_ret
    exact ⟨rfl, Below.refl _ _⟩
  | true =>
    have HV := Lib.hid hv
    by_cases h10 : s.size ≤ 10
    · obtain ⟨t, ht, ht8⟩ := tree_of hv (by rw [size_list]; omega)
      have hts : s.size = 2 * t.size := by rw [← size_list, ← ht, Tw.lst_length]
      have HT := Tw.tried_heaps t (by omega)
      have C := Lib.hid (fun v W B H (h1 : Hid (Own W B H 3 v (iv []))) h2 => rowsFrom_any t.size (by omega) s t.size [] v W (by simp) h1 h2)
      rw [triedO, if_pos ⟨hv, by rw [size_list]; exact h10⟩, ← ht, Tw.heapsL_lst 16 t (by omega), ← HT]
      rw [← ht] at C
      obtain ⟨R, hR⟩ : ∃ R, R = rowsN t.size t.size [] t.lst := ⟨_, rfl⟩
      rw [← hR] at C ⊢
      obtain ⟨n, hn⟩ : ∃ n, n = t.size := ⟨_, rfl⟩
      rw [← hn] at C hts
      have e3 : Int.tdiv (s.size : Int) 2 = (n : Int) := by rw [Int.tdiv_eq_ediv_of_nonneg (by omega)]; omega
      have b1 : ¬ (10 : Int) < (s.size : Int) := by omega
      clear hv ht hR HT hn ht8
      go_enter Try.func38, Try.ntmps38
      go_wp2_with (go_at_call 65; refine (specValid_is true _ _ hs HV).mono ?_; rintro e w1 ⟨rfl, rfl⟩)
      have O1 : Hid (Own (w.alloc (.cells #[] 3)) w.heap.size (w.alloc (.cells #[] 3)).heap.size 3 (.slice (some ⟨w.heap.size, 0, none⟩) 0 0) (iv [])) :=
        Own.of_own (World.ownsRow_lit (base := w.heap.size) (e := 3) (size := 1) w #[] 0 (Nat.le_refl _) (by unfold maxLen; omega) rfl)
      have B2 : Hid (Below w.heap.size w (w.alloc (.cells #[] 3))) := (Below.refl _ w).alloc (Nat.le_refl _) _
      refine (C.out _ _ _ _ O1 (Nat.le_refl _)).mono ?_
      rintro e w1 ⟨rfl, hb⟩
      have HB := Lib.hid (B2.out.trans (hb.mono B2.out.size))
      go_wp2
      go_ret
      exact ⟨rfl, HB.out⟩
    · rw [triedO, if_neg (fun h => h10 (by have := h.2; rw [size_list] at this; exact this))]
      have b1 : (10 : Int) < (s.size : Int) := by omega
      clear hv
      go_enter Try.func38, Try.ntmps38
      go_wp2_with (go_at_call 65; refine (specValid_is true _ _ hs HV).mono ?_; rintro e w1 ⟨rfl, rfl⟩)
      go_ret
      exact ⟨rfl, Below.refl _ _⟩
end Go.Proofs.Ytooplolalbcmjaa

namespace Go.Proofs.Ytooplolalbcmjaa
open Go.RowKit

set_option maxHeartbeats 800000 in
theorem factorialS_any (n : Nat) (w : World) (hn : n ≤ 8) :
    Calls Try.prog 73 #[.int .i64 (n : Int)] w fun e w' => e = .returned (.int .i64 ((fct n : Nat) : Int)) ∧ w = w' := by
  obtain ⟨r, hr⟩ : ∃ r : Nat, r = fct n := ⟨_, rfl⟩
  rw [← hr]
  have HR := Lib.hid hr
  clear hr
  go_enter Try.func73, Try.ntmps73
  go_wp2
  go_loop [3, 4] (fun out i => ∃ (k p : Nat), 1 ≤ k ∧ (k ≤ n ∨ k = 1) ∧ i = .int .i64 ((k + 1 : Nat) : Int) ∧ out = .int .i64 (p : Int) ∧ Hid (p = fct k)) (fun _ i => n + 1 - (intOf i).toNat)
  case atStart => exact ⟨1, 1, Nat.le_refl _, .inr rfl, rfl, rfl, rfl⟩
  case round =>
    obtain ⟨k, p, hk1, hk, rfl, rfl, HP⟩ := hrel
    obtain ⟨K, hK⟩ : ∃ K : Int, K = ((k + 1 : Nat) : Int) := ⟨_, rfl⟩
    rw [← hK]
    by_cases hlt : k < n
    · have b1 : K ≤ (n : Int) := by omega
      have hp : p ≤ 5040 := by rw [HP.out]; exact fct_le k (by omega)
      have hm : p * (k + 1) ≤ 5040 * 8 := Nat.mul_le_mul hp (by omega)
      have hmc : (p : Int) * K = ((p * (k + 1) : Nat) : Int) := by rw [hK]; push_cast; rfl
      have e1 : IntKind.i64.wrap ((p : Int) * K) = ((p * (k + 1) : Nat) : Int) := by rw [hmc, IntKind.wrap_i64]; omega
      have e2 : IntKind.i64.wrap (K + 1) = ((k + 1 + 1 : Nat) : Int) := by rw [IntKind.wrap_i64]; omega
      have HP2 : Hid (p * (k + 1) = fct (k + 1)) := by show _ = (k + 1) * fct k; rw [← HP.out, Nat.mul_comm]
      have HK := Lib.hid hK
      clear hp hm hmc HP hK
      go_wp2
      go_round
      case rel => exact ⟨k + 1, p * (k + 1), by omega, .inl (by omega), by first | rfl | rw [e2] | go_num, by first | rfl | rw [e1], HP2⟩
      case measure => have := HK.out; simp [intOf]; first | omega | (rw [e2]; simp [intOf]; omega)
    · have b1 : ¬ K ≤ (n : Int) := by omega
      have HF : Hid (p = fct n) := by
        show _ = _
        rw [HP.out]
        rcases hk with h | h
        · rw [show k = n by omega]
        · subst h
          obtain rfl | rfl : n = 0 ∨ n = 1 := by omega
          · rfl
          · rfl
      clear hK HP
      go_wp2
      go_ret
      exact ⟨by rw [HR.out, HF.out]; rfl, rfl⟩
end Go.Proofs.Ytooplolalbcmjaa

namespace Go.Proofs.Ytooplolalbcmjaa
open Go.RowKit

set_option maxRecDepth 100000 in
set_option maxHeartbeats 800000 in
theorem specHeapsByHooks_any (s : ByteArray) (w : World) (hs : s.size ≤ maxLen) :
    Calls Try.prog 34 #[.string s] w fun e w' => e = .returned (.int .i64 (heapsO s.data.toList)) ∧ Below w.heap.size w w' := by
  cases hv : valid s.data.toList with
  | false =>
    rw [heapsO, if_neg (fun h => by rw [hv] at h; exact absurd h.1 (by decide))]
    have HV := Lib.hid hv
    go_enter Try.func34, Try.ntmps34
    go_wp2_with (go_at_call 65; refine (specValid_is false _ _ hs HV).mono ?_; rintro e w1 ⟨rfl, rfl⟩)
    go_ret
    exact ⟨rfl, Below.refl _ _⟩
  | true =>
    have HV := Lib.hid hv
    have h18 := (valid_scan hv).2
    rw [size_list] at h18
    by_cases h16 : s.size ≤ 16
    · obtain ⟨t, ht, ht8⟩ := tree_of hv (by rw [size_list]; exact h16)
      have HB := Lib.hid (fun g c RV (rows : List (List Int)) (w' : World) => binFrom_any w.heap.size 18 s 0 g c RV rows w' (by omega) hv)
      rw [← ht, heapsO_lst ht8]
      have hbl := Tw.binL_lst 18 t 0 (by rw [ht, size_list]; exact h18)
      rw [← ht] at HB
      rw [hbl] at HB
      have hal := Tw.arms_length t 0
      have HOK := Lib.hid (Tw.okT_all t ht8)
      have HLE := Lib.hid (fun k hk => Tw.hkR_le t ht8 k hk)
      have HDIV : Hid ((Tw.hkR (Tw.arms t 0) t.size : Nat) ≠ 0 ∧ fct t.size / Tw.hkR (Tw.arms t 0) t.size = t.heaps) := by
        show _ ∧ _
        rw [Tw.hkR_all t ht8]
        exact ⟨Nat.pos_iff_ne_zero.mp t.hooks_pos, Tw.heaps_div ht8⟩
      have hf8 := fct_le8 t.size ht8
      have CF := Lib.hid (fun w => factorialS_any t.size w ht8)
      obtain ⟨rows, hrows⟩ : ∃ rows, rows = Tw.arms t 0 := ⟨_, rfl⟩
      rw [← hrows] at HB hal HOK HLE HDIV
      obtain ⟨n, hn⟩ : ∃ n, n = t.size := ⟨_, rfl⟩
      rw [← hn] at hal HOK HLE HDIV CF hf8 ht8
      obtain ⟨F, hF⟩ : ∃ F, F = fct n := ⟨_, rfl⟩
      rw [← hF] at HDIV CF hf8
      obtain ⟨R, hR⟩ : ∃ R, R = t.heaps := ⟨_, rfl⟩
      rw [← hR] at HDIV ⊢
      have HLn := Lib.hid hal
      have BT := Lib.hid (fun (B H : Nat) v RV (k : Nat) (hk : k < n) w (h1 : H ≤ w.heap.size) h2 => between_any rows (B := B) (H := H) (v := v) (RV := RV) 10 (k : Int) w (Nat.le_refl _) (HOK.out k hk) h1 h2)
      have b1 : ¬ (16 : Int) < (s.size : Int) := by omega
      clear hv ht hrows hn hF hR hbl hal h18
      go_enter Try.func34, Try.ntmps34
      go_wp2_with (go_at_call 65; refine (specValid_is true _ _ hs HV).mono ?_; rintro e w1 ⟨rfl, rfl⟩)
      have hl := lit_own2 w #[] 23 (by decide)
      refine (HB.out _ _ [] [] _ (by simp; omega) (by omega) (by simp) (Lib.hid ⟨hl.more (by simp), RowsI.nil⟩)).mono ?_
      rintro e w1 ⟨g, c, RV, rfl, hG, hb⟩
      rw [List.nil_append, HLn.out] at hG ⊢
      have HG := Lib.hid hG
      have hb' := ((Below.refl _ w).alloc (Nat.le_refl _) _).trans (hb.mono (by simp))
      have HB' := Lib.hid hb'
      clear hG hb hb' hl HB b1 h16
      have b2 : n ≤ 8 := ht8
      go_wp2_with fail
      go_loopw [4, 5] (fun h i wr => ∃ k p : Nat, k ≤ n ∧ i = .int .i64 k ∧ h = .int .i64 p ∧ Hid (p = Tw.hkR rows k) ∧ Hid (Below w1.heap.size w1 wr)) (fun _ i _ => n - (intOf i).toNat)
      case atStart => exact ⟨0, 1, Nat.zero_le _, rfl, rfl, rfl, Below.refl _ _⟩
      case round =>
        obtain ⟨k, p, hk, rfl, rfl, HP, HW⟩ := hrel
        by_cases hlt : k < n
        · have C := Lib.hid (BT.out _ _ _ _ k hlt wr (HW.out.size) (Lib.hid (HG.out.below HW.out)))
          have b3 : (k : Int) < (n : Int) := by omega
          have HN : Hid (Tw.hkR rows (k + 1) = p * (btwL rows 10 (k : Int)).length) := by show _ = _; rw [Tw.hkR, HP.out]
          have h40 := HLE.out (k + 1) hlt
          rw [HN.out] at h40
          obtain ⟨q, hq⟩ : ∃ q, q = (btwL rows 10 (k : Int)).length := ⟨_, rfl⟩
          obtain ⟨Q, hQ⟩ : ∃ Q, Q = p * q := ⟨_, rfl⟩
          have hQc : (p : Int) * (q : Int) = (Q : Int) := by rw [hQ]; push_cast; rfl
          have HQ := Lib.hid hq
          rw [← hq, ← hQ] at h40
          rw [← hq, ← hQ] at HN
          have e1 : IntKind.i64.wrap ((p : Int) * (q : Int)) = (Q : Int) := by rw [hQc, IntKind.wrap_i64]; omega
          clear hQ hQc h40 hq
          go_wp2_with fail
          refine C.out.mono ?_
          rintro e w2 ⟨g2, c2, rfl, _, hb2⟩
          rw [← HQ.out]
          have HB2 := Lib.hid (HW.out.trans (hb2.mono HW.out.size))
          clear hb2
          go_wp2
          go_roundw
          case rel => exact ⟨k + 1, Q, by omega, by go_num, by first | rfl | rw [e1], HN.out.symm, HB2⟩
          case measure => simp [intOf]; omega
        · obtain rfl : k = n := by omega
          have hp0 : p ≠ 0 := by rw [HP.out]; exact HDIV.out.1
          have hpR : F / p = R := by rw [HP.out]; exact HDIV.out.2
          have hR8 : R ≤ 40320 := by rw [← hpR]; exact Nat.le_trans (Nat.div_le_self _ _) hf8
          have e1 : Int.tdiv (F : Int) (p : Int) = (R : Int) := by rw [← hpR]; rfl
          have e2 : IntKind.i64.wrap (Int.tdiv (F : Int) (p : Int)) = (R : Int) := by rw [e1, IntKind.wrap_i64]; omega
          have b3 : (p : Int) ≠ 0 := by omega
          have b4 : ((p : Int) == 0) = false := beq_false_of_ne b3
          have HF := Lib.hid (HB'.out.trans (HW.out.mono HB'.out.size))
          clear hpR hp0
          go_wp2_with fail
          refine (CF.out _).mono ?_
          rintro e w2 ⟨rfl, rfl⟩
          go_wp2
          go_ret
          exact ⟨by first | rfl | rw [e2] | rw [e1], HF.out⟩
    · rw [heapsO, if_neg (fun h => h16 (by have := h.2; rw [size_list] at this; exact this))]
      have b1 : (16 : Int) < (s.size : Int) := by omega
      clear hv
      go_enter Try.func34, Try.ntmps34
      go_wp2_with (go_at_call 65; refine (specValid_is true _ _ hs HV).mono ?_; rintro e w1 ⟨rfl, rfl⟩)
      go_ret
      exact ⟨rfl, Below.refl _ _⟩
end Go.Proofs.Ytooplolalbcmjaa

namespace Go.Proofs.Ytooplolalbcmjaa
open Go.RowKit

/-- a function of a row of numbers, by its answer -/
def RowFn (f : FuncId) (val : List Int → Value) : Prop :=
  ∀ (l : List Int) (a : Option Addr) (cv : Nat) (w : World) (H : Nat), Hid (RdI w H a l) → H ≤ w.heap.size → l.length ≤ 1048576 → l.length ≤ cv →
    Calls Try.prog f #[.slice a l.length cv] w fun e w' => e = .returned (val l) ∧ Below w.heap.size w w'
/-- a function of a text, by its answer -/
def TextFn (f : FuncId) (val : List UInt8 → Value) : Prop :=
  ∀ (s : ByteArray) (w : World), s.size ≤ maxLen → Calls Try.prog f #[.string s] w fun e w' => e = .returned (val s.data.toList) ∧ Below w.heap.size w w'
theorem below_drew (B : Nat) (w : World) (n : Nat) : Below B w (w.drewN n) := ⟨rfl, rfl, rfl, Nat.le_refl _, fun _ _ => rfl⟩
def vB (b : List Int → Bool) (l : List Int) : Value := .bool (b l)
def vI (i : List Int → Int) (l : List Int) : Value := .int .i64 (i l)
def vT (t : List Int → ByteArray) (l : List Int) : Value := .string (t l)
def vN (i : List UInt8 → Int) (l : List UInt8) : Value := .int .i64 (i l)
theorem specValidRow_fn : RowFn 19 (vB rowB) := fun l a cv w H h1 _ h3 h4 =>
  (specValidRow_any l a cv w h1 h3 h4).mono fun e w' h => ⟨h.1, by obtain ⟨_, q, rfl⟩ := h; exact below_drew _ _ _⟩
theorem specHeapWord_fn : RowFn 23 (vT hwO) := fun l a cv w H h1 _ h3 h4 =>
  (specHeapWord_any l a cv w h1 h3 h4).mono fun e w' h => ⟨h.1, by obtain ⟨_, q, rfl⟩ := h; exact below_drew _ _ _⟩
theorem specFallsOf_fn : RowFn 41 (vI fallsO) := fun l a cv w H h1 _ h3 h4 =>
  (specFallsOf_any l a cv w h1 h3 h4).mono fun e w' h => ⟨h.1, by obtain ⟨_, q, rfl⟩ := h; exact below_drew _ _ _⟩
theorem specHeapsOf_fn : TextFn 30 (vN heapsO) := fun s w h =>
  (specHeapsOf_any s w h).mono fun e w' h => ⟨h.1, by obtain ⟨_, q, rfl⟩ := h; exact below_drew _ _ _⟩
theorem specHeapsByHooks_fn : TextFn 34 (vN heapsO) := fun s w h => specHeapsByHooks_any s w h
theorem specHeapsTried_fn : TextFn 38 (vN triedO) := fun s w h => specHeapsTried_any s w h
end Go.Proofs.Ytooplolalbcmjaa
