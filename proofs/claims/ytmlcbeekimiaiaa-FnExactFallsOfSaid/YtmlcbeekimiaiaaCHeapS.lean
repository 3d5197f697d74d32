/-
  The contracts of the model's heapWord and HeapWord, of numbers that can be read.
-/
import Derived.Test.YtmlcbeekimiaiaaCRowS
import Derived.Test.YtmlcbeekimiaiaaWHeapP
namespace Go.Proofs.Ytmlcbeekimiaiaa
open Go.RowKit

/-- the word of a row, as a text -/
def hwS (l : List Int) : ByteArray := ⟨(Tw.row l).lst.toArray⟩
theorem hwS_size (l : List Int) : (hwS l).size = 2 * l.length := by
  show (Tw.row l).lst.toArray.size = _
  rw [List.size_toArray, Tw.lst_length, Tw.row_size]
theorem hwS_nil : hwS [] = ⟨#[]⟩ := rfl
theorem hwS_cons {l : List Int} (h : l ≠ []) : hwS l = ⟨#[40]⟩ ++ hwS (l.take (leastA l)) ++ ⟨#[41]⟩ ++ hwS (l.drop (leastA l + 1)) := by
  have e : hwS l = ⟨((Tw.row (l.take (leastA l))).n (Tw.row (l.drop (leastA l + 1)))).lst.toArray⟩ := by rw [hwS, Tw.row_cons h]
  rw [e, Tw.lst]
  apply ByteArray.ext
  simp [hwS, ByteArray.data_append]
theorem atL_one (l : List Int) : atL l 1 = 0 := by
  have : atL l 1 = if l.getD 0 0 < l.getD (atL l 0) 0 then 0 else atL l 0 := rfl
  rw [this]; split <;> rfl
/-- numbers that can be read, with their slice -/
def RdL (w : World) (H : Nat) (a : Option Addr) (l : List Int) (n c f : Nat) : Prop := RdI w H a l ∧ l.length = n ∧ n ≤ c ∧ n ≤ f
theorem RdI.drop {w : World} {H b off m : Nat} {l : List Int} (h : RdI w H (some ⟨b, off, none⟩) l) : RdI w H (some ⟨b, off + m, none⟩) (l.drop m) := fun j hj => by
  rw [List.length_drop] at hj
  have h3 := rd_at h (m + j) (by omega)
  obtain ⟨_, _, e, hb, _⟩ := h (m + j) (by omega)
  simp only [Option.some.injEq, Addr.mk.injEq] at e
  refine ⟨b, off + m, rfl, by omega, ?_⟩
  rw [List.getElem_drop, Nat.add_assoc]
  exact h3
theorem RdI.none_of {w : World} {H : Nat} {a : Option Addr} {l : List Int} (h : l.length = 0) : RdI w H a l := fun j hj => absurd hj (by omega)

set_option maxRecDepth 100000 in
set_option maxHeartbeats 3200000 in
theorem heapWordM_any : ∀ (f : Nat), f ≤ 10 → ∀ (a : Option Addr) (l : List Int) (n cv : Nat) (w : World) (H : Nat), Hid (RdL w H a l n cv f) →
    Calls Try.prog 25 #[.slice a n cv] w fun e w' => e = .returned (.string (hwS l)) ∧ ∃ q, w' = w.drewN q := by
  intro f
  induction f with
  | zero =>
    intro _ a l n cv w H hL
    obtain ⟨_, h1, h2, h3⟩ := hL.out
    obtain rfl : n = 0 := by omega
    obtain rfl : l = [] := List.eq_nil_of_length_eq_zero h1
    rw [hwS_nil]
    clear h1 h2 h3
    go_enter Try.func25, Try.ntmps25
    go_wp2
    go_ret
    exact ⟨rfl, 0, rfl⟩
  | succ f ih =>
    intro hf a l n cv w H hL
    obtain ⟨hR0, h1, h2, h3⟩ := hL.out
    by_cases hn : n = 0
    · subst hn
      obtain rfl : l = [] := List.eq_nil_of_length_eq_zero h1
      rw [hwS_nil]
      clear h1 h2 h3
      go_enter Try.func25, Try.ntmps25
      go_wp2
      go_ret
      exact ⟨rfl, 0, rfl⟩
    · have hR := Lib.hid hR0
      have HL := Lib.hid h1
      have hne : l ≠ [] := by intro e; subst e; exact hn h1.symm
      have hml := Tw.leastA_lt hne
      have HM : Hid (leastA l = atL l n) := by show _ = _; rw [leastA, h1]
      rw [h1] at hml
      rw [hwS_cons hne]
      have HSA := hwS_size (l.take (leastA l))
      have HSB := hwS_size (l.drop (leastA l + 1))
      rw [List.length_take, h1] at HSA
      rw [List.length_drop, h1] at HSB
      obtain ⟨m, hm⟩ : ∃ m, m = leastA l := ⟨_, rfl⟩
      rw [← hm] at hml HM HSA HSB ⊢
      obtain ⟨TA, hTA⟩ : ∃ TA, TA = l.take m := ⟨_, rfl⟩
      obtain ⟨TB, hTB⟩ : ∃ TB, TB = l.drop (m + 1) := ⟨_, rfl⟩
      have HTA := Lib.hid hTA
      have HTB := Lib.hid hTB
      rw [← hTA] at HSA ⊢
      rw [← hTB] at HSB ⊢
      have z1 : (hwS TA).size ≤ 100 := by omega
      have z2 : (hwS TB).size ≤ 100 := by omega
      obtain ⟨b, off, rfl, hx0⟩ := hR.out 0 (by omega)
      clear hx0
      have HIH := Lib.hid (ih (by omega))
      have q1 : ((n : Int) == 0) = false := beq_false_of_ne (by omega)
      have LA : Hid (RdL w H (some ⟨b, off, none⟩) TA m cv f) := by show _ ∧ _; rw [HTA.out]; exact ⟨hR.out.take m, by rw [List.length_take]; omega, by omega, by omega⟩
      have LB : Hid (RdL w H (if cv = m + 1 then some ⟨b, off, none⟩ else some ⟨b, off + (m + 1), none⟩) TB (n - (m + 1)) (cv - (m + 1)) f) := by
        show _ ∧ _
        rw [HTB.out]
        refine ⟨?_, by rw [List.length_drop]; omega, by omega, by omega⟩
        split
        · exact RdI.none_of (by rw [List.length_drop]; omega)
        · exact hR.out.drop
      clear hm hTA hTB hL hR0 ih HSA HSB hne h1
      go_enter Try.func25, Try.ntmps25
      go_wp2
      go_loopw [3, 4] (fun at_ i wr => ∃ K J : Nat, 1 ≤ K ∧ K ≤ n ∧ J < K ∧ i = .int .i64 K ∧ at_ = .int .i64 J ∧ Hid (J = atL l K) ∧ Hid (∃ q, wr = w.drewN q)) (fun _ i _ => n - (intOf i).toNat)
      case atStart => exact ⟨1, 0, Nat.le_refl _, by omega, Nat.zero_lt_one, rfl, rfl, (atL_one l).symm, 0, rfl⟩
      case round =>
        obtain ⟨K, J, hK1, hK, hJK, rfl, rfl, HJ, HS⟩ := hrel
        have hRr : Hid (RdI wr H (some ⟨b, off, none⟩) l) := by obtain ⟨q, hq⟩ := HS.out; rw [hq]; exact hR.out.drew q
        by_cases hlt : K < n
        · have g1 := rd_at hRr.out K (by rw [HL.out]; omega)
          have g0 := rd_at hRr.out J (by rw [HL.out]; omega)
          have b1 : (K : Int) < (n : Int) := by omega
          have b2 : (J : Int) < (n : Int) := by omega
          have HF : Hid (atL l (K + 1) = if l[K]'(by rw [HL.out]; omega) < l[J]'(by rw [HL.out]; omega) then K else J) := by
            show _ = _
            rw [atL, ← HJ.out, getD_at _ _ (by rw [HL.out]; omega), getD_at _ _ (by rw [HL.out]; omega)]
          obtain ⟨y, hy⟩ : ∃ y, y = l[K]'(by rw [HL.out]; omega) := ⟨_, rfl⟩
          obtain ⟨x, hx⟩ : ∃ x, x = l[J]'(by rw [HL.out]; omega) := ⟨_, rfl⟩
          rw [← hy] at g1 HF
          rw [← hx] at g0 HF
          clear hy hx hRr
          by_cases hyx : y < x
          · have HN2 : Hid (K = atL l (K + 1)) := by show _ = _; rw [HF.out, if_pos hyx]
            go_wp2_with fail
            go_quiet (fail)
            go_wp2
            go_roundw
            case rel => exact ⟨K + 1, K, by omega, by omega, by omega, by go_num, rfl, HN2, by obtain ⟨q, hq⟩ := HS.out; exact ⟨q + nq, by rw [hq, World.drewN_drewN]⟩⟩
            case measure => simp [intOf]; omega
          · have HN2 : Hid (J = atL l (K + 1)) := by show _ = _; rw [HF.out, if_neg hyx]
            go_wp2_with fail
            go_quiet (fail)
            go_wp2
            go_roundw
            case rel => exact ⟨K + 1, J, by omega, by omega, by omega, by go_num, rfl, HN2, by obtain ⟨q, hq⟩ := HS.out; exact ⟨q + nq, by rw [hq, World.drewN_drewN]⟩⟩
            case measure => simp [intOf]; omega
        · obtain rfl : K = n := by omega
          obtain rfl : J = m := by rw [HJ.out, HM.out]
          obtain ⟨q0, hq0⟩ := HS.out
          have LA2 : Hid (RdL wr H (some ⟨b, off, none⟩) TA J cv f) := by rw [hq0]; exact ⟨LA.out.1.drew q0, LA.out.2⟩
          have LB2 : Hid (RdL wr H (if cv = J + 1 then some ⟨b, off, none⟩ else some ⟨b, off + (J + 1), none⟩) TB (K - (J + 1)) (cv - (J + 1)) f) := by rw [hq0]; exact ⟨LB.out.1.drew q0, LB.out.2⟩
          have I2 : Hid (∀ (q : Nat) (a' : Option Addr) (l' : List Int) (n' c' : Nat), Hid (RdL wr H a' l' n' c' f) → Calls Try.prog 25 #[.slice a' n' c'] (wr.drewN q) fun e w' => e = .returned (.string (hwS l')) ∧ ∃ m, w' = (wr.drewN q).drewN m) :=
            fun q a' l' n' c' hy => HIH.out a' l' n' c' (wr.drewN q) H (Lib.hid ⟨hy.out.1.drew q, hy.out.2⟩)
          clear LA LB hq0
          have j1 : (J : Int) ≤ (cv : Int) := by omega
          have j2 : J ≤ cv := by omega
          have j3 : (J : Int) + 1 ≤ (K : Int) := by omega
          have j4 : J + 1 ≤ K := by omega
          have j5 : (0 : Int) ≤ (J : Int) + 1 := by omega
          have j6 : (0 : Int) ≤ (J : Int) := by omega
          have ewc : IntKind.i64.wrap ((J : Int) + 1) = (J : Int) + 1 := by rw [IntKind.wrap_i64]; omega
          clear HIH HJ HM hRr
          go_wp2_with fail
          go_quiet ((go_at_call 25; exact Calls.quiet_of (I2.out _ _ _ _ _ (by assumption))))
          all_goals go_wp2
          all_goals go_ret
          all_goals exact ⟨rfl, by obtain ⟨q, hq⟩ := HS.out; exact ⟨q + nq, by rw [hq, World.drewN_drewN]⟩⟩

/-- what HeapWord answers -/
def hwO (l : List Int) : ByteArray := if rowB l = true then hwS l else ⟨#[]⟩
set_option maxHeartbeats 800000 in
theorem specHeapWord_any (l : List Int) (a : Option Addr) (cv : Nat) (w : World) {H : Nat} (hR : Hid (RdI w H a l)) (hl : l.length ≤ 1048576) (hcv : l.length ≤ cv) :
    Calls Try.prog 13 #[.slice a l.length cv] w fun e w' => e = .returned (.string (hwO l)) ∧ ∃ q, w' = w.drewN q := by
  have CV := Lib.hid (validRowM_any l a cv w hR hl hcv)
  rw [hwO]
  cases hr : rowB l
  · rw [hr] at CV
    go_enter Try.func13, Try.ntmps13
    go_wp2_with fail
    refine CV.out.mono ?_
    rintro e w1 ⟨rfl, q, rfl⟩
    go_wp2
    go_ret
    exact ⟨rfl, q, rfl⟩
  · rw [hr] at CV
    have h8 := ((rowB_iff l).mp hr).1
    have CF := Lib.hid (fun q => heapWordM_any 10 (Nat.le_refl _) a l l.length cv (w.drewN q) H (Lib.hid ⟨hR.out.drew q, rfl, hcv, by omega⟩))
    go_enter Try.func13, Try.ntmps13
    go_wp2_with fail
    refine CV.out.mono ?_
    rintro e w1 ⟨rfl, q, rfl⟩
    go_wp2_with fail
    refine (CF.out q).mono ?_
    rintro e w1 ⟨rfl, q2, rfl⟩
    go_wp2
    go_ret
    exact ⟨rfl, q + q2, by first | rfl | rw [World.drewN_drewN]⟩
end Go.Proofs.Ytmlcbeekimiaiaa
