/-
  The contract of the model's JoinCost.
-/
import Derived.Test.YtakpbnkncjddeaaCSrtI
import Derived.Test.YtakpbnkncjddeaaZLS
import Derived.Test.YtakpbnkncjddeaaZR
import Derived.Test.YtakpbnkncjddeaaZL
namespace Go.Proofs.Ytakpbnkncjddeaa
open Go.RowKit

theorem own_rdG {w : World} {B H c n : Nat} {a : Option Addr} {l : List Int} (h : Own w B H 3 (.slice a n c) (iv l)) : l.length = n ∧ RdI w H a l := by
  obtain ⟨ao, cap, e, _⟩ := h.slice
  rw [iv_length] at e
  simp only [Value.slice.injEq] at e
  obtain ⟨rfl, rfl, rfl⟩ := e
  exact ⟨rfl, own_rd h⟩

theorem rd_drop {w : World} {H g off : Nat} {l : List Int} (h : RdI w H (some ⟨g, off, none⟩) l) (k : Nat) : RdI w H (some ⟨g, off + k, none⟩) (l.drop k) := fun j hj => by
  rw [List.length_drop] at hj
  obtain ⟨b, o, e, h2, h3⟩ := h (k + j) (by omega)
  simp only [Option.some.injEq, Addr.mk.injEq] at e
  obtain ⟨rfl, rfl, _⟩ := e
  exact ⟨g, off + k, rfl, h2, by rw [List.getElem_drop, Nat.add_assoc]; exact h3⟩
theorem Own.lower {w : World} {B B' H : Nat} {t : TypeId} {v : Value} {xs : List Value} (h : Own w B' H t v xs) (hB : B ≤ B') : Own w B H t v xs :=
  ⟨⟨h.1.1, h.1.2.imp id (fun ⟨z1, z2, z3, y1, y2, y3⟩ => ⟨z1, z2, z3, y1, Nat.le_trans hB y2, y3⟩)⟩, h.2⟩
theorem own_capG {w : World} {B H c n : Nat} {a : Option Addr} {t : TypeId} {xs : List Value} (h : Own w B H t (.slice a n c) xs) : n ≤ c ∧ c ≤ maxLen := by
  obtain ⟨ao, cap, e, _, h1, h2, _⟩ := h.slice
  simp only [Value.slice.injEq] at e
  obtain ⟨_, rfl, rfl⟩ := e
  exact ⟨h1, h2⟩
def lenJ : Value → Nat | .slice _ n _ => n | _ => 0
set_option maxRecDepth 100000 in
set_option maxHeartbeats 3200000 in
theorem specJoinCost_any (l : List Int) (a : Option Addr) (cv : Nat) (w : World) {H : Nat} (hR : Hid (RdI w H a l)) (hH : H ≤ w.heap.size) (hl : l.length ≤ 1048576) :
    Calls Try.prog 18 #[.slice a l.length cv] w fun e w' => e = .returned (.int .i64 (jcI l)) ∧ Below w.heap.size w w' := by
  have CV := Lib.hid (validLoadsM_any l a cv w hR hl)
  cases hw : loadB l
  · rw [hw] at CV
    have E := Lib.hid (show jcI l = -1 by rw [jcI, hw]; rfl)
    clear hw
    go_enter Try.func18, Try.ntmps18
    go_wp2_with fail
    refine CV.out.mono ?_
    rintro e w1 ⟨rfl, rfl⟩
    go_wp2
    go_ret
    exact ⟨by rw [E.out]; rfl, Below.refl _ _⟩
  · rw [hw] at CV
    obtain ⟨L, rfl, eL, h7, h20⟩ := loadB_nats hw
    have E := Lib.hid (show jcI (ldI L) = (joinC L : Int) by rw [jcI, hw, natsL_ldI]; rfl)
    have JM := joinC_most L.length L (Nat.le_refl _)
    have SB := sum_bd h20
    have CS := Lib.hid (sortedM_any (ldI L) a cv w hR hH hl)
    rw [asc_srt] at CS
    have J0 : Hid (joinC (srtL L) = joinC L ∧ AscL (srtL L) ∧ joinC L ≤ 980) := by
      refine ⟨joinC_srt L, srtL_asc L, Nat.le_trans JM ?_⟩
      have : L.length * L.sum ≤ 7 * (20 * 7) := Nat.mul_le_mul h7 (Nat.le_trans SB (Nat.mul_le_mul_left _ h7))
      omega
    have HL7 := Lib.hid (show (srtL L).length ≤ 7 by rw [srtL_len]; exact h7)
    clear hw eL JM SB
    go_enter Try.func18, Try.ntmps18
    go_wp2_with fail
    refine CV.out.mono ?_
    rintro e w1 ⟨rfl, rfl⟩
    clear CV
    go_wp2_with fail
    refine CS.out.mono ?_
    rintro e w1 ⟨v1, rfl, O1, B1⟩
    clear CS
    go_wp2
    obtain ⟨a1, c1, rfl, _, hc1, _, _⟩ := O1.slice
    rw [iv_length, ldI_len] at hc1
    rw [show (iv (ldI (srtL L))).length = (srtL L).length by rw [iv_length, ldI_len]] at O1
    obtain ⟨B, hB⟩ : ∃ B, B = w.heap.size := ⟨_, rfl⟩
    rw [← hB] at O1 B1 hH
    have HB := Lib.hid hB
    have O1 := Lib.hid (O1.more (H' := w1.heap.size) (Nat.le_refl _))
    have B1 := Lib.hid B1
    clear hB
    (try rw [iv_length, ldI_len])
    go_loopw [3, 4] (fun list out wr => ∃ (M : List Nat) (a : Option Addr) (n c t : Nat), list = .slice a n c ∧ out = .int .i64 (t : Int) ∧ Hid (M.length = n ∧ n ≤ 7 ∧ AscL M ∧ t + joinC M = joinC L) ∧ Hid (Own wr B wr.heap.size 3 (.slice a n c) (iv (ldI M))) ∧ Hid (Below B w wr)) (fun list _ _ => lenJ list)
    case atStart => exact ⟨srtL L, a1, _, c1, 0, rfl, rfl, ⟨by simp [ldI_len], by simp only [ldI_len]; exact HL7.out, J0.out.2.1, by rw [J0.out.1, Nat.zero_add]⟩, by simp only [ldI_len]; exact O1, B1⟩
    case round =>
      clear O1 B1
      obtain ⟨M, am, n, c, t, rfl, rfl, ⟨hn, hn7, hA, hT⟩, OM, BM⟩ := hrel
      have J9 := J0.out.2.2
      by_cases h2 : 1 < n
      · obtain ⟨x, y, r, rfl⟩ : ∃ x y r, M = x :: y :: r := by
          match M, hn with
          | [], h => simp at h; omega
          | [_], h => simp at h; omega
          | x :: y :: r, _ => exact ⟨x, y, r, rfl⟩
        have JA := joinC_asc hA
        obtain ⟨hnc, hcm⟩ := own_capG OM.out
        obtain ⟨g, rfl, hBg, hgH, hx0, _⟩ := OM.out.at_ 0 (by rw [iv_length, ldI_len]; simp)
        obtain ⟨_, e0, _, _, hy0, _⟩ := OM.out.at_ 1 (by rw [iv_length, ldI_len]; simp)
        cases e0
        rw [iv_at (ldI (x :: y :: r)) 0 (by rw [ldI_len]; simp)] at hx0
        rw [iv_at (ldI (x :: y :: r)) 1 (by rw [ldI_len]; simp)] at hy0
        have hx : wr.cell? ⟨g, 0, none⟩ = some (.int .i64 (x : Int)) := hx0
        have hy : wr.cell? ⟨g, 1, none⟩ = some (.int .i64 (y : Int)) := hy0
        clear hx0 hy0
        have e1 : IntKind.i64.wrap ((x : Int) + (y : Int)) = (x : Int) + (y : Int) := by rw [IntKind.wrap_i64]; omega
        have e2 : IntKind.i64.wrap ((t : Int) + ((x : Int) + (y : Int))) = (t : Int) + ((x : Int) + (y : Int)) := by rw [IntKind.wrap_i64]; omega
        have b1 : (1 : Int) < (n : Int) := by omega
        have b2 : (0 : Int) < (n : Int) := by omega
        have b3 : (2 : Int) ≤ (n : Int) := by omega
        have b4 : (n : Int) ≤ (c : Int) := by omega
        have HT := Lib.hid hT
        have HA := Lib.hid hA
        have JA := Lib.hid JA
        have HN := Lib.hid hn
        clear hT hA hn h2 hnc
        have RL : RdI wr wr.heap.size (some ⟨g, 2, none⟩) (ldI r) := rd_drop (own_rdG OM.out).2 2
        have hB2 : B ≤ wr.heap.size := by rw [HB.out]; exact BM.out.size
        have lr : r.length = n - 2 := by have := HN.out; simp at this; omega
        have XY : ((x + y : Nat) : Int) = (x : Int) + (y : Int) := by omega
        have hcs : c = 2 ∨ ∃ ce, c = ce + 3 := by
          rcases Nat.lt_or_ge c 3 with h | h
          · left; omega
          · exact .inr ⟨c - 3, by omega⟩
        have HLR := Lib.hid lr
        have HXY := Lib.hid XY
        have RL := Lib.hid RL
        clear lr XY
        go_wp2_with fail
        go_quiet (fail)
        rcases hcs with rfl | ⟨ce, rfl⟩
        case' inl =>
          obtain rfl : n = 2 := by omega
          go_wp2_with (at_builtin; refine wpList_append_rd rfl (.tmp 25) (.tmp 27) rfl B _ 1 [.int .i64 ((x : Int) + (y : Int))] rfl ?own _ 0 _ rfl (l := ldI r) (H := wr.heap.size) ?hl ?hR (by omega) (by omega) ?hbase ?_)
          case hR => exact fun j hj => by have := HLR.out; rw [ldI_len] at hj; omega
        case' inr =>
          have b5 : (n : Int) - 2 = ((n - 2 : Nat) : Int) := by omega
          go_wp2_with (at_builtin; refine wpList_append_rd rfl (.tmp 25) (.tmp 27) rfl B _ 1 [.int .i64 ((x : Int) + (y : Int))] rfl ?own2 _ (n - 2) _ rfl (l := ldI r) (H := wr.heap.size) ?hl2 ?hR2 (by omega) (by omega) ?hbase2 ?_)
          case hR2 => exact (RL.out.drew nq).below ((Below.refl wr.heap.size (wr.drewN nq)).alloc (by simp) _)
        case hl | hl2 => rw [ldI_len]; exact HLR.out
        case hbase | hbase2 => simp; omega
        case own | own2 => exact World.ownsRow_lit (base := B) (e := 3) (size := 1) _ #[.int .i64 ((x : Int) + (y : Int))] 1 (by simp; omega) (by unfold maxLen; omega) rfl
        all_goals
          intro v2 w2 O2 G2
          have e3 : Value.int .i64 ((x : Int) + (y : Int)) :: iv (ldI r) = iv (ldI ((x + y) :: r)) := by
            show _ = Value.int .i64 ((x + y : Nat) : Int) :: iv (ldI r)
            rw [HXY.out]
          have l3 : (iv (ldI ((x + y) :: r))).length = 1 + r.length := by rw [iv_length, ldI_len, List.length_cons]; omega
          have O3 : Own w2 B w2.heap.size 3 v2 (iv (ldI ((x + y) :: r))) := by
            refine Own.of_own ?_
            rw [l3, ← e3, HLR.out]
            exact O2
          have B3 : Below B w w2 := ((BM.out.trans (c := wr.drewN nq) ⟨rfl, rfl, rfl, Nat.le_refl _, fun _ _ => rfl⟩).alloc (by simp; omega) _).grown G2 (by simp; omega) (fun z hz => by simp only [Value.ownBlock, Option.some.injEq] at hz; omega)
          obtain ⟨a3, c3, e4, _⟩ := O3.slice
          rw [iv_length] at e4
          subst e4
          have hs3 : B ≤ w2.heap.size := by rw [HB.out]; exact B3.size
          have CS2 := Lib.hid (sortedM_any (ldI ((x + y) :: r)) a3 c3 w2 (own_rdG O3).2 (Nat.le_refl _) (by rw [ldI_len, List.length_cons, HLR.out]; omega))
          rw [asc_srt] at CS2
          have B3 := Lib.hid B3
          clear O2 O3 G2 e3 l3 OM hx hy
          go_wp2_with fail
          refine CS2.out.mono ?_
          rintro e w4 ⟨v4, rfl, O4, B4⟩
          clear CS2
          obtain ⟨a4, c4, rfl, _⟩ := O4.slice
          have O5 := Lib.hid (O4.lower hs3)
          have B5 : Hid (Below B w w4) := B3.out.trans (B4.mono hs3)
          clear O4 B4
          go_wp2
          go_roundw
          case rel => exact ⟨srtL ((x + y) :: r), a4, _, c4, t + (x + y), rfl, by go_num, ⟨by simp [iv_length, ldI_len], by simp only [iv_length, ldI_len, srtL_len, List.length_cons, HLR.out]; omega, srtL_asc _, by rw [joinC_srt]; have := HT.out; have := JA.out; omega⟩, O5, B5⟩
          case measure => simp only [lenJ, iv_length, ldI_len, srtL_len, List.length_cons]; have := HLR.out; omega
      · have b1 : ¬ (1 : Int) < (n : Int) := by omega
        have J : t = joinC L := by rw [joinC_small (by omega)] at hT; omega
        subst J
        clear hA hT
        go_wp2
        go_ret
        exact ⟨by rw [E.out]; rfl, by rw [← HB.out]; exact BM.out⟩
end Go.Proofs.Ytakpbnkncjddeaa
