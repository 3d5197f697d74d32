/-
  The walk of the law that rows without a bad three come from a stack, with the program's ValidRow as a premise.
-/
import Derived.Test.YtooplolalbcmjaaZS
import Derived.Test.YtooplolalbcmjaaZDR
import Derived.Test.YtooplolalbcmjaaZQ
import Derived.Test.YtooplolalbcmjaaZWO
import Derived.Test.YtooplolalbcmjaaCStackI
import Derived.Test.YtooplolalbcmjaaZE
import Derived.Test.YtooplolalbcmjaaZW
namespace Go.Proofs.Ytooplolalbcmjaa
open Go.RowKit

theorem wos_tells {l : List Int} (hr : rowB l = true) : ∃ (T : ByteArray) (ok : Bool), wosV l = .tuple #[.string T, .bool ok] ∧ ok = !(badK l l.length) ∧ (ok = true → T.size ≤ 18 ∧ stackOut T.data.toList = l) := by
  have h3 := wos_three hr
  have h8 := ((rowB_iff l).mp hr).1
  cases hw : wosL l with
  | none => rw [hw] at h3; exact ⟨_, _, wosV_none hw, h3, fun h => by cases h⟩
  | some s =>
    rw [hw] at h3
    obtain ⟨h1, h2, h4⟩ := (wos_row hr).2 s hw
    refine ⟨_, _, wosV_some hw, h3, fun _ => ⟨?_, ?_⟩⟩
    · show s.toArray.size ≤ 18
      rw [List.size_toArray]; omega
    · show stackOut s = l
      rw [stackOut, if_pos (of_scan h1 (by omega)), h4]

set_option maxRecDepth 100000 in
set_option maxHeartbeats 3200000 in
theorem fnWordOfStack_law (PV : RowFn 15 (vB rowB)) (a : Option Addr) (len cap : Nat) (zs : List Int) (w : World) (hr0 : IsRow .u8 w a len cap zs) :
    Calls Try.prog 3 #[.slice a len cap] w fun e w' => e = .returned (.bool true) ∧ Below w.heap.size w w' := by
  have hr := Lib.hid hr0
  clear hr0
  by_cases hbig : (1048576 : Int) < (len : Int)
  · go_enter Try.func3, Try.ntmps3
    go_wp2
    go_ret
    exact ⟨rfl, Below.refl _ _⟩
  · go_enter Try.func3, Try.ntmps3
    go_wp2_with fail
    refine (drawWordOfStack a len cap zs w hr (by omega)).mono ?_
    rintro e w1 ⟨v, l, rfl, o, hl9, hb⟩
    have C1 := Lib.hid (fun W (h : Below w1.heap.size w1 W) => implWos_any l v W (Lib.hid (o.below h)) h.size (by omega))
    have C2 := Lib.hid (fun W (h : Below w1.heap.size w1 W) => specWos_any l v W (Lib.hid (o.below h)) h.size (by omega))
    have CEQ := Lib.hid (fun W (h : Below w1.heap.size w1 W) (u : Value) (B H : Nat) (hu : Hid (Own W B H 3 u (iv l))) => equalInts_yes l u v W hu (Lib.hid (o.below h)) (by omega))
    obtain ⟨av, cv, rfl, _, hcv, _, _⟩ := o.slice
    rw [iv_length] at o hcv C1 C2 CEQ ⊢
    have B1 := Lib.hid hb
    have R1 := Lib.hid (own_rd o)
    have CV := Lib.hid (fun (w : World) (H : Nat) (h1 : Hid (RdI w H av l)) h2 => PV l av cv w H h1 h2 (by omega) hcv)
    simp only [vB] at CV
    obtain ⟨T0, ok0, hform⟩ := wosV_form l
    cases hrb : rowB l with
    | false =>
      rw [hform] at C1 C2
      rw [hrb] at CV
      have q1 : (T0.toList == T0.toList) = true := beq_self_eq_true _
      have q2 : (ok0 == ok0) = true := beq_self_eq_true _
      clear o hb hr hl9 hcv PV hform hrb CEQ
      go_wp2_with fail
      refine (C1.out w1 (Below.refl _ _)).mono ?_
      rintro e w2 ⟨rfl, b2⟩
      have B2 := Lib.hid b2
      clear b2
      go_wp2_with fail
      refine (C2.out w2 B2.out).mono ?_
      rintro e w3 ⟨rfl, b3⟩
      have B3 := Lib.hid (B2.out.trans (b3.mono B2.out.size))
      clear b3
      go_wp2_with fail
      refine (CV.out w3 _ (Lib.hid (R1.out.below B3.out)) B3.out.size).mono ?_
      rintro e w4 ⟨rfl, b4⟩
      have B4 := Lib.hid (B3.out.trans (b4.mono B3.out.size))
      go_wp2
      go_ret
      exact ⟨rfl, B1.out.trans (B4.out.mono B1.out.size)⟩
    | true =>
      obtain ⟨T, ok, hf, hok, hst⟩ := wos_tells hrb
      rw [hf] at C1 C2
      rw [hrb] at CV
      have HLN : Hid (l.length ≤ 10) := hl9
      have HOK := Lib.hid hok
      have HST := Lib.hid hst
      have q1 : (T.toList == T.toList) = true := beq_self_eq_true _
      have q2 : (ok == ok) = true := beq_self_eq_true _
      obtain ⟨n, hn⟩ : ∃ n, n = l.length := ⟨_, rfl⟩
      have HN := Lib.hid hn
      rw [← hn] at C1 C2 CEQ CV hcv HOK hl9 ⊢
      clear o hb hr PV hform hrb hf hok hst hn
      go_wp2_with fail
      refine (C1.out w1 (Below.refl _ _)).mono ?_
      rintro e w2 ⟨rfl, b2⟩
      have B2 := Lib.hid b2
      clear b2
      go_wp2_with fail
      refine (C2.out w2 B2.out).mono ?_
      rintro e w3 ⟨rfl, b3⟩
      have B3 := Lib.hid (B2.out.trans (b3.mono B2.out.size))
      clear b3
      go_wp2_with fail
      refine (CV.out w3 _ (Lib.hid (R1.out.below B3.out)) B3.out.size).mono ?_
      rintro e w4 ⟨rfl, b4⟩
      have B4 := Lib.hid (B3.out.trans (b4.mono B3.out.size))
      clear b4 C1 C2 CV
      have RW : Hid (∀ W, Below w1.heap.size w1 W → RdI W w1.heap.size av l) := fun W h => R1.out.below h
      go_wp2
      go_loopw [8, 9] (fun b x wr => ∃ (K : Nat) (bv : Bool), K ≤ n ∧ x = .int .i64 K ∧ b = .bool bv ∧ Hid (bv = badK l K) ∧ Hid (Below w1.heap.size w1 wr)) (fun _ x _ => n - (intOf x).toNat)
      case atStart => exact ⟨0, false, Nat.zero_le _, rfl, rfl, rfl, B4⟩
      case round =>
        obtain ⟨K, bv, hK, rfl, rfl, HB, HW⟩ := hrel
        by_cases hlt : K < n
        · have b1 : (K : Int) < (n : Int) := by omega
          go_wp2
          go_loopw [8, 10] (fun b x wr => ∃ (J : Nat) (bv : Bool), J ≤ K ∧ x = .int .i64 J ∧ b = .bool bv ∧ Hid (bv = badJ l K (badK l K) J) ∧ Hid (Below w1.heap.size w1 wr)) (fun _ x _ => K - (intOf x).toNat)
          case atStart => exact ⟨0, bv, Nat.zero_le _, rfl, rfl, HB, HW⟩
          case round =>
            clear HW HB
            obtain ⟨J, bj, hJ, rfl, rfl, HB, HW⟩ := hrel
            by_cases hltj : J < K
            · have b2 : (J : Int) < (K : Int) := by omega
              have b3 : (J : Int) < (n : Int) := by omega
              go_wp2
              go_loopw [8, 11] (fun b x wr => ∃ (I : Nat) (bv : Bool), I ≤ J ∧ x = .int .i64 I ∧ b = .bool bv ∧ Hid (bv = badI l J K (badJ l K (badK l K) J) I) ∧ Hid (Below w1.heap.size w1 wr)) (fun _ x _ => J - (intOf x).toNat)
              case atStart => exact ⟨0, bj, Nat.zero_le _, rfl, rfl, HB, HW⟩
              case round =>
                clear HW HB
                obtain ⟨I, bi, hI, rfl, rfl, HB, HW⟩ := hrel
                by_cases hlti : I < J
                · have b4 : (I : Int) < (J : Int) := by omega
                  have b5 : (I : Int) < (n : Int) := by omega
                  have HR := Lib.hid (RW.out _ HW.out)
                  obtain ⟨bb, off, rfl, _, g1⟩ := HR.out K (by have := HN.out; omega)
                  have g2 := rd_at HR.out J (by have := HN.out; omega)
                  have g3 := rd_at HR.out I (by have := HN.out; omega)
                  have HT : Hid (badT l I J K = (decide (l[J]'(by have := HN.out; omega) < l[K]'(by have := HN.out; omega)) && decide (l[K]'(by have := HN.out; omega) < l[I]'(by have := HN.out; omega)))) := by
                    show _ = _
                    rw [badT, getD_at _ _ (by have := HN.out; omega), getD_at _ _ (by have := HN.out; omega), getD_at _ _ (by have := HN.out; omega)]
                  have HNX : Hid (badI l J K (badJ l K (badK l K) J) (I + 1) = (bi || badT l I J K)) := by show _ = _; rw [badI, ← HB.out]
                  obtain ⟨x, hx⟩ : ∃ x, x = l[J]'(by have := HN.out; omega) := ⟨_, rfl⟩
                  obtain ⟨y, hy⟩ : ∃ y, y = l[K]'(by have := HN.out; omega) := ⟨_, rfl⟩
                  obtain ⟨z, hz⟩ : ∃ z, z = l[I]'(by have := HN.out; omega) := ⟨_, rfl⟩
                  rw [← hx, ← hy, ← hz] at HT
                  rw [← hy] at g1
                  rw [← hx] at g2
                  rw [← hz] at g3
                  rw [HT.out] at HNX
                  clear hx hy hz HT HR
                  have HBW : Hid (∀ q, Below w1.heap.size w1 (wr.drewN q)) := fun q => HW.out.trans (below_drew _ _ q)
                  cases bi
                  · by_cases c1 : x < y
                    · by_cases c2 : y < z
                      · have m1 : decide (x < y) = true := decide_eq_true c1
                        have m2 : decide (y < z) = true := decide_eq_true c2
                        rw [m1, m2] at HNX
                        clear HB HW
                        go_wp2_with fail
                        go_quiet (fail)
                        go_wp2
                        go_roundw
                        case rel => exact ⟨I + 1, true, by omega, by go_num, rfl, HNX.out.symm, HBW.out _⟩
                        case measure => simp [intOf]; omega
                      · have m1 : decide (x < y) = true := decide_eq_true c1
                        have m2 : decide (y < z) = false := decide_eq_false c2
                        rw [m1, m2] at HNX
                        clear HB HW
                        go_wp2_with fail
                        go_quiet (fail)
                        go_wp2
                        go_roundw
                        case rel => exact ⟨I + 1, false, by omega, by go_num, rfl, HNX.out.symm, HBW.out _⟩
                        case measure => simp [intOf]; omega
                    · have m1 : decide (x < y) = false := decide_eq_false c1
                      rw [m1, Bool.false_and] at HNX
                      clear HB HW
                      go_wp2_with fail
                      go_quiet (fail)
                      go_wp2
                      go_roundw
                      case rel => exact ⟨I + 1, false, by omega, by go_num, rfl, HNX.out.symm, HBW.out _⟩
                      case measure => simp [intOf]; omega
                  · rw [Bool.true_or] at HNX
                    clear HB HW
                    go_wp2_with fail
                    go_quiet (fail)
                    go_wp2
                    go_roundw
                    case rel => exact ⟨I + 1, true, by omega, by go_num, rfl, HNX.out.symm, HBW.out _⟩
                    case measure => simp [intOf]; omega
                · obtain rfl : I = J := by omega
                  have b4 : ¬ (I : Int) < (I : Int) := by omega
                  go_wp2
                  go_roundw
                  case rel => exact ⟨I + 1, bi, by omega, by go_num, rfl, HB, HW⟩
                  case measure => simp [intOf]; omega
            · obtain rfl : J = K := by omega
              have b2 : ¬ (J : Int) < (J : Int) := by omega
              go_wp2
              go_roundw
              case rel => exact ⟨J + 1, bj, by omega, by go_num, rfl, HB, HW⟩
              case measure => simp [intOf]; omega
        · obtain rfl : K = n := by omega
          have b1 : ¬ (K : Int) < (K : Int) := by omega
          have hov : ok = !bv := by rw [HOK.out, HB.out]
          cases bv
          · obtain rfl : ok = true := hov
            obtain ⟨hs18, hso⟩ := HST.out rfl
            have CR := Lib.hid (fun W => implStackRow_any T W (by unfold maxLen; omega))
            rw [hso] at CR
            clear HST HOK HB hs18 hso
            go_wp2_with fail
            refine (CR.out _).mono ?_
            rintro e w5 ⟨u, rfl, ou, b5⟩
            have B5 := Lib.hid (HW.out.trans (b5.mono HW.out.size))
            have OU := Lib.hid ou
            clear ou b5
            go_wp2_with fail
            refine (CEQ.out _ B5.out _ _ _ OU).mono ?_
            rintro e w6 ⟨rfl, hs⟩
            have B6 := Lib.hid (B5.out.trans (hs.below _))
            go_wp2
            go_ret
            exact ⟨rfl, B1.out.trans (B6.out.mono B1.out.size)⟩
          · obtain rfl : ok = false := hov
            clear HST HOK HB
            go_wp2
            go_ret
            exact ⟨rfl, B1.out.trans (HW.out.mono B1.out.size)⟩
end Go.Proofs.Ytooplolalbcmjaa
