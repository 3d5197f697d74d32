/-
  The contracts of the program's leastBeside and BesideCost, of numbers that can be read.
  The contracts of the program's leastFound and FindCost, of numbers that can be read.
-/
import Derived.Test.YtakpbnkncjddeaaZLP
import Derived.Deep.RegionHeld3
import Derived.Deep.QuietTactic
import Derived.BigQuiet
namespace Go.Proofs.Ytakpbnkncjddeaa
open Go.RowKit

set_option maxRecDepth 100000 in
set_option maxHeartbeats 3200000 in
theorem leastBeside_rd : ∀ (f : Nat) (L : List Nat) (a : Option Addr) (n cv : Nat) (w : World) (H : Nat), n ≤ f → L.length = n → n ≤ 7 → n ≤ cv → (∀ x ∈ L, x ≤ 20) → H ≤ w.heap.size → Hid (RdI w H a (ldI L)) →
    Calls Try.prog 44 #[.slice a n cv] w fun e w' => e = .returned (.int .i64 (bsC L : Int)) ∧ Below w.heap.size w w' := by
  intro f
  induction f with
  | zero =>
    intro L a n cv w H hf hn _ _ _ _ _
    obtain rfl : n = 0 := by omega
    have E := Lib.hid (bsC_small (w := L) (by omega))
    clear hn hf
    go_enter Try.func44, Try.ntmps44
    go_wp2
    go_ret
    exact ⟨by rw [E.out]; rfl, Below.refl _ _⟩
  | succ f ih =>
    intro L a n cv w H hf hn h7 hcv h20 hH hR
    by_cases h2 : n < 2
    · have E := Lib.hid (bsC_small (w := L) (by omega))
      clear hn hf ih
      have b0 : (n : Int) < 2 := by omega
      go_enter Try.func44, Try.ntmps44
      go_wp2
      go_ret
      exact ⟨by rw [E.out]; rfl, Below.refl _ _⟩
    · have b0 : ¬ (n : Int) < 2 := by omega
      obtain ⟨b, off, rfl, hbH, hx0⟩ := hR.out 0 (by rw [ldI_len]; omega)
      clear hx0
      have R1 : ∀ W (k : Nat), Below w.heap.size w W → Hid (RdI W H (some ⟨b, off, none⟩) (ldI (L.take k))) := fun W k hW => by
        have := (hR.out.below (hW.mono hH)).take k
        rw [ldI_take] at this
        exact this
      have R2 : ∀ W (k : Nat), Below w.heap.size w W → Hid (RdI W H (some ⟨b, off + k, none⟩) (ldI (L.drop k))) := fun W k hW => by
        have := rd_drop (hR.out.below (hW.mono hH)) k
        rw [ldI_drop] at this
        exact this
      have I1 : Hid (∀ W (k : Nat), Below w.heap.size w W → k < n → Calls Try.prog 44 #[.slice (some ⟨b, off, none⟩) k cv] W fun e w' => e = .returned (.int .i64 (bsC (L.take k) : Int)) ∧ Below W.heap.size W w') := fun W k hW hk =>
        ih (L.take k) _ k cv W H (by omega) (by rw [List.length_take]; omega) (by omega) (by omega) (fun x hx => h20 x (List.mem_of_mem_take hx)) (Nat.le_trans hH hW.size) (R1 W k hW)
      have I2 : Hid (∀ W (k m c : Nat), Below w.heap.size w W → 0 < k → k ≤ n → m = n - k → m ≤ c → Calls Try.prog 44 #[.slice (some ⟨b, off + k, none⟩) m c] W fun e w' => e = .returned (.int .i64 (bsC (L.drop k) : Int)) ∧ Below W.heap.size W w') := fun W k m c hW h0 hk hm hc =>
        ih (L.drop k) _ m c W H (by omega) (by rw [List.length_drop]; omega) (by omega) hc (fun x hx => h20 x (List.mem_of_mem_drop hx)) (Nat.le_trans hH hW.size) (R2 W k hW)
      have B1 : Hid (∀ k, bsC (L.take k) ≤ 980 ∧ bsC (L.drop k) ≤ 980) := fun k => ⟨bsP_le (by rw [List.length_take]; omega) (fun x hx => h20 x (List.mem_of_mem_take hx)), bsP_le (by rw [List.length_drop]; omega) (fun x hx => h20 x (List.mem_of_mem_drop hx))⟩
      have B2 : Hid (bsC L ≤ 980 ∧ L.sum ≤ 140) := ⟨bsP_le (by omega) h20, by
        have := sum_bd h20
        have h : 20 * L.length ≤ 140 := by omega
        omega⟩
      have MN := Lib.hid (bsR_min (L := L) (by omega))
      have CT : Hid (∀ W, Below w.heap.size w W → Calls Try.prog 41 #[.slice (some ⟨b, off, none⟩) n cv] W fun e w' => e = .returned (.int .i64 (L.sum : Int)) ∧ W = w') := fun W hW =>
        together_rd L _ n cv W (Lib.hid (hR.out.below (hW.mono hH))) hn (by omega) (Lib.hid fun x hx => by have := h20 x hx; omega)
      have HN := Lib.hid hn
      have S0 : Hid (w.ownsRow w.heap.size 3 1 (.slice none 0 0) 0 (iv (ldI (bsR L 0))) ∧ Below w.heap.size w w) := ⟨World.ownsRow_nil _ _ _ _, Below.refl _ _⟩
      have hw0 : Hid (∀ W, Below w.heap.size w W → w.heap.size ≤ W.heap.size) := fun W h => h.size
      obtain ⟨B, hB⟩ : ∃ B, B = w.heap.size := ⟨_, rfl⟩
      rw [← hB] at S0 hw0
      have TB : Hid (∀ W, Below B w W → Below w.heap.size w W) := fun W h => by rw [← hB]; exact h
      have HB := Lib.hid hB
      clear ih hn hB R1 R2 hR hH hbH h20 hf
      go_enter Try.func44, Try.ntmps44
      go_wp2
      go_loopw [3, 4] (fun v i wr => ∃ (k : Nat) (a1 : Option Addr) (c1 : Nat), k + 1 ≤ n ∧ i = .int .i64 ((k + 1 : Nat) : Int) ∧ v = .slice a1 k c1 ∧ Hid (wr.ownsRow B 3 1 (.slice a1 k c1) k (iv (ldI (bsR L k))) ∧ Below B w wr)) (fun _ i _ => n - (intOf i).toNat)
      case atStart => exact ⟨0, none, 0, by omega, rfl, rfl, S0⟩
      case round =>
        clear S0
        obtain ⟨k, a1, c1, hk, rfl, rfl, HS⟩ := hrel
        obtain ⟨OQ, BQ⟩ := HS.out
        by_cases hlt : k + 1 < n
        · obtain ⟨K, hK⟩ : ∃ K, K = k + 1 := ⟨_, rfl⟩
          obtain ⟨K2, hK2⟩ : ∃ K2, K2 = K := ⟨_, rfl⟩
          have e0 : ((k + 1 : Nat) : Int) = (K : Int) := by rw [hK]
          rw [e0]
          have J1 : Hid (∀ W, Below B w W → Calls Try.prog 44 #[.slice (some ⟨b, off, none⟩) K cv] W fun e w' => e = .returned (.int .i64 (bsC (L.take K) : Int)) ∧ Below W.heap.size W w') := fun W hW => I1.out W K (TB.out W hW) (by omega)
          obtain ⟨M, hM⟩ : ∃ M, M = n - K2 := ⟨_, rfl⟩
          obtain ⟨ad, had⟩ : ∃ ad, ad = (if cv = K2 then some (⟨b, off, none⟩ : Addr) else some ⟨b, off + K2, none⟩) := ⟨_, rfl⟩
          have J2 : Hid (∀ W, Below B w W → Calls Try.prog 44 #[.slice ad M (cv - K2)] W fun e w' => e = .returned (.int .i64 (bsC (L.drop K2) : Int)) ∧ Below W.heap.size W w') := fun W hW => by
            rw [had]
            split
            · rename_i hc
              omega
            · exact I2.out W K2 M _ (TB.out W hW) (by omega) (by omega) hM (by omega)
          have X1 := (B1.out K).1
          have X2 := (B1.out K2).2
          have QE : Hid (bsR L (k + 1) = bsR L k ++ [bsC (L.take K) + bsC (L.drop K2)]) := by show _ = _; rw [bsR_more, hK2, hK]; rfl
          obtain ⟨x, hx⟩ : ∃ x, x = bsC (L.take K) := ⟨_, rfl⟩
          obtain ⟨y, hy⟩ : ∃ y, y = bsC (L.drop K2) := ⟨_, rfl⟩
          rw [← hx] at X1 J1 QE
          rw [← hy] at X2 J2 QE
          have e1 : IntKind.i64.wrap ((x : Int) + (y : Int)) = ((x + y : Nat) : Int) := by rw [IntKind.wrap_i64]; omega
          obtain ⟨z, hz⟩ : ∃ z, z = x + y := ⟨_, rfl⟩
          rw [← hz] at e1 QE
          have e2 : IntKind.i64.wrap ((K : Int) + 1) = (K : Int) + 1 := by rw [IntKind.wrap_i64]; omega
          have b1 : (K : Int) < (n : Int) := by omega
          have b2 : (K : Int) ≤ (cv : Int) := by omega
          have b3 : (K : Int) ≤ (n : Int) := by omega
          have b4 : K ≤ cv := by omega
          have b5 : K ≤ n := by omega
          have b6 : (0 : Int) ≤ (K : Int) := by omega
          have MM : n - K2 = M := hM.symm
          have AD : (if cv = K2 then some (⟨b, off, none⟩ : Addr) else some ⟨b, off + K2, none⟩) = ad := had.symm
          have HK : Hid (k + 1 + 1 ≤ n ∧ K = k + 1 ∧ (K : Int) + 1 = ((k + 1 + 1 : Nat) : Int)) := ⟨by omega, hK, by omega⟩
          have HO : Hid (∀ W, Below B w W → B ≤ W.heap.size) := hw0
          have k9 : k ≤ 1000 := by omega
          have E2 : K2 = K := hK2
          subst E2
          clear hx hy hz hK hM had hlt hk e0 HS 
          have OQ := Lib.hid OQ
          have BQ := Lib.hid BQ
          have b0w : Below B w wr := BQ.out
          go_wp2_with fail
          go_region_held3 (fun w' => Below B w w')
            (first
              | assumption
              | exact Below.drew (by assumption)
              | exact Below.alloc (by assumption) (HO.out _ (by assumption)) _)
            (first
              | ((try go_simp); go_at_call_of 44 M; refine (J2.out _ (by assumption)).mono ?_
                 rintro e w2 ⟨rfl, hb2⟩
                 have OQ := Lib.hid (own_of_blocks OQ.out (fun q hq => hb2.block q (OQ.out.lt q hq).2))
                 have hB2 := Below.trans (by assumption) (hb2.mono (HO.out _ (by assumption))))
              | ((try go_simp); go_at_call 44; refine (J1.out _ (by assumption)).mono ?_
                 rintro e w3 ⟨rfl, hb3⟩
                 have OQ := Lib.hid (own_of_blocks OQ.out (fun q hq => hb3.block q (OQ.out.lt q hq).2))
                 have hB3 := Below.trans (by assumption) (hb3.mono (HO.out _ (by assumption))))
              | (refine step_app_rd rfl (.tmp 14) (.tmp 24) rfl B _ k _ rfl (OQ.out.alloc _) (some ⟨_, 0, none⟩) 1 1 rfl (l := [(z : Int)]) rfl (lit_rdP _ _) k9 (by omega) (HO.out _ (by assumption)) ?_
                 intro av nv c4 w4 hv4 hg4
                 obtain ⟨a9, c9, e9⟩ := own_formN hv4
                 cases e9
                 have hB4 : Below B w w4 := Below.grown (by assumption) hg4 (HO.out _ (by assumption)) (fun q hq => (OQ.out.lt q hq).1))
              | fail "no arm")
          all_goals
            go_simp
            go_wp2
            go_roundw
            case rel => exact ⟨k + 1, av, c4, HK.out.1, congrArg (Value.int .i64) HK.out.2.2, rfl, by have h5 := hv4; rw [← iv_app, show ldI (bsR L k) ++ [(z : Int)] = ldI (bsR L (k + 1)) from by rw [QE.out, ldI_snoc]] at h5; exact h5, hB4⟩
            case measure => simp [intOf]; have := HK.out.2.1; have := HK.out.2.2; omega
        · have b1 : ¬ ((k + 1 : Nat) : Int) < (n : Int) := by omega
          have MK : Lib.minOf (ldI (bsR L k)) + (L.sum : Int) = (bsC L : Int) := by
            have := MN.out
            rwa [show L.length - 1 = k by have := HN.out; omega] at this
          have CM := Lib.hid (minRow_p (bsR L k) a1 k c1 B wr OQ (by omega) (by omega))
          obtain ⟨m, hm⟩ : ∃ m, m = Lib.minOf (ldI (bsR L k)) := ⟨_, rfl⟩
          rw [← hm] at CM MK
          have B9 := B2.out
          have e1 : IntKind.i64.wrap (m + (L.sum : Int)) = (bsC L : Int) := by rw [IntKind.wrap_i64]; omega
          have BQ := Lib.hid BQ
          clear hm MK HS OQ hlt B9
          go_wp2_with fail
          refine CM.out.mono ?_
          rintro e w2 ⟨rfl, rfl⟩
          go_wp2_with fail
          refine (CT.out _ (TB.out _ BQ.out)).mono ?_
          rintro e w2 ⟨rfl, rfl⟩
          go_wp2
          go_ret
          exact ⟨rfl, TB.out _ BQ.out⟩

set_option maxHeartbeats 800000 in
theorem implBesideCost_any (l : List Int) (a : Option Addr) (cv : Nat) (w : World) {H : Nat} (hR : Hid (RdI w H a l)) (hH : H ≤ w.heap.size) (hl : l.length ≤ 1048576) (hcv : l.length ≤ cv) :
    Calls Try.prog 20 #[.slice a l.length cv] w fun e w' => e = .returned (.int .i64 (bcI l)) ∧ Below w.heap.size w w' := by
  have CV := Lib.hid (implValidLoads_rd l a cv w hR hl)
  cases hw : loadB l
  · rw [hw] at CV
    have E := Lib.hid (show bcI l = -1 by rw [bcI, hw]; rfl)
    clear hw
    go_enter Try.func20, Try.ntmps20
    go_wp2_with fail
    refine CV.out.mono ?_
    rintro e w1 ⟨rfl, rfl⟩
    go_wp2
    go_ret
    exact ⟨by rw [E.out]; rfl, Below.refl _ _⟩
  · rw [hw] at CV
    obtain ⟨L, rfl, eL, h7, h20⟩ := loadB_nats hw
    have E := Lib.hid (show bcI (ldI L) = (bsC L : Int) by rw [bcI, hw, natsL_ldI]; rfl)
    have CB := Lib.hid (leastBeside_rd L.length L a (ldI L).length cv w H (by rw [ldI_len]; exact Nat.le_refl _) (ldI_len L).symm (by rw [ldI_len]; exact h7) hcv h20 hH hR)
    clear hw eL
    go_enter Try.func20, Try.ntmps20
    go_wp2_with fail
    refine CV.out.mono ?_
    rintro e w1 ⟨rfl, rfl⟩
    go_wp2_with fail
    refine CB.out.mono ?_
    rintro e w2 ⟨rfl, hb2⟩
    have HB2 := Lib.hid hb2
    clear hb2
    go_wp2
    go_ret
    exact ⟨by rw [E.out]; rfl, HB2.out⟩

end Go.Proofs.Ytakpbnkncjddeaa

namespace Go.Proofs.Ytakpbnkncjddeaa
open Go.RowKit

set_option maxRecDepth 100000 in
set_option maxHeartbeats 3200000 in
theorem leastFound_rd : ∀ (f : Nat) (L : List Nat) (a : Option Addr) (n cv : Nat) (w : World) (H : Nat), n ≤ f → L.length = n → n ≤ 7 → n ≤ cv → (∀ x ∈ L, x ≤ 20) → H ≤ w.heap.size → Hid (RdI w H a (ldI L)) →
    Calls Try.prog 47 #[.slice a n cv] w fun e w' => e = .returned (.int .i64 (fcC L : Int)) ∧ Below w.heap.size w w' := by
  intro f
  induction f with
  | zero =>
    intro L a n cv w H hf hn _ _ _ _ _
    obtain rfl : n = 0 := by omega
    have E := Lib.hid (fcC_none (w := L) (by omega))
    clear hn hf
    go_enter Try.func47, Try.ntmps47
    go_wp2
    go_ret
    exact ⟨by rw [E.out]; rfl, Below.refl _ _⟩
  | succ f ih =>
    intro L a n cv w H hf hn h7 hcv h20 hH hR
    by_cases h2 : n = 0
    · have E := Lib.hid (fcC_none (w := L) (by omega))
      clear hn hf ih
      subst h2
      go_enter Try.func47, Try.ntmps47
      go_wp2
      go_ret
      exact ⟨by rw [E.out]; rfl, Below.refl _ _⟩
    · have b0 : ((n : Int) == 0) = false := beq_false_of_ne (by omega)
      obtain ⟨b, off, rfl, hbH, hx0⟩ := hR.out 0 (by rw [ldI_len]; omega)
      clear hx0
      have R1 : ∀ W (k : Nat), Below w.heap.size w W → Hid (RdI W H (some ⟨b, off, none⟩) (ldI (L.take k))) := fun W k hW => by
        have := (hR.out.below (hW.mono hH)).take k
        rw [ldI_take] at this
        exact this
      have R2 : ∀ W (k : Nat), Below w.heap.size w W → Hid (RdI W H (some ⟨b, off + k, none⟩) (ldI (L.drop k))) := fun W k hW => by
        have := rd_drop (hR.out.below (hW.mono hH)) k
        rw [ldI_drop] at this
        exact this
      have I1 : Hid (∀ W (k : Nat), Below w.heap.size w W → k < n → Calls Try.prog 47 #[.slice (some ⟨b, off, none⟩) k cv] W fun e w' => e = .returned (.int .i64 (fcC (L.take k) : Int)) ∧ Below W.heap.size W w') := fun W k hW hk =>
        ih (L.take k) _ k cv W H (by omega) (by rw [List.length_take]; omega) (by omega) (by omega) (fun x hx => h20 x (List.mem_of_mem_take hx)) (Nat.le_trans hH hW.size) (R1 W k hW)
      have I2 : Hid (∀ W (k m c : Nat), Below w.heap.size w W → 0 < k → k ≤ n → m = n - k → m ≤ c → Calls Try.prog 47 #[.slice (some ⟨b, off + k, none⟩) m c] W fun e w' => e = .returned (.int .i64 (fcC (L.drop k) : Int)) ∧ Below W.heap.size W w') := fun W k m c hW h0 hk hm hc =>
        ih (L.drop k) _ m c W H (by omega) (by rw [List.length_drop]; omega) (by omega) hc (fun x hx => h20 x (List.mem_of_mem_drop hx)) (Nat.le_trans hH hW.size) (R2 W k hW)
      have Z0 : Hid (∀ W (a0 : Option Addr) (c : Nat), Below w.heap.size w W → Calls Try.prog 47 #[.slice a0 0 c] W fun e w' => e = .returned (.int .i64 (fcC [] : Int)) ∧ Below W.heap.size W w') := fun W a0 c hW =>
        ih [] a0 0 c W H (by omega) rfl (by omega) (by omega) (fun x hx => by cases hx) (Nat.le_trans hH hW.size) (Lib.hid fun j hj => by simp [ldI] at hj)
      have B1 : Hid (∀ k, fcC (L.take k) ≤ 980 ∧ fcC (L.drop k) ≤ 980) := fun k => ⟨fcP_le (by rw [List.length_take]; omega) (fun x hx => h20 x (List.mem_of_mem_take hx)), fcP_le (by rw [List.length_drop]; omega) (fun x hx => h20 x (List.mem_of_mem_drop hx))⟩
      have B2 : Hid (fcC L ≤ 980 ∧ L.sum ≤ 140) := ⟨fcP_le (by omega) h20, by
        have := sum_bd h20
        have h : 20 * L.length ≤ 140 := by omega
        omega⟩
      have MN := Lib.hid (fcR_min (L := L) (fun e => by rw [e] at hn; simp at hn; omega))
      have CT : Hid (∀ W, Below w.heap.size w W → Calls Try.prog 41 #[.slice (some ⟨b, off, none⟩) n cv] W fun e w' => e = .returned (.int .i64 (L.sum : Int)) ∧ W = w') := fun W hW =>
        together_rd L _ n cv W (Lib.hid (hR.out.below (hW.mono hH))) hn (by omega) (Lib.hid fun x hx => by have := h20 x hx; omega)
      have HN := Lib.hid hn
      have S0 : Hid (w.ownsRow w.heap.size 3 1 (.slice none 0 0) 0 (iv (ldI (fcR L 0))) ∧ Below w.heap.size w w) := ⟨World.ownsRow_nil _ _ _ _, Below.refl _ _⟩
      have hw0 : Hid (∀ W, Below w.heap.size w W → w.heap.size ≤ W.heap.size) := fun W h => h.size
      obtain ⟨B, hB⟩ : ∃ B, B = w.heap.size := ⟨_, rfl⟩
      rw [← hB] at S0 hw0
      have TB : Hid (∀ W, Below B w W → Below w.heap.size w W) := fun W h => by rw [← hB]; exact h
      have HB := Lib.hid hB
      clear ih hn hB R1 R2 hR hH hbH h20 hf
      go_enter Try.func47, Try.ntmps47
      go_wp2
      go_loopw [3, 4, 10] (fun v _ i wr => ∃ (k : Nat) (a1 : Option Addr) (c1 : Nat), k + 0 ≤ n ∧ i = .int .i64 ((k : Nat) : Int) ∧ v = .slice a1 k c1 ∧ Hid (wr.ownsRow B 3 1 (.slice a1 k c1) k (iv (ldI (fcR L k))) ∧ Below B w wr)) (fun _ _ i _ => n - (intOf i).toNat)
      case atStart => exact ⟨0, none, 0, by omega, rfl, rfl, S0⟩
      case round =>
        clear S0
        obtain ⟨k, a1, c1, hk, rfl, rfl, HS⟩ := hrel
        obtain ⟨OQ, BQ⟩ := HS.out
        by_cases hlt : k < n
        · obtain ⟨K, hK⟩ : ∃ K, K = k := ⟨_, rfl⟩
          obtain ⟨K2, hK2⟩ : ∃ K2, K2 = K + 1 := ⟨_, rfl⟩
          have e0 : ((k : Nat) : Int) = (K : Int) := by rw [hK]
          rw [e0]
          have J1 : Hid (∀ W, Below B w W → Calls Try.prog 47 #[.slice (some ⟨b, off, none⟩) K cv] W fun e w' => e = .returned (.int .i64 (fcC (L.take K) : Int)) ∧ Below W.heap.size W w') := fun W hW => I1.out W K (TB.out W hW) (by omega)
          obtain ⟨M, hM⟩ : ∃ M, M = n - K2 := ⟨_, rfl⟩
          obtain ⟨ad, had⟩ : ∃ ad, ad = (if cv = K2 then some (⟨b, off, none⟩ : Addr) else some ⟨b, off + K2, none⟩) := ⟨_, rfl⟩
          have J2 : Hid (∀ W, Below B w W → Calls Try.prog 47 #[.slice ad M (cv - K2)] W fun e w' => e = .returned (.int .i64 (fcC (L.drop K2) : Int)) ∧ Below W.heap.size W w') := fun W hW => by
            rw [had]
            split
            · rename_i hc
              have h0 : M = 0 := by omega
              have hd : L.drop K2 = [] := List.drop_eq_nil_of_le (by have := HN.out; omega)
              rw [hd, h0]
              exact Z0.out W _ _ (TB.out W hW)
            · exact I2.out W K2 M _ (TB.out W hW) (by omega) (by omega) hM (by omega)
          have X1 := (B1.out K).1
          have X2 := (B1.out K2).2
          have QE : Hid (fcR L (k + 1) = fcR L k ++ [fcC (L.take K) + fcC (L.drop K2)]) := by show _ = _; rw [fcR_more, hK2, hK]; rfl
          obtain ⟨x, hx⟩ : ∃ x, x = fcC (L.take K) := ⟨_, rfl⟩
          obtain ⟨y, hy⟩ : ∃ y, y = fcC (L.drop K2) := ⟨_, rfl⟩
          rw [← hx] at X1 J1 QE
          rw [← hy] at X2 J2 QE
          have e1 : IntKind.i64.wrap ((x : Int) + (y : Int)) = ((x + y : Nat) : Int) := by rw [IntKind.wrap_i64]; omega
          obtain ⟨z, hz⟩ : ∃ z, z = x + y := ⟨_, rfl⟩
          rw [← hz] at e1 QE
          have e2 : IntKind.i64.wrap ((K : Int) + 1) = (K : Int) + 1 := by rw [IntKind.wrap_i64]; omega
          have b1 : (K : Int) < (n : Int) := by omega
          have b2 : (K : Int) ≤ (cv : Int) := by omega
          have b3 : (K : Int) ≤ (n : Int) := by omega
          have b4 : K ≤ cv := by omega
          have b5 : K ≤ n := by omega
          have b6 : (0 : Int) ≤ (K : Int) := by omega
          have b7 : (K2 : Int) ≤ (n : Int) := by omega
          have b8 : K2 ≤ n := by omega
          have b9 : (0 : Int) ≤ (K2 : Int) := by omega
          have e3 : IntKind.i64.wrap ((K : Int) + 1) = (K2 : Int) := by rw [IntKind.wrap_i64]; omega
          clear e2
          have MM : n - K2 = M := hM.symm
          have AD : (if cv = K2 then some (⟨b, off, none⟩ : Addr) else some ⟨b, off + K2, none⟩) = ad := had.symm
          have HK : Hid (k + 1 + 0 ≤ n ∧ K = k ∧ (K2 : Int) = ((k + 1 : Nat) : Int)) := ⟨by omega, hK, by omega⟩
          have HO : Hid (∀ W, Below B w W → B ≤ W.heap.size) := hw0
          have k9 : k ≤ 1000 := by omega
          clear hx hy hz hK hM had hlt hk e0 HS hK2
          have OQ := Lib.hid OQ
          have BQ := Lib.hid BQ
          have b0w : Below B w wr := BQ.out
          go_wp2_with fail
          go_region_held3 (fun w' => Below B w w')
            (first
              | assumption
              | exact Below.drew (by assumption)
              | exact Below.alloc (by assumption) (HO.out _ (by assumption)) _)
            (first
              | ((try go_simp); go_at_call_of 47 M; refine (J2.out _ (by assumption)).mono ?_
                 rintro e w2 ⟨rfl, hb2⟩
                 have OQ := Lib.hid (own_of_blocks OQ.out (fun q hq => hb2.block q (OQ.out.lt q hq).2))
                 have hB2 := Below.trans (by assumption) (hb2.mono (HO.out _ (by assumption))))
              | ((try go_simp); go_at_call 47; refine (J1.out _ (by assumption)).mono ?_
                 rintro e w3 ⟨rfl, hb3⟩
                 have OQ := Lib.hid (own_of_blocks OQ.out (fun q hq => hb3.block q (OQ.out.lt q hq).2))
                 have hB3 := Below.trans (by assumption) (hb3.mono (HO.out _ (by assumption))))
              | (refine step_app_rd rfl (.tmp 13) (.tmp 24) rfl B _ k _ rfl (OQ.out.alloc _) (some ⟨_, 0, none⟩) 1 1 rfl (l := [(z : Int)]) rfl (lit_rdP _ _) k9 (by omega) (HO.out _ (by assumption)) ?_
                 intro av nv c4 w4 hv4 hg4
                 obtain ⟨a9, c9, e9⟩ := own_formN hv4
                 cases e9
                 have hB4 : Below B w w4 := Below.grown (by assumption) hg4 (HO.out _ (by assumption)) (fun q hq => (OQ.out.lt q hq).1))
              | fail "no arm")
          all_goals
            go_simp
            go_wp2
            go_roundw
            case rel => exact ⟨k + 1, av, c4, HK.out.1, congrArg (Value.int .i64) HK.out.2.2, rfl, by have h5 := hv4; rw [← iv_app, show ldI (fcR L k) ++ [(z : Int)] = ldI (fcR L (k + 1)) from by rw [QE.out, ldI_snoc]] at h5; exact h5, hB4⟩
            case measure => simp [intOf]; have := HK.out.2.1; have := HK.out.2.2; omega
        · have b1 : ¬ ((k : Nat) : Int) < (n : Int) := by omega
          have MK : Lib.minOf (ldI (fcR L k)) + (L.sum : Int) = (fcC L : Int) := by
            have := MN.out
            rwa [show L.length = k by have := HN.out; omega] at this
          have CM := Lib.hid (minRow_p (fcR L k) a1 k c1 B wr OQ (by omega) (by omega))
          obtain ⟨m, hm⟩ : ∃ m, m = Lib.minOf (ldI (fcR L k)) := ⟨_, rfl⟩
          rw [← hm] at CM MK
          have B9 := B2.out
          have e1 : IntKind.i64.wrap (m + (L.sum : Int)) = (fcC L : Int) := by rw [IntKind.wrap_i64]; omega
          have BQ := Lib.hid BQ
          clear hm MK HS OQ hlt B9
          go_wp2_with fail
          refine CM.out.mono ?_
          rintro e w2 ⟨rfl, rfl⟩
          go_wp2_with fail
          refine (CT.out _ (TB.out _ BQ.out)).mono ?_
          rintro e w2 ⟨rfl, rfl⟩
          go_wp2
          go_ret
          exact ⟨rfl, TB.out _ BQ.out⟩

set_option maxHeartbeats 800000 in
theorem implFindCost_any (l : List Int) (a : Option Addr) (cv : Nat) (w : World) {H : Nat} (hR : Hid (RdI w H a l)) (hH : H ≤ w.heap.size) (hl : l.length ≤ 1048576) (hcv : l.length ≤ cv) :
    Calls Try.prog 26 #[.slice a l.length cv] w fun e w' => e = .returned (.int .i64 (fcI l)) ∧ Below w.heap.size w w' := by
  have CV := Lib.hid (implValidLoads_rd l a cv w hR hl)
  cases hw : loadB l
  · rw [hw] at CV
    have E := Lib.hid (show fcI l = -1 by rw [fcI, hw]; rfl)
    clear hw
    go_enter Try.func26, Try.ntmps26
    go_wp2_with fail
    refine CV.out.mono ?_
    rintro e w1 ⟨rfl, rfl⟩
    go_wp2
    go_ret
    exact ⟨by rw [E.out]; rfl, Below.refl _ _⟩
  · rw [hw] at CV
    obtain ⟨L, rfl, eL, h7, h20⟩ := loadB_nats hw
    have E := Lib.hid (show fcI (ldI L) = (fcC L : Int) by rw [fcI, hw, natsL_ldI]; rfl)
    have CB := Lib.hid (leastFound_rd L.length L a (ldI L).length cv w H (by rw [ldI_len]; exact Nat.le_refl _) (ldI_len L).symm (by rw [ldI_len]; exact h7) hcv h20 hH hR)
    clear hw eL
    go_enter Try.func26, Try.ntmps26
    go_wp2_with fail
    refine CV.out.mono ?_
    rintro e w1 ⟨rfl, rfl⟩
    go_wp2_with fail
    refine CB.out.mono ?_
    rintro e w2 ⟨rfl, hb2⟩
    have HB2 := Lib.hid hb2
    clear hb2
    go_wp2
    go_ret
    exact ⟨by rw [E.out]; rfl, HB2.out⟩

end Go.Proofs.Ytakpbnkncjddeaa
