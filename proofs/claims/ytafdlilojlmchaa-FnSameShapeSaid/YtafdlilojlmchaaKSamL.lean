/-
  The walk of the law that trees of the same shape have the same numbers, with the functions and the draw as premises.
-/
import Derived.Test.YtafdlilojlmchaaKCodL
import Derived.Test.YtafdlilojlmchaaZSA
import Derived.Test.YtafdlilojlmchaaZW
namespace Go.Proofs.Ytafdlilojlmchaa
open Go.RowKit

/-- a function of two trees, whether they have one shape -/
def SameFn (f : FuncId) : Prop :=
  ∀ (n : Int) (ra rb : List (List Int)) (va vb : Value) (RA RB : List Value) (w : World) (B0 H0 B1 H1 : Nat), Hid (Grid w B0 H0 va RA ra) → H0 ≤ w.heap.size → Hid (Grid w B1 H1 vb RB rb) → H1 ≤ w.heap.size → ra.length ≤ 1048576 → (∀ r ∈ ra, r.length ≤ 1048576) → rb.length ≤ 1048576 → (∀ r ∈ rb, r.length ≤ 1048576) → (Lit.int .i64 n).wf = true →
    Calls Try.prog f #[.int .i64 n, va, vb] w fun e w' => e = .returned (.bool (sameOut n ra rb)) ∧ Below w.heap.size w w'
/-- a function of a tree, whether it is one -/
def IsFn (f : FuncId) : Prop :=
  ∀ (n : Int) (rows : List (List Int)) (v : Value) (RV : List Value) (w : World) (B0 H0 : Nat), Hid (Grid w B0 H0 v RV rows) → H0 ≤ w.heap.size → rows.length ≤ 1048576 → (∀ r ∈ rows, r.length ≤ 1048576) → (Lit.int .i64 n).wf = true →
    Calls Try.prog f #[.int .i64 n, v] w fun e w' => e = .returned (.bool (treeB n rows)) ∧ Below w.heap.size w w'
/-- a function that puts numbers in order -/
def AscFn (f : FuncId) : Prop :=
  ∀ (L : List Int) (v : Value) (w : World) (B0 H0 : Nat), Hid (Own w B0 H0 3 v (iv L)) → H0 ≤ w.heap.size → L.length ≤ 1048576 →
    Calls Try.prog f #[v] w fun e w' => ∃ v', e = .returned v' ∧ Own w' w.heap.size w'.heap.size 3 v' (iv (ascA L)) ∧ Below w.heap.size w w'
/-- two drawn trees, or what is none -/
def TwoDrawn (B : Nat) (w : World) (e : Ending) (w' : World) : Prop :=
  ∃ (n : Int) (ra rb : List (List Int)) (va vb : Value) (RA RB : List Value), e = .returned (.tuple #[.int .i64 n, va, vb]) ∧ Grid w' B w'.heap.size va RA ra ∧ Grid w' B w'.heap.size vb RB rb ∧ (0 ≤ n ∧ n ≤ 8) ∧ (ra.length ≤ 64 ∧ ∀ r ∈ ra, r.length = 2) ∧ (rb.length ≤ 64 ∧ ∀ r ∈ rb, r.length = 2) ∧ Below B w w'
theorem same_turn2 (n : Int) (ra rb : List (List Int)) : sameOut n rb ra = sameOut n ra rb := by
  unfold sameOut
  rw [Bool.and_comm (treeB n rb)]
  generalize freeT n.toNat (edgesR ra) = x
  generalize freeT n.toNat (edgesR rb) = y
  generalize (treeB n ra && treeB n rb) = b
  have e : decide (y = x) = decide (x = y) := by rw [decide_eq_decide]; exact ⟨Eq.symm, Eq.symm⟩
  rw [e]
theorem ascS_pair : ∀ {L : List Int}, AscS L → L.Pairwise fun a b => a ≤ b
  | [], _ => List.Pairwise.nil
  | _ :: _, h => List.Pairwise.cons h.1 (ascS_pair h.2)
theorem ascA_same {L M : List Int} (h : L.Perm M) : ascA L = ascA M :=
  List.Perm.eq_of_pairwise (le := fun a b : Int => a ≤ b) (fun _ _ _ _ h1 h2 => Int.le_antisymm h1 h2) (ascS_pair (ascA_sorted L)) (ascS_pair (ascA_sorted M)) ((ascA_perm L).trans (h.trans (ascA_perm M).symm))
theorem same_facts {n : Int} {ra rb : List (List Int)} (h : sameOut n ra rb = true) : mapsOut n rb = mapsOut n ra ∧ treeV waysN n rb = treeV waysN n ra ∧ ascA (degOut n rb) = ascA (degOut n ra) := by
  unfold sameOut at h
  simp only [Bool.and_eq_true, decide_eq_true_eq] at h
  obtain ⟨⟨ha, hb⟩, hf⟩ := h
  obtain ⟨_, ta⟩ := rowsE_tree ha
  obtain ⟨_, tb⟩ := rowsE_tree hb
  refine ⟨?_, ?_, ?_⟩
  · rw [mapsOut, mapsOut, if_pos ha, if_pos hb, same_maps ta.v tb.v ta.h7 hf]
  · rw [treeV, treeV, if_pos ha, if_pos hb, same_ways ta.v tb.v ta.h7 hf]
  · rw [degOut, degOut, if_pos ha, if_pos hb]
    exact ascA_same ((same_degs ta.v tb.v ta.h7 hf).symm.map _)
theorem deg_len (n : Int) (rows : List (List Int)) (h : n ≤ 8) : (degOut n rows).length ≤ 8 := by
  unfold degOut
  split
  · rw [List.length_map, List.length_map, List.length_range]; omega
  · exact Nat.zero_le _
set_option maxHeartbeats 3200000 in
set_option maxRecDepth 100000 in
theorem fnSameShape_law (DS : ∀ (a : Option Addr) (len cap : Nat) (zs : List Int) (w : World), Hid (IsRow .u8 w a len cap zs) → len ≤ 1048576 → Calls Try.prog 6 #[.slice a len cap] w (TwoDrawn w.heap.size w)) (PSI : SameFn 7) (PSS : SameFn 8) (PV : IsFn 9) (PM : TreeFn 10 mapsOut) (PW : TreeFn 11 (treeV waysN)) (PD : TreesFn 14 degOut) (PA : AscFn 13) (a : Option Addr) (len cap : Nat) (zs : List Int) (w : World) (hr0 : IsRow .u8 w a len cap zs) :
    Calls Try.prog 3 #[.slice a len cap] w fun e w' => e = .returned (.bool true) ∧ Below w.heap.size w w' := by
  have hr := Lib.hid hr0
  clear hr0
  by_cases hbig : (1048576 : Int) < (len : Int)
  · go_enter Try.func3, Try.ntmps3
    go_wp2
    go_ret
    exact ⟨rfl, Below.refl _ _⟩
  · go_enter Try.func3, Try.ntmps3
    go_wp2_with fail
    refine (DS a len cap zs w hr (by omega)).mono ?_
    rintro e w1 ⟨n, ra, rb, va, vb, RA, RB, rfl, g1, k1, hn, ⟨hla, h2a⟩, ⟨hlb, h2b⟩, b1⟩
    have hwf : (Lit.int .i64 n).wf = true := wf_smallC n (by omega)
    have A1 := Lib.hid g1
    have D1 := Lib.hid k1
    have B1 := Lib.hid b1
    have S0 : Hid (w.heap.size ≤ w1.heap.size) := b1.size
    have S1 : Hid (w1.heap.size ≤ w1.heap.size) := Nat.le_refl _
    have hra : ra.length ≤ 1048576 := by omega
    have hrb : rb.length ≤ 1048576 := by omega
    have hrsa : ∀ r ∈ ra, r.length ≤ 1048576 := fun r h => by rw [h2a r h]; decide
    have hrsb : ∀ r ∈ rb, r.length ≤ 1048576 := fun r h => by rw [h2b r h]; decide
    have CI := Lib.hid (fun (va vb : Value) (RA RB : List Value) (w : World) (B0 H0 B1 H1 : Nat) (hG : Hid (Grid w B0 H0 va RA ra)) hH (hK : Hid (Grid w B1 H1 vb RB rb)) hH1 => PSI n ra rb va vb RA RB w B0 H0 B1 H1 hG hH hK hH1 hra hrsa hrb hrsb hwf)
    have CJ := Lib.hid (fun (va vb : Value) (RA RB : List Value) (w : World) (B0 H0 B1 H1 : Nat) (hG : Hid (Grid w B0 H0 va RA ra)) hH (hK : Hid (Grid w B1 H1 vb RB rb)) hH1 => PSI n rb ra vb va RB RA w B1 H1 B0 H0 hK hH1 hG hH hrb hrsb hra hrsa hwf)
    have CS := Lib.hid (fun (va vb : Value) (RA RB : List Value) (w : World) (B0 H0 B1 H1 : Nat) (hG : Hid (Grid w B0 H0 va RA ra)) hH (hK : Hid (Grid w B1 H1 vb RB rb)) hH1 => PSS n ra rb va vb RA RB w B0 H0 B1 H1 hG hH hK hH1 hra hrsa hrb hrsb hwf)
    have VA := Lib.hid (fun (v : Value) (RV : List Value) (w : World) (B0 H0 : Nat) (hG : Hid (Grid w B0 H0 v RV ra)) hH => PV n ra v RV w B0 H0 hG hH hra hrsa hwf)
    have VB := Lib.hid (fun (v : Value) (RV : List Value) (w : World) (B0 H0 : Nat) (hG : Hid (Grid w B0 H0 v RV rb)) hH => PV n rb v RV w B0 H0 hG hH hrb hrsb hwf)
    have MA := PM.at_ hra hrsa hwf
    have MB := PM.at_ hrb hrsb hwf
    have WA := PW.at_ hra hrsa hwf
    have WB := PW.at_ hrb hrsb hwf
    have DA := Lib.hid (fun (v : Value) (RV : List Value) (w : World) (B0 H0 : Nat) (hG : Hid (Grid w B0 H0 v RV ra)) hH => PD n ra v RV w B0 H0 hG hH hra hrsa hwf)
    have DB := Lib.hid (fun (v : Value) (RV : List Value) (w : World) (B0 H0 : Nat) (hG : Hid (Grid w B0 H0 v RV rb)) hH => PD n rb v RV w B0 H0 hG hH hrb hrsb hwf)
    have QA := Lib.hid (fun (v : Value) (w : World) (B0 H0 : Nat) (hv : Hid (Own w B0 H0 3 v (iv (degOut n ra)))) hH => PA (degOut n ra) v w B0 H0 hv hH (by have := deg_len n ra hn.2; omega))
    have QB := Lib.hid (fun (v : Value) (w : World) (B0 H0 : Nat) (hv : Hid (Own w B0 H0 3 v (iv (degOut n rb)))) hH => PA (degOut n rb) v w B0 H0 hv hH (by have := deg_len n rb hn.2; omega))
    have HL : Hid ((ascA (degOut n ra)).length ≤ 8) := by show _ ≤ _; rw [(ascA_perm _).length_eq]; exact deg_len n ra hn.2
    simp only [same_turn2 n ra rb] at CJ
    have SF := Lib.hid (same_facts (n := n) (ra := ra) (rb := rb))
    have ST : Hid (sameOut n ra rb = true → treeB n ra = true ∧ treeB n rb = true) := fun h => by
      unfold sameOut at h
      simp only [Bool.and_eq_true] at h
      exact h.1
    obtain ⟨t, ht⟩ : ∃ t, t = sameOut n ra rb := ⟨_, rfl⟩
    obtain ⟨x, hx⟩ : ∃ x, x = treeB n ra := ⟨_, rfl⟩
    obtain ⟨y, hy⟩ : ∃ y, y = treeB n rb := ⟨_, rfl⟩
    simp only [← ht] at CI CJ CS
    simp only [← hx] at VA
    simp only [← hy] at VB
    rw [← ht] at SF ST
    rw [← hx, ← hy] at ST
    obtain ⟨av, cv, rfl, _, _, _, _⟩ := g1.1.slice
    obtain ⟨aw, cw, rfl, _, _, _, _⟩ := k1.1.slice
    obtain ⟨m, hm⟩ : ∃ m, m = RA.length := ⟨_, rfl⟩
    obtain ⟨q, hq⟩ : ∃ q, q = RB.length := ⟨_, rfl⟩
    rw [← hm] at A1 ⊢
    rw [← hq] at D1 ⊢
    clear g1 k1 b1 hr hn hla h2a hlb h2b hwf hra hrb hrsa hrsb ht hx hy hm hq DS PSI PSS PV PM PW PD PA
    go_wp2_with fail
    refine (CI.out _ _ RA RB w1 _ _ _ _ A1 S1.out D1 S1.out).mono ?_
    rintro e w2 ⟨rfl, b2⟩
    have A2 := Lib.hid (A1.out.below (b2.mono S1.out))
    have D2 := Lib.hid (D1.out.below (b2.mono S1.out))
    have B2 := Lib.hid (B1.out.trans (b2.mono (Nat.le_trans S0.out S1.out)))
    have S2 : Hid (w1.heap.size ≤ w2.heap.size) := Nat.le_trans S1.out b2.size
    clear b2 A1 D1 B1
    go_wp2_with fail
    refine (CS.out _ _ RA RB w2 _ _ _ _ A2 S2.out D2 S2.out).mono ?_
    rintro e w3 ⟨rfl, b3⟩
    have A3 := Lib.hid (A2.out.below (b3.mono S2.out))
    have D3 := Lib.hid (D2.out.below (b3.mono S2.out))
    have B3 := Lib.hid (B2.out.trans (b3.mono (Nat.le_trans S0.out S2.out)))
    have S3 : Hid (w1.heap.size ≤ w3.heap.size) := Nat.le_trans S2.out b3.size
    clear b3 A2 D2 B2
    have qt : (t == t) = true := beq_self_eq_true _
    have qn : (t != t) = false := by rw [bne, qt]; rfl
    cases x with
    | false =>
      go_wp2_with fail
      refine (VA.out _ RA w3 _ _ A3 S3.out).mono ?_
      rintro e w4 ⟨rfl, b4⟩
      have A4 := Lib.hid (A3.out.below (b4.mono S3.out))
      have D4 := Lib.hid (D3.out.below (b4.mono S3.out))
      have B4 := Lib.hid (B3.out.trans (b4.mono (Nat.le_trans S0.out S3.out)))
      have S4 : Hid (w1.heap.size ≤ w4.heap.size) := Nat.le_trans S3.out b4.size
      clear b4 A3 D3 B3
      go_wp2_with fail
      refine (CS.out _ _ RA RB w4 _ _ _ _ A4 S4.out D4 S4.out).mono ?_
      rintro e w5 ⟨rfl, b5⟩
      have A5 := Lib.hid (A4.out.below (b5.mono S4.out))
      have D5 := Lib.hid (D4.out.below (b5.mono S4.out))
      have B5 := Lib.hid (B4.out.trans (b5.mono (Nat.le_trans S0.out S4.out)))
      have S5 : Hid (w1.heap.size ≤ w5.heap.size) := Nat.le_trans S4.out b5.size
      clear b5 A4 D4 B4
      go_wp2
      go_ret
      exact ⟨by first | rfl | simp, B5.out⟩
    | true =>
      go_wp2_with fail
      refine (VA.out _ RA w3 _ _ A3 S3.out).mono ?_
      rintro e w4 ⟨rfl, b4⟩
      have A4 := Lib.hid (A3.out.below (b4.mono S3.out))
      have D4 := Lib.hid (D3.out.below (b4.mono S3.out))
      have B4 := Lib.hid (B3.out.trans (b4.mono (Nat.le_trans S0.out S3.out)))
      have S4 : Hid (w1.heap.size ≤ w4.heap.size) := Nat.le_trans S3.out b4.size
      clear b4 A3 D3 B3
      cases y with
      | false =>
        go_wp2_with fail
        refine (VB.out _ RB w4 _ _ D4 S4.out).mono ?_
        rintro e w5 ⟨rfl, b5⟩
        have A5 := Lib.hid (A4.out.below (b5.mono S4.out))
        have D5 := Lib.hid (D4.out.below (b5.mono S4.out))
        have B5 := Lib.hid (B4.out.trans (b5.mono (Nat.le_trans S0.out S4.out)))
        have S5 : Hid (w1.heap.size ≤ w5.heap.size) := Nat.le_trans S4.out b5.size
        clear b5 A4 D4 B4
        go_wp2_with fail
        refine (CS.out _ _ RA RB w5 _ _ _ _ A5 S5.out D5 S5.out).mono ?_
        rintro e w6 ⟨rfl, b6⟩
        have A6 := Lib.hid (A5.out.below (b6.mono S5.out))
        have D6 := Lib.hid (D5.out.below (b6.mono S5.out))
        have B6 := Lib.hid (B5.out.trans (b6.mono (Nat.le_trans S0.out S5.out)))
        have S6 : Hid (w1.heap.size ≤ w6.heap.size) := Nat.le_trans S5.out b6.size
        clear b6 A5 D5 B5
        go_wp2
        go_ret
        exact ⟨by first | rfl | simp, B6.out⟩
      | true =>
        go_wp2_with fail
        refine (VB.out _ RB w4 _ _ D4 S4.out).mono ?_
        rintro e w5 ⟨rfl, b5⟩
        have A5 := Lib.hid (A4.out.below (b5.mono S4.out))
        have D5 := Lib.hid (D4.out.below (b5.mono S4.out))
        have B5 := Lib.hid (B4.out.trans (b5.mono (Nat.le_trans S0.out S4.out)))
        have S5 : Hid (w1.heap.size ≤ w5.heap.size) := Nat.le_trans S4.out b5.size
        clear b5 A4 D4 B4
        go_wp2_with fail
        refine (CJ.out _ _ RA RB w5 _ _ _ _ A5 S5.out D5 S5.out).mono ?_
        rintro e w6 ⟨rfl, b6⟩
        have A6 := Lib.hid (A5.out.below (b6.mono S5.out))
        have D6 := Lib.hid (D5.out.below (b6.mono S5.out))
        have B6 := Lib.hid (B5.out.trans (b6.mono (Nat.le_trans S0.out S5.out)))
        have S6 : Hid (w1.heap.size ≤ w6.heap.size) := Nat.le_trans S5.out b6.size
        clear b6 A5 D5 B5
        cases t with
        | false =>
          clear qt qn
          go_wp2
          go_ret
          exact ⟨by first | rfl | simp, B6.out⟩
        | true =>
          clear qt qn
          obtain ⟨f1, f2, f3⟩ := SF.out rfl
          rw [f1] at MB
          rw [f2] at WB
          simp only [f3] at QB
          obtain ⟨mm, hmm⟩ : ∃ z, z = mapsOut n ra := ⟨_, rfl⟩
          obtain ⟨ww, hww⟩ : ∃ z, z = treeV waysN n ra := ⟨_, rfl⟩
          obtain ⟨L, hL⟩ : ∃ z, z = ascA (degOut n ra) := ⟨_, rfl⟩
          rw [← hmm] at MA MB
          rw [← hww] at WA WB
          simp only [← hL] at QA QB
          rw [← hL] at HL
          have hl8 := HL.out
          clear SF ST f1 f2 f3 hmm hww hL
          go_wp2_with fail
          refine (MA.out _ RA w6 _ _ A6 S6.out).mono ?_
          rintro e w7 ⟨rfl, b7⟩
          have A7 := Lib.hid (A6.out.below (b7.mono S6.out))
          have D7 := Lib.hid (D6.out.below (b7.mono S6.out))
          have B7 := Lib.hid (B6.out.trans (b7.mono (Nat.le_trans S0.out S6.out)))
          have S7 : Hid (w1.heap.size ≤ w7.heap.size) := Nat.le_trans S6.out b7.size
          clear b7 A6 D6 B6
          go_wp2_with fail
          refine (MB.out _ RB w7 _ _ D7 S7.out).mono ?_
          rintro e w8 ⟨rfl, b8⟩
          have A8 := Lib.hid (A7.out.below (b8.mono S7.out))
          have D8 := Lib.hid (D7.out.below (b8.mono S7.out))
          have B8 := Lib.hid (B7.out.trans (b8.mono (Nat.le_trans S0.out S7.out)))
          have S8 : Hid (w1.heap.size ≤ w8.heap.size) := Nat.le_trans S7.out b8.size
          clear b8 A7 D7 B7
          go_wp2_with fail
          refine (WA.out _ RA w8 _ _ A8 S8.out).mono ?_
          rintro e w9 ⟨rfl, b9⟩
          have A9 := Lib.hid (A8.out.below (b9.mono S8.out))
          have D9 := Lib.hid (D8.out.below (b9.mono S8.out))
          have B9 := Lib.hid (B8.out.trans (b9.mono (Nat.le_trans S0.out S8.out)))
          have S9 : Hid (w1.heap.size ≤ w9.heap.size) := Nat.le_trans S8.out b9.size
          clear b9 A8 D8 B8
          go_wp2_with fail
          refine (WB.out _ RB w9 _ _ D9 S9.out).mono ?_
          rintro e w10 ⟨rfl, b10⟩
          have A10 := Lib.hid (A9.out.below (b10.mono S9.out))
          have D10 := Lib.hid (D9.out.below (b10.mono S9.out))
          have B10 := Lib.hid (B9.out.trans (b10.mono (Nat.le_trans S0.out S9.out)))
          have S10 : Hid (w1.heap.size ≤ w10.heap.size) := Nat.le_trans S9.out b10.size
          clear b10 A9 D9 B9
          go_wp2_with fail
          refine (DA.out _ RA w10 _ _ A10 S10.out).mono ?_
          rintro e w11 ⟨v11, rfl, o11, b11⟩
          have A11 := Lib.hid (A10.out.below (b11.mono S10.out))
          have D11 := Lib.hid (D10.out.below (b11.mono S10.out))
          have B11 := Lib.hid (B10.out.trans (b11.mono (Nat.le_trans S0.out S10.out)))
          have S11 : Hid (w1.heap.size ≤ w11.heap.size) := Nat.le_trans S10.out b11.size
          have O11 := Lib.hid o11
          clear o11
          clear b11 A10 D10 B10
          go_wp2_with fail
          refine (QA.out _ w11 _ _ O11 (Nat.le_refl _)).mono ?_
          rintro e w12 ⟨v12, rfl, o12, b12⟩
          have A12 := Lib.hid (A11.out.below (b12.mono S11.out))
          have D12 := Lib.hid (D11.out.below (b12.mono S11.out))
          have B12 := Lib.hid (B11.out.trans (b12.mono (Nat.le_trans S0.out S11.out)))
          have S12 : Hid (w1.heap.size ≤ w12.heap.size) := Nat.le_trans S11.out b12.size
          have O12 := Lib.hid o12
          clear o12 O11
          clear b12 A11 D11 B11
          go_wp2_with fail
          refine (DB.out _ RB w12 _ _ D12 S12.out).mono ?_
          rintro e w13 ⟨v13, rfl, o13, b13⟩
          have A13 := Lib.hid (A12.out.below (b13.mono S12.out))
          have D13 := Lib.hid (D12.out.below (b13.mono S12.out))
          have B13 := Lib.hid (B12.out.trans (b13.mono (Nat.le_trans S0.out S12.out)))
          have S13 : Hid (w1.heap.size ≤ w13.heap.size) := Nat.le_trans S12.out b13.size
          have O13 := Lib.hid o13
          have P13 := Lib.hid (O12.out.below b13)
          have Z13 : Hid (w12.heap.size ≤ w13.heap.size) := b13.size
          clear o13 O12
          clear b13 A12 D12 B12
          go_wp2_with fail
          refine (QB.out _ w13 _ _ O13 (Nat.le_refl _)).mono ?_
          rintro e w14 ⟨v14, rfl, o14, b14⟩
          have A14 := Lib.hid (A13.out.below (b14.mono S13.out))
          have D14 := Lib.hid (D13.out.below (b14.mono S13.out))
          have B14 := Lib.hid (B13.out.trans (b14.mono (Nat.le_trans S0.out S13.out)))
          have S14 : Hid (w1.heap.size ≤ w14.heap.size) := Nat.le_trans S13.out b14.size
          have O14 := Lib.hid o14
          have P14 := Lib.hid (P13.out.below (b14.mono Z13.out))
          clear o14 O13 P13
          clear b14 A13 D13 B13
          go_wp2_with fail
          refine (equalInts_yes L _ _ w14 P14 O14 (by omega)).mono ?_
          rintro e w15 ⟨rfl, s15⟩
          have B15 := Lib.hid (B14.out.trans (s15.below _))
          clear s15
          go_wp2
          go_ret
          exact ⟨by first | rfl | simp, B15.out⟩
end Go.Proofs.Ytafdlilojlmchaa
