/-
  The walks of the laws on SpanByRows and ValidWeb, given the contracts of the program's functions (and of the model's SpanByRows).
-/
import Derived.Test.YtgboecnfghhooaaCDrawW
import Derived.Test.YtgboecnfghhooaaCWithS
import Derived.Test.YtgboecnfghhooaaZW
namespace Go.Proofs.Ytgboecnfghhooaa
open Go.RowKit

theorem wf_smallW (x : Int) (h : -1000 ≤ x ∧ x ≤ 100000) : (Lit.int .i64 x).wf = true := by
  have h1 : IntKind.i64.min = -9223372036854775808 := rfl
  have h2 : IntKind.i64.max = 9223372036854775807 := rfl
  simp [Lit.wf]; omega
set_option maxHeartbeats 3200000 in
set_option maxRecDepth 100000 in
theorem spanRows_law (HR : Hid (∀ (n : Int) (rows : List (List Int)) (v : Value) (RV : List Value) (w : World) (B0 H0 : Nat), Hid (Grid w B0 H0 v RV rows) → H0 ≤ w.heap.size → rows.length ≤ 1048576 → (∀ r ∈ rows, r.length ≤ 1048576) → (Lit.int .i64 n).wf = true →
      Calls Try.prog 14 #[.int .i64 n, v] w fun e w' => e = .returned (.int .i64 (spanC n rows)) ∧ Below w.heap.size w w'))
    (HC : Hid (∀ (n : Int) (rows : List (List Int)) (v : Value) (RV : List Value) (w : World) (B0 H0 : Nat), Hid (Grid w B0 H0 v RV rows) → H0 ≤ w.heap.size → rows.length ≤ 1048576 → (∀ r ∈ rows, r.length ≤ 1048576) → (Lit.int .i64 n).wf = true →
      Calls Try.prog 21 #[.int .i64 n, v] w fun e w' => e = .returned (.int .i64 (spanC n rows)) ∧ Below w.heap.size w w'))
    (HO : Hid (∀ (n : Int) (rows : List (List Int)) (v : Value) (RV : List Value) (w : World) (B0 H0 : Nat), Hid (Grid w B0 H0 v RV rows) → H0 ≤ w.heap.size → rows.length ≤ 1048576 → (∀ r ∈ rows, r.length ≤ 1048576) → (Lit.int .i64 n).wf = true →
      Calls Try.prog 22 #[.int .i64 n, v] w (IntsOut (spansL n rows) w)))
    (HSP : Hid (∀ (n : Int) (rows : List (List Int)) (v : Value) (RV : List Value) (w : World) (B0 H0 : Nat), Hid (Grid w B0 H0 v RV rows) → H0 ≤ w.heap.size → rows.length ≤ 1048576 →
      Calls Try.prog 20 #[.int .i64 n, v] w fun e w' => e = .returned (.int .i64 (spanC n rows)) ∧ Below w.heap.size w w'))
    (a : Option Addr) (len cap : Nat) (zs : List Int) (w : World) (hr0 : IsRow .u8 w a len cap zs) :
    Calls Try.prog 5 #[.slice a len cap] w fun e w' => e = .returned (.bool true) ∧ Below w.heap.size w w' := by
  have hr := Lib.hid hr0
  clear hr0
  by_cases hbig : (1048576 : Int) < (len : Int)
  · go_enter Try.func5, Try.ntmps5
    go_wp2
    go_ret
    exact ⟨rfl, Below.refl _ _⟩
  · go_enter Try.func5, Try.ntmps5
    go_wp2_with fail
    refine (drawSpanByRows a len cap zs w hr (by omega)).mono ?_
    rintro e w1 ⟨n, rows, v, RV, rfl, g1, hn, hl, hr2, b1⟩
    have hwf : (Lit.int .i64 n).wf = true := wf_smallW n (by omega)
    have G1 := Lib.hid g1
    have B1 := Lib.hid b1
    have hrs : ∀ r ∈ rows, r.length ≤ 1048576 := fun r h => by rw [hr2 r h]; decide
    have HRS := Lib.hid hrs
    have hrl : rows.length ≤ 1048576 := by omega
    obtain ⟨av, cv, rfl, _, _, _, _⟩ := g1.1.slice
    have hgl : RV.length = rows.length := g1.2.1
    obtain ⟨m, hm⟩ : ∃ m, m = RV.length := ⟨_, rfl⟩
    rw [← hm] at G1 ⊢
    have HMR := Lib.hid (hm.trans hgl)
    have s01 := b1.size
    clear g1 b1 hr hrs hm hgl
    have CI := Lib.hid (HR.out n rows _ RV w1 _ _ G1 (Nat.le_refl _) hrl HRS.out hwf)
    obtain ⟨t, ht⟩ : ∃ t, t = spanC n rows := ⟨_, rfl⟩
    rw [← ht] at CI
    have HT := Lib.hid ht
    clear ht
    go_wp2_with fail
    refine CI.out.mono ?_
    rintro e w2 ⟨rfl, b2⟩
    have G2 := Lib.hid (G1.out.below b2)
    have B2 := Lib.hid (B1.out.trans (b2.mono s01))
    have s12 := b2.size
    have CS := Lib.hid (HSP.out n rows _ RV w2 _ _ G2 s12 hrl)
    rw [← HT.out] at CS
    clear b2 CI
    go_wp2_with fail
    refine CS.out.mono ?_
    rintro e w3 ⟨rfl, b3⟩
    have G3 := Lib.hid (G2.out.below (b3.mono s12))
    have B3 := Lib.hid (B2.out.trans (b3.mono (by omega)))
    have s13 : w1.heap.size ≤ w3.heap.size := by have := b3.size; omega
    have q1 : ((t : Int) == t) = true := by simp
    have q2 : ((t : Int) != t) = false := by simp
    clear b3 G2 B2 CS
    by_cases ht0 : t < 0
    · have CS := Lib.hid (HSP.out n rows _ RV w3 _ _ G3 s13 hrl)
      rw [← HT.out] at CS
      go_wp2_with fail
      refine CS.out.mono ?_
      rintro e w4 ⟨rfl, b4⟩
      have B4 := Lib.hid (B3.out.trans (b4.mono (by omega)))
      clear b4
      go_wp2
      go_ret
      exact ⟨rfl, B4.out⟩
    · have CC := Lib.hid (HC.out n rows _ RV w3 _ _ G3 s13 hrl HRS.out hwf)
      rw [← HT.out] at CC
      go_wp2_with fail
      refine CC.out.mono ?_
      rintro e w4 ⟨rfl, b4⟩
      have G4 := Lib.hid (G3.out.below (b4.mono s13))
      have B4 := Lib.hid (B3.out.trans (b4.mono (by omega)))
      have s14 : w1.heap.size ≤ w4.heap.size := by have := b4.size; omega
      have CO := Lib.hid (HO.out n rows _ RV w4 _ _ G4 s14 hrl HRS.out hwf)
      have hlen : ((spansL n rows).length : Int) = t := by
        have h1 := HT.out
        unfold spanC at h1
        unfold spansL
        split at h1
        · next hw => rw [if_pos hw, List.length_map, h1]
        · omega
      obtain ⟨l, hl0⟩ : ∃ l, l = spansL n rows := ⟨_, rfl⟩
      rw [← hl0] at CO hlen
      clear b4 CC G3 B3 hl0
      go_wp2_with fail
      refine CO.out.mono ?_
      rintro e w5 ⟨v5, rfl, o5, b5⟩
      obtain ⟨a5, c5, rfl, _, _, _, _⟩ := o5.slice
      rw [iv_length]
      have B5 := Lib.hid (B4.out.trans (b5.mono (by omega)))
      have q3 : ((l.length : Int) == t) = true := by rw [hlen]; simp
      clear hlen b5 o5 CO
      go_wp2
      go_ret
      exact ⟨rfl, B5.out⟩
set_option maxHeartbeats 3200000 in
set_option maxRecDepth 100000 in
theorem validWeb_law (HV : Hid (∀ (n : Int) (rows : List (List Int)) (v : Value) (RV : List Value) (w : World) (B0 H0 : Nat), Hid (Grid w B0 H0 v RV rows) → H0 ≤ w.heap.size → rows.length ≤ 1048576 → (∀ r ∈ rows, r.length ≤ 1048576) → (Lit.int .i64 n).wf = true →
      Calls Try.prog 17 #[.int .i64 n, v] w fun e w' => e = .returned (.bool (webB n rows)) ∧ Below w.heap.size w w'))
    (a : Option Addr) (len cap : Nat) (zs : List Int) (w : World) (hr0 : IsRow .u8 w a len cap zs) :
    Calls Try.prog 4 #[.slice a len cap] w fun e w' => e = .returned (.bool true) ∧ Below w.heap.size w w' := by
  have hr := Lib.hid hr0
  clear hr0
  by_cases hbig : (1048576 : Int) < (len : Int)
  · go_enter Try.func4, Try.ntmps4
    go_wp2
    go_ret
    exact ⟨rfl, Below.refl _ _⟩
  · go_enter Try.func4, Try.ntmps4
    go_wp2_with fail
    refine (drawValidWeb a len cap zs w hr (by omega)).mono ?_
    rintro e w1 ⟨n, rows, v, RV, rfl, g1, hn, hl, hr2, b1⟩
    have hwf : (Lit.int .i64 n).wf = true := wf_smallW n (by omega)
    have G1 := Lib.hid g1
    have B1 := Lib.hid b1
    have hrs : ∀ r ∈ rows, r.length ≤ 1048576 := fun r h => by rw [hr2 r h]; decide
    have HRS := Lib.hid hrs
    have hrl : rows.length ≤ 1048576 := by omega
    obtain ⟨av, cv, rfl, _, _, _, _⟩ := g1.1.slice
    have hgl : RV.length = rows.length := g1.2.1
    obtain ⟨m, hm⟩ : ∃ m, m = RV.length := ⟨_, rfl⟩
    rw [← hm] at G1 ⊢
    have HMR := Lib.hid (hm.trans hgl)
    have s01 := b1.size
    clear g1 b1 hr hrs hm hgl
    have CI := Lib.hid (HV.out n rows _ RV w1 _ _ G1 (Nat.le_refl _) hrl HRS.out hwf)
    go_wp2_with fail
    refine CI.out.mono ?_
    rintro e w2 ⟨rfl, b2⟩
    have G2 := Lib.hid (G1.out.below b2)
    have B2 := Lib.hid (B1.out.trans (b2.mono s01))
    have s12 := b2.size
    have CS := Lib.hid (specValidWeb_any n rows _ RV w2 G2 hrl)
    clear b2 CI
    go_wp2_with fail
    refine CS.out.mono ?_
    rintro e w3 ⟨rfl, rfl⟩
    cases ht : webB n rows with
    | false =>
      rw [ht] at CS
      clear ht
      go_wp2_with fail
      refine CS.out.mono ?_
      rintro e w4 ⟨rfl, rfl⟩
      go_wp2
      go_ret
      exact ⟨rfl, B2.out⟩
    | true =>
      by_cases hm0 : m = 0
      · have q1 : ((m : Int) == 0) = true := by rw [hm0]; rfl
        clear hm0
        go_wp2
        go_ret
        exact ⟨rfl, B2.out⟩
      · obtain ⟨k, rfl⟩ : ∃ k, m = k + 1 := ⟨m - 1, by omega⟩
        obtain ⟨g, rfl, _, _, _, _⟩ := Own.at_ (w := w2) (B := w.heap.size) (H := w1.heap.size) (t := 32) (ao := av) (n := k + 1) (c := cv) (xs := RV) (by have := G2.out.1; exact this) 0 (by rw [G2.out.2.1, ← HMR.out]; omega)
        have GD : Hid (Grid w2 w.heap.size w1.heap.size (.slice (some ⟨g, 0, none⟩) k cv) RV.dropLast rows.dropLast) := by
          refine ⟨G2.out.1.pop (by rw [G2.out.2.1, ← HMR.out]), ?_, fun i u r h1 h2 => ?_⟩
          · rw [List.length_dropLast, List.length_dropLast, G2.out.2.1]
          · rw [List.dropLast_eq_take] at h1 h2
            have i1 : i < RV.length - 1 := by
              have := (List.getElem?_eq_some_iff.1 h1).1
              rw [List.length_take] at this; omega
            rw [List.getElem?_take_of_lt i1] at h1
            rw [List.getElem?_take_of_lt (by rw [← G2.out.2.1]; exact i1)] at h2
            exact G2.out.2.2 i u r h1 h2
        have hwd : webB n rows.dropLast = true := by
          obtain ⟨h1, h2, h3⟩ := webB_iff.1 ht
          exact webB_iff.2 ⟨fun r hr => h1 r (List.dropLast_subset _ hr), h2, by rw [List.length_dropLast]; omega⟩
        have CV := Lib.hid (HV.out n rows.dropLast _ RV.dropLast w2 _ _ GD s12 (by rw [List.length_dropLast]; omega) (fun r hr => HRS.out r (List.dropLast_subset _ hr)) hwf)
        rw [hwd] at CV
        have q1 : (((k + 1 : Nat) : Int) == 0) = false := by rw [beq_eq_false_iff_ne]; omega
        have q2 : ((k : Int) + 1 == 0) = false := by rw [beq_eq_false_iff_ne]; omega
        have hk9 : k ≤ 9 := by have := HMR.out; omega
        have ewk : IntKind.i64.wrap (k : Int) = (k : Int) := by rw [IntKind.wrap_i64]; omega
        have hkcv : k + 1 ≤ cv := by
          obtain ⟨a9, c9, e9, _, h9, _⟩ := G2.out.1.slice
          simp only [Value.slice.injEq] at e9
          omega
        have j1 : (k : Int) ≤ (cv : Int) := by omega
        have j2 : (0 : Int) ≤ (k : Int) := by omega
        have j3 : k ≤ cv := by omega
        clear ht hm0 hwd GD
        go_wp2_with fail
        refine CV.out.mono ?_
        rintro e w4 ⟨rfl, b4⟩
        have B4 := Lib.hid (B2.out.trans (b4.mono B2.out.size))
        clear b4
        go_wp2
        go_ret
        exact ⟨rfl, B4.out⟩
end Go.Proofs.Ytgboecnfghhooaa
