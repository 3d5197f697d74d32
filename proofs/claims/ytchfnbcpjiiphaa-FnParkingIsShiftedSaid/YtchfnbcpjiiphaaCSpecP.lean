/-
  The contracts of the model's PlacesOf and AllPark.
-/
import Derived.Test.YtchfnbcpjiiphaaCParkS
import Derived.Test.YtchfnbcpjiiphaaCHasI
namespace Go.Proofs.Ytchfnbcpjiiphaa
open Go.RowKit

set_option maxHeartbeats 1600000 in
theorem specPlacesOf_any (l : List Int) (v : Value) (w : World) {B0 H0 : Nat} (hv : Hid (Own w B0 H0 3 v (iv l))) (hH : H0 ≤ w.heap.size) (hl : l.length ≤ 1048576) :
    Calls Try.prog 13 #[v] w fun e w' => ∃ y, e = .returned y ∧ (wishB l = true → Own w' w.heap.size w'.heap.size 3 y (iv (placesB l))) ∧ (wishB l = false → y = .slice none 0 0) ∧ Below w.heap.size w w' := by
  have CV := Lib.hid (validWishesM_any l v w hv hl)
  cases hwb : wishB l with
  | false =>
    rw [hwb] at CV
    go_enter Try.func13, Try.ntmps13
    go_wp2_with fail
    refine CV.out.mono ?_
    rintro e w' ⟨rfl, rfl⟩
    go_wp2
    go_ret
    exact ⟨_, rfl, (fun h => by cases h), fun _ => rfl, Below.refl _ _⟩
  | true =>
    rw [hwb] at CV
    have CP := Lib.hid (parkM_any l hwb v w hv hH hl)
    clear hwb
    go_enter Try.func13, Try.ntmps13
    go_wp2_with fail
    refine CV.out.mono ?_
    rintro e w' ⟨rfl, rfl⟩
    go_wp2_with fail
    refine CP.out.mono ?_
    rintro e w' ⟨y, rfl, hy, hb⟩
    have HY := Lib.hid hy
    have HB := Lib.hid hb
    clear hy hb
    go_wp2
    go_ret
    exact ⟨_, rfl, fun _ => HY.out, (fun h => by cases h), HB.out⟩
set_option maxHeartbeats 1600000 in
theorem specAllPark_any (l : List Int) (v : Value) (w : World) {B0 H0 : Nat} (hv : Hid (Own w B0 H0 3 v (iv l))) (hH : H0 ≤ w.heap.size) (hl : l.length ≤ 1048576) :
    Calls Try.prog 17 #[v] w fun e w' => e = .returned (.bool (parkB l)) ∧ Below w.heap.size w w' := by
  have CV := Lib.hid (validWishesM_any l v w hv hl)
  cases hwb : wishB l with
  | false =>
    have hp := Lib.hid (show parkB l = false by rw [parkB, hwb]; rfl)
    rw [hwb] at CV
    go_enter Try.func17, Try.ntmps17
    go_wp2_with fail
    refine CV.out.mono ?_
    rintro e w' ⟨rfl, rfl⟩
    go_wp2
    go_ret
    exact ⟨by rw [hp.out]; rfl, Below.refl _ _⟩
  | true =>
    have hp := Lib.hid (show parkB l = !(decide ((-1 : Int) ∈ placesB l)) by rw [parkB, hwb, Bool.true_and, show decide ((-1 : Int) ∈ placesB l) = (placesB l).contains (-1) from by rw [Bool.eq_iff_iff, decide_eq_true_eq, List.contains_iff_mem]])
    rw [hwb] at CV
    have CP := Lib.hid (parkM_any l hwb v w hv hH hl)
    have CH := Lib.hid (fun (y : Value) (W : World) (B H : Nat) (hy : Hid (Own W B H 3 y (iv (placesB l)))) => hasInt_any (placesB l) y (-1) W hy (by rw [placesB_length]; exact hl))
    obtain ⟨t, ht⟩ : ∃ t, t = decide ((-1 : Int) ∈ placesB l) := ⟨_, rfl⟩
    rw [← ht] at hp CH
    clear hwb ht
    go_enter Try.func17, Try.ntmps17
    go_wp2_with fail
    refine CV.out.mono ?_
    rintro e w' ⟨rfl, rfl⟩
    go_wp2_with fail
    refine CP.out.mono ?_
    rintro e w' ⟨y, rfl, hy, hb⟩
    have HY := Lib.hid hy
    have HB := Lib.hid hb
    clear hy hb
    go_wp2_with fail
    refine (CH.out y w' _ _ HY).mono ?_
    rintro e w2 ⟨rfl, rfl⟩
    go_wp2
    go_ret
    exact ⟨by rw [hp.out]; rfl, HB.out⟩
end Go.Proofs.Ytchfnbcpjiiphaa
