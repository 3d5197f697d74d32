/-
  The order of edges: what the program's comparison of two edges answers.
-/
import Derived.Test.YtmoelhaobnloaaaZW
import Derived.Test.YtmoelhaobnloaaaCInts
import Derived.Sort.Grow
namespace Go.Proofs.Ytmoelhaobnloaaa
open Go.RowKit

/-- how two numbers stand to each other -/
def cmpZ (x y : Int) : Int := if x < y then -1 else if y < x then 1 else 0
/-- how two edges stand to each other -/
def cmpE (x y : Nat × Nat) : Int := if x.1 = y.1 then cmpZ x.2 y.2 else cmpZ x.1 y.1
def encE (e : Nat × Nat) : List Value := [.int .i64 (e.1 : Int), .int .i64 (e.2 : Int)]

set_option maxHeartbeats 800000 in
theorem cmpInt_p (x y : Int) (w : World) :
    Calls Try.prog 110 #[.int .i64 x, .int .i64 y] w fun e w' => e = .returned (.int .i64 (cmpZ x y)) ∧ w = w' := by
  have CN : Hid (∀ (z : Int) (W : World), Calls Try.prog 133 #[.int .i64 z] W fun e w' => e = .returned (.bool false) ∧ W = w') := fun z W => by
    go_enter Try.func133, Try.ntmps133
    go_wp2
    go_ret
    exact ⟨by simp, rfl⟩
  have h : (x < y ∧ cmpZ x y = -1) ∨ (¬ x < y ∧ y < x ∧ cmpZ x y = 1) ∨ (¬ x < y ∧ ¬ y < x ∧ cmpZ x y = 0) := by
    unfold cmpZ
    by_cases h1 : x < y
    · rw [if_pos h1]; exact .inl ⟨h1, rfl⟩
    · by_cases h2 : y < x
      · rw [if_neg h1, if_pos h2]; exact .inr (.inl ⟨h1, h2, rfl⟩)
      · rw [if_neg h1, if_neg h2]; exact .inr (.inr ⟨h1, h2, rfl⟩)
  obtain ⟨c, hc⟩ : ∃ c, c = cmpZ x y := ⟨_, rfl⟩
  rw [← hc] at h ⊢
  clear hc
  rcases h with ⟨h1, rfl⟩ | ⟨h1, h2, rfl⟩ | ⟨h1, h2, rfl⟩
  all_goals
    go_enter Try.func110, Try.ntmps110
    go_wp2_with fail
    refine (CN.out x _).mono ?_
    rintro e w1 ⟨rfl, rfl⟩
    go_wp2_with fail
    refine (CN.out y _).mono ?_
    rintro e w1 ⟨rfl, rfl⟩
    go_wp2
    go_ret
    exact ⟨rfl, rfl⟩

set_option maxHeartbeats 1600000 in
theorem cmpInts_p (a b c d : Int) (g1 g2 c1 c2 : Nat) (w : World)
    (h1 : w.cell? ⟨g1, 0, none⟩ = some (.int .i64 a)) (h2 : w.cell? ⟨g1, 1, none⟩ = some (.int .i64 b)) (h3 : w.cell? ⟨g2, 0, none⟩ = some (.int .i64 c)) (h4 : w.cell? ⟨g2, 1, none⟩ = some (.int .i64 d)) :
    Calls Try.prog 89 #[.slice (some ⟨g1, 0, none⟩) 2 c1, .slice (some ⟨g2, 0, none⟩) 2 c2] w fun e w' => e = .returned (.int .i64 (if a = c then cmpZ b d else cmpZ a c)) ∧ w = w' := by
  have CA := Lib.hid (cmpInt_p a c w)
  have CB := Lib.hid (cmpInt_p b d w)
  have hz : ∀ x y : Int, cmpZ x y = 0 ↔ x = y := fun x y => by unfold cmpZ; split <;> (try split) <;> omega
  have za := hz a c
  have zb := hz b d
  obtain ⟨p, hp⟩ : ∃ p, p = cmpZ a c := ⟨_, rfl⟩
  obtain ⟨q, hq⟩ : ∃ q, q = cmpZ b d := ⟨_, rfl⟩
  rw [← hp, ← hq]
  rw [← hp] at CA za
  rw [← hq] at CB zb
  clear hp hq hz
  obtain ⟨r, hr⟩ : ∃ r, r = (if a = c then q else p) := ⟨_, rfl⟩
  rw [← hr]
  have HR := Lib.hid hr
  have ZA := Lib.hid za
  have ZB := Lib.hid zb
  clear hr za zb
  go_enter Try.func89, Try.ntmps89
  go_wp2
  go_loop [11] (fun i => ∃ k : Nat, k ≤ 2 ∧ i = .int .i64 (k : Int) ∧ Hid (1 ≤ k → p = 0) ∧ Hid (2 ≤ k → q = 0)) (fun i => 2 - (intOf i).toNat)
  case atStart => exact ⟨0, by omega, rfl, fun h => by omega, fun h => by omega⟩
  case round =>
    obtain ⟨k, hk, rfl, H1, H2⟩ := hrel
    rcases Nat.lt_or_ge k 1 with hk0 | hk0
    · obtain rfl : k = 0 := by omega
      by_cases hp : p = 0
      · have H1' : Hid (p = 0) := hp
        have hp2 : (p == 0) = true := by simpa using hp
        clear hp
        go_wp2_with fail
        refine CA.out.mono ?_
        rintro e w1 ⟨rfl, rfl⟩
        go_wp2
        go_round
        case rel => exact ⟨1, by omega, by go_num, fun _ => H1'.out, fun h => by omega⟩
        case measure => simp [intOf]
      · have hp2 : (p == 0) = false := by simpa using hp
        have hac : ¬ a = c := fun h => hp (ZA.out.2 h)
        have E : Hid (r = p) := by show _ = _; rw [HR.out, if_neg hac]
        clear hac
        go_wp2_with fail
        refine CA.out.mono ?_
        rintro e w1 ⟨rfl, rfl⟩
        go_wp2
        go_ret
        exact ⟨by rw [E.out]; rfl, rfl⟩
    · have hp0 : p = 0 := H1.out hk0
      have hac : a = c := ZA.out.1 hp0
      have E : Hid (r = q) := by show _ = _; rw [HR.out, if_pos hac]
      clear hac hp0
      rcases Nat.lt_or_ge k 2 with hk1 | hk1
      · obtain rfl : k = 1 := by omega
        by_cases hq : q = 0
        · have E0 : Hid (p = 0) := H1.out hk0
          have E1 : Hid (q = 0) := hq
          have hq2 : (q == 0) = true := by simpa using hq
          clear hq
          go_wp2_with fail
          refine CB.out.mono ?_
          rintro e w1 ⟨rfl, rfl⟩
          go_wp2
          go_round
          case rel => exact ⟨2, by omega, by go_num, fun _ => E0.out, fun _ => E1.out⟩
          case measure => simp [intOf]
        · have hp2 : (q == 0) = false := by simpa using hq
          go_wp2_with fail
          refine CB.out.mono ?_
          rintro e w1 ⟨rfl, rfl⟩
          go_wp2
          go_ret
          exact ⟨by rw [E.out]; rfl, rfl⟩
      · obtain rfl : k = 2 := by omega
        have E0 : Hid (q = 0) := H2.out (by omega)
        go_wp2
        go_ret
        exact ⟨by rw [E.out, E0.out]; rfl, rfl⟩

set_option maxHeartbeats 1600000 in
/-- the program's comparison of two edges: it lays both; nothing else turns -/
theorem compare_p (x y : Nat × Nat) (w : World) :
    Calls Try.prog 64 #[.agg (encE x).toArray, .agg (encE y).toArray] w fun e w' => e = .returned (.int .i64 (cmpE x y)) ∧ ∃ q os, w' = Sort.grow (w.drewN q) os := by
  obtain ⟨a, b⟩ := x
  obtain ⟨c, d⟩ := y
  have hz : (if (a : Int) = (c : Int) then cmpZ b d else cmpZ a c) = cmpE (a, b) (c, d) := by
    unfold cmpE
    by_cases h : a = c
    · rw [if_pos (by omega), if_pos h]
    · rw [if_neg (by omega), if_neg h]
  have C := Lib.hid (fun (c1 c2 : Nat) (W : World) (g1 g2 : Nat) h1 h2 h3 h4 => cmpInts_p (a : Int) b c d g1 g2 c1 c2 W h1 h2 h3 h4)
  simp only [hz] at C
  obtain ⟨r, hr⟩ : ∃ r, r = cmpE (a, b) (c, d) := ⟨_, rfl⟩
  simp only [← hr] at C ⊢
  clear hr hz
  obtain ⟨G, hG⟩ : ∃ G, G = w.heap.size := ⟨_, rfl⟩
  obtain ⟨W2, hW2⟩ : ∃ W2, W2 = (w.alloc (.cells #[.int .i64 (a : Int), .int .i64 (b : Int)] 76)).alloc (.cells #[.int .i64 (c : Int), .int .i64 (d : Int)] 76) := ⟨_, rfl⟩
  have k1 : W2.cell? ⟨G, 0, none⟩ = some (.int .i64 (a : Int)) := by rw [hW2, hG]; simp
  have k2 : W2.cell? ⟨G, 1, none⟩ = some (.int .i64 (b : Int)) := by rw [hW2, hG]; simp
  have k3 : W2.cell? ⟨G + 1, 0, none⟩ = some (.int .i64 (c : Int)) := by rw [hW2, hG]; simp
  have k4 : W2.cell? ⟨G + 1, 1, none⟩ = some (.int .i64 (d : Int)) := by rw [hW2, hG]; simp
  have CC : Hid (∀ (c1 c2 z : Nat), Calls Try.prog 89 #[.slice (some ⟨G, 0, none⟩) 2 c1, .slice (some ⟨G + 1, 0, none⟩) 2 c2] (W2.drewN z) fun e w' => e = .returned (.int .i64 r) ∧ w' = W2.drewN z) := fun c1 c2 z =>
    (C.out c1 c2 (W2.drewN z) G (G + 1) k1 k2 k3 k4).mono fun _ _ ⟨h, h2⟩ => ⟨h, h2.symm⟩
  have HW : Hid (W2 = Sort.grow w #[.cells #[.int .i64 (a : Int), .int .i64 (b : Int)] 76, .cells #[.int .i64 (c : Int), .int .i64 (d : Int)] 76]) := by
    show _ = _
    rw [hW2, Sort.alloc_eq_grow, Sort.alloc_eq_grow, Sort.grow_grow]; rfl
  clear C k1 k2 k3 k4
  go_enter Try.func64, Try.ntmps64
  simp only [encE]
  go_wp2_with fail
  simp only [← hG, ← hW2]
  clear hG hW2
  go_quiet ((go_at_call 89; exact Calls.quiet_of_same (CC.out _ _ _)))
  go_wp2
  go_ret
  exact ⟨rfl, nq, #[.cells #[.int .i64 (a : Int), .int .i64 (b : Int)] 76, .cells #[.int .i64 (c : Int), .int .i64 (d : Int)] 76], by rw [HW.out]; rfl⟩
end Go.Proofs.Ytmoelhaobnloaaa
