/-
  What an edge more does to the determinant of up to five nodes' rows. Nothing of the program is named here.
-/
import Derived.Test.YtfdalmeimhcdjaaWPolyB
namespace Go.Proofs.Ytfdalmeimhcdjaa

theorem id_num {n a b : Nat} (hn : n ≤ 5) (hb : b < n) (ha : a < b) (w : Nat → Nat → Int) (hs : ∀ i j, w i j = w j i) :
    detG opI n (matG opI n (moreG opI a b w)) = detG opI n (matG opI n w) + detG opI n (matG opI (n - 1) (joinG opI a b w)) := by
  obtain ⟨ρ, hρ⟩ : ∃ ρ : Nat → Int, ρ = fun x => w (x / 5) (x % 5) := ⟨_, rfl⟩
  have H := hom_ev ρ
  have hl : ∀ i j, i < n → j < n → i ≠ j → evP ρ (letter i j) = w i j := by
    intro i j hi hj hij
    have hb : Nat.beq i j = false := by
      cases h : Nat.beq i j with
      | false => rfl
      | true => exact absurd (Nat.eq_of_beq_eq_true h) hij
    have e1 : evP ρ (letter i j) = ρ (min i j * 5 + max i j) := by
      unfold letter
      rw [hb]
      simp [evP, evM]
    rw [e1, hρ]
    show w ((min i j * 5 + max i j) / 5) ((min i j * 5 + max i j) % 5) = _
    have hm : max i j < 5 := by omega
    have d1 : (min i j * 5 + max i j) / 5 = min i j := by omega
    have d2 : (min i j * 5 + max i j) % 5 = max i j := by omega
    rw [d1, d2]
    rcases Nat.lt_or_gt_of_ne hij with h | h
    · rw [Nat.min_eq_left (by omega), Nat.max_eq_right (by omega)]
    · rw [Nat.min_eq_right (by omega), Nat.max_eq_left (by omega)]; exact hs j i
  have hz := zeroP_ev ρ (all_ids hn hb ha)
  rw [ev_addP, ev_negP, ev_addP, det_hom H, det_hom H, det_hom H, mat_hom H, mat_hom H, mat_hom H] at hz
  have m1 : matG opI n (fun i j => evP ρ (moreG opP a b letter i j)) = matG opI n (moreG opI a b w) := mat_congr fun i j hi hj hij => by
    rw [more_hom H]
    unfold moreG
    dsimp only
    rw [hl i j hi hj hij]
  have m2 : matG opI n (fun i j => evP ρ (letter i j)) = matG opI n w := mat_congr fun i j hi hj hij => hl i j hi hj hij
  have m3 : matG opI (n - 1) (fun i j => evP ρ (joinG opP a b letter i j)) = matG opI (n - 1) (joinG opI a b w) := mat_congr fun i j hi hj hij => by
    rw [join_hom H]
    unfold joinG
    dsimp only
    obtain ⟨p, hp⟩ : ∃ p, p = if i < b then i else i + 1 := ⟨_, rfl⟩
    obtain ⟨q, hq⟩ : ∃ q, q = if j < b then j else j + 1 := ⟨_, rfl⟩
    rw [← hp, ← hq]
    have hpn : p < n ∧ p ≠ b := by rw [hp]; split <;> omega
    have hqn : q < n ∧ q ≠ b := by rw [hq]; split <;> omega
    have hpq : p ≠ q := by rw [hp, hq]; split <;> split <;> omega
    rw [hl p q hpn.1 hqn.1 hpq, hl b q hb hqn.1 (Ne.symm hqn.2), hl p b hpn.1 hb hpn.2]
  rw [m1, m2, m3] at hz
  omega
end Go.Proofs.Ytfdalmeimhcdjaa
