/-
  The contracts of the functions that count the words of so many pairs.
-/
import Derived.Test.YtakpbnkncjddeaaZV
import Derived.Test.YtakpbnkncjddeaaZW
import Derived.BigRegion
namespace Go.Proofs.Ytakpbnkncjddeaa
open Go.RowKit

theorem Try.infoInt : (Try.prog.info? 3).map (fun i => (i.zero, i.size, i.bytes)) = some (some (.int .i64 0), 1, 8) := by kernel_rfl

/-- a slice of the call's own whose cells are xs -/
def Owns (w : World) (t : TypeId) (xs : List Value) (P : Value → Prop) (e : Ending) (w' : World) : Prop := ∃ v, e = .returned v ∧ w'.ownsRow w.heap.size t 1 v xs.length xs ∧ Below w.heap.size w w' ∧ P v

theorem below_drewN {B : Nat} {a w : World} (h : Below B a w) (n : Nat) : Below B a (w.drewN n) := h.trans ⟨rfl, rfl, rfl, Nat.le_refl _, fun _ _ => rfl⟩
theorem own_form {w : World} {base : Nat} {e : TypeId} {size : Nat} {v : Value} {n : Nat} {xs : List Value} (h : w.ownsRow base e size v n xs) (hn : 0 < n) : ∃ g cap, v = .slice (some ⟨g, 0, none⟩) n cap ∧ base ≤ g ∧ g < w.heap.size ∧ n ≤ cap ∧ cap ≤ maxLen := by
  rcases h.2 with ⟨_, h0⟩ | ⟨g, cap, cur, rfl, hg, hh, hc, hm, _⟩
  · omega
  · exact ⟨g, cap, rfl, hg, (Array.getElem?_eq_some_iff.1 hh).1, hc, hm⟩

set_option maxRecDepth 100000 in
set_option maxHeartbeats 1600000 in
theorem counts_any (n : Nat) (hn : n ≤ 9) (w : World) :
    Calls Try.prog 71 #[.int .i64 n] w (Owns w 3 (catV (n + 1)) fun _ => True) := by
  obtain ⟨i0, hi, hz0, hz1, hz2⟩ := info_parts Try.infoInt
  go_enter Try.func71, Try.ntmps71
  go_wp2
  go_loopw [3, 4] (fun v i wr => ∃ k : Nat, 1 ≤ k ∧ k ≤ n + 1 ∧ i = .int .i64 k ∧ wr.ownsRow w.heap.size 3 1 v k (catV k) ∧ Below w.heap.size w wr) (fun _ i _ => n + 1 - (intOf i).toNat)
  case atStart => exact ⟨1, by omega, by omega, rfl, World.ownsRow_lit w #[.int .i64 1] 1 (Nat.le_refl _) (by decide) (by rfl), (Below.refl _ _).alloc (Nat.le_refl _) _⟩
  case round =>
    obtain ⟨k, hk1, hk, rfl, hown, hb⟩ := hrel
    by_cases hlt : k ≤ n
    · obtain ⟨g, cap, rfl, hg, hgl, hc, hcm⟩ := own_form hown (by omega)
      go_wp2
      obtain ⟨wo, rfl⟩ : ∃ wo : World, wo = wr := ⟨_, rfl⟩
      go_loopw [5, 6] (fun x i wi => ∃ j : Nat, j ≤ k ∧ x = .int .i64 (ps k j) ∧ i = .int .i64 j ∧ wi.ownsRow w.heap.size 3 1 (.slice (some ⟨g, 0, none⟩) k cap) k (catV k) ∧ Below w.heap.size w wi) (fun _ i _ => k - (intOf i).toNat)
      case atStart => exact ⟨0, Nat.zero_le _, rfl, rfl, hown, hb⟩
      case round =>
        clear hown hb
        obtain ⟨j, hj, rfl, rfl, hown, hb⟩ := hrel
        have hp := ps_bd k (by omega) j hj
        by_cases hjk : j < k
        · have h1 := (hown.cellAt j (by omega)).trans (catV_at k j hjk)
          have h2 := (hown.cellAt (k - 1 - j) (by omega)).trans (catV_at k (k - 1 - j) (by omega))
          have hpr := prod_bd k (by omega) j hjk
          have hnx := ps_bd k (by omega) (j + 1) hjk
          have hps : ps k (j + 1) = ps k j + cat j * cat (k - 1 - j) := rfl
          obtain ⟨A, hA⟩ : ∃ A, A = cat j := ⟨_, rfl⟩
          obtain ⟨B, hB⟩ : ∃ B, B = cat (k - 1 - j) := ⟨_, rfl⟩
          obtain ⟨X, hX⟩ : ∃ X, X = ps k j := ⟨_, rfl⟩
          rw [← hA] at h1 hpr hps
          rw [← hB] at h2 hpr hps
          rw [hps] at hnx
          rw [← hX] at hp hps hnx ⊢
          have HPS := Lib.hid hps
          have w1 : IntKind.i64.wrap (A * B) = A * B := by rw [IntKind.wrap_i64]; omega
          have e0 : ((k : Int) - 1 - (j : Int)).toNat = k - 1 - j := by omega
          have b1 : (0 : Int) ≤ (k : Int) - 1 - (j : Int) := by omega
          have b2 : (k : Int) - 1 - (j : Int) < (k : Int) := by omega
          have b3 : (j : Int) < (k : Int) := by omega
          clear hA hB hX hps
          go_wp2
          go_quiet (fail)
          go_wp2
          go_roundw
          case rel => exact ⟨j + 1, by omega, by rw [HPS.out], by go_num, hown, below_drewN hb _⟩
          case measure => simp [intOf]; omega
        · obtain rfl : j = k := by omega
          have e1 := Lib.hid (ps_full j hk1 (by omega))
          rw [e1.out]
          have hsz := hb.size
          have hcb := cat_bd j (by omega)
          clear hp
          go_wp2_with (at_builtin; refine wpList_append_own _ rfl _ _ 23 rfl w.heap.size 3 i0 (.int .i64 0) 1 8 Try.underlying23 hi hz0 hz1 hz2 rfl (by decide) _ _ _ rfl (hown.alloc _) ⟨wr.heap.size, 0, none⟩ 1 1 [.int .i64 (cat j)] rfl rfl ?c1 ?c2 ?c3 ?c4 ?c5 ?_)
          case c1 => exact cell_one_new _ _ _
          case c2 => intro u hu; simp at hu; subst hu; rfl
          case c3 => unfold maxLen; omega
          case c4 => omega
          case c5 => simp; omega
          intro v' w1 hown' hgrow _
          have hb1 : Below w.heap.size w w1 := (hb.alloc (by omega) _).grown hgrow (by simp; omega) (fun q hq => by simp [Value.ownBlock] at hq; omega)
          rw [catV_snoc] at hown'
          clear hown hgrow
          go_wp2
          go_roundw
          case rel => exact ⟨j + 1, by omega, by omega, by go_num, hown', hb1⟩
          case measure => simp [intOf]; omega
    · obtain rfl : k = n + 1 := by omega
      go_wp2
      go_ret
      exact ⟨_, rfl, by rw [catV_length]; exact hown, hb, trivial⟩
end Go.Proofs.Ytakpbnkncjddeaa
