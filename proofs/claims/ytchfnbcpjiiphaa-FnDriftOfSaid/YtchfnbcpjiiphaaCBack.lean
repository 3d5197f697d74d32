/-
  The contract of the laws' function that returns a list the other way round.
-/
import Derived.Test.YtchfnbcpjiiphaaCInts
namespace Go.Proofs.Ytchfnbcpjiiphaa
open Go.RowKit

theorem Try.infoIntB : (Try.prog.info? 3).map (fun i => (i.zero, i.size, i.bytes)) = some (some (.int .i64 0), 1, 8) := by kernel_rfl
theorem back_snoc (l : List Int) (k : Nat) (h : k < l.length) : (l.drop (k + 1)).reverse ++ [l[k]] = (l.drop k).reverse := by
  rw [← List.reverse_cons, ← List.drop_eq_getElem_cons h]
def lenOfB : Value → Nat | .slice _ n _ => n | _ => 0
theorem own_someB {w : World} {B n : Nat} {t : TypeId} {v : Value} {xs : List Value} (h : w.ownsRow B t 1 v n xs) (hv : v ≠ .slice none 0 0) : ∃ g cap, v = .slice (some ⟨g, 0, none⟩) n cap := by
  rcases h.2 with ⟨h0, _⟩ | ⟨g, cap, cur, h1, _⟩
  · exact absurd h0 hv
  · exact ⟨g, cap, h1⟩
set_option maxHeartbeats 1600000 in
theorem backwards_any (l : List Int) (v : Value) (w : World) {B H : Nat} (hv : Hid (Own w B H 3 v (iv l))) (hH : H ≤ w.heap.size) (hl : l.length ≤ 1048576) :
    Calls Try.prog 20 #[v] w fun e w' => ∃ v', e = .returned v' ∧ Own w' w.heap.size w'.heap.size 3 v' (iv l.reverse) ∧ Below w.heap.size w w' := by
  obtain ⟨i0, hi, hz0, hz1, hz2⟩ := info_parts Try.infoIntB
  obtain ⟨av, cv, rfl, _, hcv, _, _⟩ := hv.out.slice
  rw [iv_length] at hv hcv ⊢
  have hst : (w.alloc (.cells #[] 3)).ownsRow w.heap.size 3 1 (.slice (some ⟨w.heap.size, 0, none⟩) 0 0) 0 (iv []) := World.ownsRow_lit (base := w.heap.size) (e := 3) (size := 1) w #[] 0 (Nat.le_refl _) (by decide) rfl
  have hb0 : Below w.heap.size w (w.alloc (.cells #[] 3)) := (Below.refl _ _).alloc (Nat.le_refl _) _
  obtain ⟨n, hn⟩ : ∃ n, n = l.length := ⟨_, rfl⟩
  have HN := Lib.hid hn
  rw [← hn] at hv hcv hl ⊢
  obtain ⟨G, hG⟩ : ∃ G, G = w.heap.size := ⟨_, rfl⟩
  rw [← hG] at hst hb0 hH ⊢
  have e0 : IntKind.i64.wrap ((n : Int) - 1) = (n : Int) - 1 := by rw [IntKind.wrap_i64]; omega
  have hdn : l.drop n = [] := by rw [hn]; exact List.drop_length
  have HDN := Lib.hid hdn
  clear hdn hn
  go_enter Try.func20, Try.ntmps20
  go_wp2
  rw [← hG]
  have HG := Lib.hid hG
  clear hG
  go_loopw [3, 4] (fun out i wr => ∃ k m : Nat, k ≤ n ∧ m + k = n ∧ out ≠ .slice none 0 0 ∧ i = .int .i64 ((k : Int) - 1) ∧ wr.ownsRow G 3 1 out m (iv (l.drop k).reverse) ∧ Below G w wr) (fun out _ _ => n - lenOfB out)
  case atStart => exact ⟨n, 0, Nat.le_refl _, by omega, by simp, rfl, by rw [HDN.out]; exact hst, hb0⟩
  case round =>
    clear hst hb0
    obtain ⟨k, m, hk, hm, hnil, rfl, hown, hb⟩ := hrel
    obtain ⟨g, cp, rfl⟩ := own_someB hown hnil
    have hsz : G ≤ wr.heap.size := by have := (hown.lt g rfl).1; have := (hown.lt g rfl).2; omega
    by_cases hk0 : k = 0
    · subst hk0
      have b1 : ¬ (0 : Int) ≤ ((0 : Nat) : Int) - 1 := by omega
      have HO := Lib.hid hown
      have HM : Hid (m = n) := by show _ = _; omega
      have b2 : ¬ (0 : Int) ≤ -1 := by omega
      clear hown hm
      go_wp2
      go_ret
      have h1 : (iv (l.drop 0).reverse).length = m := by rw [iv_length, List.length_reverse, List.drop_zero, HM.out, HN.out]
      refine ⟨_, rfl, ?_, hb⟩
      have h2 := HO.out
      rw [List.drop_zero] at h2 h1
      exact ⟨by rw [h1]; exact h2, fun g' hg' => (h2.lt g' hg').2⟩
    · obtain ⟨j, rfl⟩ : ∃ j, k = j + 1 := ⟨k - 1, by omega⟩
      have hjl : j < l.length := by rw [← HN.out]; omega
      have hb' := hb.mono hH
      obtain ⟨g1, rfl, _, hg1, h1, _⟩ := (hv.out.below hb').at_ j (by rw [iv_length]; exact hjl)
      rw [iv_at l j hjl] at h1
      have SN := Lib.hid (back_snoc l j hjl)
      obtain ⟨x, hx⟩ : ∃ x, x = l[j] := ⟨_, rfl⟩
      rw [← hx] at h1 SN
      obtain ⟨p, hp⟩ : ∃ p : Int, p = ((j + 1 : Nat) : Int) - 1 := ⟨_, rfl⟩
      rw [← hp]
      obtain rfl : p = (j : Int) := by omega
      have b1 : (0 : Int) ≤ (j : Int) := by omega
      have b2 : (j : Int) < (n : Int) := by omega
      have e2 : IntKind.i64.wrap ((j : Int) - 1) = (j : Int) - 1 := by rw [IntKind.wrap_i64]; omega
      clear hx hb' hp hk0
      go_wp2_with (at_builtin; refine wpList_append_own _ rfl _ _ 23 rfl G 3 i0 (.int .i64 0) 1 8 Try.underlying23 hi hz0 hz1 hz2 rfl (by decide) _ _ _ rfl (hown.alloc _) ⟨wr.heap.size, 0, none⟩ 1 1 [.int .i64 x] rfl rfl ?c1 ?c2 ?c3 ?c4 ?c5 ?_)
      case c1 => exact cell_one_new _ _ _
      case c2 => intro u hu; simp at hu; subst hu; rfl
      case c3 => unfold maxLen; omega
      case c4 => omega
      case c5 => simp; omega
      intro v' w7 hown7 hg7 hn7
      rw [iv_snoc, SN.out] at hown7
      have hb67 : Below G wr w7 := ((Below.refl _ _).alloc hsz _).grown hg7 (by simp; omega) (fun r hr => (hown.lt r hr).1)
      have hb7 := hb.trans hb67
      clear hown hg7 hb67 hb
      go_wp2
      go_roundw
      case rel => exact ⟨j, m + 1, by omega, by omega, hn7, by first | rfl | rw [e2], hown7, hb7⟩
      case measure =>
        obtain ⟨g', cp', rfl⟩ := own_someB hown7 hn7
        simp only [lenOfB]; omega
end Go.Proofs.Ytchfnbcpjiiphaa
