/-
  The go statement among goroutines that only leave: from there to where the channel has been found closed.
-/
import Derived.Test.YtchfnbcpjiiphaaGPhaseB
import Derived.Test.YtchfnbcpjiiphaaZH
namespace Go.Proofs.Ytchfnbcpjiiphaa
open Go Go.Conc
open Go.ConcN (sumTo upd sumTo_upd upd_ne upd_same)
section
variable {P : Program}
theorem to_spawn {g : Goroutine} {w : World} {Q : Goroutine → World → Prop} (hrun : g.status = .running)
    (h : ∀ w₁, Like w w₁ → ∃ g' child c S Mine z Fin vs, stepG P true g w₁ = .spawn g' child w₁ #[] ∧ (∀ a b, Aside c a b → S a → S b) ∧ S w₁ ∧ (∃ s r, w₁.heap[c]? = some (Obj.chan 0 #[] false s r false)) ∧
      Recvs P c S Mine z Fin vs g' w₁ ∧ Sends P c S Mine vs child ∧ ∀ g'' w'', Fin g'' w'' → Q g'' w'') : To P g w Q := by
  have main : ∀ (M : Nat) (w₁ : World) gs sl t q, sumTo gs.size q < M → Like w w₁ → Bed P g gs t q →
      ∃ N gs' g' w' sl' t' q', runNT P N (crowd gs w₁ sl) t = (.next (crowd gs' w' sl'), t') ∧ Bed P g' gs' t' q' ∧ Q g' w' := by
    intro M
    induction M with
    | zero => exact fun w₁ gs sl t q hM => absurd hM (Nat.not_lt_zero _)
    | succ M ih =>
      intro w₁ gs sl t q hM hlk hB
      obtain ⟨h0, hL, B, hP⟩ := hB
      have haw : ∀ x ∈ gs, awake x := by
        intro x hx
        obtain ⟨i, hi, rfl⟩ := Array.mem_iff_getElem.1 hx
        rcases Nat.eq_zero_or_pos i with rfl | hpos
        · have : gs[0] = g := by simpa [Array.getElem?_eq_getElem hi] using h0
          rw [this]; exact awake_of (.inl hrun)
        · exact awake_of ((hL.old i _ hpos (Array.getElem?_eq_getElem hi)).status.elim .inl fun x => .inr (.inr x))
      obtain ⟨i, x, d', sl', hi, hg, hst⟩ := crowd_pick (P := P) (w := w₁) (sl := sl) haw ⟨0, g, h0, hrun⟩
      have hlk' : Like w (w₁.at d') := hlk.trans (Like.ona w₁ w₁.tape d')
      rcases Nat.eq_zero_or_pos i with rfl | hpos
      · obtain rfl : x = g := by rw [h0] at hi; exact (Option.some.inj hi).symm
        obtain ⟨g', child, c, S, Mine, z, Fin, vs, hsp, hSt, hS, hch, hR, hS', hQ⟩ := h (w₁.at d') hlk'
        have hrunT := runT_crowd_spawn (P := P) (sl := sl') (i := 0) hi (show stepG P (0 == 0) x (w₁.at d') = _ from hsp)
        have hlt : 0 < gs.size := (Array.getElem?_eq_some_iff.1 h0).1
        obtain ⟨na, hna⟩ := (recvs_iff P c S Mine z _ vs _ _).1 hR
        obtain ⟨nb, hnb⟩ := (sends_iff P c S Mine vs _).1 hS'
        have hops : ((MemOp.ofEvents 0 x.frame.fn x.frame.place #[]).push { g := 0, fn := x.frame.fn, pos := x.frame.place, act := .go gs.size }).push { g := gs.size, fn := child.frame.fn, pos := x.frame.place, act := .start } =
            #[{ g := 0, fn := x.frame.fn, pos := x.frame.place, act := .go gs.size }, { g := gs.size, fn := child.frame.fn, pos := x.frame.place, act := .start }] := rfl
        rw [hops] at hrunT
        have hinv : PInv P c gs.size t.size S Mine z Fin (vs.length + 2, (na + 1) + (nb + 1) + sumTo ((gs.setIfInBounds 0 g').push child).size q) ((gs.setIfInBounds 0 g').push child) (w₁.at d')
            (t ++ #[{ g := 0, fn := x.frame.fn, pos := x.frame.place, act := .go gs.size }, { g := gs.size, fn := child.frame.fn, pos := x.frame.place, act := .start }]) := by
          refine .opn vs (na + 1) (nb + 1) q ⟨hS, hch, ⟨g', ?_, .inl ⟨na, rfl, hna⟩⟩, ⟨child, ?_, .inl ⟨nb, rfl, hnb⟩⟩, by omega, Mid.ofGo hP (by omega) (hL.above _ (Nat.le_refl _)) ⟨rfl, rfl⟩ ⟨rfl, rfl⟩, ⟨fun m y hm hmj hy => ?_, fun m hm => ?_⟩⟩ rfl
          · rw [Array.getElem?_push]
            have : ¬ 0 = (gs.setIfInBounds 0 g').size := by simp; omega
            simp only [this, if_false]
            exact get_set0 h0
          · rw [Array.getElem?_push]
            simp
          · rw [deaf_calm (by simp)]
            rw [Array.getElem?_push] at hy
            have : ¬ m = (gs.setIfInBounds 0 g').size := by simpa using hmj
            simp only [this, if_false] at hy
            rw [Array.getElem?_setIfInBounds_ne (by omega)] at hy
            exact hL.old m y hm hy
          · rw [deaf_calm (by simp)]
            exact hL.above m (by simp at hm; omega)
        obtain ⟨N, gs', g'', w'', sl'', t', q', hr, hb, hf⟩ := phase hSt _ _ _ sl' _ hinv
        exact ⟨N + 1, gs', g'', w'', sl'', t', q', by simp only [runNT, hst, hrunT]; exact hr, hb, hQ _ _ hf⟩
      · have hq := hL.old i x hpos hi
        have hi0 : (i == 0) = false := by simp; omega
        have hlt : i < gs.size := (Array.getElem?_eq_some_iff.1 hi).1
        cases hqi : q i with
        | zero => rw [hqi] at hq; rw [hq.1] at hg; cases hg
        | succ k =>
          rw [hqi] at hq
          rcases hq with ⟨hf, _⟩ | ⟨_, g', es, hm, hstp, hq'⟩
          · rw [hf] at hg; cases hg
          have hrunT := runT_crowd_go (P := P) (sl := sl') (i := i) hi (by rw [hi0]; exact hstp (w₁.at d'))
          have hsz : ((gs.map (woken P x g' (w₁.at d'))).setIfInBounds i g').size = gs.size := by simp
          have hsum := sum_slip hlt hqi
          have hbed : Bed P g ((gs.map (woken P x g' (w₁.at d'))).setIfInBounds i g') (t ++ MemOp.ofEvents i x.frame.fn x.frame.place es) (upd q i k) := by
            refine ⟨?_, ⟨fun l y hl hy => ?_, fun l hl => ?_⟩, B, hP.mute (by omega) hm⟩
            · have hne : i ≠ 0 := by omega
              rw [Array.getElem?_setIfInBounds_ne hne, Array.getElem?_map, h0]
              simp [woken_run hrun]
            · by_cases hil : i = l
              · subst hil
                rw [Array.getElem?_setIfInBounds_self_of_lt (by simpa using hlt)] at hy
                obtain rfl := Option.some.inj hy
                rw [upd_same, Deaf_own]
                exact hq'
              · rw [Array.getElem?_setIfInBounds_ne hil, Array.getElem?_map] at hy
                obtain ⟨z, hz', rfl⟩ := Option.map_eq_some_iff.1 hy
                have hqj := hL.old l z hl hz'
                rw [woken_quitsD hqj, upd_ne q k (Ne.symm hil), Deaf_other t hil _ (fun op hop => by obtain ⟨e, _, rfl⟩ := Go.Conc.mem_ofEvents hop; rfl)]
                exact hqj
            · rw [Deaf_other t (g' := i) (by simp at hl; omega) _ (fun op hop => by obtain ⟨e, _, rfl⟩ := Go.Conc.mem_ofEvents hop; rfl)]
              exact hL.above l (by simpa using hl)
          obtain ⟨N, gs', g'', w'', sl'', t', q', hr, hb, hq⟩ := ih (w₁.at d') _ sl' _ _ (by rw [hsz]; omega) hlk' hbed
          exact ⟨N + 1, gs', g'', w'', sl'', t', q', by simp only [runNT, hst, hrunT]; exact hr, hb, hq⟩
  exact fun w₁ gs sl t q hl hB => main _ w₁ gs sl t q (Nat.lt_succ_self _) hl hB
end
end Go.Proofs.Ytchfnbcpjiiphaa
