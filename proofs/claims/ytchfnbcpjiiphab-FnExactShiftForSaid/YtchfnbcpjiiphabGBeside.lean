/-
  A well-founded tree of steps is carried out beside goroutines that only leave, on whatever tape.
-/
import Derived.Test.YtchfnbcpjiiphabGWellB
namespace Go.Proofs.Ytchfnbcpjiiphab
open Go Go.Conc
open Go.ConcN (sumTo upd sumTo_upd upd_ne upd_same)

/-- how a crowd stands between two calls that start goroutines: goroutine 0 is g, all others only leave, all that was done is known -/
structure Bed (P : Program) (g : Goroutine) (gs : Array Goroutine) (t : Trace) (q : Nat → Nat) : Prop where
  top : gs[0]? = some g
  old : Leavers P t gs q
  past : ∃ B, Past (fun _ => False) B t
/-- from goroutine 0 at g in world w, whatever the tape, and whoever is leaving, the run comes to a place of the same kind at which Q holds -/
def To (P : Program) (g : Goroutine) (w : World) (Q : Goroutine → World → Prop) : Prop :=
  ∀ w₁ gs sl t q, Like w w₁ → Bed P g gs t q → ∃ N gs' g' w' sl' t' q', runNT P N (crowd gs w₁ sl) t = (.next (crowd gs' w' sl'), t') ∧ Bed P g' gs' t' q' ∧ Q g' w'
theorem to_refl {P : Program} {g : Goroutine} {w : World} {Q : Goroutine → World → Prop} (h : ∀ w₁, Like w w₁ → Q g w₁) : To P g w Q :=
  fun w₁ gs sl t q hl hb => ⟨0, gs, g, w₁, sl, t, q, rfl, hb, h w₁ hl⟩
theorem runNT_add (P : Program) (a b : Nat) (m m₁ : Machine) (t t₁ : Trace) (h : runNT P a m t = (.next m₁, t₁)) : runNT P (a + b) m t = runNT P b m₁ t₁ := by
  induction a generalizing m t with
  | zero =>
    simp only [runNT, Prod.mk.injEq, Stepped.next.injEq] at h
    rw [h.1, h.2, Nat.zero_add]
  | succ a ih =>
    rw [show a + 1 + b = (a + b) + 1 by omega]
    simp only [runNT] at h ⊢
    split at h
    · rename_i m' ops hs
      first | rw [hs] | skip
      exact ih _ _ h
    · cases h
      rename_i hne _
      exact (hne _ rfl).elim
theorem to_trans {P : Program} {g : Goroutine} {w : World} {Q R : Goroutine → World → Prop} (h : To P g w Q) (h' : ∀ g' w', Q g' w' → To P g' w' R) : To P g w R := by
  intro w₁ gs sl t q hl hb
  obtain ⟨N, gs1, g1, w1, sl1, t1, q1, hr, hb1, hq⟩ := h w₁ gs sl t q hl hb
  obtain ⟨N', gs2, g2, w2, sl2, t2, q2, hr2, hb2, hq2⟩ := h' g1 w1 hq w1 gs1 sl1 t1 q1 (Like.refl w1) hb1
  exact ⟨N + N', gs2, g2, w2, sl2, t2, q2, by rw [runNT_add P N N' _ _ _ _ hr]; exact hr2, hb2, hq2⟩
theorem to_mono {P : Program} {g : Goroutine} {w : World} {Q R : Goroutine → World → Prop} (h : To P g w Q) (h' : ∀ g' w', Q g' w' → R g' w') : To P g w R := by
  intro w₁ gs sl t q hl hb
  obtain ⟨N, gs1, g1, w1, sl1, t1, q1, hr, hb1, hq⟩ := h w₁ gs sl t q hl hb
  exact ⟨N, gs1, g1, w1, sl1, t1, q1, hr, hb1, h' _ _ hq⟩
/-- the tape is no matter of the world that one starts from, nor what is counted at channels -/
theorem to_like {P : Program} {g : Goroutine} {w w₁ : World} {Q : Goroutine → World → Prop} (h : To P g w Q) (hl : Like w w₁) : To P g w₁ Q :=
  fun w₂ gs sl t q h₂ hb => h w₂ gs sl t q (hl.trans h₂) hb

section
variable {P : Program}
/-- one step of goroutine 0, whatever the tape, and what follows -/
theorem to_step {g : Goroutine} {w : World} {Q : Goroutine → World → Prop} (hrun : g.status = .running)
    (h : ∀ w₁, Like w w₁ → ∃ g' w' es, stepG P true g w₁ = .go g' w' es ∧ (∀ e ∈ es, EvL (fun _ => False) w'.heap.size e) ∧ w.heap.size ≤ w'.heap.size ∧ To P g' w' Q) : To P g w Q := by
  have main : ∀ (M : Nat) (w₁ : World) gs sl t q, sumTo gs.size q < M → Like w w₁ → Bed P g gs t q →
      ∃ N gs' g' w' sl' t' q', runNT P N (crowd gs w₁ sl) t = (.next (crowd gs' w' sl'), t') ∧ Bed P g' gs' t' q' ∧ Q g' w' := by
    intro M
    induction M with
    | zero => exact fun w₁ gs sl t q hM => absurd hM (Nat.not_lt_zero _)
    | succ M ih =>
      intro w₁ gs sl t q hM hlk hB
      obtain ⟨h0, hL, B, hP⟩ := hB
      have haw : ∀ x ∈ gs, awake x := by
        intro x hx
        obtain ⟨i, hi, rfl⟩ := Array.mem_iff_getElem.1 hx
        rcases Nat.eq_zero_or_pos i with rfl | hpos
        · have : gs[0] = g := by simpa [Array.getElem?_eq_getElem hi] using h0
          rw [this]; exact awake_of (.inl hrun)
        · exact awake_of ((hL.old i _ hpos (Array.getElem?_eq_getElem hi)).status.elim .inl fun x => .inr (.inr x))
      obtain ⟨i, x, d', sl', hi, hg, hst⟩ := crowd_pick (P := P) (w := w₁) (sl := sl) haw ⟨0, g, h0, hrun⟩
      have hlk' : Like w (w₁.at d') := hlk.trans (Like.ona w₁ w₁.tape d')
      rcases Nat.eq_zero_or_pos i with rfl | hpos
      · obtain rfl : x = g := by rw [h0] at hi; exact (Option.some.inj hi).symm
        obtain ⟨g', w', es, hgo, hes, _, hto⟩ := h (w₁.at d') hlk'
        have hrunT := runT_crowd_go (P := P) (sl := sl') (i := 0) hi (show stepG P (0 == 0) x (w₁.at d') = _ from hgo)
        have hlt : 0 < gs.size := (Array.getElem?_eq_some_iff.1 h0).1
        have hbed : Bed P g' ((gs.map (woken P x g' w')).setIfInBounds 0 g') (t ++ MemOp.ofEvents 0 x.frame.fn x.frame.place es) q := by
          refine ⟨by simp [hlt], ⟨fun j y hj hy => ?_, fun j hj => ?_⟩, ⟨max B w'.heap.size, (hP.mono (Nat.le_max_left _ _)).own fun e he => ⟨(hes e he).1, (hes e he).2.1, (hes e he).2.2.1, MemAct.low_mono (Nat.le_max_right _ _) (hes e he).2.2.2⟩⟩⟩
          · have hne : 0 ≠ j := by omega
            rw [Array.getElem?_setIfInBounds_ne hne, Array.getElem?_map] at hy
            obtain ⟨z, hz', rfl⟩ := Option.map_eq_some_iff.1 hy
            have hq := hL.old j z hj hz'
            rw [woken_quitsD hq, Deaf_other t (by omega) _ (fun op hop => by obtain ⟨e, _, rfl⟩ := Go.Conc.mem_ofEvents hop; rfl)]
            exact hq
          · rw [Deaf_other t (g' := 0) (by simp at hj; omega) _ (fun op hop => by obtain ⟨e, _, rfl⟩ := Go.Conc.mem_ofEvents hop; rfl)]
            exact hL.above j (by simpa using hj)
        obtain ⟨N, gs', g'', w'', sl'', t', q', hr, hb, hq⟩ := hto w' _ sl' _ q (Like.refl w') hbed
        exact ⟨N + 1, gs', g'', w'', sl'', t', q', by simp only [runNT, hst, hrunT]; exact hr, hb, hq⟩
      · have hq := hL.old i x hpos hi
        have hi0 : (i == 0) = false := by simp; omega
        have hlt : i < gs.size := (Array.getElem?_eq_some_iff.1 hi).1
        cases hqi : q i with
        | zero => rw [hqi] at hq; rw [hq.1] at hg; cases hg
        | succ k =>
          rw [hqi] at hq
          rcases hq with ⟨hf, _⟩ | ⟨_, g', es, hm, hstp, hq'⟩
          · rw [hf] at hg; cases hg
          have hrunT := runT_crowd_go (P := P) (sl := sl') (i := i) hi (by rw [hi0]; exact hstp (w₁.at d'))
          have hsz : ((gs.map (woken P x g' (w₁.at d'))).setIfInBounds i g').size = gs.size := by simp
          have hsum : sumTo gs.size (upd q i k) + (k + 1) = sumTo gs.size q + k := by
            have := sumTo_upd q k id hlt
            simpa [hqi] using this
          have hbed : Bed P g ((gs.map (woken P x g' (w₁.at d'))).setIfInBounds i g') (t ++ MemOp.ofEvents i x.frame.fn x.frame.place es) (upd q i k) := by
            refine ⟨?_, ⟨fun j y hj hy => ?_, fun j hj => ?_⟩, ⟨B, hP.mute (by omega) hm⟩⟩
            · have hne : i ≠ 0 := by omega
              rw [Array.getElem?_setIfInBounds_ne hne, Array.getElem?_map, h0]
              simp [woken_run hrun]
            · by_cases hji : i = j
              · subst hji
                rw [Array.getElem?_setIfInBounds_self_of_lt (by simpa using hlt)] at hy
                obtain rfl := Option.some.inj hy
                rw [upd_same, Deaf_own]
                exact hq'
              · rw [Array.getElem?_setIfInBounds_ne hji, Array.getElem?_map] at hy
                obtain ⟨z, hz', rfl⟩ := Option.map_eq_some_iff.1 hy
                have hqj := hL.old j z hj hz'
                rw [woken_quitsD hqj, upd_ne q k (Ne.symm hji), Deaf_other t hji _ (fun op hop => by obtain ⟨e, _, rfl⟩ := Go.Conc.mem_ofEvents hop; rfl)]
                exact hqj
            · rw [Deaf_other t (g' := i) (by simp at hj; omega) _ (fun op hop => by obtain ⟨e, _, rfl⟩ := Go.Conc.mem_ofEvents hop; rfl)]
              exact hL.above j (by simpa using hj)
          obtain ⟨N, gs', g'', w'', sl'', t', q', hr, hb, hq⟩ := ih (w₁.at d') _ sl' _ _ (by rw [hsz]; omega) hlk' hbed
          exact ⟨N + 1, gs', g'', w'', sl'', t', q', by simp only [runNT, hst, hrunT]; exact hr, hb, hq⟩
  exact fun w₁ gs sl t q hl hB => main _ w₁ gs sl t q (Nat.lt_succ_self _) hl hB
/-- a well-founded tree of steps is carried out beside goroutines that only leave -/
theorem well_to {Stop : Frame → World → Prop} {fr : Frame} {cs : List Frame} {w : World} (h : Well P Stop fr cs w) (base : List Frame) : To P (G fr (cs ++ base)) w fun g' w' => ∃ fr', g' = G fr' base ∧ Stop fr' w' := by
  induction h with
  | stop h => exact to_refl fun w₁ hl => ⟨_, rfl, h w₁ hl⟩
  | step F h he _ ih => exact to_step rfl fun w₁ hl => ⟨_, _, _, h w₁ hl base true, (he w₁ hl).1, (he w₁ hl).2, ih w₁ hl⟩
end
end Go.Proofs.Ytchfnbcpjiiphab
