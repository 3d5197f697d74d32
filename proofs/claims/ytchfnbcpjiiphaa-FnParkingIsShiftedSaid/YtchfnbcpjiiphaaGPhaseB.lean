/-
  .. closed; and the theorem of the phase.
-/
import Derived.Test.YtchfnbcpjiiphaaGPhase
namespace Go.Proofs.Ytchfnbcpjiiphaa
open Go Go.Conc
open Go.ConcN (sumTo upd sumTo_upd upd_ne upd_same)
section
variable {P : Program} {c j p : Nat} {S : World → Prop} {Mine : Loc → Prop} {z : Value} {Fin : Goroutine → World → Prop}
theorem shut_app {t u : Trace} (h : ∃ pc, (∃ op, t[pc]? = some op ∧ op.g = j ∧ op.act = .close c ∧ t.heard pc) ∧ ∀ i op, t[i]? = some op → op.g = j → (op.act.touch?).isSome = true → i ≤ pc)
    (hu : ∀ op ∈ u, op.g = j → op.act.touch? = none) :
    ∃ pc, (∃ op, (t ++ u)[pc]? = some op ∧ op.g = j ∧ op.act = .close c ∧ (t ++ u).heard pc) ∧ ∀ i op, (t ++ u)[i]? = some op → op.g = j → (op.act.touch?).isSome = true → i ≤ pc := by
  obtain ⟨pc, ⟨op, h1, h2, h3, h4⟩, h5⟩ := h
  have hlt := lt_size_of_getElem? h1
  refine ⟨pc, ⟨op, by rw [getElem?_append_old hlt]; exact h1, h2, h3, (heard_old hlt).2 h4⟩, fun i o ho hg ht => ?_⟩
  rcases getElem?_append_cases ho with ⟨_, ho'⟩ | ⟨_, hm⟩
  · exact h5 i o ho' hg ht
  · rw [hu o hm hg] at ht; cases ht
theorem phase_shut {n k : Nat} {gs : Array Goroutine} {w : World} {sl : Option (Nat × Nat)} {t : Trace} {q : Nat → Nat} (h : Shu P c j p S Mine z Fin n k gs w t q) :
    Next1 P c j p S Mine z Fin (1, n + k + sumTo gs.size q) gs w sl t := by
  obtain ⟨⟨s, r, hc⟩, ⟨a, ha, hA⟩, ⟨b, hb, hB⟩, hM, hC, hsh⟩ := h
  have hj := hM.jpos
  have hra : a.status = .running := hA.running (fun _ _ => StopA.running) w (Aside.refl c w)
  have haw : ∀ x ∈ gs, awake x := by
    intro x hx
    obtain ⟨i, hi, rfl⟩ := Array.mem_iff_getElem.1 hx
    by_cases h0 : i = 0
    · subst h0
      have : gs[0] = a := by simpa [Array.getElem?_eq_getElem hi] using ha
      rw [this]; exact awake_of (.inl hra)
    by_cases h1 : i = j
    · subst h1
      have : gs[i] = b := by simpa [Array.getElem?_eq_getElem hi] using hb
      rw [this]; exact awake_of (hB.status.elim .inl fun x => .inr (.inr x))
    · exact awake_of ((hC.old i _ (by omega) h1 (Array.getElem?_eq_getElem hi)).status.elim .inl fun x => .inr (.inr x))
  obtain ⟨i, x, d, sl', hi, hg, hst⟩ := crowd_pick (P := P) (w := w) (sl := sl) haw ⟨0, a, ha, hra⟩
  have hAs : Aside c w (w.at d) := Aside.at c w d
  have hc1 : (w.at d).heap[c]? = some (.chan 0 #[] true s r false) := hc
  have hj0 : (j == 0) = false := by simpa using hj
  by_cases hi0 : i = 0
  · subst hi0
    obtain rfl : x = a := by rw [ha] at hi; exact (Option.some.inj hi).symm
    rcases hA.cases with hstop | ⟨n', rfl, hstep⟩
    · -- goroutine 0 finds the channel closed
      have hat := hstop _ hAs
      obtain ⟨es, hcomm, hes⟩ := hat.comm
      have hfin := hat.nil _ (Aside.refl c _)
      have hp : partners (gs.setIfInBounds 0 ph) c true = [] := partners_nil fun m y hm => by
        rcases getElem?_stand gs 0 m y hm with ⟨_, rfl⟩ | ⟨hm0, hm'⟩
        · exact offersAt_ph _ _
        · by_cases hmj : m = j
          · subst hmj; rw [hb] at hm'; obtain rfl := Option.some.inj hm'
            exact offersAt_of_not_blocked (by rcases hB.status with e | e <;> rw [e] <;> simp) _ _
          · exact hC.silent c true m y (by omega) hmj hm'
      have hrun := crowd_recv_closed (sl := sl') hi (show stepG P (0 == 0) x (w.at d) = _ from hcomm) hc1 hp
      rw [finishComm_recv] at hrun
      have hM1 := hM.own0 (fn := x.frame.fn) (pos := x.frame.place) hes
      have hM2 := hM1.comm (u := #[{ g := 0, fn := (core x).frame.fn, pos := (core x).frame.place, act := .recvClosed c }]) (by simp [MemAct.touch?])
      have hC2 : Crew P j ((t ++ MemOp.ofEvents 0 x.frame.fn x.frame.place es) ++ #[{ g := 0, fn := (core x).frame.fn, pos := (core x).frame.place, act := .recvClosed c }]) (gs.setIfInBounds 0 (Go.Conc.served (core x) (recvd true z false))) q := by
        refine Crew.keep (gs := gs) (hC.keep (gs' := gs) rfl (fun _ _ _ _ h => h) (calm_ofEvents fun e he => (hes e he).1)) (by simp) (fun m y hm hmj hy => ?_) (by simp)
        rw [Array.getElem?_setIfInBounds_ne (by omega)] at hy
        exact hy
      have hsh2 := shut_app (u := #[{ g := 0, fn := (core x).frame.fn, pos := (core x).frame.place, act := .recvClosed c }]) (shut_app (u := MemOp.ofEvents 0 x.frame.fn x.frame.place es) hsh
        (fun op hop hgj => by obtain ⟨e, _, rfl⟩ := Go.Conc.mem_ofEvents hop; exact absurd hgj (Ne.symm hj))) (fun op hop hgj => by
          obtain rfl := by simpa using hop
          exact absurd hgj (Ne.symm hj))
      obtain ⟨pc, hcl, hlast⟩ := hsh2
      have hpr : ((t ++ MemOp.ofEvents 0 x.frame.fn x.frame.place es) ++ #[{ g := 0, fn := (core x).frame.fn, pos := (core x).frame.place, act := .recvClosed c }])[(t ++ MemOp.ofEvents 0 x.frame.fn x.frame.place es).size]? = some { g := 0, fn := (core x).frame.fn, pos := (core x).frame.place, act := .recvClosed c } := by
        rw [Array.getElem?_append_right (Nat.le_refl _)]; simp
      have hpast := hM2.past hcl hlast ⟨_, hpr, rfl, rfl, 0, by simp [Trace.g?], by rw [deaf_old (Nat.le_refl _)]; exact hM1.hears⟩
      refine ⟨_, _, _, _, hst.trans hrun, .inr ⟨_, upd q j k, ⟨get_set0 ha, ⟨fun m y hm hy => ?_, fun m hm => ?_⟩, ?_⟩, hfin⟩⟩
      · rw [← Array.append_assoc]
        by_cases hmj : m = j
        · subst hmj
          rw [Array.getElem?_setIfInBounds_ne (by omega), hb] at hy
          obtain rfl := Option.some.inj hy
          rw [upd_same, hM2.hearsJ]
          exact QuitsD.of_quitsIn hB
        · rw [upd_ne q k hmj]
          exact hC2.old m y hm hmj hy
      · rw [← Array.append_assoc]
        exact hC2.above m hm
      · rw [← Array.append_assoc]
        exact hpast
    · obtain ⟨a', w', es, hgo', ⟨_, hcc, hes⟩, hg'⟩ := hstep _ hAs
      have hrun := runT_crowd_go (sl := sl') (i := 0) hi (show stepG P (0 == 0) x (w.at d) = _ from hgo')
      refine ⟨_, _, _, _, hst.trans hrun, .inl ⟨(1, n' + k + sumTo gs.size q), .right _ (by omega), .shut n' k q
        ⟨⟨s, r, hcc.trans hc1⟩, ⟨a', get_setJ (x := woken P x a' w' x) (by rw [Array.getElem?_map, ha]; rfl), hg'⟩, ⟨b, ?_, hB⟩, hM.own0 hes, hC.keep (by simp) (hC.moved (.inl rfl)) (calm_ofEvents fun e he => (hes e he).1),
          shut_app hsh (fun op hop hgj => by obtain ⟨e, _, rfl⟩ := Go.Conc.mem_ofEvents hop; exact absurd hgj (Ne.symm hj))⟩ (by simp)⟩⟩
      rw [Array.getElem?_setIfInBounds_ne (Ne.symm hj), Array.getElem?_map, hb]
      simp [woken_quits hB]
  by_cases hij : i = j
  · subst hij
    obtain rfl : x = b := by rw [hb] at hi; exact (Option.some.inj hi).symm
    cases k with
    | zero => rw [show x.status = .finished from hB] at hg; cases hg
    | succ k =>
      rcases hB with hf | ⟨_, b', hw, hq⟩
      · rw [hf] at hg; cases hg
      have hrun := runT_crowd_go (sl := sl') (i := i) hi (by rw [hj0]; exact hw (w.at d))
      rw [ofEvents_none] at hrun
      refine ⟨_, _, _, _, hst.trans hrun, .inl ⟨(1, n + k + sumTo gs.size q), .right _ (by omega), .shut n k q
        ⟨⟨s, r, hc1⟩, ⟨a, ?_, Goes.rely (R := Aside c) (fun _ _ _ h h' => Aside.trans h h') hA hAs⟩, ⟨b', get_setJ (x := woken P x b' (w.at d) x) (by rw [Array.getElem?_map, hb]; rfl), hq⟩, by rw [Array.append_empty]; exact hM,
          hC.keep (by simp) (hC.moved (.inr rfl)) (by simp), by rw [Array.append_empty]; exact hsh⟩ (by simp)⟩⟩
      rw [Array.getElem?_setIfInBounds_ne hi0, Array.getElem?_map, ha]
      simp [woken_running hra]
  · have hq := hC.old i x (by omega) hij hi
    have hib : (i == 0) = false := by simpa using hi0
    have hlt := size_of hi
    cases hqi : q i with
    | zero => rw [hqi] at hq; rw [hq.1] at hg; cases hg
    | succ l =>
      rw [hqi] at hq
      rcases hq with ⟨hf, _⟩ | ⟨_, g', es, hm, hstp, hq'⟩
      · rw [hf] at hg; cases hg
      have hrun := runT_crowd_go (sl := sl') (i := i) hi (by rw [hib]; exact hstp (w.at d))
      have hsum := sum_slip hlt hqi
      refine ⟨_, _, _, _, hst.trans hrun, .inl ⟨(1, n + k + sumTo gs.size (upd q i l)), .right _ (by omega), .shut n k (upd q i l)
        ⟨⟨s, r, hc1⟩, ⟨a, ?_, Goes.rely (R := Aside c) (fun _ _ _ h h' => Aside.trans h h') hA hAs⟩, ⟨b, ?_, hB⟩, hM.slip hi0 hij hm, hC.slip hlt hq',
          shut_app hsh (fun op hop hgj => by obtain ⟨e, _, rfl⟩ := Go.Conc.mem_ofEvents hop; exact absurd hgj hij)⟩ (by simp)⟩⟩
      · rw [Array.getElem?_setIfInBounds_ne hi0, Array.getElem?_map, ha]
        simp [woken_running hra]
      · rw [Array.getElem?_setIfInBounds_ne hij, Array.getElem?_map, hb]
        simp [woken_quits hB]
/-- THE PHASE: one sender and goroutine 0 among goroutines that only leave, on every tape: goroutine 0 comes to where it has found the channel closed; all only leave then, and all that was done is known -/
theorem phase (hSt : ∀ w w₁, Aside c w w₁ → S w → S w₁) : ∀ (μ : Nat × Nat) (gs : Array Goroutine) (w : World) (sl : Option (Nat × Nat)) (t : Trace), PInv P c j p S Mine z Fin μ gs w t →
    ∃ N gs' g' w' sl' t' q', runNT P N (crowd gs w sl) t = (.next (crowd gs' w' sl'), t') ∧ Bed P g' gs' t' q' ∧ Fin g' w' := by
  intro μ
  induction μ using (Prod.lex Nat.lt_wfRel Nat.lt_wfRel).wf.induction with
  | _ μ ih =>
    intro gs w sl t hI
    have hn : Next1 P c j p S Mine z Fin μ gs w sl t := by
      cases hI with
      | opn vs ra rb q h e => rw [e]; exact phase_opn hSt h
      | shut n k q h e => rw [e]; exact phase_shut h
    obtain ⟨gs', w', sl', ops, hst, hcase⟩ := hn
    rcases hcase with ⟨μ', hlt, hI'⟩ | ⟨g', q', hb, hf⟩
    · obtain ⟨N, gs2, g2, w2, sl2, t2, q2, hr, hb, hf⟩ := ih μ' hlt gs' w' sl' (t ++ ops) hI'
      exact ⟨N + 1, gs2, g2, w2, sl2, t2, q2, by simp only [runNT, hst]; exact hr, hb, hf⟩
    · exact ⟨1, gs', g', w', sl', t ++ ops, q', by simp only [runNT, hst], hb, hf⟩
end
end Go.Proofs.Ytchfnbcpjiiphaa
