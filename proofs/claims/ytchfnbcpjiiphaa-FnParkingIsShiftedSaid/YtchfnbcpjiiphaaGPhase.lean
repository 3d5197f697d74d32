/-
  One sender and goroutine 0 over a channel without a buffer, among goroutines that only leave: the channel open.
-/
import Derived.Test.YtchfnbcpjiiphaaGCrew
import Derived.Test.YtchfnbcpjiiphaaZH
import Derived.Conc.RecvAny
namespace Go.Proofs.Ytchfnbcpjiiphaa
open Go Go.Conc
open Go.ConcN (sumTo upd sumTo_upd upd_ne upd_same)
section
variable {P : Program} {c j p : Nat} {S : World → Prop} {Mine : Loc → Prop} {z : Value} {Fin : Goroutine → World → Prop}
variable (P c S Mine z Fin j p) in
/-- the channel is open; vs are still to pass -/
structure Opn (vs : List Value) (ra rb : Nat) (gs : Array Goroutine) (w : World) (t : Trace) (q : Nat → Nat) : Prop where
  hS : S w
  chan : ∃ s r, w.heap[c]? = some (.chan 0 #[] false s r false)
  recv : ∃ a, gs[0]? = some a ∧ SitA P c S Mine z Fin vs ra a w
  send : ∃ b, gs[j]? = some b ∧ SitB P c S Mine vs rb b
  pos : 0 < ra + rb
  mid : Mid Mine j p t
  crew : Crew P j t gs q
variable (P c S Mine z Fin j p) in
/-- it is closed; goroutine 0 has not seen that yet -/
structure Shu (n k : Nat) (gs : Array Goroutine) (w : World) (t : Trace) (q : Nat → Nat) : Prop where
  chan : ∃ s r, w.heap[c]? = some (.chan 0 #[] true s r false)
  recv : ∃ a, gs[0]? = some a ∧ Goes P true (Aside c) (DA c S Mine) (StopA P c S Mine z Fin []) n a w
  send : ∃ b, gs[j]? = some b ∧ QuitsIn P k b
  mid : Mid Mine j p t
  crew : Crew P j t gs q
  shut : ∃ pc, (∃ op, t[pc]? = some op ∧ op.g = j ∧ op.act = .close c ∧ t.heard pc) ∧ ∀ i op, t[i]? = some op → op.g = j → (op.act.touch?).isSome = true → i ≤ pc
variable (P c S Mine z Fin j p) in
inductive PInv (μ : Nat × Nat) (gs : Array Goroutine) (w : World) (t : Trace) : Prop
  | opn (vs : List Value) (ra rb : Nat) (q : Nat → Nat) (h : Opn P c j p S Mine z Fin vs ra rb gs w t q) (e : μ = (vs.length + 2, ra + rb + sumTo gs.size q))
  | shut (n k : Nat) (q : Nat → Nat) (h : Shu P c j p S Mine z Fin n k gs w t q) (e : μ = (1, n + k + sumTo gs.size q))
variable (P c S Mine z Fin j p) in
/-- one step of the crowd: the measure falls, or goroutine 0 has seen that the channel is closed -/
def Next1 (μ : Nat × Nat) (gs : Array Goroutine) (w : World) (sl : Option (Nat × Nat)) (t : Trace) : Prop :=
  ∃ gs' w' sl' ops, stepT P (crowd gs w sl) = (.next (crowd gs' w' sl'), ops) ∧ ((∃ μ', Lt2 μ' μ ∧ PInv P c j p S Mine z Fin μ' gs' w' (t ++ ops)) ∨ ∃ g' q', Bed P g' gs' (t ++ ops) q' ∧ Fin g' w')
theorem get_set0 {gs : Array Goroutine} {x y : Goroutine} (h : gs[0]? = some x) : (gs.setIfInBounds 0 y)[0]? = some y := by
  have := (Array.getElem?_eq_some_iff.1 h).1
  simp [this]
theorem get_setJ {gs : Array Goroutine} {x y : Goroutine} {i : Nat} (h : gs[i]? = some x) : (gs.setIfInBounds i y)[i]? = some y := by
  have := (Array.getElem?_eq_some_iff.1 h).1
  simp [this]
theorem size_of {gs : Array Goroutine} {x : Goroutine} {i : Nat} (h : gs[i]? = some x) : i < gs.size := (Array.getElem?_eq_some_iff.1 h).1
/-- a goroutine of those that leave slips: in both phases -/
theorem sum_slip {gs : Array Goroutine} {q : Nat → Nat} {i k : Nat} (hlt : i < gs.size) (hqi : q i = k + 1) : sumTo gs.size (upd q i k) < sumTo gs.size q := by
  have := sumTo_upd q k id hlt
  have e : sumTo gs.size (upd q i k) + (k + 1) = sumTo gs.size q + k := by simpa [hqi] using this
  omega
theorem phase_opn (hSt : ∀ w w₁, Aside c w w₁ → S w → S w₁) {vs : List Value} {ra rb : Nat} {gs : Array Goroutine} {w : World} {sl : Option (Nat × Nat)} {t : Trace} {q : Nat → Nat} (h : Opn P c j p S Mine z Fin vs ra rb gs w t q) :
    Next1 P c j p S Mine z Fin (vs.length + 2, ra + rb + sumTo gs.size q) gs w sl t := by
  obtain ⟨hS, ⟨s, r, hc⟩, ⟨a, ha, hA⟩, ⟨b, hb, hB⟩, hpos, hM, hC⟩ := h
  have hj := hM.jpos
  have sA := hA.status
  have sB := hB.status hS
  have haw : ∀ x ∈ gs, awake x := by
    intro x hx
    obtain ⟨i, hi, rfl⟩ := Array.mem_iff_getElem.1 hx
    by_cases h0 : i = 0
    · subst h0
      have : gs[0] = a := by simpa [Array.getElem?_eq_getElem hi] using ha
      rw [this]; exact awake_of (by rcases sA with ⟨h, _⟩ | ⟨h, _⟩ <;> simp [h])
    by_cases h1 : i = j
    · subst h1
      have : gs[i] = b := by simpa [Array.getElem?_eq_getElem hi] using hb
      rw [this]; exact awake_of (by rcases sB with ⟨h, _⟩ | ⟨h, _⟩ <;> simp [h])
    · exact awake_of ((hC.old i _ (by omega) h1 (Array.getElem?_eq_getElem hi)).status.elim .inl fun x => .inr (.inr x))
  have some1 : ∃ (i : Nat) (g : Goroutine), gs[i]? = some g ∧ g.status = .running := by
    rcases sA with ⟨h, _⟩ | ⟨_, h0⟩
    · exact ⟨0, a, ha, h⟩
    · rcases sB with ⟨h, _⟩ | ⟨_, h1⟩
      · exact ⟨j, b, hb, h⟩
      · omega
  obtain ⟨i, x, d, sl', hi, hg, hst⟩ := crowd_pick (P := P) (w := w) (sl := sl) haw some1
  have hAs : Aside c w (w.at d) := Aside.at c w d
  have hS1 : S (w.at d) := hSt _ _ hAs hS
  have hc1 : (w.at d).heap[c]? = some (.chan 0 #[] false s r false) := hc
  have hw2 : Aside c (w.at d) ((w.at d).setChan c 0 #[] false (s + 1) (r + 1) false) := Aside.put c _ _
  have hj0 : (j == 0) = false := by simpa using hj
  by_cases hi0 : i = 0
  · subst hi0
    obtain rfl : x = a := by rw [ha] at hi; exact (Option.some.inj hi).symm
    rcases hA with ⟨n, rfl, hgo⟩ | ⟨_, g, rfl, _⟩
    · rcases hgo.cases with hstop | ⟨n', rfl, hstep⟩
      · have hat := hstop _ hAs
        obtain ⟨es, hcomm, hes⟩ := hat.comm
        rcases hB with ⟨k, rfl, hgb⟩ | ⟨rfl, v, vs', g₂, z', rfl, rfl, hnext⟩
        · -- the sender is on its way: goroutine 0 waits
          have hbs : b.status ≠ .blocked := by rw [hgb.running (fun _ _ => StopB.running) w hS]; simp
          have hp : partners (gs.setIfInBounds 0 ph) c true = [] := partners_nil fun m y hm => by
            rcases getElem?_stand gs 0 m y hm with ⟨_, rfl⟩ | ⟨hm0, hm'⟩
            · exact offersAt_ph _ _
            · by_cases hmj : m = j
              · subst hmj; rw [hb] at hm'; obtain rfl := Option.some.inj hm'; exact offersAt_of_not_blocked hbs _ _
              · exact hC.silent c true m y (by omega) hmj hm'
          have hrun := crowd_waits (sl := sl') hi (show stepG P (0 == 0) x (w.at d) = _ from hcomm) (fun cc hcc => by
            obtain rfl : cc = rcase c z := by simpa using hcc
            exact ways_recv_none hc1 hp)
          refine ⟨_, _, _, _, hst.trans hrun, .inl ⟨(vs.length + 2, 0 + (k + 1) + sumTo gs.size q), .right _ (by omega), .opn vs 0 (k + 1) q ⟨hS1, ⟨s, r, hc1⟩, ⟨_, get_set0 ha, .inr ⟨rfl, x, rfl, fun w₁ h₁ => hstop w₁ (hAs.trans h₁)⟩⟩, ⟨b, ?_, .inl ⟨k, rfl, hgb⟩⟩, by omega, hM.own0 hes, ?_⟩ (by simp)⟩⟩
          · rw [Array.getElem?_setIfInBounds_ne (Ne.symm hj)]; exact hb
          · exact hC.keep (by simp) (fun m y hm hmj hy => by rw [Array.getElem?_setIfInBounds_ne (by omega)] at hy; exact hy) (calm_ofEvents fun e he => (hes e he).1)
        · -- the sender waits: both are served in this one step
          have hp : partners (gs.setIfInBounds 0 ph) c true = [(j, 0)] := by
            rw [partners_one (stand_get hj hb) fun m y hm hy => ?_, offersAt_parked_send]
            · simp
            rcases getElem?_stand gs 0 m y hy with ⟨_, rfl⟩ | ⟨hm0, hm'⟩
            · exact offersAt_ph _ _
            · exact hC.silent c true m y (by omega) hm hm'
          obtain ⟨na, hna⟩ := (recvs_iff P c S Mine z _ vs' _ _).1 (hat.cons _ hw2)
          obtain ⟨nb, hnb⟩ := (sends_iff P c S Mine vs' _).1 hnext
          have hrun := crowd_recv_meets (sl := sl') hi (show stepG P (0 == 0) x (w.at d) = _ from hcomm) hc1 hj hb hp
          rw [finishComm_send, finishComm_recv] at hrun
          refine ⟨_, _, _, _, hst.trans hrun, .inl ⟨(vs'.length + 2, (na + 1) + (nb + 1) + sumTo gs.size q), .left _ _ (by simp), .opn vs' (na + 1) (nb + 1) q
            ⟨hSt _ _ hw2 hS1, ⟨s + 1, r + 1, heap_put hc1⟩, ⟨_, get_setJ (x := x) ?_, .inl ⟨na, rfl, hna⟩⟩, ⟨_, ?_, .inl ⟨nb, rfl, hnb⟩⟩, by omega, ?_, ?_⟩ (by simp)⟩⟩
          · rw [Array.getElem?_setIfInBounds_ne hj]; exact ha
          · rw [Array.getElem?_setIfInBounds_ne (Ne.symm hj)]; exact get_setJ hb
          · rw [← Array.append_assoc]
            exact (hM.own0 hes).comm (by simp [MemAct.touch?])
          · rw [← Array.append_assoc]
            refine Crew.keep (gs := gs) (hC.keep (gs' := gs) rfl (fun _ _ _ _ h => h) (calm_ofEvents fun e he => (hes e he).1)) (by simp) (fun m y hm hmj hy => ?_) (by simp)
            rw [Array.getElem?_setIfInBounds_ne (by omega), Array.getElem?_setIfInBounds_ne (Ne.symm hmj)] at hy
            exact hy
      · -- a step of its own
        obtain ⟨a', w', es, hgo', ⟨hSS, hcc, hes⟩, hg'⟩ := hstep _ hAs
        have hc' : w'.heap[c]? = some (.chan 0 #[] false s r false) := hcc.trans hc1
        have hrun := runT_crowd_go (sl := sl') (i := 0) hi (show stepG P (0 == 0) x (w.at d) = _ from hgo')
        refine ⟨_, _, _, _, hst.trans hrun, .inl ⟨(vs.length + 2, (n' + 1) + rb + sumTo gs.size q), .right _ (by omega), .opn vs (n' + 1) rb q
          ⟨hSS hS1, ⟨s, r, hc'⟩, ⟨a', get_setJ (x := woken P x a' w' x) (by rw [Array.getElem?_map, ha]; rfl), .inl ⟨n', rfl, hg'⟩⟩, ⟨b, ?_, hB⟩, by omega, hM.own0 hes, hC.keep (by simp) (hC.moved (.inl rfl)) (calm_ofEvents fun e he => (hes e he).1)⟩ (by simp)⟩⟩
        rw [Array.getElem?_setIfInBounds_ne (Ne.symm hj), Array.getElem?_map, hb]
        simp [hB.woken hS hc']
    · simp [parked] at hg
  by_cases hij : i = j
  · subst hij
    obtain rfl : x = b := by rw [hb] at hi; exact (Option.some.inj hi).symm
    rcases hB with ⟨k, rfl, hgb⟩ | ⟨_, v, vs', g₂, z', _, rfl, _⟩
    · rcases hgb.cases with hstop | ⟨k', rfl, hstep⟩
      · have hat := hstop _ hS1
        cases vs with
        | nil =>
          -- it closes the channel
          obtain ⟨_, hwake, g₂, es, nq, hclose, hes, hq⟩ := hat
          have hgo := hclose _ s r false hS1 hc1
          have hw3 : Aside c (w.at d) ((w.at d).shut c s r false) := Aside.put c _ _
          have hc2 : ((w.at d).shut c s r false).heap[c]? = some (.chan 0 #[] true s r false) := heap_put hc1
          have hwk : ∀ o, woken P x g₂ ((w.at d).shut c s r false) o = o.again ((w.at d).shut c s r false) := by
            intro o; unfold Go.Conc.woken; rcases hq.status with h | h <;> simp [hwake, h]
          have hA' : ∃ n, Goes P true (Aside c) (DA c S Mine) (StopA P c S Mine z Fin []) n (a.again ((w.at d).shut c s r false)) ((w.at d).shut c s r false) := by
            rcases hA with ⟨n, _, hg⟩ | ⟨_, g, rfl, hs⟩
            · rw [again_running _ (.inl (hg.running (fun _ _ => StopA.running) w (Aside.refl c w)))]
              exact ⟨n, Goes.rely (R := Aside c) (fun _ _ _ h h' => Aside.trans h h') hg (hAs.trans hw3)⟩
            · rw [again_parked_shut rfl hc2]
              exact ⟨0, fun w₁ h₁ => (hs w₁ ((hAs.trans hw3).trans h₁)).again⟩
          obtain ⟨na, hna⟩ := hA'
          have hrun := runT_crowd_go (sl := sl') (i := i) hi (by rw [hj0]; exact hgo)
          rw [ofEvents_push] at hrun
          have happ : t ++ (MemOp.ofEvents i x.frame.fn x.frame.place es).push { g := i, fn := x.frame.fn, pos := x.frame.place, act := .ofEvent ⟨.obj c, true, true⟩ } =
              (t ++ MemOp.ofEvents i x.frame.fn x.frame.place es) ++ #[{ g := i, fn := x.frame.fn, pos := x.frame.place, act := .ofEvent ⟨.obj c, true, true⟩ }] := by
            rw [Array.push_eq_append, Array.append_assoc]
          have hM1 := hM.ownJ (fn := x.frame.fn) (pos := x.frame.place) hes
          refine ⟨_, _, _, _, hst.trans hrun, .inl ⟨(1, na + nq + sumTo gs.size q), .left _ _ (by simp), .shut na nq q ⟨⟨s, r, hc2⟩, ⟨_, ?_, hna⟩, ⟨g₂, get_setJ (x := woken P x g₂ _ x) (by rw [Array.getElem?_map, hb]; rfl), hq⟩, ?_, ?_, ?_⟩ (by simp)⟩⟩
          · rw [Array.getElem?_setIfInBounds_ne hi0, Array.getElem?_map, ha]
            simp [hwk]
          · rw [happ]
            exact hM1.comm (by simp [MemAct.touch?, MemAct.ofEvent])
          · rw [happ]
            exact Crew.keep (gs := (gs.map (woken P x g₂ ((w.at d).shut c s r false))).setIfInBounds i g₂) (hC.keep (by simp) (hC.moved (.inr rfl)) (calm_ofEvents fun e he => (hes e he).1)) rfl (fun _ _ _ _ h => h) (by simp [MemAct.ofEvent])
          · rw [happ]
            have hlast : ((t ++ MemOp.ofEvents i x.frame.fn x.frame.place es) ++ #[{ g := i, fn := x.frame.fn, pos := x.frame.place, act := .ofEvent ⟨.obj c, true, true⟩ }])[(t ++ MemOp.ofEvents i x.frame.fn x.frame.place es).size]? = some { g := i, fn := x.frame.fn, pos := x.frame.place, act := .ofEvent ⟨.obj c, true, true⟩ } := by
              rw [Array.getElem?_append_right (Nat.le_refl _)]; simp
            refine ⟨(t ++ MemOp.ofEvents i x.frame.fn x.frame.place es).size, ⟨_, hlast, rfl, rfl, i, by simp [Trace.g?], ?_⟩, fun m op hm _ _ => ?_⟩
            · rw [deaf_old (Nat.le_refl _)]
              exact hM1.hearsJ
            · have := lt_size_of_getElem? hm
              rw [Array.size_append] at this
              simp only [List.size_toArray, List.length_cons, List.length_nil] at this
              omega
        | cons v vs' =>
          obtain ⟨_, g₂, z', es, hcomm, hes, hnext⟩ := hat
          have hcm := hcomm _ hS1
          rcases hA with ⟨n, rfl, hg1⟩ | ⟨rfl, g, rfl, hs⟩
          · -- goroutine 0 is on its way: the sender waits
            have has : a.status ≠ .blocked := by rw [hg1.running (fun _ _ => StopA.running) w (Aside.refl c w)]; simp
            have hp : partners (gs.setIfInBounds i ph) c false = [] := partners_nil fun m y hm => by
              rcases getElem?_stand gs i m y hm with ⟨_, rfl⟩ | ⟨hmi, hm'⟩
              · exact offersAt_ph _ _
              · by_cases hm0 : m = 0
                · subst hm0; rw [ha] at hm'; obtain rfl := Option.some.inj hm'; exact offersAt_of_not_blocked has _ _
                · exact hC.silent c false m y (by omega) hmi hm'
            have hrun := crowd_waits (sl := sl') hi (show stepG P (i == 0) x (w.at d) = _ by rw [hj0]; exact hcm) (fun cc hcc => by
              obtain rfl : cc = scase c v z' := by simpa using hcc
              exact ways_send_none hc1 (by simp) hp)
            refine ⟨_, _, _, _, hst.trans hrun, .inl ⟨((v :: vs').length + 2, (n + 1) + 0 + sumTo gs.size q), .right _ (by omega), .opn (v :: vs') (n + 1) 0 q
              ⟨hS1, ⟨s, r, hc1⟩, ⟨a, ?_, .inl ⟨n, rfl, Goes.rely (R := Aside c) (fun _ _ _ h h' => Aside.trans h h') hg1 hAs⟩⟩, ⟨_, get_setJ hb, .inr ⟨rfl, v, vs', g₂, z', rfl, rfl, hnext⟩⟩, by omega, hM.ownJ hes, ?_⟩ (by simp)⟩⟩
            · rw [Array.getElem?_setIfInBounds_ne hi0]; exact ha
            · exact hC.keep (by simp) (fun m y hm hmj hy => by rw [Array.getElem?_setIfInBounds_ne (Ne.symm hmj)] at hy; exact hy) (calm_ofEvents fun e he => (hes e he).1)
          · -- goroutine 0 waits: both are served in this one step
            have hp : partners (gs.setIfInBounds i ph) c false = [(0, 0)] := by
              rw [partners_one (stand_get (Ne.symm hi0) ha) fun m y hm hy => ?_, offersAt_parked_recv]
              · simp
              rcases getElem?_stand gs i m y hy with ⟨_, rfl⟩ | ⟨hmi, hm'⟩
              · exact offersAt_ph _ _
              · exact hC.silent c false m y (by omega) hmi hm'
            obtain ⟨na, hna⟩ := (recvs_iff P c S Mine z _ vs' _ _).1 ((hs _ hAs).cons _ hw2)
            obtain ⟨nb, hnb⟩ := (sends_iff P c S Mine vs' _).1 hnext
            have hrun := crowd_send_meets (sl := sl') hi (show stepG P (i == 0) x (w.at d) = _ by rw [hj0]; exact hcm) hc1 (Ne.symm hi0) ha hp
            rw [finishComm_send, finishComm_recv] at hrun
            refine ⟨_, _, _, _, hst.trans hrun, .inl ⟨(vs'.length + 2, (na + 1) + (nb + 1) + sumTo gs.size q), .left _ _ (by simp), .opn vs' (na + 1) (nb + 1) q
              ⟨hSt _ _ hw2 hS1, ⟨s + 1, r + 1, heap_put hc1⟩, ⟨_, ?_, .inl ⟨na, rfl, hna⟩⟩, ⟨_, get_setJ (x := x) ?_, .inl ⟨nb, rfl, hnb⟩⟩, by omega, ?_, ?_⟩ (by simp)⟩⟩
            · rw [Array.getElem?_setIfInBounds_ne hi0]; exact get_setJ ha
            · rw [Array.getElem?_setIfInBounds_ne (Ne.symm hi0)]; exact hb
            · rw [← Array.append_assoc]
              exact (hM.ownJ hes).comm (by simp [MemAct.touch?])
            · rw [← Array.append_assoc]
              refine Crew.keep (gs := gs) (hC.keep (gs' := gs) rfl (fun _ _ _ _ h => h) (calm_ofEvents fun e he => (hes e he).1)) (by simp) (fun m y hm hmj hy => ?_) (by simp)
              rw [Array.getElem?_setIfInBounds_ne (Ne.symm hmj), Array.getElem?_setIfInBounds_ne (by omega)] at hy
              exact hy
      · -- a step of its own
        obtain ⟨b', w', es, hgo, ⟨rfl, hes⟩, hg'⟩ := hstep _ hS1
        have hrun := runT_crowd_go (sl := sl') (i := i) hi (by rw [hj0]; exact hgo)
        refine ⟨_, _, _, _, hst.trans hrun, .inl ⟨(vs.length + 2, ra + (k' + 1) + sumTo gs.size q), .right _ (by omega), .opn vs ra (k' + 1) q
          ⟨hS1, ⟨s, r, hc1⟩, ⟨a, ?_, hA.rely hAs⟩, ⟨b', get_setJ (x := woken P x b' _ x) (by rw [Array.getElem?_map, hb]; rfl), .inl ⟨k', rfl, hg'.anyWorld default⟩⟩, by omega, hM.ownJ hes, hC.keep (by simp) (hC.moved (.inr rfl)) (calm_ofEvents fun e he => (hes e he).1)⟩ (by simp)⟩⟩
        rw [Array.getElem?_setIfInBounds_ne hi0, Array.getElem?_map, ha]
        simp [hA.woken hc1]
    · simp [parked] at hg
  · -- one that leaves slips
    have hq := hC.old i x (by omega) hij hi
    have hib : (i == 0) = false := by simpa using hi0
    have hlt := size_of hi
    cases hqi : q i with
    | zero => rw [hqi] at hq; rw [hq.1] at hg; cases hg
    | succ k =>
      rw [hqi] at hq
      rcases hq with ⟨hf, _⟩ | ⟨_, g', es, hm, hstp, hq'⟩
      · rw [hf] at hg; cases hg
      have hrun := runT_crowd_go (sl := sl') (i := i) hi (by rw [hib]; exact hstp (w.at d))
      have hsum := sum_slip hlt hqi
      refine ⟨_, _, _, _, hst.trans hrun, .inl ⟨(vs.length + 2, ra + rb + sumTo gs.size (upd q i k)), .right _ (by omega), .opn vs ra rb (upd q i k)
        ⟨hS1, ⟨s, r, hc1⟩, ⟨a, ?_, hA.rely hAs⟩, ⟨b, ?_, hB⟩, hpos, hM.slip hi0 hij hm, hC.slip hlt hq'⟩ (by simp)⟩⟩
      · rw [Array.getElem?_setIfInBounds_ne hi0, Array.getElem?_map, ha]
        simp [hA.woken hc1]
      · rw [Array.getElem?_setIfInBounds_ne hij, Array.getElem?_map, hb]
        simp [hB.woken hS hc1]
end
end Go.Proofs.Ytchfnbcpjiiphaa
