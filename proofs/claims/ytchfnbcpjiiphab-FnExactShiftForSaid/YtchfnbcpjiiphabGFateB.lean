/-
  Every step of a stack of tame frames has one of the four fates.
-/
import Derived.Test.YtchfnbcpjiiphabGFate
namespace Go.Proofs.Ytchfnbcpjiiphab
open Go Go.Conc
section
variable {P : Program} {T : FuncId → Bool} {fr : Frame} {cs : List Frame} {w : World}
theorem fate_quiet {fr' : Frame} (h : ∀ base main W, stepG P main (G fr (cs ++ base)) W = .go (G fr' (cs ++ base)) W) (ht : TameF T fr') (hm : fr'.mode = .run ∨ fr'.mode = .returning) (hcs : ∀ f ∈ cs, TameF T f ∧ f.mode = .run)
    (hs : Settled P w) : Fate P T fr cs w :=
  .goes 0 fr' cs w #[] ⟨ht, hm, hcs⟩ hs (by simp) (Nat.le_refl _) rfl rfl (fun w₁ hl _ => ⟨w₁, fun base main => h base main w₁, hl, rfl, rfl⟩)
theorem fate_op (hP : TameP P T) (hs : Settled P w) (hf : TameF T fr) (hm : fr.mode = .run) (hcs : ∀ f ∈ cs, TameF T f ∧ f.mode = .run) {ops : Array Oper} {l : List Nat} {k : List Item} (ht : fr.todo = .inRegion ops l :: k) (s : Sem Next)
    (hC : Calm P s) (hY : Yields P (NextT T) s) (h : ∀ base main W, stepG P main (G fr (cs ++ base)) W = stepG.apply P true fr (cs ++ base) none s W) : Fate P T fr cs w := by
  obtain ⟨n, hd, htp, htape⟩ := runT_like P s hC w #[]
  obtain ⟨hw, hsoft⟩ := runT_kept P s hC w #[]
  have hev := runT_evL P s hC w fr.fn
  have hz := (runT_low P s hC w #[]).1
  have hy := runT_yields (NextT T) s hY w #[]
  generalize hr : s.runT P w #[] = r at *
  obtain ⟨r, es⟩ := r
  cases r with
  | ok a w1 =>
    cases a with
    | value v =>
      exact .goes n (fr.finish v) cs w1 (seen P fr.fn es) ⟨(tame_finish hf hm v).1, .inl (tame_finish hf hm v).2, hcs⟩ (hs.on hw) hev hz hd htp
        (fun w₁ hl hτ => by
          obtain ⟨w₁', g1, g2, g3, g4⟩ := htape w₁ hl hτ
          exact ⟨w₁', fun base main => by rw [h]; exact apply_value hf.kind g1, g2, g3, g4⟩)
    | skip =>
      exact .goes n (fr.finish undef) cs w1 (seen P fr.fn es) ⟨(tame_finish hf hm undef).1, .inl (tame_finish hf hm undef).2, hcs⟩ (hs.on hw) hev hz hd htp
        (fun w₁ hl hτ => by
          obtain ⟨w₁', g1, g2, g3, g4⟩ := htape w₁ hl hτ
          exact ⟨w₁', fun base main => by rw [h]; exact apply_skip hf.kind g1, g2, g3, g4⟩)
    | enter f args =>
      have hT : T f = true := hy _ _ rfl
      refine .goes n (Frame.enter P f args .normal) (fr :: cs) w1 (seen P fr.fn es) ⟨(tame_enter hP hT args).1, .inl (tame_enter hP hT args).2, fun x hx => ?_⟩ (hs.on hw) hev hz hd htp
        (fun w₁ hl hτ => by
          obtain ⟨w₁', g1, g2, g3, g4⟩ := htape w₁ hl hτ
          exact ⟨w₁', fun base main => by rw [h]; exact apply_enter hf.kind ht g1, g2, g3, g4⟩)
      rcases List.mem_cons.1 hx with rfl | hx
      · exact ⟨hf, hm⟩
      · exact hcs x hx
    | _ => exact (hy _ _ rfl).elim
  | halt x w1 =>
    rcases hsoft with hmild | ⟨g, c, t, rfl, hg⟩
    · cases x with
      | panic v =>
        refine .raises n [{ v, recovered := false }] (seen P fr.fn es) fun w₁ hl hτ => ?_
        obtain ⟨w₁', g1, _⟩ := htape w₁ hl hτ
        exact ⟨w₁', fun base main => by rw [h]; exact apply_panic hf.kind g1⟩
      | stuck x =>
        refine .ends n fun w₁ hl hτ base main => ?_
        obtain ⟨w₁', g1, _⟩ := htape w₁ hl hτ
        rw [h]; exact apply_stuck hf.kind g1
      | unsupported u =>
        refine .ends n fun w₁ hl hτ base main => ?_
        obtain ⟨w₁', g1, _⟩ := htape w₁ hl hτ
        rw [h]; exact apply_unsup hf.kind hmild g1
      | _ => exact hmild.elim
    · refine .ends n fun w₁ hl hτ base main => ?_
      obtain ⟨w₁', g1, _⟩ := htape w₁ hl hτ
      rw [h]; exact apply_early hf.kind hs.1 ((hs.on hw).2 g c t hg) g1
theorem fate_ret (hP : TameP P T) (hs : Settled P w) (hf : TameF T fr) (hm : fr.mode = .returning) (hcs : ∀ f ∈ cs, TameF T f ∧ f.mode = .run) : Fate P T fr cs w := by
  cases cs with
  | nil => exact .leaves rfl hm
  | cons c cs =>
    obtain ⟨fn, code, h1, _, _, _, r, hr⟩ := hP fr.fn hf.fn
    have hc := hcs c (List.mem_cons_self ..)
    refine .goes 0 (c.finish (r fr.tmps)) cs w #[] ⟨(tame_finish hc.1 hc.2 _).1, .inl (tame_finish hc.1 hc.2 _).2, fun f hf => hcs f (List.mem_cons_of_mem _ hf)⟩ hs (by simp) (Nat.le_refl _) rfl rfl (fun w₁ hl _ => ⟨w₁, fun base main => ?_, hl, rfl, rfl⟩)
    obtain ⟨fn', tmps, todo, defers, mode, kind, round⟩ := fr
    obtain ⟨_, _, rfl, rfl, rfl⟩ := hf
    dsimp only at hm h1
    subst hm
    have e : (results fn tmps).runT P w₁ #[] = (.ok (r tmps) w₁, #[]) := by rw [hr]; rfl
    simp [-Sem.runT_eq, stepG, unwind, G, h1, e, seen_none, GStep.after, doReturn]
theorem fate (hP : TameP P T) (hs : Settled P w) (ht : TameS T fr cs) : Fate P T fr cs w := by
  obtain ⟨hf, hm, hcs⟩ := ht
  rcases hm with hm | hm
  case inr => exact fate_ret hP hs hf hm hcs
  obtain ⟨fn, tmps, todo, defers, mode, kind, round⟩ := fr
  have hf' := hf
  obtain ⟨h1, h2, rfl, rfl, rfl⟩ := hf
  dsimp only at hm h1 h2
  subst hm
  have mk : ∀ {todo' : List Item} {mode' : FrameMode}, (∀ x ∈ todo', tameItem T x = true) → TameF T { fn, tmps, todo := todo', defers := [], mode := mode', kind := .normal, roundOf := none } := fun h => ⟨h1, h, rfl, rfl, rfl⟩
  cases todo with
  | nil => exact fate_quiet (fr' := { fn, tmps, todo := [], defers := [], mode := .returning, kind := .normal, roundOf := none }) (fun base main W => rfl) (mk (by simp)) (.inr rfl) hcs hs
  | cons x k =>
    have hx := h2 x (List.mem_cons_self ..)
    have hk : ∀ y ∈ k, tameItem T y = true := fun y hy => h2 y (List.mem_cons_of_mem _ hy)
    cases x with
    | inBlock id => exact fate_quiet (fr' := { fn, tmps, todo := k, defers := [], mode := .run, kind := .normal, roundOf := none }) (fun base main W => rfl) (mk hk) (.inl rfl) hcs hs
    | inLoop c =>
      refine fate_quiet (fr' := { fn, tmps, todo := .code c :: .inLoop c :: k, defers := [], mode := .run, kind := .normal, roundOf := none }) (fun base main W => rfl) (mk fun y hy => ?_) (.inl rfl) hcs hs
      rcases List.mem_cons.1 hy with rfl | hy
      · exact hx
      · exact h2 y hy
    | inRegion ops l =>
      cases l with
      | nil => exact fate_quiet (fr' := { fn, tmps, todo := k, defers := [], mode := .run, kind := .normal, roundOf := none }) (fun base main W => rfl) (mk hk) (.inl rfl) hcs hs
      | cons i rest =>
        cases hw : ((ops[i]?).map (Region.wanted · (yielded ops tmps))).getD false with
        | false =>
          refine fate_quiet (fr' := (Frame.mk fn tmps (.inRegion ops (i :: rest) :: k) [] .run .normal none).finish undef) (fun base main W => ?_) (tame_finish hf' rfl undef).1 (.inl (tame_finish hf' rfl undef).2) hcs hs
          simp [stepG, stepG.exec, G, hw]
        | true =>
          cases ho : ops[i]? with
          | none => rw [ho] at hw; cases hw
          | some o =>
            have hop : tameOp T o.op = true := tameRest_head hx ho
            obtain ⟨hC, hY⟩ := exec_tame T hP.bodied (Frame.eval { fn, tmps, todo := .inRegion ops (i :: rest) :: k, defers := [], mode := .run, kind := .normal, roundOf := none }) (fun _ => rfl) o hop
            refine fate_op hP hs hf' rfl hcs rfl _ hC hY fun base main W => ?_
            rw [ho] at hw
            simp only [Option.map_some, Option.getD_some] at hw
            simp [-Sem.runT_eq, stepG, stepG.exec, stepG.oper, Frame.oper?, G, ho, hw]
    | code c =>
      cases c with
      | skip => exact fate_quiet (fr' := { fn, tmps, todo := k, defers := [], mode := .run, kind := .normal, roundOf := none }) (fun base main W => rfl) (mk hk) (.inl rfl) hcs hs
      | ret => exact fate_quiet (fr' := { fn, tmps, todo := .code .ret :: k, defers := [], mode := .returning, kind := .normal, roundOf := none }) (fun base main W => rfl) (mk h2) (.inr rfl) hcs hs
      | exit id =>
        cases he : exitTo id k with
        | some k' =>
          refine fate_quiet (fr' := { fn, tmps, todo := k', defers := [], mode := .run, kind := .normal, roundOf := none }) (fun base main W => ?_) (mk fun y hy => hk y (exitTo_mem he y hy)) (.inl rfl) hcs hs
          simp [stepG, stepG.exec, G, he]
        | none =>
          refine .ends 0 fun w₁ _ _ base main => ?_
          simp [stepG, stepG.exec, G, he]
      | seq a b =>
        have hab : tameCode T a = true ∧ tameCode T b = true := by simpa [tameItem, tameCode] using hx
        refine fate_quiet (fr' := { fn, tmps, todo := .code a :: .code b :: k, defers := [], mode := .run, kind := .normal, roundOf := none }) (fun base main W => rfl) (mk fun y hy => ?_) (.inl rfl) hcs hs
        rcases List.mem_cons.1 hy with rfl | hy
        · exact hab.1
        rcases List.mem_cons.1 hy with rfl | hy
        · exact hab.2
        · exact hk y hy
      | cond c a b =>
        have hab : tameCode T a = true ∧ tameCode T b = true := by simpa [tameItem, tameCode] using hx
        have hyes : ∀ t, Frame.eval { fn, tmps, todo := .code (.cond c a b) :: k, defers := [], mode := .run, kind := .normal, roundOf := none } c = .bool t → Fate P T { fn, tmps, todo := .code (.cond c a b) :: k, defers := [], mode := .run, kind := .normal, roundOf := none } cs w := fun t hc => by
          refine fate_quiet (fr' := { fn, tmps, todo := .code (if t then a else b) :: k, defers := [], mode := .run, kind := .normal, roundOf := none }) (fun base main W => ?_) (mk fun y hy => ?_) (.inl rfl) hcs hs
          · simp [stepG, stepG.exec, G, hc]
          · rcases List.mem_cons.1 hy with rfl | hy
            · cases t
              · exact hab.2
              · exact hab.1
            · exact hk y hy
        cases hc : Frame.eval { fn, tmps, todo := .code (.cond c a b) :: k, defers := [], mode := .run, kind := .normal, roundOf := none } c with
        | bool t => exact hyes t hc
        | _ => exact .ends 0 fun w₁ _ _ base main => by simp [stepG, stepG.exec, G, hc]
      | block id c =>
        refine fate_quiet (fr' := { fn, tmps, todo := .code c :: .inBlock id :: k, defers := [], mode := .run, kind := .normal, roundOf := none }) (fun base main W => rfl) (mk fun y hy => ?_) (.inl rfl) hcs hs
        rcases List.mem_cons.1 hy with rfl | hy
        · exact hx
        rcases List.mem_cons.1 hy with rfl | hy
        · rfl
        · exact hk y hy
      | loop c =>
        refine fate_quiet (fr' := { fn, tmps, todo := .code c :: .inLoop c :: k, defers := [], mode := .run, kind := .normal, roundOf := none }) (fun base main W => rfl) (mk fun y hy => ?_) (.inl rfl) hcs hs
        rcases List.mem_cons.1 hy with rfl | hy
        · exact hx
        rcases List.mem_cons.1 hy with rfl | hy
        · exact hx
        · exact hk y hy
      | region id ops draw =>
        have hreg : ∀ l, ∀ y ∈ Item.inRegion ops l :: k, tameItem T y = true := fun l y hy => by
          rcases List.mem_cons.1 hy with rfl | hy
          · exact tameRest_all (by simpa [tameItem, tameCode] using hx) l
          · exact hk y hy
        cases draw with
        | false => exact fate_quiet (fr' := { fn, tmps, todo := .inRegion ops (List.range ops.size) :: k, defers := [], mode := .run, kind := .normal, roundOf := none }) (fun base main W => rfl) (mk (hreg _)) (.inl rfl) hcs hs
        | true =>
          refine .goes 1 { fn, tmps, todo := .inRegion ops (Region.schedule (P.follows .mixedOrders) ops ((Question.order fn id).cut (w.tape w.drawn (.order fn id)))) :: k, defers := [], mode := .run, kind := .normal, roundOf := none } cs
            { w with drawn := w.drawn + 1 } #[] ⟨mk (hreg _), .inl rfl, hcs⟩ hs (by simp) (Nat.le_refl _) rfl rfl (fun w₁ hl hτ => ⟨{ w₁ with drawn := w₁.drawn + 1 }, fun base main => ?_, ⟨hl.heap, hl.os, hl.output⟩, rfl, rfl⟩)
          have h0 : w₁.tape w₁.drawn (.order fn id) = w.tape w.drawn (.order fn id) := hτ 0 (by omega) _
          have e : (choose (.order fn id)).run P w₁ = .ok ((Question.order fn id).cut (w.tape w.drawn (.order fn id))) { w₁ with drawn := w₁.drawn + 1 } := by
            rw [← h0]; rfl
          simp [stepG, stepG.exec, G, e]
      | _ => cases hx
    | _ => cases hx
end
end Go.Proofs.Ytchfnbcpjiiphab
