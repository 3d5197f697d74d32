/-
  Calls in a crowd of leavers: of a lone contract, whatever the tape, one for the crowd.
-/
import Derived.Test.YtchfnbcpjiiphabGBeside
namespace Go.Proofs.Ytchfnbcpjiiphab
open Go Go.Conc
section
variable {P : Program} {T : FuncId → Bool}
/-- a frame of f that leaves with v -/
def LeavesV (P : Program) (f : FuncId) (fr : Frame) (v : Value) : Prop := fr.fn = f ∧ fr.mode = .returning ∧ fr.defers = [] ∧ fr.kind = .normal ∧ ∃ fn, P.funcs[f]? = some fn ∧ results fn fr.tmps = Sem.pure v
theorem LeavesV.leaving {f : FuncId} {fr : Frame} {v : Value} (h : LeavesV P f fr v) (w : World) : fr.leaving P w (.returned v) := by
  obtain ⟨h1, h2, h3, h4, fn, h5, h6⟩ := h
  exact ⟨h2, h3, h4, fn, by rw [h1]; exact h5, by rw [h6]; rfl⟩
theorem well_of_calls (hP : TameP P T) {f : FuncId} (hT : T f = true) {args : Array Value} {w : World} (hs : Settled P w) {Post : Value → World → Prop} (hPost : ∀ v w w₁, Like w w₁ → Post v w → Post v w₁)
    (h : ∀ τ, Calls P f args (ona w τ 0) fun e w' => ∃ v, e = .returned v ∧ Post v w') : Well P (fun fr w' => ∃ v, LeavesV P f fr v ∧ Post v w') (Frame.enter P f args .normal) [] w := by
  refine well_of_lone hP (fun fr w' ⟨v, hv, _⟩ => ⟨v, hv.leaving w'⟩) (fun fr w₁ w₂ hl ⟨v, hv, hp⟩ => ⟨v, hv, hPost v w₁ w₂ hl hp⟩) (fun τ => ?_) ⟨(tame_enter hP hT args).1, .inl (tame_enter hP hT args).2, by simp⟩ hs
  obtain ⟨e, w', fr, ⟨v, rfl, hp⟩, ⟨n, hn⟩, hf, hm, hd, hk, fn, hfn, hr⟩ := h τ [door P]
  refine ⟨n, fr, w', hn, v, ⟨hf, hm, hd, hk, fn, by rw [← hf]; exact hfn, ?_⟩, hp⟩
  obtain ⟨fn', _, h1, _, _, _, r, hr'⟩ := hP f hT
  rw [hf, h1] at hfn
  injection hfn with hfn
  subst hfn
  rw [hr'] at hr ⊢
  have : Result.ok (r fr.tmps) w' = Result.ok v w' := hr
  injection this with e1 _
  rw [e1]
/-- a contract in a crowd of leavers -/
def CallsX (P : Program) (f : FuncId) (args : Array Value) (w : World) (Post : Value → World → Prop) : Prop :=
  ∀ base, To P (G (Frame.enter P f args .normal) base) w fun g' w' => ∃ fr v, g' = G fr base ∧ LeavesV P f fr v ∧ Post v w'
theorem callsX_of_calls (hP : TameP P T) {f : FuncId} (hT : T f = true) {args : Array Value} {w : World} (hs : Settled P w) {Post : Value → World → Prop} (hPost : ∀ v w w₁, Like w w₁ → Post v w → Post v w₁)
    (h : ∀ τ, Calls P f args (ona w τ 0) fun e w' => ∃ v, e = .returned v ∧ Post v w') : CallsX P f args w Post := fun base =>
  to_mono (well_to (well_of_calls hP hT hs hPost h) base) fun _ _ ⟨fr, e, v, hv, hp⟩ => ⟨fr, v, e, hv, hp⟩
theorem CallsX.mono {f : FuncId} {args : Array Value} {w : World} {Post Post' : Value → World → Prop} (h : CallsX P f args w Post) (hp : ∀ v w, Post v w → Post' v w) : CallsX P f args w Post' := fun base =>
  to_mono (h base) fun _ _ ⟨fr, v, e, hv, q⟩ => ⟨fr, v, e, hv, hp _ _ q⟩
/-- a move that looks at no world -/
theorem to_move {g g' : Goroutine} {w : World} {R : Goroutine → World → Prop} (hrun : g.status = .running) (hgo : ∀ W, stepG P true g W = .go g' W) (h : To P g' w R) : To P g w R :=
  to_step hrun fun w₁ hl => ⟨g', w₁, #[], hgo w₁, by simp, Nat.le_of_eq hl.size.symm, to_like h hl⟩
/-- a frame leaves to its caller -/
theorem to_leave {f : FuncId} {fr c : Frame} {cs : List Frame} {w : World} {v : Value} {R : Goroutine → World → Prop} (hv : LeavesV P f fr v) (h : To P (G (c.finish v) cs) w R) : To P (G fr (c :: cs)) w R := by
  refine to_move rfl (fun W => ?_) h
  obtain ⟨h1, h2, h3, h4, fn, h5, h6⟩ := hv
  have e : (results fn fr.tmps).runT P W #[] = (.ok v W, #[]) := by rw [h6]; rfl
  rw [← h1] at h5
  simp [-Sem.runT_eq, stepG, unwind, G, h2, h3, h4, h5, e, seen_none, GStep.after, doReturn]
end
end Go.Proofs.Ytchfnbcpjiiphab
