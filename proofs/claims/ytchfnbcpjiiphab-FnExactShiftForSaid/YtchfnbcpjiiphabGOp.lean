/-
  One calm operation of goroutine 0's in the crowd; what is blind to the tape.
-/
import Derived.Test.YtchfnbcpjiiphabGPiece
namespace Go.Proofs.Ytchfnbcpjiiphab
open Go Go.Conc
section
variable {P : Program}
/-- one calm operation, at the grain of goroutines -/
theorem to_op {b : Frame} (hb : b.kind = .normal) {a : Act} {k : List Item} {cs : List Frame} {w : World} {R : Goroutine → World → Prop} {ops : Array Oper} {i : Nat} {rest : List Nat} {o : Oper} (ho : ops[i]? = some o) (hw : Region.wanted o (yielded ops a.tmps) = true) (ht : tameOp (fun _ => false) o.op = true)
    (h : ∀ w₁, Like w w₁ → uponK o a (fun a' w' => To P (G (b.at a' (.inRegion ops rest :: k)) cs) w' R) ((execOp a.eval o).run P w₁)) : To P (G (b.at a (.inRegion ops (i :: rest) :: k)) cs) w R := by
  refine to_step rfl fun w₁ hl => ?_
  obtain ⟨hC, _⟩ := exec_tame (P := P) (fun _ => false) (fun _ h => by cases h) a.eval (fun _ => rfl) o ht
  have hk : (b.at a (.inRegion ops (i :: rest) :: k)).kind = .normal := hb
  have hfin : ∀ v, (b.at a (.inRegion ops (i :: rest) :: k)).finish v = b.at (a.put o.dst v) (.inRegion ops rest :: k) := fun v => by rw [Frame.finish_at, ho]; rfl
  have hev := runT_evL P _ hC w₁ b.fn
  have hz := (runT_low P _ hC w₁ #[]).1
  have hr : (execOp a.eval o).runT P w₁ #[] = ((execOp a.eval o).run P w₁, ((execOp a.eval o).runT P w₁ #[]).2) := by
    have := Sem.runT_eq P (execOp a.eval o) w₁ #[]
    rw [this]
  have h1 := h w₁ hl
  generalize (execOp a.eval o).run P w₁ = r at h1 hr
  generalize ((execOp a.eval o).runT P w₁ #[]).2 = es at hr hev
  rw [hr] at hev hz
  rw [stepG_oper ho hw]
  cases r with
  | ok x w' =>
    cases x with
    | value v =>
      refine ⟨_, w', _, apply_value hk hr, hev, by rw [← hl.size]; exact hz, ?_⟩
      rw [hfin]
      exact h1
    | skip =>
      refine ⟨_, w', _, apply_skip hk hr, hev, by rw [← hl.size]; exact hz, ?_⟩
      rw [hfin]
      exact h1
    | _ => exact h1.elim
  | halt x w' => exact h1.elim
/-- blind to the tape -/
def LikeQ (Q : Exit → Act → World → Prop) : Prop := ∀ e a w w₁, Like w w₁ → Q e a w → Q e a w₁
theorem likeQ_then {y : Code} {Q : Exit → Act → World → Prop} (h : LikeQ Q) : LikeQ (Exit.then (fun a w => WpX P y Q a w) Q) := fun e a w w₁ hl q => by
  cases e <;> first | exact wpX_like q hl | exact h _ _ _ _ hl q
theorem likeQ_block {id : Nat} {Q : Exit → Act → World → Prop} (h : LikeQ Q) : LikeQ (Exit.inBlock id Q) := fun e a w w₁ hl q => by
  cases e with
  | exit id' =>
    unfold Exit.inBlock at q ⊢
    dsimp only at q ⊢
    split at q
    · rename_i he; rw [if_pos he]; exact h _ _ _ _ hl q
    · rename_i he; rw [if_neg he]; exact h _ _ _ _ hl q
  | _ => exact h _ _ _ _ hl q
/-- what a function must achieve -/
def postX (fn : Func) (Post : Value → World → Prop) (e : Exit) (a : Act) (w : World) : Prop := (e = .normal ∨ e = .ret) ∧ a.defers = [] ∧ ∃ v, results fn a.tmps = Sem.pure v ∧ Post v w
theorem likeQ_post {fn : Func} {Post : Value → World → Prop} (h : ∀ v w w₁, Like w w₁ → Post v w → Post v w₁) : LikeQ (postX fn Post) := fun _ _ _ _ hl ⟨h1, h2, v, h3, h4⟩ => ⟨h1, h2, v, h3, h v _ _ hl h4⟩
/-- a piece ahead of the rest, by its lone walk -/
theorem wpX_piece {T : FuncId → Bool} (hP : TameP P T) {x y : Code} (hc : tameCode T x = true) {a : Act} (ha : a.defers = []) {w : World} (hs : Settled P w) {Q : Exit → Act → World → Prop} (hQ : LikeQ Q)
    (h : ∀ w₁, Like w w₁ → x.wp P (fun e a' w' => (e = .normal ∨ e = .ret) ∧ a'.defers = [] ∧ Exit.then (fun a w => WpX P y Q a w) Q e a' w') a w₁) : WpX P (.seq x y) Q a w :=
  wpX_seq (wpX_of_wp hP hc ha hs (likeQ_then hQ) h)
/-- the rest of a function, by its lone walk -/
theorem wpX_last {T : FuncId → Bool} (hP : TameP P T) {x : Code} (hc : tameCode T x = true) {a : Act} (ha : a.defers = []) {w : World} (hs : Settled P w) {fn : Func} {Post : Value → World → Prop} (hQ : ∀ v w w₁, Like w w₁ → Post v w → Post v w₁)
    (h : ∀ w₁, Like w w₁ → x.wp P (bodyPost P fn fun e w' => ∃ v, e = .returned v ∧ Post v w') a w₁) (hr : ∀ tmps, ∃ v, results fn tmps = Sem.pure v) : WpX P x (postX fn Post) a w := by
  refine wpX_of_wp hP hc ha hs (likeQ_post hQ) fun w₁ hl => ?_
  refine Code.wp_mono (fun e a' w' q => ?_) (h w₁ hl)
  have key : ∀ e, (e = Exit.normal ∨ e = Exit.ret) → (a'.defers = [] ∧ ∃ v, (results fn a'.tmps).run P w' = .ok v w' ∧ ∃ u, Ending.returned v = .returned u ∧ Post u w') → (e = .normal ∨ e = .ret) ∧ a'.defers = [] ∧ postX fn Post e a' w' := by
    rintro e he ⟨hd, v, hv, u, hu, hp⟩
    injection hu with hu
    subst hu
    obtain ⟨x, hx⟩ := hr a'.tmps
    have hxv : x = v := by
      rw [hx] at hv
      have hv' : Result.ok x w' = Result.ok v w' := hv
      injection hv'
    subst hxv
    exact ⟨he, hd, he, hd, x, hx, hp⟩
  cases e with
  | normal => exact key _ (.inl rfl) q
  | ret => exact key _ (.inr rfl) q
  | exit id => exact q.elim
  | goto l => exact q.elim
  | panic ch => obtain ⟨_, u, hu, _⟩ := q; cases hu
  | outgrown => obtain ⟨u, hu, _⟩ := q; cases hu
/-- a function's last piece, to where it leaves -/
theorem to_end {f : FuncId} {fn : Func} {c : Code} {a : Act} {w : World} {cs : List Frame} {Post : Value → World → Prop} (hf : P.funcs[f]? = some fn) (hPost : ∀ v w w₁, Like w w₁ → Post v w → Post v w₁) (h : WpX P c (postX fn Post) a w) :
    To P (G ((Conc.base f).at a [.code c]) cs) w fun g' w' => ∃ fr v, g' = G fr cs ∧ LeavesV P f fr v ∧ Post v w' := by
  refine h _ [] cs _ rfl fun e a' w' ⟨he, hd, v, hr, hp⟩ => ?_
  have hret : ∀ todo, To P (G { (Conc.base f).at a' todo with mode := .returning } cs) w' fun g' w' => ∃ fr v, g' = G fr cs ∧ LeavesV P f fr v ∧ Post v w' := fun todo =>
    to_refl fun w₁ hl => ⟨_, v, rfl, ⟨rfl, rfl, hd, rfl, fn, hf, hr⟩, hPost v w' w₁ hl hp⟩
  rcases he with rfl | rfl
  · exact to_move rfl (fun _ => stepG_end) (hret [])
  · exact hret
variable {ops : Array Oper} {i : Nat} {rest : List Nat} {o : Oper} {Q : Exit → Act → World → Prop} {a : Act} {w : World}
theorem opsX_like {l : List Nat} {w₁ : World} (h : OpsX P ops l Q a w) (hl : Like w w₁) : OpsX P ops l Q a w₁ := fun b k cs R hb hc => to_like (h b k cs R hb hc) hl
/-- one calm operation, what follows behind a variable -/
theorem opsX_k (ho : ops[i]? = some o) (hw : Region.wanted o (yielded ops a.tmps) = true) (ht : tameOp (fun _ => false) o.op = true)
    (h : ∀ w₁, Like w w₁ → ∀ K : Act → World → Prop, (∀ a' w', OpsX P ops rest Q a' w' → K a' w') → uponK o a K ((execOp a.eval o).run P w₁)) : OpsX P ops (i :: rest) Q a w :=
  opsX_op ho hw ht fun w₁ hl => h w₁ hl _ fun _ _ x => x
/-- one that leaves the world as it is: the walk goes on in the world that it came in -/
theorem opsX_pure (ho : ops[i]? = some o) (hw : Region.wanted o (yielded ops a.tmps) = true) (ht : tameOp (fun _ => false) o.op = true)
    (h : ∀ w₁, Like w w₁ → ∀ K : Act → World → Prop, (∀ a', OpsX P ops rest Q a' w → K a' w₁) → uponK o a K ((execOp a.eval o).run P w₁)) : OpsX P ops (i :: rest) Q a w :=
  opsX_op ho hw ht fun w₁ hl => h w₁ hl _ fun _ x => opsX_like x hl
/-- a lone contract in the crowd -/
theorem callsX_lone {T : FuncId → Bool} (hP : TameP P T) {f : FuncId} (hT : T f = true) {args : Array Value} (hs : Settled P w) {Post : Value → World → Prop} (hPost : ∀ v w w₁, Like w w₁ → Post v w → Post v w₁)
    (h : ∀ w₁, Like w w₁ → Calls P f args w₁ fun e w' => ∃ v, e = .returned v ∧ Post v w') : CallsX P f args w Post := callsX_of_calls hP hT hs hPost fun τ => h _ (Like.ona w τ 0)
/-- .. of one that only looks -/
theorem opsX_callp {T : FuncId → Bool} (hP : TameP P T) {f : FuncId} {args : Array Operand} {ats : Array TypeId} {v : Value} {vals : Array Value} (h : ∀ w₁, Like w w₁ → Calls P f vals w₁ fun e w' => e = .returned v ∧ Like w₁ w') (ho : ops[i]? = some o) (hw : Region.wanted o (yielded ops a.tmps) = true)
    (hop : o.op = .call { callee := .value (.func f), args, argTypes := ats }) (hv : args.map a.eval = vals) (hT : T f = true) (hs : Settled P w)
    (hn : OpsX P ops rest Q (a.put o.dst v) w) : OpsX P ops (i :: rest) Q a w := by
  refine opsX_call (Post := fun v' w' => v' = v ∧ Like w w') ho hw hop (hP.bodied f hT) (by rw [hv]; exact callsX_lone hP hT hs (fun _ _ _ hl q => ⟨q.1, q.2.trans hl⟩) fun w₁ hl => (h w₁ hl).mono fun e w' q => ⟨v, q.1, rfl, hl.trans q.2⟩) fun v' w' ⟨hv', hl⟩ => ?_
  subst hv'
  exact opsX_like hn hl
/-- a call that has a contract in the crowd -/
theorem opsX_calls {f : FuncId} {args : Array Operand} {ats : Array TypeId} {fn : Func} {vals : Array Value} {Post : Value → World → Prop} (hcall : CallsX P f vals w Post) (ho : ops[i]? = some o) (hw : Region.wanted o (yielded ops a.tmps) = true)
    (hop : o.op = .call { callee := .value (.func f), args, argTypes := ats }) (hv : args.map a.eval = vals) (hf : P.funcs[f]? = some fn) (hn : (fn.name == "runtime.NumGoroutine") = false) (hb : fn.body.isNone = false)
    (hnext : ∀ v w', Post v w' → OpsX P ops rest Q (a.put o.dst v) w') : OpsX P ops (i :: rest) Q a w :=
  opsX_call ho hw hop ⟨fn, hf, hn, hb⟩ (by rw [hv]; exact hcall) hnext
theorem callsX_of_postX {f : FuncId} {fn : Func} {c : Code} {args : Array Value} {Post : Value → World → Prop} (hf : P.funcs[f]? = some fn) (hb : fn.body = some c) (hPost : ∀ v w w₁, Like w w₁ → Post v w → Post v w₁)
    (h : WpX P c (postX fn Post) { tmps := args ++ Array.replicate (fn.ntmps - args.size) undef, defers := [] } w) : CallsX P f args w Post := callsX_of_wpX hf hb hPost h
/-- what is left of a region from operation k on, by the lone walk -/
theorem opsX_of_wpList {T : FuncId → Bool} (hP : TameP P T) (k : Nat) {l : List Nat} (hr : l = List.range' k (ops.toList.drop k).length) (hc : tameRest T ops l = true) (ha : a.defers = []) (hs : Settled P w) (hQ : LikeQ Q)
    (h : ∀ w₁, Like w w₁ → wpList P ops (fun e a' w' => (e = .normal ∨ e = .ret) ∧ a'.defers = [] ∧ Q e a' w') (ops.toList.drop k) a w₁) : OpsX P ops l Q a w := by
  refine opsX_of_wpOps hP hc ha hs hQ fun w₁ hl => ?_
  rw [hr, wpOps_eq_wpList _ k (fun j => by rw [List.getElem?_drop, Array.getElem?_toList])]
  exact h w₁ hl
end
end Go.Proofs.Ytchfnbcpjiiphab
