/-
  Code in a crowd of leavers, goroutine 0's: by what follows, with no counts of steps.
-/
import Derived.Test.YtchfnbcpjiiphabGCallsX
import Derived.Conc.Walk
namespace Go.Proofs.Ytchfnbcpjiiphab
open Go Go.Conc
section
variable {P : Program}
/-- where goroutine 0 goes on behind a piece of code that is left by this way out -/
def AfterX (P : Program) (R : Goroutine → World → Prop) (b : Frame) (k : List Item) (cs : List Frame) : Exit → Act → World → Prop
  | .normal, a, w => To P (G (b.at a k) cs) w R
  | .exit id, a, w => ∃ k', exitTo id k = some k' ∧ To P (G (b.at a k') cs) w R
  | .ret, a, w => ∀ todo, To P (G { b.at a todo with mode := .returning } cs) w R
  | _, _, _ => False
theorem AfterX.push {R : Goroutine → World → Prop} {b : Frame} {x : Item} {k : List Item} {cs : List Frame} {e : Exit} {a : Act} {w : World} (hx : x.plain = true) (he : e ≠ .normal) (h : AfterX P R b k cs e a w) : AfterX P R b (x :: k) cs e a w := by
  cases e with
  | normal => exact absurd rfl he
  | exit id => obtain ⟨k', hk, hg⟩ := h; exact ⟨k', by cases x <;> simp_all [exitTo, Item.plain], hg⟩
  | ret => exact h
  | goto l => exact h
  | panic ch => exact h
  | outgrown => exact h
def WpX (P : Program) (c : Code) (Q : Exit → Act → World → Prop) (a : Act) (w : World) : Prop :=
  ∀ (b : Frame) (k : List Item) (cs : List Frame) (R : Goroutine → World → Prop), b.kind = .normal → (∀ e a' w', Q e a' w' → AfterX P R b k cs e a' w') → To P (G (b.at a (.code c :: k)) cs) w R
def OpsX (P : Program) (ops : Array Oper) (todo : List Nat) (Q : Exit → Act → World → Prop) (a : Act) (w : World) : Prop :=
  ∀ (b : Frame) (k : List Item) (cs : List Frame) (R : Goroutine → World → Prop), b.kind = .normal → (∀ e a' w', Q e a' w' → AfterX P R b k cs e a' w') → To P (G (b.at a (.inRegion ops todo :: k)) cs) w R
variable {Q : Exit → Act → World → Prop} {a : Act} {w : World}
theorem wpX_mono {c : Code} {Q' : Exit → Act → World → Prop} (h : WpX P c Q a w) (hq : ∀ e a w, Q e a w → Q' e a w) : WpX P c Q' a w :=
  fun b k cs R hb hc => h b k cs R hb fun e a' w' q => hc e a' w' (hq e a' w' q)
theorem wpX_like {c : Code} {w₁ : World} (h : WpX P c Q a w) (hl : Like w w₁) : WpX P c Q a w₁ := fun b k cs R hb hc => to_like (h b k cs R hb hc) hl
theorem wpX_skip (h : Q .normal a w) : WpX P .skip Q a w := fun _ _ _ _ _ hc => to_move rfl (fun _ => stepG_skip) (hc _ _ _ h)
theorem wpX_ret (h : Q .ret a w) : WpX P .ret Q a w := fun _ _ _ _ _ hc => to_move rfl (fun _ => stepG_ret') (hc _ _ _ h _)
theorem wpX_exit {id : Nat} (h : Q (.exit id) a w) : WpX P (.exit id) Q a w := fun b k cs R _ hc => by
  obtain ⟨k', hk', hg⟩ := hc _ _ _ h
  exact to_move rfl (fun _ => stepG_exit hk') hg
theorem wpX_seq {x y : Code} (h : WpX P x (Exit.then (fun a' w' => WpX P y Q a' w') Q) a w) : WpX P (.seq x y) Q a w := by
  intro b k cs R hb hc
  refine to_move rfl (fun _ => stepG_seq) (h b (.code y :: k) cs R hb fun e a' w' q => ?_)
  cases e with
  | normal => exact q b k cs R hb hc
  | exit id => exact (hc _ _ _ q).push rfl (by simp)
  | ret => exact AfterX.push (x := .code y) rfl (by simp) (hc _ _ _ q)
  | goto l => exact hc _ _ _ q
  | panic ch => exact hc _ _ _ q
  | outgrown => exact hc _ _ _ q
theorem wpX_cond {c : Operand} {x y : Code} {t : Bool} (hc : a.eval c = .bool t) (h : WpX P (if t then x else y) Q a w) : WpX P (.cond c x y) Q a w :=
  fun b k cs R hb hq => to_move rfl (fun _ => stepG_cond hc) (h b k cs R hb hq)
theorem wpX_block {id : Nat} {c : Code} (h : WpX P c (Exit.inBlock id Q) a w) : WpX P (.block id c) Q a w := by
  intro b k cs R hb hc
  refine to_move rfl (fun _ => stepG_block) (h b (.inBlock id :: k) cs R hb fun e a' w' q => ?_)
  cases e with
  | normal => exact to_move rfl (fun _ => stepG_inBlock) (hc _ _ _ q)
  | exit id' =>
    by_cases hid : id' = id
    · simp only [Exit.inBlock, hid, if_true] at q
      exact ⟨k, by simp [exitTo, hid], hc _ _ _ q⟩
    · simp only [Exit.inBlock, hid, if_false] at q
      obtain ⟨k', hk', hg⟩ := hc _ _ _ q
      have : (id == id') = false := by simp; exact fun h => hid h.symm
      exact ⟨k', by simp [exitTo, this, hk'], hg⟩
  | ret => exact fun todo => hc _ _ _ q todo
  | goto l => exact hc _ _ _ q
  | panic ch => exact hc _ _ _ q
  | outgrown => exact hc _ _ _ q
/-- a loop: an invariant, and a measure that every round lowers -/
theorem wpX_loop {c : Code} (I : Act → World → Prop) (μ : Act → World → Nat) (h₀ : I a w) (round : ∀ a w, I a w → WpX P c (Exit.then (fun a' w' => I a' w' ∧ μ a' w' < μ a w) Q) a w) : WpX P (.loop c) Q a w := by
  intro b k cs R hb hc
  have key : ∀ N a w, μ a w < N → I a w → To P (G (b.at a (.code c :: .inLoop c :: k)) cs) w R := by
    intro N
    induction N with
    | zero => exact fun a w h => absurd h (Nat.not_lt_zero _)
    | succ N ih =>
      intro a w hμ hI
      refine round a w hI b (.inLoop c :: k) cs R hb fun e a' w' q => ?_
      cases e with
      | normal => exact to_move rfl (fun _ => stepG_inLoop) (ih a' w' (by have := q.2; omega) q.1)
      | exit id => exact (hc _ _ _ q).push rfl (by simp)
      | ret => exact AfterX.push (x := .inLoop c) rfl (by simp) (hc _ _ _ q)
      | goto l => exact hc _ _ _ q
      | panic ch => exact hc _ _ _ q
      | outgrown => exact hc _ _ _ q
  exact to_move rfl (fun _ => stepG_loop) (key _ a w (Nat.lt_succ_self _) h₀)
theorem wpX_region {id : Nat} {ops : Array Oper} (h : OpsX P ops (List.range ops.size) Q a w) : WpX P (.region id ops false) Q a w :=
  fun b k cs R hb hc => to_move rfl (fun _ => stepG_region) (h b k cs R hb hc)
theorem opsX_nil {ops : Array Oper} (h : Q .normal a w) : OpsX P ops [] Q a w := fun _ _ _ _ _ hc => to_move rfl (fun _ => stepG_region_end) (hc _ _ _ h)
theorem opsX_unwanted {ops : Array Oper} {i : Nat} {rest : List Nat} {o : Oper} (ho : ops[i]? = some o) (hw : Region.wanted o (yielded ops a.tmps) = false) (h : OpsX P ops rest Q (a.put o.dst undef) w) : OpsX P ops (i :: rest) Q a w :=
  fun b k cs R hb hc => to_move rfl (fun _ => stepG_unwanted ho hw) (h b k cs R hb hc)
/-- an operation that is calm -/
theorem opsX_op {ops : Array Oper} {i : Nat} {rest : List Nat} {o : Oper} (ho : ops[i]? = some o) (hw : Region.wanted o (yielded ops a.tmps) = true) (ht : tameOp (fun _ => false) o.op = true)
    (h : ∀ w₁, Like w w₁ → uponK o a (fun a' w' => OpsX P ops rest Q a' w') ((execOp a.eval o).run P w₁)) : OpsX P ops (i :: rest) Q a w := by
  intro b k cs R hb hc
  refine to_step rfl fun w₁ hl => ?_
  obtain ⟨hC, _⟩ := exec_tame (P := P) (fun _ => false) (fun _ h => by cases h) a.eval (fun _ => rfl) o ht
  have hk : (b.at a (.inRegion ops (i :: rest) :: k)).kind = .normal := hb
  have hfin : ∀ v, (b.at a (.inRegion ops (i :: rest) :: k)).finish v = b.at (a.put o.dst v) (.inRegion ops rest :: k) := fun v => by rw [Frame.finish_at, ho]; rfl
  have hev := runT_evL P _ hC w₁ b.fn
  have hz := (runT_low P _ hC w₁ #[]).1
  have hr : (execOp a.eval o).runT P w₁ #[] = ((execOp a.eval o).run P w₁, ((execOp a.eval o).runT P w₁ #[]).2) := by
    have := Sem.runT_eq P (execOp a.eval o) w₁ #[]
    rw [this]
  have h1 := h w₁ hl
  generalize (execOp a.eval o).run P w₁ = r at h1 hr
  generalize ((execOp a.eval o).runT P w₁ #[]).2 = es at hr hev
  rw [hr] at hev hz
  rw [stepG_oper ho hw]
  cases r with
  | ok x w' =>
    cases x with
    | value v =>
      refine ⟨_, w', _, apply_value hk hr, hev, by rw [← hl.size]; exact hz, ?_⟩
      rw [hfin]
      exact h1 b k cs R hb hc
    | skip =>
      refine ⟨_, w', _, apply_skip hk hr, hev, by rw [← hl.size]; exact hz, ?_⟩
      rw [hfin]
      exact h1 b k cs R hb hc
    | _ => exact h1.elim
  | halt x w' => exact h1.elim
/-- through a call, by its contract in the crowd -/
theorem opsX_call {ops : Array Oper} {i : Nat} {rest : List Nat} {o : Oper} {f : FuncId} {args : Array Operand} {ats : Array TypeId} {Post : Value → World → Prop} (ho : ops[i]? = some o) (hw : Region.wanted o (yielded ops a.tmps) = true)
    (hop : o.op = .call { callee := .value (.func f), args, argTypes := ats }) (hf : Bodied P f) (hcall : CallsX P f (args.map a.eval) w Post) (hnext : ∀ v w', Post v w' → OpsX P ops rest Q (a.put o.dst v) w') : OpsX P ops (i :: rest) Q a w := by
  intro b k cs R hb hc
  have hk : (b.at a (.inRegion ops (i :: rest) :: k)).kind = .normal := hb
  have hfin : ∀ v, (b.at a (.inRegion ops (i :: rest) :: k)).finish v = b.at (a.put o.dst v) (.inRegion ops rest :: k) := fun v => by rw [Frame.finish_at, ho]; rfl
  have he : execOp a.eval o = callFunc f (#[] ++ args.map a.eval ++ #[]) := by
    unfold execOp
    rw [hop]
    rfl
  obtain ⟨fn, h1, h2, h3⟩ := hf
  have hr : ∀ W : World, (execOp a.eval o).runT P W #[] = (.ok (.enter f (args.map a.eval)) W, #[]) := fun W => by
    rw [he]
    show (match P.funcs[f]? with
      | none => (stuck "call: no such function" : Sem Next)
      | some fn => _).runT P W #[] = _
    rw [h1]
    simp only [h2, h3, Bool.false_eq_true, if_false]
    simp only [Array.append_empty, Array.empty_append]
    rfl
  refine to_move rfl (fun W => ?_) (to_trans (hcall (b.at a (.inRegion ops (i :: rest) :: k) :: cs)) fun g' w' ⟨fr, v, e, hv, hp⟩ => ?_)
  · rw [stepG_oper ho hw, apply_enter hk rfl (hr W), seen_none]
  · rw [e]
    refine to_leave hv ?_
    rw [hfin]
    exact hnext v w' hp b k cs R hb hc
/-- a function's contract from its body's walk -/
theorem callsX_of_wpX {f : FuncId} {fn : Func} {c : Code} {args : Array Value} {Post : Value → World → Prop} (hf : P.funcs[f]? = some fn) (hb : fn.body = some c) (hPost : ∀ v w w₁, Like w w₁ → Post v w → Post v w₁)
    (h : WpX P c (fun e a' w' => (e = .normal ∨ e = .ret) ∧ a'.defers = [] ∧ ∃ v, results fn a'.tmps = Sem.pure v ∧ Post v w') { tmps := args ++ Array.replicate (fn.ntmps - args.size) undef, defers := [] } w) : CallsX P f args w Post := by
  intro base
  rw [enter_at args hf hb]
  refine h _ [] base _ rfl fun e a' w' ⟨he, hd, v, hr, hp⟩ => ?_
  have hret : ∀ todo, To P (G { (Conc.base f).at a' todo with mode := .returning } base) w' fun g' w' => ∃ fr v, g' = G fr base ∧ LeavesV P f fr v ∧ Post v w' := fun todo =>
    to_refl fun w₁ hl => ⟨_, v, rfl, ⟨rfl, rfl, hd, rfl, fn, hf, hr⟩, hPost v w' w₁ hl hp⟩
  rcases he with rfl | rfl
  · exact to_move rfl (fun _ => stepG_end) (hret [])
  · exact hret
end
end Go.Proofs.Ytchfnbcpjiiphab
