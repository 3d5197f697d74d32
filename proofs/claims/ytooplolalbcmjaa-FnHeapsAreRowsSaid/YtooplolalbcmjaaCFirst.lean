/-
  A loop over an iterator whose body returns in its first round; the contracts of the iterator of words, and of the function that gives the first one of them.
-/
import Derived.Test.YtooplolalbcmjaaCGive
import Derived.RangeFuncNested
namespace Go.Proofs.Ytooplolalbcmjaa
open Go.RowKit Go.Shelf

attribute [local go_sem] Oper.semAt_some

/-- what a world says that grows, or turns blocks from B on, still says -/
def Firm (B : Nat) (I : World → Prop) : Prop := ∀ W W' row, I W → W.grownBy W' row → (∀ r, row = some r → B ≤ r) → I W'
theorem Firm.alloc {B : Nat} {I : World → Prop} (h : Firm B I) {W : World} (o : Obj) (hi : I W) : I (W.alloc o) := h W _ none hi (World.grownBy_alloc W o none) (fun r e => by cases e)
theorem Firm.put {B : Nat} {I : World → Prop} (h : Firm B I) {W : World} {k : Nat} (o : Obj) (hi : I W) (hk : B ≤ k) : I (W.putObj k o) := h W _ (some k) hi (grownBy_putObj' W k o) (fun r e => by cases e; exact hk)
theorem Firm.and {B : Nat} {I I' : World → Prop} (h : Firm B I) (h' : Firm B I') : Firm B (fun W => I W ∧ I' W) := fun W W' row hs hg hr => ⟨h W W' row hs.1 hg hr, h' W W' row hs.2 hg hr⟩
theorem Firm.blk {B k : Nat} {o : Obj} (hk : k < B) : Firm B (fun W => W.heap[k]? = some o) := fun W W' row hs hg hr =>
  (hg.block k (Array.getElem?_eq_some_iff.1 hs).1 (fun e => by have := hr k e.symm; omega)).trans hs
theorem Firm.below {B n₀ : Nat} {w : World} (hn : n₀ ≤ B) : Firm B (fun W => Below n₀ w W ∧ n₀ ≤ W.heap.size) := fun W W' row hs hg hr =>
  ⟨hs.1.grown hg hs.2 (fun k e => by have := hr k e; omega), by have := hg.size; omega⟩
theorem Firm.mono {A B : Nat} {I : World → Prop} (h : Firm A I) (hab : A ≤ B) : Firm B I := fun W W' row hi hg hr => h W W' row hi hg (fun r e => Nat.le_trans hab (hr r e))

/-- how the body of the first round is left: by a return -/
def firstPost (Ix : World → Prop) (W : World) : Exit → Act → World → Prop
  | .ret, _, W' => KeepsOthers W W' ∧ Ix W'
  | _, _, _ => False

theorem loop_first {F : Fence} {n : Nat} {P : Program} {α : Type} {g : Operand} {ps : Array Tmp} {assign body : Code} {Q : Exit → Act → World → Prop} {a : Act} {w : World}
    (hro : F.round = none) (hd : F.depth = none) {gf : Nat} {lb : Array Value} (hg : a.eval g = .func (.func gf) #[] lb) (hFg : F.fn gf) (eg : ∀ args w, (callFunc gf args).run P w = .ok (.enter gf args) w)
    {encs : α → Array Value} (hps : ∀ x, (encs x).size = ps.size) (I₀ I : World → Prop) (Ix : α → World → Prop) (Dn : Prop) (Sx : α → Prop)
    (hI₀ : Firm w.heap.size I₀) (hI : Firm w.heap.size I) (hIx : ∀ x, Firm w.heap.size (Ix x)) (h0 : I₀ w) (a₁ : α → Act)
    (hassign : ∀ (l : Nat) (x : α) (W : World) (K : Act → World → Prop), K (a₁ x) W →
      assign.wpIn (F.inRound l) n P (Exit.then K (fun _ _ _ => False)) { tmps := (ps.zip (encs x)).foldl (fun t (p, v) => t.setIfInBounds p v) a.tmps, defers := [] } W)
    (hbody : ∀ (l : Nat) (x : α) (W : World), I W → body.wpIn (F.inRound l) n P (firstPost (Ix x) W) (a₁ x) W)
    (hcall : ∀ (oR oX : Obj), oR.isCells = false → oX.isCells = false →
      (∀ m x W, I W → W.heap[w.heap.size + 1]? = some oR → W.heap[w.heap.size]? = some (.deferred (some [])) → YieldAt F m P (w.heap.size + 1) (encs x) W fun e W' =>
        e = .returned (.bool false) ∧ Ix x W' ∧ W'.heap[w.heap.size + 1]? = some oX ∧ W'.heap[w.heap.size]? = some (.deferred (some []))) →
      ∀ W1, I₀ W1 → W1.heap[w.heap.size + 1]? = some oR → W1.heap[w.heap.size]? = some (.deferred (some [])) → Below w.heap.size w W1 →
      CallsIn F (n - 1) P gf (#[.func (.yield (w.heap.size + 1)) #[] #[]] ++ lb) W1 fun e W' => (∃ v, e = .returned v) ∧
        ((Dn ∧ I W' ∧ W'.heap[w.heap.size + 1]? = some oR ∧ W'.heap[w.heap.size]? = some (.deferred (some []))) ∨
         (∃ x, Sx x ∧ Ix x W' ∧ W'.heap[w.heap.size + 1]? = some oX ∧ W'.heap[w.heap.size]? = some (.deferred (some [])))))
    (hdone : ∀ (W : World), Dn → I W → W.heap[w.heap.size]? = some (.deferred (some [])) → Q .normal { a with defers := { target := .collected w.heap.size, args := #[] } :: a.defers } W)
    (hstop : ∀ (x : α) (W : World), Sx x → Ix x W → W.heap[w.heap.size]? = some (.deferred (some [])) → Code.ret.wpIn F n P Q { a with defers := { target := .collected w.heap.size, args := #[] } :: a.defers } W) :
    (Code.rangeFunc g ps assign body).wpIn F n P Q a w := by
  refine wpIn_rangeFunc ?_
  intro fn hfn
  rw [hro]
  let rc : LoopState → Option Code → Loop := fun st pe => { state := st, pending := pe, fn, tmps := a.tmps, params := ps, assign, body, defers := w.heap.size }
  have hlen : ∀ (o : Obj), (w.alloc o).heap.size = w.heap.size + 1 := fun o => World.size_alloc _ _
  refine ⟨w.heap.size + 1, [{ target := .collected w.heap.size, args := #[] }], (w.alloc (.deferred (some []))).alloc (.loop (rc .ready none)), { target := .fn (.func gf) lb, args := #[.func (.yield (w.heap.size + 1)) #[] #[]] },
    (w.alloc (.deferred (some []))).alloc (.loop (rc .ready none)), gf, #[.func (.yield (w.heap.size + 1)) #[] #[]] ++ lb, (w.alloc (.deferred (some []))).alloc (.loop (rc .ready none)), run_enterLoop_outer _ _ _ _ _, ?_, ?_, ?_, (fun h => by rw [hd] at h; cases h), ?_⟩
  · simp only [resolve, hg]
    simp [go_sem]
  · intro f' hf'; simp [Target.leads] at hf'; subst hf'; exact hFg
  · simp [invoke, go_sem, eg]
  · refine (hcall (.loop (rc .ready none)) (.loop (rc .done (some .ret))) rfl rfl ?_ _ ?_ ?_ ?_ ?_).mono ?_
    · intro m x W hi hl hk
      have hlt : w.heap.size + 1 < W.heap.size := (Array.getElem?_eq_some_iff.1 hl).1
      have hy := run_yield (P := P) (args := encs x) hl (hps x)
      refine ⟨fn, _, assign, body, hy, round_any hd (m := n) (roundIn_of_wpIn hfn (hassign _ x W _ ⟨_, run_beginRound hl rfl, ?_⟩))⟩
      have hl2 : (W.putObj (w.heap.size + 1) (.loop { rc .ready none with state := .busy })).heap[w.heap.size + 1]? = some (.loop { rc .ready none with state := .busy }) := World.putObj_heap_same hlt
      have hk2 : (W.putObj (w.heap.size + 1) (.loop { rc .ready none with state := .busy })).heap[w.heap.size]? = some (.deferred (some [])) := (World.putObj_heap_other (by omega)).trans hk
      refine wpIn_mono (hbody _ x _ (hI.put _ hi (by omega))) ?_
      rintro e a3 W3 hp
      cases e with
      | ret =>
        obtain ⟨hk3, hi3⟩ := hp
        have hl3 := hk3.same _ _ hl2 rfl
        have hk4 := hk3.same _ _ hk2 rfl
        exact ⟨_, _, run_endRound (P := P) (some .ret) hl3, rfl, (hIx x).put _ hi3 (by omega), World.putObj_heap_same (Array.getElem?_eq_some_iff.1 hl3).1, (World.putObj_heap_other (by omega)).trans hk4⟩
      | normal => exact hp.elim
      | exit id => exact hp.elim
      | goto t => exact hp.elim
      | panic ch => exact hp.elim
      | outgrown => exact hp.elim
    · exact hI₀.alloc _ (hI₀.alloc _ h0)
    · have := World.alloc_heap_new (w.alloc (.deferred (some []))) (.loop (rc .ready none)); rwa [World.size_alloc] at this
    · exact (Below.heap_alloc _ _ _ (by simp)).trans (World.alloc_heap_new w _)
    · exact ((Below.refl _ w).alloc (Nat.le_refl _) _).alloc (by simp) _
    · rintro e W2 ⟨⟨v, rfl⟩, (⟨hDn, hi, hl, hk⟩ | ⟨x, hS, hi, hl, hk⟩)⟩
      · exact ⟨none, _, run_endLoop (P := P) hl (by simp [rc]), hdone _ hDn (hI.put _ hi (by omega)) ((World.putObj_heap_other (by omega)).trans hk)⟩
      · exact ⟨some .ret, _, run_endLoop (P := P) hl (by simp [rc]), hstop x _ hS ((hIx x).put _ hi (by omega)) ((World.putObj_heap_other (by omega)).trans hk)⟩

section
variable {σ : Type} (cut : σ → List UInt8 → Nat → Nat → Bool × σ)

theorem wordsBut_any (F : Fence) (n : Nat) (h40 : F.fn 78) (hro : F.round = none) (k : Int) (cf : Nat) (lbc : Array Value) (w : World) :
    CallsIn F n Try.prog 78 #[.int .i64 k, .func (.func cf) #[] lbc] w fun e w' => e = .returned (.func (.func 96) #[] #[.pointer (some ⟨w.heap.size, 0, none⟩), .pointer (some ⟨w.heap.size + 1, 0, none⟩)]) ∧
      w' = (w.alloc (.cells #[.int .i64 k] 3)).alloc (.cells #[.func (.func cf) #[] lbc] 72) := by
  refine callsIn_of_wp Try.func78 rfl h40 ?_ hro
  simp only [Try.ntmps78, List.size_toArray, List.length_cons, List.length_nil, Nat.reduceAdd, Nat.reduceSub, Array.replicate_succ, Array.replicate_zero, List.push_toArray, List.append_toArray, List.nil_append, List.cons_append]
  gi_wp2
  go_ret
  exact ⟨rfl, rfl⟩

set_option maxHeartbeats 800000 in
/-- the iterator: from the first beginning on -/
theorem iter_any (F : Fence) (hd : F.depth = none) (hro : F.round = none) (h57 : F.fn 96) (h58 : F.fn 97) (cf : Nat) (lbc : Array Value) (hcf : F.fn cf)
    (ecf : ∀ args w, (callFunc cf args).run Try.prog w = .ok (.enter cf args) w) (lr n N : Nat) (J : σ → List (List UInt8) → World → Prop) (Jx : List (List UInt8) → World → Prop)
    (hA : ∀ s pre W o, J s pre W → J s pre (W.alloc o))
    (hY : ∀ m s pre (x : ByteArray) W, x.size = 2 * n → J s pre W → pre.length < N → YieldAt F m Try.prog lr #[.string x] W fun e W' =>
      (e = .returned (.bool true) ∧ J s (pre ++ [x.data.toList]) W' ∧ KT 71 W W') ∨ (e = .returned (.bool false) ∧ Jx (pre ++ [x.data.toList]) W'))
    (hC : ∀ m s pre (h : ByteArray) o l W, h.size + 2 * l + o = 2 * n → o + l ≤ n → J s pre W → CallsIn F m Try.prog cf (#[Beg h o l] ++ lbc) W fun e W' =>
      e = .returned (.bool (cut s h.data.toList o l).1) ∧ J (cut s h.data.toList o l).2 pre W' ∧ KT 71 W W') (hn : n ≤ 9)
    (m : Nat) (s : σ) (Bn Bc : Nat) (W : World) (hBn : W.cell? ⟨Bn, 0, none⟩ = some (.int .i64 n)) (hBc : W.cell? ⟨Bc, 0, none⟩ = some (.func (.func cf) #[] lbc)) (h0 : J s [] W) (hN : (gw cut (2 * n) s [] 0 n).1.length ≤ N) :
    CallsIn F m Try.prog 96 #[.func (.yield lr) #[] #[], .pointer (some ⟨Bn, 0, none⟩), .pointer (some ⟨Bc, 0, none⟩)] W fun e W' => (∃ v, e = .returned v) ∧
      (J (gw cut (2 * n) s [] 0 n).2 (gw cut (2 * n) s [] 0 n).1 W' ∨ ∃ q, q ≠ [] ∧ q <+: (gw cut (2 * n) s [] 0 n).1 ∧ Jx q W') := by
  have hg := give_any cut F hd hro h58 cf lbc hcf ecf lr n N J Jx hA hY hC hn (2 * n) s ByteArray.empty 0 n (m - 1) [] W (by omega) (by simp) (by omega) h0 (by simpa using hN)
  have e0 : (ByteArray.empty).data.toList = [] := rfl
  rw [e0] at hg
  obtain ⟨G, hG⟩ : ∃ g, g = gw cut (2 * n) s [] 0 n := ⟨_, rfl⟩
  rw [← hG] at hg ⊢
  have HG := Lib.hid hg
  clear hg hG hN hY hC hA h0
  refine callsIn_of_wp Try.func96 rfl h57 ?_ hro
  simp only [Try.ntmps96, List.size_toArray, List.length_cons, List.length_nil, Nat.reduceAdd, Nat.reduceSub, Array.replicate_succ, Array.replicate_zero, List.push_toArray, List.append_toArray, List.nil_append, List.cons_append]
  gi_wp2_with fail
  refine HG.out.mono ?_
  rintro e W1 (⟨rfl, hJ1, _⟩ | ⟨rfl, q, hq0, hq, hx⟩)
  · gi_wp2
    go_end0
    exact ⟨⟨_, rfl⟩, .inl hJ1⟩
  · gi_wp2
    go_end0
    exact ⟨⟨_, rfl⟩, .inr ⟨q, hq0, hq, hx⟩⟩

/-- every block from B on lies as it lay -/
def Keep (B : Nat) (W W' : World) : Prop := ∀ (k : Nat) (o : Obj), B ≤ k → W.heap[k]? = some o → W'.heap[k]? = some o
theorem Keep.refl (B : Nat) (W : World) : Keep B W W := fun _ _ _ h => h
theorem Keep.alloc {B : Nat} {W W' : World} (h : Keep B W W') (o : Obj) : Keep B W (W'.alloc o) := fun k x hk hx => (Below.heap_alloc _ _ _ (Array.getElem?_eq_some_iff.1 (h k x hk hx)).1).trans (h k x hk hx)

/-- what the function that gives the first word returns -/
def firstV (L : List (List UInt8)) : Value := match L with | [] => .tuple #[.string ⟨#[]⟩, .bool false] | x :: _ => .tuple #[.string ⟨x.toArray⟩, .bool true]

end
end Go.Proofs.Ytooplolalbcmjaa
