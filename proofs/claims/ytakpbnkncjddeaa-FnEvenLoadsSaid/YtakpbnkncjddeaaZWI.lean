/-
  A loop over an iterator whose body returns in its first round; the contracts of the iterator of words, and of the function that gives the first one of them.
  The contracts of the functions that list all words, word by word from the iterator.
  The contract of the program's function that lists all words of so many pairs.
-/
import Derived.Test.YtakpbnkncjddeaaCGive
import Derived.RangeFuncNested
import Derived.Test.YtakpbnkncjddeaaZCW
import Derived.Test.YtakpbnkncjddeaaZX
import Derived.Maps.AppendAt
namespace Go.Proofs.Ytakpbnkncjddeaa
open Go.RowKit Go.Shelf

attribute [local go_sem] Oper.semAt_some

/-- what a world says that grows, or turns blocks from B on, still says -/
def Firm (B : Nat) (I : World → Prop) : Prop := ∀ W W' row, I W → W.grownBy W' row → (∀ r, row = some r → B ≤ r) → I W'
theorem Firm.alloc {B : Nat} {I : World → Prop} (h : Firm B I) {W : World} (o : Obj) (hi : I W) : I (W.alloc o) := h W _ none hi (World.grownBy_alloc W o none) (fun r e => by cases e)
theorem Firm.put {B : Nat} {I : World → Prop} (h : Firm B I) {W : World} {k : Nat} (o : Obj) (hi : I W) (hk : B ≤ k) : I (W.putObj k o) := h W _ (some k) hi (grownBy_putObj' W k o) (fun r e => by cases e; exact hk)
theorem Firm.and {B : Nat} {I I' : World → Prop} (h : Firm B I) (h' : Firm B I') : Firm B (fun W => I W ∧ I' W) := fun W W' row hs hg hr => ⟨h W W' row hs.1 hg hr, h' W W' row hs.2 hg hr⟩
theorem Firm.blk {B k : Nat} {o : Obj} (hk : k < B) : Firm B (fun W => W.heap[k]? = some o) := fun W W' row hs hg hr =>
  (hg.block k (Array.getElem?_eq_some_iff.1 hs).1 (fun e => by have := hr k e.symm; omega)).trans hs
theorem Firm.below {B n₀ : Nat} {w : World} (hn : n₀ ≤ B) : Firm B (fun W => Below n₀ w W ∧ n₀ ≤ W.heap.size) := fun W W' row hs hg hr =>
  ⟨hs.1.grown hg hs.2 (fun k e => by have := hr k e; omega), by have := hg.size; omega⟩
theorem Firm.mono {A B : Nat} {I : World → Prop} (h : Firm A I) (hab : A ≤ B) : Firm B I := fun W W' row hi hg hr => h W W' row hi hg (fun r e => Nat.le_trans hab (hr r e))

/-- how the body of the first round is left: by a return -/
def firstPost (Ix : World → Prop) (W : World) : Exit → Act → World → Prop
  | .ret, _, W' => KeepsOthers W W' ∧ Ix W'
  | _, _, _ => False

theorem loop_first {F : Fence} {n : Nat} {P : Program} {α : Type} {g : Operand} {ps : Array Tmp} {assign body : Code} {Q : Exit → Act → World → Prop} {a : Act} {w : World}
    (hro : F.round = none) (hd : F.depth = none) {gf : Nat} {lb : Array Value} (hg : a.eval g = .func (.func gf) #[] lb) (hFg : F.fn gf) (eg : ∀ args w, (callFunc gf args).run P w = .ok (.enter gf args) w)
    {encs : α → Array Value} (hps : ∀ x, (encs x).size = ps.size) (I₀ I : World → Prop) (Ix : α → World → Prop) (Dn : Prop) (Sx : α → Prop)
    (hI₀ : Firm w.heap.size I₀) (hI : Firm w.heap.size I) (hIx : ∀ x, Firm w.heap.size (Ix x)) (h0 : I₀ w) (a₁ : α → Act)
    (hassign : ∀ (l : Nat) (x : α) (W : World) (K : Act → World → Prop), K (a₁ x) W →
      assign.wpIn (F.inRound l) n P (Exit.then K (fun _ _ _ => False)) { tmps := (ps.zip (encs x)).foldl (fun t (p, v) => t.setIfInBounds p v) a.tmps, defers := [] } W)
    (hbody : ∀ (l : Nat) (x : α) (W : World), I W → body.wpIn (F.inRound l) n P (firstPost (Ix x) W) (a₁ x) W)
    (hcall : ∀ (oR oX : Obj), oR.isCells = false → oX.isCells = false →
      (∀ m x W, I W → W.heap[w.heap.size + 1]? = some oR → W.heap[w.heap.size]? = some (.deferred (some [])) → YieldAt F m P (w.heap.size + 1) (encs x) W fun e W' =>
        e = .returned (.bool false) ∧ Ix x W' ∧ W'.heap[w.heap.size + 1]? = some oX ∧ W'.heap[w.heap.size]? = some (.deferred (some []))) →
      ∀ W1, I₀ W1 → W1.heap[w.heap.size + 1]? = some oR → W1.heap[w.heap.size]? = some (.deferred (some [])) → Below w.heap.size w W1 →
      CallsIn F (n - 1) P gf (#[.func (.yield (w.heap.size + 1)) #[] #[]] ++ lb) W1 fun e W' => (∃ v, e = .returned v) ∧
        ((Dn ∧ I W' ∧ W'.heap[w.heap.size + 1]? = some oR ∧ W'.heap[w.heap.size]? = some (.deferred (some []))) ∨
         (∃ x, Sx x ∧ Ix x W' ∧ W'.heap[w.heap.size + 1]? = some oX ∧ W'.heap[w.heap.size]? = some (.deferred (some [])))))
    (hdone : ∀ (W : World), Dn → I W → W.heap[w.heap.size]? = some (.deferred (some [])) → Q .normal { a with defers := { target := .collected w.heap.size, args := #[] } :: a.defers } W)
    (hstop : ∀ (x : α) (W : World), Sx x → Ix x W → W.heap[w.heap.size]? = some (.deferred (some [])) → Code.ret.wpIn F n P Q { a with defers := { target := .collected w.heap.size, args := #[] } :: a.defers } W) :
    (Code.rangeFunc g ps assign body).wpIn F n P Q a w := by
  refine wpIn_rangeFunc ?_
  intro fn hfn
  rw [hro]
  let rc : LoopState → Option Code → Loop := fun st pe => { state := st, pending := pe, fn, tmps := a.tmps, params := ps, assign, body, defers := w.heap.size }
  have hlen : ∀ (o : Obj), (w.alloc o).heap.size = w.heap.size + 1 := fun o => World.size_alloc _ _
  refine ⟨w.heap.size + 1, [{ target := .collected w.heap.size, args := #[] }], (w.alloc (.deferred (some []))).alloc (.loop (rc .ready none)), { target := .fn (.func gf) lb, args := #[.func (.yield (w.heap.size + 1)) #[] #[]] },
    (w.alloc (.deferred (some []))).alloc (.loop (rc .ready none)), gf, #[.func (.yield (w.heap.size + 1)) #[] #[]] ++ lb, (w.alloc (.deferred (some []))).alloc (.loop (rc .ready none)), run_enterLoop_outer _ _ _ _ _, ?_, ?_, ?_, (fun h => by rw [hd] at h; cases h), ?_⟩
  · simp only [resolve, hg]
    simp [go_sem]
  · intro f' hf'; simp [Target.leads] at hf'; subst hf'; exact hFg
  · simp [invoke, go_sem, eg]
  · refine (hcall (.loop (rc .ready none)) (.loop (rc .done (some .ret))) rfl rfl ?_ _ ?_ ?_ ?_ ?_).mono ?_
    · intro m x W hi hl hk
      have hlt : w.heap.size + 1 < W.heap.size := (Array.getElem?_eq_some_iff.1 hl).1
      have hy := run_yield (P := P) (args := encs x) hl (hps x)
      refine ⟨fn, _, assign, body, hy, round_any hd (m := n) (roundIn_of_wpIn hfn (hassign _ x W _ ⟨_, run_beginRound hl rfl, ?_⟩))⟩
      have hl2 : (W.putObj (w.heap.size + 1) (.loop { rc .ready none with state := .busy })).heap[w.heap.size + 1]? = some (.loop { rc .ready none with state := .busy }) := World.putObj_heap_same hlt
      have hk2 : (W.putObj (w.heap.size + 1) (.loop { rc .ready none with state := .busy })).heap[w.heap.size]? = some (.deferred (some [])) := (World.putObj_heap_other (by omega)).trans hk
      refine wpIn_mono (hbody _ x _ (hI.put _ hi (by omega))) ?_
      rintro e a3 W3 hp
      cases e with
      | ret =>
        obtain ⟨hk3, hi3⟩ := hp
        have hl3 := hk3.same _ _ hl2 rfl
        have hk4 := hk3.same _ _ hk2 rfl
        exact ⟨_, _, run_endRound (P := P) (some .ret) hl3, rfl, (hIx x).put _ hi3 (by omega), World.putObj_heap_same (Array.getElem?_eq_some_iff.1 hl3).1, (World.putObj_heap_other (by omega)).trans hk4⟩
      | normal => exact hp.elim
      | exit id => exact hp.elim
      | goto t => exact hp.elim
      | panic ch => exact hp.elim
      | outgrown => exact hp.elim
    · exact hI₀.alloc _ (hI₀.alloc _ h0)
    · have := World.alloc_heap_new (w.alloc (.deferred (some []))) (.loop (rc .ready none)); rwa [World.size_alloc] at this
    · exact (Below.heap_alloc _ _ _ (by simp)).trans (World.alloc_heap_new w _)
    · exact ((Below.refl _ w).alloc (Nat.le_refl _) _).alloc (by simp) _
    · rintro e W2 ⟨⟨v, rfl⟩, (⟨hDn, hi, hl, hk⟩ | ⟨x, hS, hi, hl, hk⟩)⟩
      · exact ⟨none, _, run_endLoop (P := P) hl (by simp [rc]), hdone _ hDn (hI.put _ hi (by omega)) ((World.putObj_heap_other (by omega)).trans hk)⟩
      · exact ⟨some .ret, _, run_endLoop (P := P) hl (by simp [rc]), hstop x _ hS ((hIx x).put _ hi (by omega)) ((World.putObj_heap_other (by omega)).trans hk)⟩

section
variable {σ : Type} (cut : σ → List UInt8 → Nat → Nat → Bool × σ)

theorem wordsBut_any (F : Fence) (n : Nat) (h40 : F.fn 69) (hro : F.round = none) (k : Int) (cf : Nat) (lbc : Array Value) (w : World) :
    CallsIn F n Try.prog 69 #[.int .i64 k, .func (.func cf) #[] lbc] w fun e w' => e = .returned (.func (.func 91) #[] #[.pointer (some ⟨w.heap.size, 0, none⟩), .pointer (some ⟨w.heap.size + 1, 0, none⟩)]) ∧
      w' = (w.alloc (.cells #[.int .i64 k] 3)).alloc (.cells #[.func (.func cf) #[] lbc] 63) := by
  refine callsIn_of_wp Try.func69 rfl h40 ?_ hro
  simp only [Try.ntmps69, List.size_toArray, List.length_cons, List.length_nil, Nat.reduceAdd, Nat.reduceSub, Array.replicate_succ, Array.replicate_zero, List.push_toArray, List.append_toArray, List.nil_append, List.cons_append]
  gi_wp2
  go_ret
  exact ⟨rfl, rfl⟩

set_option maxHeartbeats 800000 in
/-- the iterator: from the first beginning on -/
theorem iter_any (F : Fence) (hd : F.depth = none) (hro : F.round = none) (h57 : F.fn 91) (h58 : F.fn 92) (cf : Nat) (lbc : Array Value) (hcf : F.fn cf)
    (ecf : ∀ args w, (callFunc cf args).run Try.prog w = .ok (.enter cf args) w) (lr n N : Nat) (J : σ → List (List UInt8) → World → Prop) (Jx : List (List UInt8) → World → Prop)
    (hA : ∀ s pre W o, J s pre W → J s pre (W.alloc o))
    (hY : ∀ m s pre (x : ByteArray) W, x.size = 2 * n → J s pre W → pre.length < N → YieldAt F m Try.prog lr #[.string x] W fun e W' =>
      (e = .returned (.bool true) ∧ J s (pre ++ [x.data.toList]) W' ∧ KT 62 W W') ∨ (e = .returned (.bool false) ∧ Jx (pre ++ [x.data.toList]) W'))
    (hC : ∀ m s pre (h : ByteArray) o l W, h.size + 2 * l + o = 2 * n → o + l ≤ n → J s pre W → CallsIn F m Try.prog cf (#[Beg h o l] ++ lbc) W fun e W' =>
      e = .returned (.bool (cut s h.data.toList o l).1) ∧ J (cut s h.data.toList o l).2 pre W' ∧ KT 62 W W') (hn : n ≤ 9)
    (m : Nat) (s : σ) (Bn Bc : Nat) (W : World) (hBn : W.cell? ⟨Bn, 0, none⟩ = some (.int .i64 n)) (hBc : W.cell? ⟨Bc, 0, none⟩ = some (.func (.func cf) #[] lbc)) (h0 : J s [] W) (hN : (gw cut (2 * n) s [] 0 n).1.length ≤ N) :
    CallsIn F m Try.prog 91 #[.func (.yield lr) #[] #[], .pointer (some ⟨Bn, 0, none⟩), .pointer (some ⟨Bc, 0, none⟩)] W fun e W' => (∃ v, e = .returned v) ∧
      (J (gw cut (2 * n) s [] 0 n).2 (gw cut (2 * n) s [] 0 n).1 W' ∨ ∃ q, q ≠ [] ∧ q <+: (gw cut (2 * n) s [] 0 n).1 ∧ Jx q W') := by
  have hg := give_any cut F hd hro h58 cf lbc hcf ecf lr n N J Jx hA hY hC hn (2 * n) s ByteArray.empty 0 n (m - 1) [] W (by omega) (by simp) (by omega) h0 (by simpa using hN)
  have e0 : (ByteArray.empty).data.toList = [] := rfl
  rw [e0] at hg
  obtain ⟨G, hG⟩ : ∃ g, g = gw cut (2 * n) s [] 0 n := ⟨_, rfl⟩
  rw [← hG] at hg ⊢
  have HG := Lib.hid hg
  clear hg hG hN hY hC hA h0
  refine callsIn_of_wp Try.func91 rfl h57 ?_ hro
  simp only [Try.ntmps91, List.size_toArray, List.length_cons, List.length_nil, Nat.reduceAdd, Nat.reduceSub, Array.replicate_succ, Array.replicate_zero, List.push_toArray, List.append_toArray, List.nil_append, List.cons_append]
  gi_wp2_with fail
  refine HG.out.mono ?_
  rintro e W1 (⟨rfl, hJ1, _⟩ | ⟨rfl, q, hq0, hq, hx⟩)
  · gi_wp2
    go_end0
    exact ⟨⟨_, rfl⟩, .inl hJ1⟩
  · gi_wp2
    go_end0
    exact ⟨⟨_, rfl⟩, .inr ⟨q, hq0, hq, hx⟩⟩

/-- every block from B on lies as it lay -/
def Keep (B : Nat) (W W' : World) : Prop := ∀ (k : Nat) (o : Obj), B ≤ k → W.heap[k]? = some o → W'.heap[k]? = some o
theorem Keep.refl (B : Nat) (W : World) : Keep B W W := fun _ _ _ h => h
theorem Keep.alloc {B : Nat} {W W' : World} (h : Keep B W W') (o : Obj) : Keep B W (W'.alloc o) := fun k x hk hx => (Below.heap_alloc _ _ _ (Array.getElem?_eq_some_iff.1 (h k x hk hx)).1).trans (h k x hk hx)

/-- what the function that gives the first word returns -/
def firstV (L : List (List UInt8)) : Value := match L with | [] => .tuple #[.string ⟨#[]⟩, .bool false] | x :: _ => .tuple #[.string ⟨x.toArray⟩, .bool true]

end
end Go.Proofs.Ytakpbnkncjddeaa

namespace Go.Proofs.Ytakpbnkncjddeaa
open Go.RowKit Go.Shelf

attribute [local go_sem] Oper.semAt_some

/-- what a round that goes on keeps -/
def Kept (n₀ : Nat) (W W' : World) : Prop := Below n₀ W W' ∧ KT 62 W W'
theorem Kept.trans {n₀ : Nat} {A B C : World} (h : Kept n₀ A B) (k : Kept n₀ B C) : Kept n₀ A C := ⟨h.1.trans k.1, h.2.trans k.2⟩
theorem Kept.put {n₀ : Nat} {w : World} (hn : n₀ ≤ w.heap.size) (W : World) (l : Nat) (o o' : Obj) (hl : w.heap.size ≤ l) (h : W.heap[l]? = some o) (hc : o.isCells = false) (hw : o.isWalk = false) : Kept n₀ W (W.putObj l o') :=
  ⟨belowK_b hn W l o o' hl h hc hw, fun k vs r e => by
    have hne : k ≠ l := fun ek => by subst ek; rw [h] at e; cases e; cases hc
    exact (World.putObj_heap_other hne).trans e⟩
theorem below_grown_none {W W' : World} (h : Below W.heap.size W W') : W.grownBy W' none := ⟨h.os, h.tape, h.output, h.size, fun k hk _ => h.block k hk⟩
theorem KT.below {t : TypeId} {W W' : World} (h : Below W.heap.size W W') : KT t W W' := fun k _ _ e => (h.block k (Array.getElem?_eq_some_iff.1 e).1).trans e

theorem not_row {W : World} {k : Nat} {vs : Array Value} {t e : TypeId} {r : Nat × Nat} (h : W.heap[k]? = some (.cells vs t r)) (hte : t ≠ e) {base size n : Nat} {v : Value} {xs : List Value} (hr : W.ownsRow base e size v n xs) : some k ≠ v.ownBlock := by
  intro ek
  rcases hr.2 with ⟨hv, _⟩ | ⟨g, cap, cur, rfl, hg, hh, _⟩
  · subst hv; simp [Value.ownBlock] at ek
  · simp [Value.ownBlock] at ek
    subst ek
    rw [h] at hh; cases hh; exact hte rfl

/-- texts of at most eighteen bytes -/
abbrev W18 := { x : List UInt8 // x.length ≤ 18 }
def vals (L : List W18) : List (List UInt8) := L.map Subtype.val
theorem vals_snoc (L : List W18) (x : W18) : vals (L ++ [x]) = vals L ++ [x.1] := by simp [vals]
theorem vals_length (L : List W18) : (vals L).length = L.length := by simp [vals]

/-- the iterator of words over a cut without state, as a loop takes it -/
theorem words_stops (F : Fence) (hd : F.depth = none) (hro : F.round = none) (h57 : F.fn 91) (h58 : F.fn 92) (c : List UInt8 → Bool) (cf : Nat) (lbc : Array Value) (hcf : F.fn cf)
    (ecf : ∀ args w, (callFunc cf args).run Try.prog w = .ok (.enter cf args) w) (n : Nat) (hn : n ≤ 9) (n₀ : Nat) (w : World) (hn₀ : n₀ ≤ w.heap.size)
    (hC : ∀ m (h : ByteArray) o l W, h.size + 2 * l + o = 2 * n → Below n₀ w W → CallsIn F m Try.prog cf (#[Beg h o l] ++ lbc) W fun e W' => e = .returned (.bool (c h.data.toList)) ∧ Below W.heap.size W W')
    (m Bn Bc : Nat) (hBn : w.cell? ⟨Bn, 0, none⟩ = some (.int .i64 n)) (hBc : w.cell? ⟨Bc, 0, none⟩ = some (.func (.func cf) #[] lbc)) :
    SeqStopsK F m Try.prog 91 #[.pointer (some ⟨Bn, 0, none⟩), .pointer (some ⟨Bc, 0, none⟩)] (fun x : W18 => #[Value.string ⟨x.1.toArray⟩]) (Kept n₀)
      (fun ys => vals ys = (gw (cutOf c) (2 * n) () [] 0 n).1) (fun pre => vals pre <+: (gw (cutOf c) (2 * n) () [] 0 n).1) (gw (cutOf c) (2 * n) () [] 0 n).1.length w := by
  intro l J Jx W hW hJ hJx hY h0
  have ltn : Bn < w.heap.size := by obtain ⟨o, ho, _⟩ := cells_of_cell hBn; exact (Array.getElem?_eq_some_iff.1 ho).1
  have ltc : Bc < w.heap.size := by obtain ⟨o, ho, _⟩ := cells_of_cell hBc; exact (Array.getElem?_eq_some_iff.1 ho).1
  refine (iter_any (cutOf c) F hd hro h57 h58 cf lbc hcf ecf l n (gw (cutOf c) (2 * n) () [] 0 n).1.length (fun _ pre W' => ∃ q, vals q = pre ∧ J q W' ∧ Below n₀ w W' ∧ n₀ ≤ W'.heap.size) (fun pre W' => ∃ q, vals q = pre ∧ Jx q W') ?hA ?hY ?hC hn m () Bn Bc W ((hW.cell (p := ⟨Bn, 0, none⟩) ltn).trans hBn) ((hW.cell (p := ⟨Bc, 0, none⟩) ltc).trans hBc)
    ⟨[], rfl, h0, hW.mono hn₀, by have := hW.size; omega⟩ (Nat.le_refl _)).mono ?_
  case hA => exact fun s pre W1 o ⟨q, h0, h1, h2, h3⟩ => ⟨q, h0, hJ _ _ _ none h1 (World.grownBy_alloc W1 o none) (fun r e => by cases e), h2.alloc h3 _, by simp; omega⟩
  case hY =>
    rintro m1 s pre x W1 hx ⟨q, rfl, h1, h2, h3⟩ hlt
    have := hY q ⟨x.data.toList, by rw [size_list]; omega⟩ W1 h1 (by rw [← vals_length]; exact hlt)
    dsimp only at this
    rw [← str_list] at this
    refine yield_any hd m1 (YieldAt.mono this fun e W2 h => h.elim (fun ⟨he, hj, hk⟩ => .inl ⟨he, ⟨_, vals_snoc _ _, hj, h2.trans hk.1, by have := hk.1.size; omega⟩, hk.2⟩) (fun ⟨he, hj⟩ => .inr ⟨he, _, vals_snoc _ _, hj⟩))
  case hC =>
    intro m1 s pre h o l W1 hsz _ ⟨q, h0, h1, h2, h3⟩
    refine (hC m1 h o l W1 hsz h2).mono fun e W2 ⟨he, hb⟩ => ⟨he, ⟨q, h0, hJ _ _ _ none h1 (below_grown_none hb) (fun r e => by cases e), h2.trans (hb.mono h3), by have := hb.size; omega⟩, KT.below hb⟩
  rintro e W2 ⟨hv, (⟨q, h0, h1, _⟩ | ⟨p, _, hp, q, rfl, hx⟩)⟩
  · exact ⟨hv, .inl ⟨q, h0, h1⟩⟩
  · exact ⟨hv, .inr ⟨q, hp, hx⟩⟩

set_option maxRecDepth 100000 in
set_option maxHeartbeats 2000000 in
theorem appendSeq_any (L : List (List UInt8)) (hL : L.length ≤ 8192) (S Sp : List W18 → Prop) (hS : ∀ ys, S ys → vals ys = L) (Bn Bc : Nat) (W : World)
    (hseq : ∀ w1, W.heap.size ≤ w1.heap.size → Below W.heap.size W w1 → SeqStopsK Fence.wide 99 Try.prog 91 #[.pointer (some ⟨Bn, 0, none⟩), .pointer (some ⟨Bc, 0, none⟩)] (fun x : W18 => #[Value.string ⟨x.1.toArray⟩]) (Kept W.heap.size) S Sp L.length w1) :
    CallsIn Fence.wide 100 Try.prog 90 #[.slice none 0 0, .func (.func 91) #[] #[.pointer (some ⟨Bn, 0, none⟩), .pointer (some ⟨Bc, 0, none⟩)]] W fun e W' =>
      ∃ v, e = .returned v ∧ W'.ownsRow W.heap.size 9 1 v L.length (sv L) ∧ Below W.heap.size W W' := by
  obtain ⟨i0, hi, hz0, hz1, hz2⟩ := info_parts Try.infoStr
  refine callsIn_of_wp_marks Try.func90 rfl trivial ?_ rfl
  simp only [Try.ntmps90, List.size_toArray, List.length_cons, List.length_nil, Nat.reduceAdd, Nat.reduceSub, Array.replicate_succ, Array.replicate_zero, List.push_toArray, List.append_toArray, List.nil_append, List.cons_append]
  gi_wp2_with fail
  have bO := Boxed.new W 41 (.slice none 0 0)
  have hB0 : Below W.heap.size W (W.alloc (.cells #[.slice none 0 0] 41)) := (Below.refl _ W).alloc (Nat.le_refl _) _
  refine wpIn_rangeFunc_ownG rfl (by omega) (gf := 91) (lb := #[.pointer (some ⟨Bn, 0, none⟩), .pointer (some ⟨Bc, 0, none⟩)]) rfl trivial (enters_of Try.func91 (by kernel_rfl) rfl)
    (hseq _ (by simp) hB0) Kept.trans (Kept.put (by simp)) (Below.refl _ _) (fun _ => rfl)
    (fun pre W' => (∃ v, Boxed W' W.heap.size 41 v ∧ W'.ownsRow W.heap.size 9 1 v pre.length (sv (vals pre)) ∧ True) ∧ Below W.heap.size W W')
    (fun _ _ _ => False)
    (OwnFrom.and (Own.from (holdsRow_own W.heap.size W.heap.size 41 9 1 (fun pre : List W18 => pre.length) (fun pre => sv (vals pre)) (fun _ _ => True)) _) (ownFrom_below (Nat.le_refl _) (by simp)))
    (fun _ _ _ _ _ hs _ _ => hs)
    ⟨⟨_, bO, World.ownsRow_nil _ _ _ _, trivial⟩, hB0⟩
    (fun x => { tmps := #[.slice none 0 0, .func (.func 91) #[] #[.pointer (some ⟨Bn, 0, none⟩), .pointer (some ⟨Bc, 0, none⟩)], .pointer (some ⟨W.heap.size, 0, none⟩), undef, .slice none 0 0, .string ⟨x.1.toArray⟩, .func (.func 91) #[] #[.pointer (some ⟨Bn, 0, none⟩), .pointer (some ⟨Bc, 0, none⟩)], .string ⟨x.1.toArray⟩, undef, undef, undef, undef, undef], defers := [] }) ?assign ?body ?done ?stop
  case assign =>
    intro l x W1 K hK
    gi_wp2
    exact hK
  case body =>
    rintro l pre x W1 ⟨⟨v, hv, hrow, _⟩, hB⟩ hlt
    have hc := hv.cell
    have x3 : pre.length + 1 ≤ maxLen := by unfold maxLen; omega
    have x4 : (pre.length + 1) * 16 ≤ 140737488355328 := by omega
    have x5 : W.heap.size ≤ (W1.alloc (.cells #[.string ⟨x.1.toArray⟩] 9)).heap.size := by have := hB.size; simp; omega
    have X5 := Lib.hid x5
    have hBs := hB.size
    clear x5
    gi_wp2_with (gi_at_builtin; refine wpListIn_append_own _ rfl _ _ 41 rfl W.heap.size 9 i0 (.string ⟨#[]⟩) 1 16 Try.underlying41 hi hz0 hz1 hz2 rfl (by decide) _ _ _ rfl (hrow.alloc _) ⟨W1.heap.size, 0, none⟩ 1 1 [.string ⟨x.1.toArray⟩] rfl rfl (cell_one_new _ _ _) (one_str _) x3 x4 X5.out ?_; intro v' w1 hown' hgrow _; obtain ⟨g', cap', rfl⟩ := ownsRow_succ hown'; obtain ⟨hv1, hv2, hr2, hk2, hb2⟩ := hv.appended (by decide) hrow hB.size (Nat.le_refl _) hown' hgrow; have hc1 := hv1.cell; have hf1 := hv1.frozen)
    refine ⟨hk2.from _, ⟨hb2, fun k vs r e => ?_⟩, ⟨⟨_, hv2, ?_, trivial⟩, hB.trans hb2⟩⟩
    · have hklt : k < W1.heap.size := (Array.getElem?_eq_some_iff.1 e).1
      have e1 : (W1.alloc (.cells #[.string ⟨x.1.toArray⟩] 9)).heap[k]? = some (.cells vs 62 r) := (Below.heap_alloc _ _ _ hklt).trans e
      have e2 := (hgrow.block k (by simp; omega) (not_row e (by decide) hrow)).trans e1
      have hne : k ≠ W.heap.size := fun ek => by subst ek; rw [show W1.heap[W.heap.size]? = _ from hv] at e; cases e
      exact ((grownBy_setCell' w1 W.heap.size _).block k (Array.getElem?_eq_some_iff.1 e2).1 (by simpa using hne)).trans e2
    · rw [List.length_append, vals_snoc, ← sv_snoc]; exact hr2
  case done =>
    rintro D ys W1 hD hys ⟨⟨v, hv, hrow, _⟩, hB⟩ hK
    obtain rfl := hS ys hys
    rw [← vals_length] at hrow
    have hc := hv.cell
    gi_wp2
    refine ⟨by simp, .inl ⟨_, _, rfl, run_takeDeferred hK, ?_⟩⟩
    exact ⟨_, results_tmp rfl _ _ _, v, rfl, ownsRow_putObj hrow _ hK rfl, hB.trans (belowK_b (w := W) (Nat.le_refl _) W1 D _ _ (by simp at hD; omega) hK rfl rfl)⟩
  case stop =>
    rintro D c pre W1 _ _ h _
    exact h.elim

theorem own_lower {w : World} {base B : Nat} {e : TypeId} {size : Nat} {v : Value} {n : Nat} {xs : List Value} (h : w.ownsRow base e size v n xs) (hB : B ≤ base) : w.ownsRow B e size v n xs :=
  ⟨h.1, h.2.imp id (fun ⟨g, cap, cur, e1, hg, r⟩ => ⟨g, cap, cur, e1, by omega, r⟩)⟩

theorem collect_any (L : List (List UInt8)) (Bn Bc : Nat) (W : World)
    (h : CallsIn Fence.wide 100 Try.prog 90 #[.slice none 0 0, .func (.func 91) #[] #[.pointer (some ⟨Bn, 0, none⟩), .pointer (some ⟨Bc, 0, none⟩)]] W fun e W' =>
      ∃ v, e = .returned v ∧ W'.ownsRow W.heap.size 9 1 v L.length (sv L) ∧ Below W.heap.size W W') :
    Calls Try.prog 68 #[.func (.func 91) #[] #[.pointer (some ⟨Bn, 0, none⟩), .pointer (some ⟨Bc, 0, none⟩)]] W fun e W' =>
      ∃ v, e = .returned v ∧ W'.ownsRow W.heap.size 9 1 v L.length (sv L) ∧ Below W.heap.size W W' := by
  have H := Lib.hid (callsIn_wide.1 h)
  clear h
  go_enter Try.func68, Try.ntmps68
  go_wp2_with fail
  refine H.out.mono ?_
  rintro e w1 ⟨v, rfl, ho, hb⟩
  go_wp2
  go_ret
  exact ⟨_, rfl, ho, hb⟩

theorem cutNone_any (h : ByteArray) (o l : Nat) (W : World) :
    Calls Try.prog 67 #[Beg h o l] W fun e W' => e = .returned (.bool false) ∧ Below W.heap.size W W' := by
  go_enter Try.func67, Try.ntmps67
  simp only [Beg]
  go_wp2
  go_ret
  exact ⟨rfl, (Below.refl _ W).alloc (Nat.le_refl _) _⟩

theorem gw_none_of (n : Nat) : (gw (cutOf fun _ => false) (2 * n) () [] 0 n).1 = wordsL (2 * n) [] 0 n := gw_none (2 * n) () [] 0 n (by omega)

theorem implWords_in (n : Nat) (hn : n ≤ 6) (w : World) :
    Calls Try.prog 49 #[.int .i64 n] w fun e w' => ∃ v, e = .returned v ∧ w'.ownsRow w.heap.size 9 1 v (wordsL (2 * n) [] 0 n).length (sv (wordsL (2 * n) [] 0 n)) ∧ Below w.heap.size w w' := by
  have hle := wordsL_le (2 * n) [] 0 n
  have hp : 2 ^ (2 * n) ≤ 2 ^ 12 := Nat.pow_le_pow_right (by omega) (by omega)
  have hgw := gw_none_of n
  obtain ⟨L, hL⟩ : ∃ L, L = wordsL (2 * n) [] 0 n := ⟨_, rfl⟩
  rw [← hL] at hle hgw ⊢
  have hl8 : L.length ≤ 8192 := by have : (2 : Nat) ^ 12 = 4096 := rfl; omega
  have HG := Lib.hid hgw
  have d1 : decide ((n : Int) < 0) = false := decide_eq_false (by omega)
  have d2 : (n : Int) ≤ 6 := by omega
  clear hle hp hgw hL
  go_enter Try.func49, Try.ntmps49
  go_wp2_with fail
  refine (callsIn_wide.1 (wordsBut_any Fence.wide 100 trivial rfl _ _ _ _)).mono ?_
  rintro e w2 ⟨rfl, rfl⟩
  go_wp2_with fail
  have hbl : Below w.heap.size w ((w.alloc (.cells #[.int .i64 n] 3)).alloc (.cells #[.func (.func 67) #[] #[]] 63)) := ((Below.refl _ w).alloc (Nat.le_refl _) _).alloc (by simp) _
  have hz : w.heap.size ≤ ((w.alloc (.cells #[.int .i64 n] 3)).alloc (.cells #[.func (.func 67) #[] #[]] 63)).heap.size := by simp; omega
  have hBn : ((w.alloc (.cells #[.int .i64 n] 3)).alloc (.cells #[.func (.func 67) #[] #[]] 63)).cell? ⟨w.heap.size, 0, none⟩ = some (.int .i64 n) := ((Boxed.new w 3 (.int .i64 n)).alloc _).cell
  have hBc : ((w.alloc (.cells #[.int .i64 n] 3)).alloc (.cells #[.func (.func 67) #[] #[]] 63)).cell? ⟨w.heap.size + 1, 0, none⟩ = some (.func (.func 67) #[] #[]) := by
    have := (Boxed.new (w.alloc (.cells #[.int .i64 n] 3)) 63 (.func (.func 67) #[] #[])).cell
    rwa [World.size_alloc] at this
  obtain ⟨W, hW⟩ : ∃ W, W = ((w.alloc (.cells #[.int .i64 n] 3)).alloc (.cells #[.func (.func 67) #[] #[]] 63)) := ⟨_, rfl⟩
  rw [← hW] at hbl hz hBn hBc ⊢
  clear hW
  have ltn : w.heap.size < W.heap.size := by obtain ⟨o, ho, _⟩ := cells_of_cell hBn; exact (Array.getElem?_eq_some_iff.1 ho).1
  have ltc : w.heap.size + 1 < W.heap.size := by obtain ⟨o, ho, _⟩ := cells_of_cell hBc; exact (Array.getElem?_eq_some_iff.1 ho).1
  refine (collect_any L w.heap.size (w.heap.size + 1) W (appendSeq_any L hl8 (fun ys => vals ys = (gw (cutOf fun _ => false) (2 * n) () [] 0 n).1) (fun pre => vals pre <+: (gw (cutOf fun _ => false) (2 * n) () [] 0 n).1) (fun ys h => by rw [h, HG.out]) _ _ W (fun w1 h1 h2 => by
    have := words_stops Fence.wide rfl rfl trivial trivial (fun _ => false) 67 #[] trivial (enters_of Try.func67 (by kernel_rfl) rfl) n (by omega) W.heap.size w1 h1
      (fun m h o l W3 _ _ => callsIn_wide.2 (cutNone_any h o l W3)) 99 w.heap.size (w.heap.size + 1) ((h2.cell (p := ⟨w.heap.size, 0, none⟩) ltn).trans hBn) ((h2.cell (p := ⟨w.heap.size + 1, 0, none⟩) ltc).trans hBc)
    rw [HG.out] at this ⊢
    exact this))).mono ?_
  rintro e w3 ⟨v, rfl, ho, hb⟩
  have HO := Lib.hid (own_lower ho hz)
  have HB := Lib.hid (hbl.trans (hb.mono hz))
  clear ho hb hbl hBn hBc HG
  go_wp2
  go_ret
  exact ⟨_, rfl, HO.out, HB.out⟩
end Go.Proofs.Ytakpbnkncjddeaa

namespace Go.Proofs.Ytakpbnkncjddeaa
open Go.RowKit

theorem implWords_any (n : Int) (w : World) :
    Calls Try.prog 49 #[.int .i64 n] w (TextsOut (wordsOut n) w) := by
  by_cases h : 0 ≤ n ∧ n ≤ 6
  · obtain ⟨k, rfl⟩ : ∃ k : Nat, n = k := ⟨n.toNat, by omega⟩
    refine (implWords_in k (by omega) w).mono ?_
    rintro e w1 ⟨v, rfl, ho, hb⟩
    rw [wordsOut, if_pos h, Int.toNat_natCast]
    exact ⟨_, rfl, Own.of_own (by rw [sv_length]; exact ho), hb⟩
  · have e : wordsOut n = [] := by rw [wordsOut, if_neg h]
    rw [e]
    clear e
    by_cases h0 : n < 0
    · have d1 : decide (n < 0) = true := decide_eq_true h0
      clear h
      go_enter Try.func49, Try.ntmps49
      go_wp2
      go_ret
      exact noTexts _ _ (Below.refl _ _)
    · have d1 : decide (n < 0) = false := decide_eq_false h0
      have d2 : 6 < n := by omega
      clear h h0
      go_enter Try.func49, Try.ntmps49
      go_wp2
      go_ret
      exact noTexts _ _ (Below.refl _ _)

end Go.Proofs.Ytakpbnkncjddeaa
