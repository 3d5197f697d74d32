/-
  A loop over an iterator whose body returns in its first round; the contracts of the iterator of words, and of the function that gives the first one of them.
-/
import Derived.Test.YthalkkbchghmpaaCGive
import Derived.RangeFuncNested
namespace Go.Proofs.Ythalkkbchghmpaa
open Go.RowKit Go.Shelf

attribute [local go_sem] Oper.semAt_some

/-- what a world says that grows, or turns blocks from B on, still says -/
def Firm (B : Nat) (I : World → Prop) : Prop := ∀ W W' row, I W → W.grownBy W' row → (∀ r, row = some r → B ≤ r) → I W'
theorem Firm.alloc {B : Nat} {I : World → Prop} (h : Firm B I) {W : World} (o : Obj) (hi : I W) : I (W.alloc o) := h W _ none hi (World.grownBy_alloc W o none) (fun r e => by cases e)
theorem Firm.put {B : Nat} {I : World → Prop} (h : Firm B I) {W : World} {k : Nat} (o : Obj) (hi : I W) (hk : B ≤ k) : I (W.putObj k o) := h W _ (some k) hi (grownBy_putObj' W k o) (fun r e => by cases e; exact hk)
theorem Firm.and {B : Nat} {I I' : World → Prop} (h : Firm B I) (h' : Firm B I') : Firm B (fun W => I W ∧ I' W) := fun W W' row hs hg hr => ⟨h W W' row hs.1 hg hr, h' W W' row hs.2 hg hr⟩
theorem Firm.blk {B k : Nat} {o : Obj} (hk : k < B) : Firm B (fun W => W.heap[k]? = some o) := fun W W' row hs hg hr =>
  (hg.block k (Array.getElem?_eq_some_iff.1 hs).1 (fun e => by have := hr k e.symm; omega)).trans hs
theorem Firm.below {B n₀ : Nat} {w : World} (hn : n₀ ≤ B) : Firm B (fun W => Below n₀ w W ∧ n₀ ≤ W.heap.size) := fun W W' row hs hg hr =>
  ⟨hs.1.grown hg hs.2 (fun k e => by have := hr k e; omega), by have := hg.size; omega⟩
theorem Firm.mono {A B : Nat} {I : World → Prop} (h : Firm A I) (hab : A ≤ B) : Firm B I := fun W W' row hi hg hr => h W W' row hi hg (fun r e => Nat.le_trans hab (hr r e))

/-- how the body of the first round is left: by a return -/
def firstPost (Ix : World → Prop) (W : World) : Exit → Act → World → Prop
  | .ret, _, W' => KeepsOthers W W' ∧ Ix W'
  | _, _, _ => False

theorem loop_first {F : Fence} {n : Nat} {P : Program} {α : Type} {g : Operand} {ps : Array Tmp} {assign body : Code} {Q : Exit → Act → World → Prop} {a : Act} {w : World}
    (hro : F.round = none) (hd : F.depth = none) {gf : Nat} {lb : Array Value} (hg : a.eval g = .func (.func gf) #[] lb) (hFg : F.fn gf) (eg : ∀ args w, (callFunc gf args).run P w = .ok (.enter gf args) w)
    {encs : α → Array Value} (hps : ∀ x, (encs x).size = ps.size) (I₀ I : World → Prop) (Ix : α → World → Prop) (Dn : Prop) (Sx : α → Prop)
    (hI₀ : Firm w.heap.size I₀) (hI : Firm w.heap.size I) (hIx : ∀ x, Firm w.heap.size (Ix x)) (h0 : I₀ w) (a₁ : α → Act)
    (hassign : ∀ (l : Nat) (x : α) (W : World) (K : Act → World → Prop), K (a₁ x) W →
      assign.wpIn (F.inRound l) n P (Exit.then K (fun _ _ _ => False)) { tmps := (ps.zip (encs x)).foldl (fun t (p, v) => t.setIfInBounds p v) a.tmps, defers := [] } W)
    (hbody : ∀ (l : Nat) (x : α) (W : World), I W → body.wpIn (F.inRound l) n P (firstPost (Ix x) W) (a₁ x) W)
    (hcall : ∀ (oR oX : Obj), oR.isCells = false → oX.isCells = false →
      (∀ m x W, I W → W.heap[w.heap.size + 1]? = some oR → W.heap[w.heap.size]? = some (.deferred (some [])) → YieldAt F m P (w.heap.size + 1) (encs x) W fun e W' =>
        e = .returned (.bool false) ∧ Ix x W' ∧ W'.heap[w.heap.size + 1]? = some oX ∧ W'.heap[w.heap.size]? = some (.deferred (some []))) →
      ∀ W1, I₀ W1 → W1.heap[w.heap.size + 1]? = some oR → W1.heap[w.heap.size]? = some (.deferred (some [])) → Below w.heap.size w W1 →
      CallsIn F (n - 1) P gf (#[.func (.yield (w.heap.size + 1)) #[] #[]] ++ lb) W1 fun e W' => (∃ v, e = .returned v) ∧
        ((Dn ∧ I W' ∧ W'.heap[w.heap.size + 1]? = some oR ∧ W'.heap[w.heap.size]? = some (.deferred (some []))) ∨
         (∃ x, Sx x ∧ Ix x W' ∧ W'.heap[w.heap.size + 1]? = some oX ∧ W'.heap[w.heap.size]? = some (.deferred (some [])))))
    (hdone : ∀ (W : World), Dn → I W → W.heap[w.heap.size]? = some (.deferred (some [])) → Q .normal { a with defers := { target := .collected w.heap.size, args := #[] } :: a.defers } W)
    (hstop : ∀ (x : α) (W : World), Sx x → Ix x W → W.heap[w.heap.size]? = some (.deferred (some [])) → Code.ret.wpIn F n P Q { a with defers := { target := .collected w.heap.size, args := #[] } :: a.defers } W) :
    (Code.rangeFunc g ps assign body).wpIn F n P Q a w := by
  refine wpIn_rangeFunc ?_
  intro fn hfn
  rw [hro]
  let rc : LoopState → Option Code → Loop := fun st pe => { state := st, pending := pe, fn, tmps := a.tmps, params := ps, assign, body, defers := w.heap.size }
  have hlen : ∀ (o : Obj), (w.alloc o).heap.size = w.heap.size + 1 := fun o => World.size_alloc _ _
  refine ⟨w.heap.size + 1, [{ target := .collected w.heap.size, args := #[] }], (w.alloc (.deferred (some []))).alloc (.loop (rc .ready none)), { target := .fn (.func gf) lb, args := #[.func (.yield (w.heap.size + 1)) #[] #[]] },
    (w.alloc (.deferred (some []))).alloc (.loop (rc .ready none)), gf, #[.func (.yield (w.heap.size + 1)) #[] #[]] ++ lb, (w.alloc (.deferred (some []))).alloc (.loop (rc .ready none)), run_enterLoop_outer _ _ _ _ _, ?_, ?_, ?_, (fun h => by rw [hd] at h; cases h), ?_⟩
  · simp only [resolve, hg]
    simp [go_sem]
  · intro f' hf'; simp [Target.leads] at hf'; subst hf'; exact hFg
  · simp [invoke, go_sem, eg]
  · refine (hcall (.loop (rc .ready none)) (.loop (rc .done (some .ret))) rfl rfl ?_ _ ?_ ?_ ?_ ?_).mono ?_
    · intro m x W hi hl hk
      have hlt : w.heap.size + 1 < W.heap.size := (Array.getElem?_eq_some_iff.1 hl).1
      have hy := run_yield (P := P) (args := encs x) hl (hps x)
      refine ⟨fn, _, assign, body, hy, round_any hd (m := n) (roundIn_of_wpIn hfn (hassign _ x W _ ⟨_, run_beginRound hl rfl, ?_⟩))⟩
      have hl2 : (W.putObj (w.heap.size + 1) (.loop { rc .ready none with state := .busy })).heap[w.heap.size + 1]? = some (.loop { rc .ready none with state := .busy }) := World.putObj_heap_same hlt
      have hk2 : (W.putObj (w.heap.size + 1) (.loop { rc .ready none with state := .busy })).heap[w.heap.size]? = some (.deferred (some [])) := (World.putObj_heap_other (by omega)).trans hk
      refine wpIn_mono (hbody _ x _ (hI.put _ hi (by omega))) ?_
      rintro e a3 W3 hp
      cases e with
      | ret =>
        obtain ⟨hk3, hi3⟩ := hp
        have hl3 := hk3.same _ _ hl2 rfl
        have hk4 := hk3.same _ _ hk2 rfl
        exact ⟨_, _, run_endRound (P := P) (some .ret) hl3, rfl, (hIx x).put _ hi3 (by omega), World.putObj_heap_same (Array.getElem?_eq_some_iff.1 hl3).1, (World.putObj_heap_other (by omega)).trans hk4⟩
      | normal => exact hp.elim
      | exit id => exact hp.elim
      | goto t => exact hp.elim
      | panic ch => exact hp.elim
      | outgrown => exact hp.elim
    · exact hI₀.alloc _ (hI₀.alloc _ h0)
    · have := World.alloc_heap_new (w.alloc (.deferred (some []))) (.loop (rc .ready none)); rwa [World.size_alloc] at this
    · exact (Below.heap_alloc _ _ _ (by simp)).trans (World.alloc_heap_new w _)
    · exact ((Below.refl _ w).alloc (Nat.le_refl _) _).alloc (by simp) _
    · rintro e W2 ⟨⟨v, rfl⟩, (⟨hDn, hi, hl, hk⟩ | ⟨x, hS, hi, hl, hk⟩)⟩
      · exact ⟨none, _, run_endLoop (P := P) hl (by simp [rc]), hdone _ hDn (hI.put _ hi (by omega)) ((World.putObj_heap_other (by omega)).trans hk)⟩
      · exact ⟨some .ret, _, run_endLoop (P := P) hl (by simp [rc]), hstop x _ hS ((hIx x).put _ hi (by omega)) ((World.putObj_heap_other (by omega)).trans hk)⟩

section
variable {σ : Type} (cut : σ → List UInt8 → Nat → Nat → Bool × σ)

theorem wordsBut_any (F : Fence) (n : Nat) (h40 : F.fn 40) (hro : F.round = none) (k : Int) (cf : Nat) (lbc : Array Value) (w : World) :
    CallsIn F n Try.prog 40 #[.int .i64 k, .func (.func cf) #[] lbc] w fun e w' => e = .returned (.func (.func 57) #[] #[.pointer (some ⟨w.heap.size, 0, none⟩), .pointer (some ⟨w.heap.size + 1, 0, none⟩)]) ∧
      w' = (w.alloc (.cells #[.int .i64 k] 3)).alloc (.cells #[.func (.func cf) #[] lbc] 46) := by
  refine callsIn_of_wp Try.func40 rfl h40 ?_ hro
  simp only [Try.ntmps40, List.size_toArray, List.length_cons, List.length_nil, Nat.reduceAdd, Nat.reduceSub, Array.replicate_succ, Array.replicate_zero, List.push_toArray, List.append_toArray, List.nil_append, List.cons_append]
  gi_wp2
  go_ret
  exact ⟨rfl, rfl⟩

set_option maxHeartbeats 800000 in
/-- the iterator: from the first beginning on -/
theorem iter_any (F : Fence) (hd : F.depth = none) (hro : F.round = none) (h57 : F.fn 57) (h58 : F.fn 58) (cf : Nat) (lbc : Array Value) (hcf : F.fn cf)
    (ecf : ∀ args w, (callFunc cf args).run Try.prog w = .ok (.enter cf args) w) (lr n N : Nat) (J : σ → List (List UInt8) → World → Prop) (Jx : List (List UInt8) → World → Prop)
    (hA : ∀ s pre W o, J s pre W → J s pre (W.alloc o))
    (hY : ∀ m s pre (x : ByteArray) W, x.size = 2 * n → J s pre W → pre.length < N → YieldAt F m Try.prog lr #[.string x] W fun e W' =>
      (e = .returned (.bool true) ∧ J s (pre ++ [x.data.toList]) W' ∧ KT 45 W W') ∨ (e = .returned (.bool false) ∧ Jx (pre ++ [x.data.toList]) W'))
    (hC : ∀ m s pre (h : ByteArray) o l W, h.size + 2 * l + o = 2 * n → o + l ≤ n → J s pre W → CallsIn F m Try.prog cf (#[Beg h o l] ++ lbc) W fun e W' =>
      e = .returned (.bool (cut s h.data.toList o l).1) ∧ J (cut s h.data.toList o l).2 pre W' ∧ KT 45 W W') (hn : n ≤ 9)
    (m : Nat) (s : σ) (Bn Bc : Nat) (W : World) (hBn : W.cell? ⟨Bn, 0, none⟩ = some (.int .i64 n)) (hBc : W.cell? ⟨Bc, 0, none⟩ = some (.func (.func cf) #[] lbc)) (h0 : J s [] W) (hN : (gw cut (2 * n) s [] 0 n).1.length ≤ N) :
    CallsIn F m Try.prog 57 #[.func (.yield lr) #[] #[], .pointer (some ⟨Bn, 0, none⟩), .pointer (some ⟨Bc, 0, none⟩)] W fun e W' => (∃ v, e = .returned v) ∧
      (J (gw cut (2 * n) s [] 0 n).2 (gw cut (2 * n) s [] 0 n).1 W' ∨ ∃ q, q ≠ [] ∧ q <+: (gw cut (2 * n) s [] 0 n).1 ∧ Jx q W') := by
  have hg := give_any cut F hd hro h58 cf lbc hcf ecf lr n N J Jx hA hY hC hn (2 * n) s ByteArray.empty 0 n (m - 1) [] W (by omega) (by simp) (by omega) h0 (by simpa using hN)
  have e0 : (ByteArray.empty).data.toList = [] := rfl
  rw [e0] at hg
  obtain ⟨G, hG⟩ : ∃ g, g = gw cut (2 * n) s [] 0 n := ⟨_, rfl⟩
  rw [← hG] at hg ⊢
  have HG := Lib.hid hg
  clear hg hG hN hY hC hA h0
  refine callsIn_of_wp Try.func57 rfl h57 ?_ hro
  simp only [Try.ntmps57, List.size_toArray, List.length_cons, List.length_nil, Nat.reduceAdd, Nat.reduceSub, Array.replicate_succ, Array.replicate_zero, List.push_toArray, List.append_toArray, List.nil_append, List.cons_append]
  gi_wp2_with fail
  refine HG.out.mono ?_
  rintro e W1 (⟨rfl, hJ1, _⟩ | ⟨rfl, q, hq0, hq, hx⟩)
  · gi_wp2
    go_end0
    exact ⟨⟨_, rfl⟩, .inl hJ1⟩
  · gi_wp2
    go_end0
    exact ⟨⟨_, rfl⟩, .inr ⟨q, hq0, hq, hx⟩⟩

/-- every block from B on lies as it lay -/
def Keep (B : Nat) (W W' : World) : Prop := ∀ (k : Nat) (o : Obj), B ≤ k → W.heap[k]? = some o → W'.heap[k]? = some o
theorem Keep.refl (B : Nat) (W : World) : Keep B W W := fun _ _ _ h => h
theorem Keep.alloc {B : Nat} {W W' : World} (h : Keep B W W') (o : Obj) : Keep B W (W'.alloc o) := fun k x hk hx => (Below.heap_alloc _ _ _ (Array.getElem?_eq_some_iff.1 (h k x hk hx)).1).trans (h k x hk hx)

/-- what the function that gives the first word returns -/
def firstV (L : List (List UInt8)) : Value := match L with | [] => .tuple #[.string ⟨#[]⟩, .bool false] | x :: _ => .tuple #[.string ⟨x.toArray⟩, .bool true]

set_option maxHeartbeats 1600000 in
theorem firstOf_any (F : Fence) (hd : F.depth = none) (hro : F.round = none) (h48 : F.fn 48) (h57 : F.fn 57) (h58 : F.fn 58) (cf : Nat) (lbc : Array Value) (hcf : F.fn cf)
    (ecf : ∀ args w, (callFunc cf args).run Try.prog w = .ok (.enter cf args) w) (n : Nat) (hn : n ≤ 9) (C : σ → World → Prop) (n₀ : Nat) (w0 : World) (W : World)
    (hCf : ∀ s, Firm W.heap.size (C s)) (hCb : ∀ s W', C s W' → Below n₀ w0 W' ∧ n₀ ≤ W'.heap.size)
    (hC : ∀ m s (h : ByteArray) o l W1, h.size + 2 * l + o = 2 * n → o + l ≤ n → C s W1 → CallsIn F m Try.prog cf (#[Beg h o l] ++ lbc) W1 fun e W' =>
      e = .returned (.bool (cut s h.data.toList o l).1) ∧ C (cut s h.data.toList o l).2 W' ∧ KT 45 W1 W' ∧ Keep W.heap.size W1 W')
    (hn0 : n₀ ≤ W.heap.size) (m : Nat) (s : σ) (Bn Bc : Nat) (hBn : W.cell? ⟨Bn, 0, none⟩ = some (.int .i64 n)) (hBc : W.cell? ⟨Bc, 0, none⟩ = some (.func (.func cf) #[] lbc)) (h0 : C s W) :
    CallsIn F m Try.prog 48 #[.func (.func 57) #[] #[.pointer (some ⟨Bn, 0, none⟩), .pointer (some ⟨Bc, 0, none⟩)]] W fun e W' =>
      e = .returned (firstV (gw cut (2 * n) s [] 0 n).1) ∧ Below n₀ w0 W' := by
  obtain ⟨G, hG⟩ : ∃ g, g = gw cut (2 * n) s [] 0 n := ⟨_, rfl⟩
  have HG := Lib.hid hG
  rw [← hG]
  clear hG
  have ltn : Bn < W.heap.size := by obtain ⟨o, ho, _⟩ := cells_of_cell hBn; exact (Array.getElem?_eq_some_iff.1 ho).1
  have ltc : Bc < W.heap.size := by obtain ⟨o, ho, _⟩ := cells_of_cell hBc; exact (Array.getElem?_eq_some_iff.1 ho).1
  obtain ⟨W2, hW2⟩ : ∃ W2, W2 = (W.alloc (.cells #[.string ⟨#[]⟩] 9)).alloc (.cells #[.bool false] 4) := ⟨_, rfl⟩
  have hsz : W2.heap.size = W.heap.size + 2 := by rw [hW2]; simp
  have hbW : Below W.heap.size W W2 := by rw [hW2]; exact ((Below.refl _ W).alloc (Nat.le_refl _) _).alloc (by simp) _
  have hr0 : W2.heap[W.heap.size]? = some (.cells #[.string ⟨#[]⟩] 9 (0, 0)) := by rw [hW2]; exact (Below.heap_alloc _ _ _ (by simp)).trans (World.alloc_heap_new W _)
  have hr1 : W2.heap[W.heap.size + 1]? = some (.cells #[.bool false] 4 (0, 0)) := by
    rw [hW2]; have := World.alloc_heap_new (W.alloc (.cells #[.string ⟨#[]⟩] 9)) (.cells #[.bool false] 4); rwa [World.size_alloc] at this
  have hC2 : C s W2 := by rw [hW2]; exact (hCf s).alloc _ ((hCf s).alloc _ h0)
  refine callsIn_of_wp_marks Try.func48 rfl h48 ?_ hro
  simp only [Try.ntmps48, List.size_toArray, List.length_cons, List.length_nil, Nat.reduceAdd, Nat.reduceSub, Array.replicate_succ, Array.replicate_zero, List.push_toArray, List.append_toArray, List.nil_append, List.cons_append]
  gi_wp2_with fail
  rw [← hW2]
  refine loop_first hro hd (gf := 57) (lb := #[.pointer (some ⟨Bn, 0, none⟩), .pointer (some ⟨Bc, 0, none⟩)]) rfl h57 (enters_of Try.func57 (by kernel_rfl) rfl)
    (encs := fun x : ByteArray => #[.string x]) (fun _ => rfl)
    (fun W' => C s W' ∧ W'.heap[W.heap.size]? = some (.cells #[.string ⟨#[]⟩] 9 (0, 0)) ∧ W'.heap[W.heap.size + 1]? = some (.cells #[.bool false] 4 (0, 0)))
    (fun W' => (∃ s, C s W') ∧ W'.heap[W.heap.size]? = some (.cells #[.string ⟨#[]⟩] 9 (0, 0)) ∧ W'.heap[W.heap.size + 1]? = some (.cells #[.bool false] 4 (0, 0)))
    (fun x W' => (Below n₀ w0 W' ∧ n₀ ≤ W'.heap.size) ∧ W'.heap[W.heap.size]? = some (.cells #[.string x] 9 (0, 0)) ∧ W'.heap[W.heap.size + 1]? = some (.cells #[.bool true] 4 (0, 0)))
    (G.1 = []) (fun x => ∃ r, G.1 = x.data.toList :: r) ?hI₀ ?hI ?hIx ⟨hC2, hr0, hr1⟩
    (fun x => { tmps := #[.func (.func 57) #[] #[.pointer (some ⟨Bn, 0, none⟩), .pointer (some ⟨Bc, 0, none⟩)], undef, .pointer (some ⟨W.heap.size, 0, none⟩), .pointer (some ⟨W.heap.size + 1, 0, none⟩), .string x, .func (.func 57) #[] #[.pointer (some ⟨Bn, 0, none⟩), .pointer (some ⟨Bc, 0, none⟩)], .string x, undef], defers := [] }) ?assign ?body ?call ?done ?stop
  case hI₀ => exact Firm.and ((hCf s).mono (by omega)) (Firm.and (Firm.blk (by omega)) (Firm.blk (by omega)))
  case hI =>
    refine Firm.and (fun A A' row hs hg hr => ?_) (Firm.and (Firm.blk (by omega)) (Firm.blk (by omega)))
    obtain ⟨s, hs⟩ := hs
    exact ⟨s, (hCf s) A A' row hs hg (fun r e => by have := hr r e; omega)⟩
  case hIx => exact fun x => Firm.and (Firm.below (by omega)) (Firm.and (Firm.blk (by omega)) (Firm.blk (by omega)))
  case assign =>
    intro l x W1 K hK
    gi_wp2
    exact hK
  case body =>
    rintro l x W1 ⟨⟨s1, hs1⟩, b0, b1⟩
    have c0 : W1.cell? ⟨W.heap.size, 0, none⟩ = some (.string ⟨#[]⟩) := cell_blk b0 0
    have c1 : W1.cell? ⟨W.heap.size + 1, 0, none⟩ = some (.bool false) := cell_blk b1 0
    have f0 : W1.frozen? ⟨W.heap.size, 0, none⟩ = false := Boxed.frozen b0
    have f1 : W1.frozen? ⟨W.heap.size + 1, 0, none⟩ = false := Boxed.frozen b1
    have hb := hCb _ _ hs1
    clear hs1 hC hCf hCb hC2
    gi_wp2
    refine ⟨(KeepsOthers.setCell _ _ _).trans (KeepsOthers.setCell _ _ _), ⟨?_, by simpa using hb.2⟩, ?_, ?_⟩
    · exact (hb.1.setCell (p := ⟨W.heap.size, 0, none⟩) (by simpa using hn0) _).setCell (p := ⟨W.heap.size + 1, 0, none⟩) (show n₀ ≤ W.heap.size + 1 by omega) _
    · exact Boxed.kept (Boxed.set (.string x) b0) (grownBy_setCell' _ _ _) (by simp)
    · exact Boxed.set (.bool true) (Boxed.kept b1 (grownBy_setCell' W1 W.heap.size (.string x)) (by simp))
  case call =>
    rintro oR oX hoR hoX hY W1 ⟨hi, b0, b1⟩ hl hk hb1
    rw [hsz] at hl hk hY hb1 ⊢
    have hb1' : Below W.heap.size W W1 := hbW.trans (hb1.mono (by omega))
    rw [HG.out]
    refine (iter_any cut F hd hro h57 h58 cf lbc hcf ecf (W.heap.size + 2 + 1) n G.1.length
      (fun s pre W' => pre = [] ∧ C s W' ∧ W'.heap[W.heap.size]? = some (.cells #[.string ⟨#[]⟩] 9 (0, 0)) ∧ W'.heap[W.heap.size + 1]? = some (.cells #[.bool false] 4 (0, 0)) ∧ W'.heap[W.heap.size + 2 + 1]? = some oR ∧ W'.heap[W.heap.size + 2]? = some (.deferred (some [])))
      (fun q W' => ∃ x : ByteArray, q = [x.data.toList] ∧ ((Below n₀ w0 W' ∧ n₀ ≤ W'.heap.size) ∧ W'.heap[W.heap.size]? = some (.cells #[.string x] 9 (0, 0)) ∧ W'.heap[W.heap.size + 1]? = some (.cells #[.bool true] 4 (0, 0))) ∧ W'.heap[W.heap.size + 2 + 1]? = some oX ∧ W'.heap[W.heap.size + 2]? = some (.deferred (some [])))
      ?hA ?hY ?hC hn (m - 1) s Bn Bc W1 ?hBn ?hBc ⟨rfl, hi, b0, b1, hl, hk⟩ (by rw [HG.out]; exact Nat.le_refl _)).mono ?_
    case hA =>
      rintro s1 pre W3 o ⟨h1, h2, h3, h4, h5, h6⟩
      have al : ∀ {k : Nat} {x : Obj}, W3.heap[k]? = some x → (W3.alloc o).heap[k]? = some x := fun hx => (Below.heap_alloc _ _ _ (Array.getElem?_eq_some_iff.1 hx).1).trans hx
      exact ⟨h1, (hCf s1).alloc _ h2, al h3, al h4, al h5, al h6⟩
    case hY =>
      rintro m1 s1 pre x W3 _ ⟨rfl, h2, h3, h4, h5, h6⟩ _
      refine YieldAt.mono (hY m1 x W3 ⟨⟨s1, h2⟩, h3, h4⟩ h5 h6) fun e W4 ⟨he, hx, hoX', hD⟩ => .inr ⟨he, x, rfl, hx, hoX', hD⟩
    case hC =>
      rintro m1 s1 pre h o l W3 z1 z2 ⟨h1, h2, h3, h4, h5, h6⟩
      refine (hC m1 s1 h o l W3 z1 z2 h2).mono fun e W4 ⟨he, hc4, hk4, hkp⟩ => ⟨he, ⟨h1, hc4, hkp _ _ (by omega) h3, hkp _ _ (by omega) h4, hkp _ _ (by omega) h5, hkp _ _ (by omega) h6⟩, hk4⟩
    case hBn => exact (hb1'.cell (p := ⟨Bn, 0, none⟩) ltn).trans hBn
    case hBc => exact (hb1'.cell (p := ⟨Bc, 0, none⟩) ltc).trans hBc
    rintro e W4 ⟨hv, (⟨h1, h2, h3, h4, h5, h6⟩ | ⟨q, hq0, ⟨t, ht⟩, x, rfl, hx, hoX', hD⟩)⟩
    · exact ⟨hv, .inl ⟨h1, ⟨⟨_, h2⟩, h3, h4⟩, h5, h6⟩⟩
    · exact ⟨hv, .inr ⟨x, ⟨t, ht.symm⟩, hx, hoX', hD⟩⟩
  case done =>
    rintro W1 hD ⟨⟨s1, hs1⟩, b0, b1⟩ hK
    rw [hsz] at hK ⊢
    have c0 : W1.cell? ⟨W.heap.size, 0, none⟩ = some (.string ⟨#[]⟩) := cell_blk b0 0
    have c1 : W1.cell? ⟨W.heap.size + 1, 0, none⟩ = some (.bool false) := cell_blk b1 0
    have f0 : W1.frozen? ⟨W.heap.size, 0, none⟩ = false := Boxed.frozen b0
    have f1 : W1.frozen? ⟨W.heap.size + 1, 0, none⟩ = false := Boxed.frozen b1
    have hb := hCb _ _ hs1
    have HD := Lib.hid hD
    clear hs1 hC hCf hCb hC2 hD hW2 hsz hr0 hr1 hbW
    have hk5 := ((KeepsOthers.setCell W1 ⟨W.heap.size, 0, none⟩ (.string ⟨#[]⟩)).trans (KeepsOthers.setCell _ ⟨W.heap.size + 1, 0, none⟩ (.bool false))).same _ _ hK rfl
    have g0 : Boxed ((W1.setCell ⟨W.heap.size, 0, none⟩ (.string ⟨#[]⟩)).setCell ⟨W.heap.size + 1, 0, none⟩ (.bool false)) W.heap.size 9 (.string ⟨#[]⟩) := Boxed.kept (Boxed.set (.string ⟨#[]⟩) b0) (grownBy_setCell' _ _ _) (by simp)
    have g1 : Boxed ((W1.setCell ⟨W.heap.size, 0, none⟩ (.string ⟨#[]⟩)).setCell ⟨W.heap.size + 1, 0, none⟩ (.bool false)) (W.heap.size + 1) 4 (.bool false) := Boxed.set (.bool false) (Boxed.kept b1 (grownBy_setCell' W1 W.heap.size (.string ⟨#[]⟩)) (by simp))
    have g2 : Below n₀ w0 ((W1.setCell ⟨W.heap.size, 0, none⟩ (.string ⟨#[]⟩)).setCell ⟨W.heap.size + 1, 0, none⟩ (.bool false)) := (hb.1.setCell (p := ⟨W.heap.size, 0, none⟩) (by simpa using hn0) _).setCell (p := ⟨W.heap.size + 1, 0, none⟩) (show n₀ ≤ W.heap.size + 1 by omega) _
    have g3 : n₀ ≤ ((W1.setCell ⟨W.heap.size, 0, none⟩ (.string ⟨#[]⟩)).setCell ⟨W.heap.size + 1, 0, none⟩ (.bool false)).heap.size := by simpa using hb.2
    gi_wp2
    obtain ⟨W5, hW5⟩ : ∃ W5, W5 = (W1.setCell ⟨W.heap.size, 0, none⟩ (.string ⟨#[]⟩)).setCell ⟨W.heap.size + 1, 0, none⟩ (.bool false) := ⟨_, rfl⟩
    rw [← hW5] at hk5 g0 g1 g2 g3 ⊢
    clear hW5
    refine ⟨by simp, .inl ⟨_, _, rfl, run_takeDeferred hk5, ?_⟩⟩
    have q0 := (Boxed.kept g0 (grownBy_putObj' W5 (W.heap.size + 2) (.deferred none)) (by simp)).cell
    have q1 := (Boxed.kept g1 (grownBy_putObj' W5 (W.heap.size + 2) (.deferred none)) (by simp)).cell
    refine ⟨firstV [], ?_, by rw [HD.out], ?_⟩
    · simp [results, Try.f48, go_sem, q0, q1, firstV]
    · exact g2.grown (grownBy_putObj' W5 (W.heap.size + 2) (.deferred none)) g3 (fun k e => by cases e; omega)
  case stop =>
    rintro x W1 ⟨r, hr⟩ ⟨hb, b0, b1⟩ hK
    rw [hsz] at hK ⊢
    have HR := Lib.hid hr
    clear hC hCf hCb hC2 hr hW2 hsz hr0 hr1 hbW
    gi_wp2
    refine ⟨by simp, .inl ⟨_, _, rfl, run_takeDeferred hK, ?_⟩⟩
    have q0 := (Boxed.kept (t := 9) (v := .string x) b0 (grownBy_putObj' W1 (W.heap.size + 2) (.deferred none)) (by simp)).cell
    have q1 := (Boxed.kept (t := 4) (v := .bool true) b1 (grownBy_putObj' W1 (W.heap.size + 2) (.deferred none)) (by simp)).cell
    refine ⟨firstV (x.data.toList :: r), ?_, by rw [HR.out], ?_⟩
    · simp [results, Try.f48, go_sem, q0, q1, firstV]
    · exact hb.1.grown (grownBy_putObj' W1 (W.heap.size + 2) (.deferred none)) hb.2 (fun k e => by cases e; omega)
end
end Go.Proofs.Ythalkkbchghmpaa
