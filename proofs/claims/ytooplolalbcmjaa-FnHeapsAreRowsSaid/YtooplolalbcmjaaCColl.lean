/-
  The contracts of the functions that list all words, word by word from the iterator.
-/
import Derived.Test.YtooplolalbcmjaaCFirst
import Derived.Test.YtooplolalbcmjaaCWords
import Derived.Test.YtooplolalbcmjaaZGV
import Derived.Maps.AppendAt
namespace Go.Proofs.Ytooplolalbcmjaa
open Go.RowKit Go.Shelf

attribute [local go_sem] Oper.semAt_some

/-- what a round that goes on keeps -/
def Kept (n₀ : Nat) (W W' : World) : Prop := Below n₀ W W' ∧ KT 71 W W'
theorem Kept.trans {n₀ : Nat} {A B C : World} (h : Kept n₀ A B) (k : Kept n₀ B C) : Kept n₀ A C := ⟨h.1.trans k.1, h.2.trans k.2⟩
theorem Kept.put {n₀ : Nat} {w : World} (hn : n₀ ≤ w.heap.size) (W : World) (l : Nat) (o o' : Obj) (hl : w.heap.size ≤ l) (h : W.heap[l]? = some o) (hc : o.isCells = false) (hw : o.isWalk = false) : Kept n₀ W (W.putObj l o') :=
  ⟨belowK_b hn W l o o' hl h hc hw, fun k vs r e => by
    have hne : k ≠ l := fun ek => by subst ek; rw [h] at e; cases e; cases hc
    exact (World.putObj_heap_other hne).trans e⟩
theorem below_grown_none {W W' : World} (h : Below W.heap.size W W') : W.grownBy W' none := ⟨h.os, h.tape, h.output, h.size, fun k hk _ => h.block k hk⟩
theorem KT.below {t : TypeId} {W W' : World} (h : Below W.heap.size W W') : KT t W W' := fun k _ _ e => (h.block k (Array.getElem?_eq_some_iff.1 e).1).trans e

theorem not_row {W : World} {k : Nat} {vs : Array Value} {t e : TypeId} {r : Nat × Nat} (h : W.heap[k]? = some (.cells vs t r)) (hte : t ≠ e) {base size n : Nat} {v : Value} {xs : List Value} (hr : W.ownsRow base e size v n xs) : some k ≠ v.ownBlock := by
  intro ek
  rcases hr.2 with ⟨hv, _⟩ | ⟨g, cap, cur, rfl, hg, hh, _⟩
  · subst hv; simp [Value.ownBlock] at ek
  · simp [Value.ownBlock] at ek
    subst ek
    rw [h] at hh; cases hh; exact hte rfl

/-- texts of at most eighteen bytes -/
abbrev W18 := { x : List UInt8 // x.length ≤ 18 }
def vals (L : List W18) : List (List UInt8) := L.map Subtype.val
theorem vals_snoc (L : List W18) (x : W18) : vals (L ++ [x]) = vals L ++ [x.1] := by simp [vals]
theorem vals_length (L : List W18) : (vals L).length = L.length := by simp [vals]

/-- the iterator of words over a cut without state, as a loop takes it -/
theorem words_stops (F : Fence) (hd : F.depth = none) (hro : F.round = none) (h57 : F.fn 96) (h58 : F.fn 97) (c : List UInt8 → Bool) (cf : Nat) (lbc : Array Value) (hcf : F.fn cf)
    (ecf : ∀ args w, (callFunc cf args).run Try.prog w = .ok (.enter cf args) w) (n : Nat) (hn : n ≤ 9) (n₀ : Nat) (w : World) (hn₀ : n₀ ≤ w.heap.size)
    (hC : ∀ m (h : ByteArray) o l W, h.size + 2 * l + o = 2 * n → Below n₀ w W → CallsIn F m Try.prog cf (#[Beg h o l] ++ lbc) W fun e W' => e = .returned (.bool (c h.data.toList)) ∧ Below W.heap.size W W')
    (m Bn Bc : Nat) (hBn : w.cell? ⟨Bn, 0, none⟩ = some (.int .i64 n)) (hBc : w.cell? ⟨Bc, 0, none⟩ = some (.func (.func cf) #[] lbc)) :
    SeqStopsK F m Try.prog 96 #[.pointer (some ⟨Bn, 0, none⟩), .pointer (some ⟨Bc, 0, none⟩)] (fun x : W18 => #[Value.string ⟨x.1.toArray⟩]) (Kept n₀)
      (fun ys => vals ys = (gw (cutOf c) (2 * n) () [] 0 n).1) (fun pre => vals pre <+: (gw (cutOf c) (2 * n) () [] 0 n).1) (gw (cutOf c) (2 * n) () [] 0 n).1.length w := by
  intro l J Jx W hW hJ hJx hY h0
  have ltn : Bn < w.heap.size := by obtain ⟨o, ho, _⟩ := cells_of_cell hBn; exact (Array.getElem?_eq_some_iff.1 ho).1
  have ltc : Bc < w.heap.size := by obtain ⟨o, ho, _⟩ := cells_of_cell hBc; exact (Array.getElem?_eq_some_iff.1 ho).1
  refine (iter_any (cutOf c) F hd hro h57 h58 cf lbc hcf ecf l n (gw (cutOf c) (2 * n) () [] 0 n).1.length (fun _ pre W' => ∃ q, vals q = pre ∧ J q W' ∧ Below n₀ w W' ∧ n₀ ≤ W'.heap.size) (fun pre W' => ∃ q, vals q = pre ∧ Jx q W') ?hA ?hY ?hC hn m () Bn Bc W ((hW.cell (p := ⟨Bn, 0, none⟩) ltn).trans hBn) ((hW.cell (p := ⟨Bc, 0, none⟩) ltc).trans hBc)
    ⟨[], rfl, h0, hW.mono hn₀, by have := hW.size; omega⟩ (Nat.le_refl _)).mono ?_
  case hA => exact fun s pre W1 o ⟨q, h0, h1, h2, h3⟩ => ⟨q, h0, hJ _ _ _ none h1 (World.grownBy_alloc W1 o none) (fun r e => by cases e), h2.alloc h3 _, by simp; omega⟩
  case hY =>
    rintro m1 s pre x W1 hx ⟨q, rfl, h1, h2, h3⟩ hlt
    have := hY q ⟨x.data.toList, by rw [size_list]; omega⟩ W1 h1 (by rw [← vals_length]; exact hlt)
    dsimp only at this
    rw [← str_list] at this
    refine yield_any hd m1 (YieldAt.mono this fun e W2 h => h.elim (fun ⟨he, hj, hk⟩ => .inl ⟨he, ⟨_, vals_snoc _ _, hj, h2.trans hk.1, by have := hk.1.size; omega⟩, hk.2⟩) (fun ⟨he, hj⟩ => .inr ⟨he, _, vals_snoc _ _, hj⟩))
  case hC =>
    intro m1 s pre h o l W1 hsz _ ⟨q, h0, h1, h2, h3⟩
    refine (hC m1 h o l W1 hsz h2).mono fun e W2 ⟨he, hb⟩ => ⟨he, ⟨q, h0, hJ _ _ _ none h1 (below_grown_none hb) (fun r e => by cases e), h2.trans (hb.mono h3), by have := hb.size; omega⟩, KT.below hb⟩
  rintro e W2 ⟨hv, (⟨q, h0, h1, _⟩ | ⟨p, _, hp, q, rfl, hx⟩)⟩
  · exact ⟨hv, .inl ⟨q, h0, h1⟩⟩
  · exact ⟨hv, .inr ⟨q, hp, hx⟩⟩

set_option maxRecDepth 100000 in
set_option maxHeartbeats 2000000 in
theorem appendSeq_any (L : List (List UInt8)) (hL : L.length ≤ 8192) (S Sp : List W18 → Prop) (hS : ∀ ys, S ys → vals ys = L) (Bn Bc : Nat) (W : World)
    (hseq : ∀ w1, W.heap.size ≤ w1.heap.size → Below W.heap.size W w1 → SeqStopsK Fence.wide 99 Try.prog 96 #[.pointer (some ⟨Bn, 0, none⟩), .pointer (some ⟨Bc, 0, none⟩)] (fun x : W18 => #[Value.string ⟨x.1.toArray⟩]) (Kept W.heap.size) S Sp L.length w1) :
    CallsIn Fence.wide 100 Try.prog 95 #[.slice none 0 0, .func (.func 96) #[] #[.pointer (some ⟨Bn, 0, none⟩), .pointer (some ⟨Bc, 0, none⟩)]] W fun e W' =>
      ∃ v, e = .returned v ∧ W'.ownsRow W.heap.size 9 1 v L.length (sv L) ∧ Below W.heap.size W W' := by
  obtain ⟨i0, hi, hz0, hz1, hz2⟩ := info_parts Try.infoStr
  refine callsIn_of_wp_marks Try.func95 rfl trivial ?_ rfl
  simp only [Try.ntmps95, List.size_toArray, List.length_cons, List.length_nil, Nat.reduceAdd, Nat.reduceSub, Array.replicate_succ, Array.replicate_zero, List.push_toArray, List.append_toArray, List.nil_append, List.cons_append]
  gi_wp2_with fail
  have bO := Boxed.new W 44 (.slice none 0 0)
  have hB0 : Below W.heap.size W (W.alloc (.cells #[.slice none 0 0] 44)) := (Below.refl _ W).alloc (Nat.le_refl _) _
  refine wpIn_rangeFunc_ownG rfl (by omega) (gf := 96) (lb := #[.pointer (some ⟨Bn, 0, none⟩), .pointer (some ⟨Bc, 0, none⟩)]) rfl trivial (enters_of Try.func96 (by kernel_rfl) rfl)
    (hseq _ (by simp) hB0) Kept.trans (Kept.put (by simp)) (Below.refl _ _) (fun _ => rfl)
    (fun pre W' => (∃ v, Boxed W' W.heap.size 44 v ∧ W'.ownsRow W.heap.size 9 1 v pre.length (sv (vals pre)) ∧ True) ∧ Below W.heap.size W W')
    (fun _ _ _ => False)
    (OwnFrom.and (Own.from (holdsRow_own W.heap.size W.heap.size 44 9 1 (fun pre : List W18 => pre.length) (fun pre => sv (vals pre)) (fun _ _ => True)) _) (ownFrom_below (Nat.le_refl _) (by simp)))
    (fun _ _ _ _ _ hs _ _ => hs)
    ⟨⟨_, bO, World.ownsRow_nil _ _ _ _, trivial⟩, hB0⟩
    (fun x => { tmps := #[.slice none 0 0, .func (.func 96) #[] #[.pointer (some ⟨Bn, 0, none⟩), .pointer (some ⟨Bc, 0, none⟩)], .pointer (some ⟨W.heap.size, 0, none⟩), undef, .slice none 0 0, .string ⟨x.1.toArray⟩, .func (.func 96) #[] #[.pointer (some ⟨Bn, 0, none⟩), .pointer (some ⟨Bc, 0, none⟩)], .string ⟨x.1.toArray⟩, undef, undef, undef, undef, undef], defers := [] }) ?assign ?body ?done ?stop
  case assign =>
    intro l x W1 K hK
    gi_wp2
    exact hK
  case body =>
    rintro l pre x W1 ⟨⟨v, hv, hrow, _⟩, hB⟩ hlt
    have hc := hv.cell
    have x3 : pre.length + 1 ≤ maxLen := by unfold maxLen; omega
    have x4 : (pre.length + 1) * 16 ≤ 140737488355328 := by omega
    have x5 : W.heap.size ≤ (W1.alloc (.cells #[.string ⟨x.1.toArray⟩] 9)).heap.size := by have := hB.size; simp; omega
    have X5 := Lib.hid x5
    have hBs := hB.size
    clear x5
    gi_wp2_with (gi_at_builtin; refine wpListIn_append_own _ rfl _ _ 44 rfl W.heap.size 9 i0 (.string ⟨#[]⟩) 1 16 Try.underlying44 hi hz0 hz1 hz2 rfl (by decide) _ _ _ rfl (hrow.alloc _) ⟨W1.heap.size, 0, none⟩ 1 1 [.string ⟨x.1.toArray⟩] rfl rfl (cell_one_new _ _ _) (one_str _) x3 x4 X5.out ?_; intro v' w1 hown' hgrow _; obtain ⟨g', cap', rfl⟩ := ownsRow_succ hown'; obtain ⟨hv1, hv2, hr2, hk2, hb2⟩ := hv.appended (by decide) hrow hB.size (Nat.le_refl _) hown' hgrow; have hc1 := hv1.cell; have hf1 := hv1.frozen)
    refine ⟨hk2.from _, ⟨hb2, fun k vs r e => ?_⟩, ⟨⟨_, hv2, ?_, trivial⟩, hB.trans hb2⟩⟩
    · have hklt : k < W1.heap.size := (Array.getElem?_eq_some_iff.1 e).1
      have e1 : (W1.alloc (.cells #[.string ⟨x.1.toArray⟩] 9)).heap[k]? = some (.cells vs 71 r) := (Below.heap_alloc _ _ _ hklt).trans e
      have e2 := (hgrow.block k (by simp; omega) (not_row e (by decide) hrow)).trans e1
      have hne : k ≠ W.heap.size := fun ek => by subst ek; rw [show W1.heap[W.heap.size]? = _ from hv] at e; cases e
      exact ((grownBy_setCell' w1 W.heap.size _).block k (Array.getElem?_eq_some_iff.1 e2).1 (by simpa using hne)).trans e2
    · rw [List.length_append, vals_snoc, ← sv_snoc]; exact hr2
  case done =>
    rintro D ys W1 hD hys ⟨⟨v, hv, hrow, _⟩, hB⟩ hK
    obtain rfl := hS ys hys
    rw [← vals_length] at hrow
    have hc := hv.cell
    gi_wp2
    refine ⟨by simp, .inl ⟨_, _, rfl, run_takeDeferred hK, ?_⟩⟩
    exact ⟨_, results_tmp rfl _ _ _, v, rfl, ownsRow_putObj hrow _ hK rfl, hB.trans (belowK_b (w := W) (Nat.le_refl _) W1 D _ _ (by simp at hD; omega) hK rfl rfl)⟩
  case stop =>
    rintro D c pre W1 _ _ h _
    exact h.elim

theorem own_lower {w : World} {base B : Nat} {e : TypeId} {size : Nat} {v : Value} {n : Nat} {xs : List Value} (h : w.ownsRow base e size v n xs) (hB : B ≤ base) : w.ownsRow B e size v n xs :=
  ⟨h.1, h.2.imp id (fun ⟨g, cap, cur, e1, hg, r⟩ => ⟨g, cap, cur, e1, by omega, r⟩)⟩

theorem collect_any (L : List (List UInt8)) (Bn Bc : Nat) (W : World)
    (h : CallsIn Fence.wide 100 Try.prog 95 #[.slice none 0 0, .func (.func 96) #[] #[.pointer (some ⟨Bn, 0, none⟩), .pointer (some ⟨Bc, 0, none⟩)]] W fun e W' =>
      ∃ v, e = .returned v ∧ W'.ownsRow W.heap.size 9 1 v L.length (sv L) ∧ Below W.heap.size W W') :
    Calls Try.prog 77 #[.func (.func 96) #[] #[.pointer (some ⟨Bn, 0, none⟩), .pointer (some ⟨Bc, 0, none⟩)]] W fun e W' =>
      ∃ v, e = .returned v ∧ W'.ownsRow W.heap.size 9 1 v L.length (sv L) ∧ Below W.heap.size W W' := by
  have H := Lib.hid (callsIn_wide.1 h)
  clear h
  go_enter Try.func77, Try.ntmps77
  go_wp2_with fail
  refine H.out.mono ?_
  rintro e w1 ⟨v, rfl, ho, hb⟩
  go_wp2
  go_ret
  exact ⟨_, rfl, ho, hb⟩

theorem cutNone_any (h : ByteArray) (o l : Nat) (W : World) :
    Calls Try.prog 76 #[Beg h o l] W fun e W' => e = .returned (.bool false) ∧ Below W.heap.size W W' := by
  go_enter Try.func76, Try.ntmps76
  simp only [Beg]
  go_wp2
  go_ret
  exact ⟨rfl, (Below.refl _ W).alloc (Nat.le_refl _) _⟩

theorem gw_none_of (n : Nat) : (gw (cutOf fun _ => false) (2 * n) () [] 0 n).1 = wordsL (2 * n) [] 0 n := gw_none (2 * n) () [] 0 n (by omega)

theorem implWords_in (n : Nat) (hn : n ≤ 6) (w : World) :
    Calls Try.prog 44 #[.int .i64 n] w fun e w' => ∃ v, e = .returned v ∧ w'.ownsRow w.heap.size 9 1 v (wordsL (2 * n) [] 0 n).length (sv (wordsL (2 * n) [] 0 n)) ∧ Below w.heap.size w w' := by
  have hle := wordsL_le (2 * n) [] 0 n
  have hp : 2 ^ (2 * n) ≤ 2 ^ 12 := Nat.pow_le_pow_right (by omega) (by omega)
  have hgw := gw_none_of n
  obtain ⟨L, hL⟩ : ∃ L, L = wordsL (2 * n) [] 0 n := ⟨_, rfl⟩
  rw [← hL] at hle hgw ⊢
  have hl8 : L.length ≤ 8192 := by have : (2 : Nat) ^ 12 = 4096 := rfl; omega
  have HG := Lib.hid hgw
  have d1 : decide ((n : Int) < 0) = false := decide_eq_false (by omega)
  have d2 : (n : Int) ≤ 6 := by omega
  clear hle hp hgw hL
  go_enter Try.func44, Try.ntmps44
  go_wp2_with fail
  refine (callsIn_wide.1 (wordsBut_any Fence.wide 100 trivial rfl _ _ _ _)).mono ?_
  rintro e w2 ⟨rfl, rfl⟩
  go_wp2_with fail
  have hbl : Below w.heap.size w ((w.alloc (.cells #[.int .i64 n] 3)).alloc (.cells #[.func (.func 76) #[] #[]] 72)) := ((Below.refl _ w).alloc (Nat.le_refl _) _).alloc (by simp) _
  have hz : w.heap.size ≤ ((w.alloc (.cells #[.int .i64 n] 3)).alloc (.cells #[.func (.func 76) #[] #[]] 72)).heap.size := by simp; omega
  have hBn : ((w.alloc (.cells #[.int .i64 n] 3)).alloc (.cells #[.func (.func 76) #[] #[]] 72)).cell? ⟨w.heap.size, 0, none⟩ = some (.int .i64 n) := ((Boxed.new w 3 (.int .i64 n)).alloc _).cell
  have hBc : ((w.alloc (.cells #[.int .i64 n] 3)).alloc (.cells #[.func (.func 76) #[] #[]] 72)).cell? ⟨w.heap.size + 1, 0, none⟩ = some (.func (.func 76) #[] #[]) := by
    have := (Boxed.new (w.alloc (.cells #[.int .i64 n] 3)) 72 (.func (.func 76) #[] #[])).cell
    rwa [World.size_alloc] at this
  obtain ⟨W, hW⟩ : ∃ W, W = ((w.alloc (.cells #[.int .i64 n] 3)).alloc (.cells #[.func (.func 76) #[] #[]] 72)) := ⟨_, rfl⟩
  rw [← hW] at hbl hz hBn hBc ⊢
  clear hW
  have ltn : w.heap.size < W.heap.size := by obtain ⟨o, ho, _⟩ := cells_of_cell hBn; exact (Array.getElem?_eq_some_iff.1 ho).1
  have ltc : w.heap.size + 1 < W.heap.size := by obtain ⟨o, ho, _⟩ := cells_of_cell hBc; exact (Array.getElem?_eq_some_iff.1 ho).1
  refine (collect_any L w.heap.size (w.heap.size + 1) W (appendSeq_any L hl8 (fun ys => vals ys = (gw (cutOf fun _ => false) (2 * n) () [] 0 n).1) (fun pre => vals pre <+: (gw (cutOf fun _ => false) (2 * n) () [] 0 n).1) (fun ys h => by rw [h, HG.out]) _ _ W (fun w1 h1 h2 => by
    have := words_stops Fence.wide rfl rfl trivial trivial (fun _ => false) 76 #[] trivial (enters_of Try.func76 (by kernel_rfl) rfl) n (by omega) W.heap.size w1 h1
      (fun m h o l W3 _ _ => callsIn_wide.2 (cutNone_any h o l W3)) 99 w.heap.size (w.heap.size + 1) ((h2.cell (p := ⟨w.heap.size, 0, none⟩) ltn).trans hBn) ((h2.cell (p := ⟨w.heap.size + 1, 0, none⟩) ltc).trans hBc)
    rw [HG.out] at this ⊢
    exact this))).mono ?_
  rintro e w3 ⟨v, rfl, ho, hb⟩
  have HO := Lib.hid (own_lower ho hz)
  have HB := Lib.hid (hbl.trans (hb.mono hz))
  clear ho hb hbl hBn hBc HG
  go_wp2
  go_ret
  exact ⟨_, rfl, HO.out, HB.out⟩
end Go.Proofs.Ytooplolalbcmjaa
