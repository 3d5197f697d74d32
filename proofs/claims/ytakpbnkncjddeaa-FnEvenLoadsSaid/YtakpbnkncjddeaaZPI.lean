/-
  A pile of loads behind a pointer: what is appended to a slice that is full, or of the call's own.
  The contracts of a pile's take and giveBack.
  The contracts of a pile's leastAfter and leastJoined, and of the program's JoinTried.
-/
import Derived.Test.YtakpbnkncjddeaaZLP
import Derived.Defers
namespace Go.Proofs.Ytakpbnkncjddeaa
open Go.RowKit

/-- numbers that can be read, in a slice that is full or of the call's own -/
def Apd (w : World) (base : Nat) (b : Addr) (n c : Nat) (l : List Int) : Prop :=
  l.length = n ∧ n ≤ c ∧ RdI w w.heap.size (some b) l ∧ (n = c ∨ w.ownsRow base 3 1 (.slice (some b) n c) n (iv l))
theorem app_pile {w : World} {base : Nat} {b : Addr} {n c : Nat} {l l2 : List Int} (h : Apd w base b n c l) (x : Addr) (m c2 : Nat) {H : Nat} (hx : RdI w H (some x) l2) (hm : l2.length = m) (h0 : 0 < m) (hb : base ≤ w.heap.size) (hn1 : n ≤ 100) (hm1 : m ≤ 100) (ty : TypeId) :
    ∃ g cap w', (Builtin.append_ #[23, 23] ty #[.slice (some b) n c, .slice (some x) m c2]).run Try.prog w = .ok (.slice (some ⟨g, 0, none⟩) (n + m) cap) w' ∧ n + m ≤ cap ∧ g < w'.heap.size ∧
      w'.ownsRow base 3 1 (.slice (some ⟨g, 0, none⟩) (n + m) cap) (n + m) (iv (l ++ l2)) ∧ Below base w w' := by
  obtain ⟨i0, hi, hz0, hz1, hz2⟩ := info_parts Try.infoIntR
  obtain ⟨hl, hc, hR, hcs⟩ := h
  obtain ⟨ad, e, hnews⟩ := hx.src (by omega)
  cases e
  have h1 : ∀ u ∈ iv l2, u.oneCell' = true := iv_one l2
  have hlen2 : (iv l2).length = m * 1 := by rw [iv_length, hm, Nat.mul_one]
  by_cases hfull : n = c
  · subst hfull
    have holds : ∀ j u, (iv l)[j]? = some u → w.cell? (b.add j) = some u := by
      intro j u hu
      have hj : j < l.length := by have := (List.getElem?_eq_some_iff.1 hu).1; rwa [iv_length] at this
      obtain ⟨ad2, e2, h2⟩ := hR.src (by omega)
      cases e2
      exact h2 j u hu
    have hr := run_append_grow (P := Try.prog) w 23 ty 3 i0 (.int .i64 0) Try.underlying23 hi hz0 b n n (iv l) (by rw [hz1, iv_length, hl, Nat.mul_one]) holds x m c2 (iv l2) (by rw [hz1]; exact hlen2) hnews (by omega) (by omega)
      (growslice_fits (by omega) (by rw [hz2]; omega))
    have hge := grownCap_ge w (n + m) n 3
    have hcm : grownCap w (n + m) n 3 ≤ maxLen := grownCap_le_maxLen w (n + m) n 3 (by unfold maxLen; omega)
    have hlen : (iv (l ++ l2)).length = (n + m) * 1 := by rw [iv_length, List.length_append, hl, hm, Nat.mul_one]
    refine ⟨_, _, _, hr, hge, by simp, ⟨hlen, .inr ⟨w.heap.size, _, _, rfl, hb, heap_alloc_new w.drew _, hge, hcm, ?_, ?_⟩⟩, (Below.drew (Below.refl base w)).alloc (by simpa using hb) _⟩
    · simp only [Array.size_append, List.size_toArray, size_zeroCells, iv_length, hl, hm]
      show n + m + (_ - (n + m)) * 1 = _
      omega
    · simp only [Array.toList_append, iv_app]
      rw [Nat.mul_one, show n + m = (iv l ++ iv l2).length by rw [List.length_append, iv_length, iv_length, hl, hm]]
      exact List.take_left
  · have hown : w.ownsRow base 3 1 (.slice (some b) n c) n (iv l) := hcs.resolve_left hfull
    obtain ⟨v', w', hr, ho, hg, hnil⟩ := run_append_own (P := Try.prog) w base 23 ty 3 i0 (.int .i64 0) 1 8 Try.underlying23 hi hz0 hz1 hz2 rfl (by decide) (.slice (some b) n c) n (iv l) hown x m c2 (iv l2) hlen2 hnews h1 (by unfold maxLen; omega) (by omega) hb
    have hne : v' ≠ .slice none 0 0 := fun e => by have := (hnil.1 e).2; omega
    obtain ⟨g, cap, rfl⟩ : ∃ g cap, v' = .slice (some ⟨g, 0, none⟩) (n + m) cap := by
      rcases ho.2 with ⟨e, _⟩ | ⟨g, cap, _, e, _⟩
      · exact absurd e hne
      · exact ⟨g, cap, e⟩
    rw [← iv_app] at ho
    have hcap : n + m ≤ cap := by
      rcases ho.2 with ⟨_, h9⟩ | ⟨g9, cap9, cur9, e9, _, _, h9, _⟩
      · omega
      · cases e9; exact h9
    exact ⟨g, cap, w', hr, hcap, (ho.lt g rfl).2, ho, Below.grown (Below.refl base w) hg hb (fun q hq => (hown.lt q hq).1)⟩
theorem wpList_app_pile {w : World} {ops : Array Oper} {rest : List Oper} {o : Oper} {a : Act} {Q : Exit → Act → World → Prop} (hgd : o.guard = none) (s x : Operand)
    (ho : o.op = .call { callee := .builtin .append, args := #[s, x], argTypes := #[23, 23] })
    (base : Nat) (b : Addr) (n c : Nat) (l l2 : List Int) (hs : a.eval s = .slice (some b) n c) (h : Apd w base b n c l) (ad : Addr) (m c2 : Nat) (hx : a.eval x = .slice (some ad) m c2) {H : Nat} (hR : RdI w H (some ad) l2) (hm : l2.length = m) (h0 : 0 < m)
    (hb : base ≤ w.heap.size) (hn1 : n ≤ 100) (hm1 : m ≤ 100)
    (hK : ∀ g cap w', n + m ≤ cap → g < w'.heap.size → w'.ownsRow base 3 1 (.slice (some ⟨g, 0, none⟩) (n + m) cap) (n + m) (iv (l ++ l2)) → Below base w w' → wpList Try.prog ops Q rest (a.put o.dst (.slice (some ⟨g, 0, none⟩) (n + m) cap)) w') :
    wpList Try.prog ops Q (o :: rest) a w := by
  refine wpList_plain hgd fun K hK2 => ?_
  obtain ⟨g, cap, w', hr, h1, h2, h3, h4⟩ := app_pile h ad m c2 hR hm h0 hb hn1 hm1 o.type
  unfold Oper.wp execOp
  simp only [ho, resolve, invoke, builtin, Sem.run_bind, Sem.run_pure, Result.andThen_ok, List.map_toArray, List.map_cons, List.map_nil, hs, hx, hr]
  exact hK2 _ _ (hK g cap w' h1 h2 h3 h4)
/-- nothing is appended: a slice that is full stays -/
theorem wpList_app_none {w : World} {ops : Array Oper} {rest : List Oper} {o : Oper} {a : Act} {Q : Exit → Act → World → Prop} (hgd : o.guard = none) (s x : Operand)
    (ho : o.op = .call { callee := .builtin .append, args := #[s, x], argTypes := #[23, 23] })
    (b : Addr) (n c : Nat) (hs : a.eval s = .slice (some b) n c) (hnc : n ≤ c) (ao : Option Addr) (c2 : Nat) (hx : a.eval x = .slice ao 0 c2)
    (hK : wpList Try.prog ops Q rest (a.put o.dst (.slice (some b) n c)) w) :
    wpList Try.prog ops Q (o :: rest) a w := by
  obtain ⟨i0, hi, hz0, hz1, hz2⟩ := info_parts Try.infoIntR
  refine wpList_plain hgd fun K hK2 => ?_
  have hf : ∀ W : World, (Builtin.firstCells i0.size 0 (.slice ao 0 c2)).run Try.prog W = .ok #[] W := fun W => by
    cases ao with
    | none => exact run_firstCells_none W i0.size 0 0 c2
    | some a => exact run_firstCells_some W i0.size 0 a 0 c2 [] (by simp) (fun j v hj => by simp at hj)
  have hrun : (Builtin.append_ #[23, 23] o.type #[.slice (some b) n c, .slice ao 0 c2]).run Try.prog w = .ok (.slice (some b) n c) w := by
    simp [Builtin.append_, run_underlying Try.underlying23, sizeOf, typeInfo, hi, Builtin.lenOf, hf, hnc, storeCells]
  unfold Oper.wp execOp
  simp only [ho, resolve, invoke, builtin, Sem.run_bind, Sem.run_pure, Result.andThen_ok, List.map_toArray, List.map_cons, List.map_nil, hs, hx, hrun]
  exact hK2 _ _ hK
end Go.Proofs.Ytakpbnkncjddeaa

namespace Go.Proofs.Ytakpbnkncjddeaa
open Go.RowKit

/-- a pile's cell holds this slice -/
def PilAt (w : World) (b : Nat) (v : Value) : Prop := w.heap[b]? = some (.cells #[v] 39 (0, 0))
theorem PilAt.cell {w : World} {b : Nat} {v : Value} (h : PilAt w b v) : w.cell? ⟨b, 0, none⟩ = some v ∧ w.frozen? ⟨b, 0, none⟩ = false ∧ b < w.heap.size :=
  ⟨by simp [World.cell?, show w.heap[b]? = _ from h], by simp [World.frozen?, show w.heap[b]? = _ from h], (Array.getElem?_eq_some_iff.1 h).1⟩
theorem PilAt.set {w : World} {b : Nat} {v : Value} (h : PilAt w b v) (u : Value) : PilAt (w.setCell ⟨b, 0, none⟩ u) b u ∧ w.grownBy (w.setCell ⟨b, 0, none⟩ u) (some b) := by
  refine ⟨?_, rfl, rfl, rfl, by simp, fun k hk hne => ?_⟩
  · show _ = _
    simp [World.setCell, Array.getElem?_modify, show w.heap[b]? = _ from h]
  · have : b ≠ k := fun e => hne (by rw [e])
    simp [World.setCell, Array.getElem?_modify, this]
theorem PilAt.below {w w' : World} {b H : Nat} {v : Value} (h : PilAt w b v) (hb : Below H w w') (hH : b < H) : PilAt w' b v := (hb.block b hH).trans h
/-- numbers do not lie in a pile's cell -/
theorem PilAt.other {w : World} {b H g off : Nat} {n c : Nat} {a : Option Addr} {l : List Int} (h : PilAt w b (.slice a n c)) (hR : RdI w H (some ⟨g, off, none⟩) l) (h0 : 0 < l.length) : g ≠ b := fun e => by
  subst e
  obtain ⟨g', o', e, _, h3⟩ := hR 0 h0
  simp only [Option.some.injEq, Addr.mk.injEq] at e
  obtain ⟨rfl, rfl, _⟩ := e
  rw [cell_of_row w g _ _ _ _ h] at h3
  cases off with
  | zero => simp at h3
  | succ k => simp at h3
theorem RdI.pil {w w' : World} {b H n c : Nat} {a a1 : Option Addr} {l : List Int} (h : RdI w H a l) (hP : PilAt w b (.slice a1 n c)) (hg : w.grownBy w' (some b)) : RdI w' H a l := fun j hj => by
  obtain ⟨g, off, rfl, h2, h3⟩ := h j hj
  have hne := hP.other h (by omega)
  refine ⟨g, off, rfl, h2, ?_⟩
  exact hg.cell h3 (by simpa using hne)
theorem Apd.pil {w w' : World} {b base n c m c1 : Nat} {ad : Addr} {a1 : Option Addr} {l : List Int} (h : Apd w base ad n c l) (hP : PilAt w b (.slice a1 m c1)) (hg : w.grownBy w' (some b)) (hb : b < base) : Apd w' base ad n c l := by
  obtain ⟨h1, h2, h3, h4⟩ := h
  refine ⟨h1, h2, fun j hj => ?_, h4.imp id fun ho => ho.kept hg (.inr fun e => ?_)⟩
  · obtain ⟨g, off, e, q1, q2⟩ := (h3.pil hP hg) j hj
    exact ⟨g, off, e, Nat.lt_of_lt_of_le q1 hg.size, q2⟩
  · have := (ho.lt b e).1; omega

theorem grown_after {w w2 w3 : World} {row : Option Nat} (h : Below w.heap.size w w2) (hg : w2.grownBy w3 row) : w.grownBy w3 row :=
  ⟨hg.os.trans h.os, hg.tape.trans h.tape, hg.output.trans h.output, Nat.le_trans h.size hg.size, fun k hk hne => (hg.block k (Nat.lt_of_lt_of_le hk h.size) hne).trans (h.block k hk)⟩
theorem giveBack_deferred (b n c : Nat) (a : Option Addr) (v : Value) (m : FrameMode) (w : World) (hP : PilAt w b v) :
    CallsD Try.prog 88 #[.pointer (some ⟨b, 0, none⟩), .slice a n c] m w fun e u' w' => u' = m ∧ (e = .returned (.tuple #[]) ∧ w' = w.setCell ⟨b, 0, none⟩ (.slice a n c)) := by
  obtain ⟨h1, h2, _⟩ := hP.cell
  go_enter_d Try.func88, Try.ntmps88
  go_wp2
  go_end0
  exact ⟨rfl, rfl⟩

/-- what a load is taken out of a pile leaves -/
def TakeOut (w : World) (b n k : Nat) (L : List Nat) (e : Ending) (w' : World) : Prop :=
  e = .returned (.int .i64 ((L.getD k 0 : Nat) : Int)) ∧ ∃ ad c, PilAt w' b (.slice (some ad) (n - 1) c) ∧ w.grownBy w' (some b) ∧ Apd w' w.heap.size ad (n - 1) c (ldI (cutL L k))
set_option maxRecDepth 100000 in
set_option maxHeartbeats 3200000 in
theorem take_any (b n c k : Nat) (a : Option Addr) (L : List Nat) (w : World) (hP : PilAt w b (.slice a n c)) (hR : Hid (RdI w w.heap.size a (ldI L))) (hn : L.length = n) (hc : n ≤ c) (hk : k < n) (h10 : n ≤ 10) :
    Calls Try.prog 89 #[.pointer (some ⟨b, 0, none⟩), .int .i64 (k : Int)] w (TakeOut w b n k L) := by
  obtain ⟨g, off, rfl, hgH, hx0⟩ := hR.out 0 (by rw [ldI_len]; omega)
  clear hx0
  have hcell := hR.out
  obtain ⟨h1, h2, h3⟩ := hP.cell
  have HP := Lib.hid hP
  have c0 : w.cell? ⟨g, off + k, none⟩ = some (.int .i64 ((L.getD k 0 : Nat) : Int)) := by
    obtain ⟨g', o', e, _, q⟩ := hR.out k (by rw [ldI_len]; omega)
    simp only [Option.some.injEq, Addr.mk.injEq] at e
    obtain ⟨rfl, rfl, _⟩ := e
    rw [q, ldI_get L k (by omega)]
    simp [List.getElem?_eq_getElem (show k < L.length by omega)]
  have RA : Hid (RdI w w.heap.size (some ⟨g, off, none⟩) (ldI (L.take k))) := by
    have := (hR.out).take k
    rw [ldI_take] at this
    exact this
  have RB : Hid (RdI w w.heap.size (some ⟨g, off + (k + 1), none⟩) (ldI (L.drop (k + 1)))) := by
    have := rd_drop hR.out (k + 1)
    rw [ldI_drop] at this
    exact this
  have AA : Hid (Apd w w.heap.size ⟨g, off, none⟩ k k (ldI (L.take k))) := ⟨by rw [ldI_len, List.length_take]; omega, Nat.le_refl _, RA.out, .inl rfl⟩
  have lB : Hid ((ldI (L.drop (k + 1))).length = n - (k + 1)) := by show _ = _; rw [ldI_len, List.length_drop, hn]
  obtain ⟨x, hx⟩ : ∃ x, x = L.getD k 0 := ⟨_, rfl⟩
  have HX := Lib.hid hx
  rw [← hx] at c0
  obtain ⟨K, hK⟩ : ∃ K, K = k + 1 := ⟨_, rfl⟩
  rw [← hK] at RB lB
  have HK := Lib.hid hK
  have e1 : IntKind.i64.wrap ((k : Int) + 1) = (K : Int) := by rw [IntKind.wrap_i64]; omega
  have b1 : (k : Int) < (n : Int) := by omega
  have b2 : (k : Int) ≤ (c : Int) := by omega
  have b3 : (K : Int) ≤ (n : Int) := by omega
  have b4 : (n : Int) ≤ (c : Int) := by omega
  have b5 : k ≤ c := by omega
  have b6 : K ≤ n := by omega
  have hcut : Hid (ldI (cutL L k) = ldI (L.take k) ++ ldI (L.drop K)) := by show _ = _; rw [cutL, ldI_app, hK]
  have HN := Lib.hid hn
  by_cases hlast : K = n
  · have hd : Hid (L.drop K = []) := List.drop_eq_nil_of_le (by omega)
    have AZ : Hid (Apd w w.heap.size ⟨g, off, none⟩ k k (ldI (cutL L k))) := by
      have := AA.out
      show Apd _ _ _ _ _ _
      rw [hcut.out, hd.out]
      simpa [ldI] using this
    subst hlast
    have u1 : K - K = 0 := Nat.sub_self K
    obtain ⟨ad2, had2⟩ : ∃ ad2, ad2 = (if c = K then some (⟨g, off, none⟩ : Addr) else some ⟨g, off + K, none⟩) := ⟨_, rfl⟩
    have u2 := had2.symm
    have hk1 : Hid (K - 1 = k) := by show _ = _; omega
    clear had2 hx hK hn hcell hP hk h10
    go_enter Try.func89, Try.ntmps89
    go_wp2_with (at_builtin; refine wpList_app_none rfl (.tmp 22) (.tmp 29) rfl ⟨g, off, none⟩ k k rfl (Nat.le_refl _) _ _ rfl ?_)
    go_ret
    have hS := HP.out.set (.slice (some ⟨g, off, none⟩) k k)
    refine ⟨by rw [← HX.out]; rfl, ⟨g, off, none⟩, k, by rw [hk1.out]; exact hS.1, hS.2, ?_⟩
    rw [hk1.out]
    exact AZ.out.pil HP.out hS.2 h3
  · obtain ⟨m, hm⟩ : ∃ m, m = n - K := ⟨_, rfl⟩
    have u0 : n - K = m := hm.symm
    have u1 : ¬ c = K := by omega
    rw [u0] at lB
    have hm0 : 0 < m := by omega
    have hm1 : m ≤ 100 := by omega
    have hk9 : k ≤ 100 := by omega
    have hkm : Hid (n - 1 = k + m) := by show _ = _; omega
    clear hx hK hn hcell hP hk h10 hm
    go_enter Try.func89, Try.ntmps89
    go_wp2_with (at_builtin; refine wpList_app_pile rfl (.tmp 22) (.tmp 29) rfl w.heap.size ⟨g, off, none⟩ k k _ _ rfl AA.out ⟨g, off + K, none⟩ m (c - K) rfl RB.out lB.out hm0 (Nat.le_refl _) hk9 hm1 ?_)
    intro g2 cap w2 hcap hg2 ho2 hb2
    have hP2 := HP.out.below hb2 h3
    obtain ⟨q1, q2, q3⟩ := hP2.cell
    have HP2 := Lib.hid hP2
    have HO2 := Lib.hid ho2
    have HB2 := Lib.hid hb2
    have HC := Lib.hid hcap
    clear hP2 ho2 hb2 hcap
    go_wp2
    go_ret
    have hS := HP2.out.set (.slice (some ⟨g2, 0, none⟩) (k + m) cap)
    refine ⟨by rw [← HX.out]; rfl, ⟨g2, 0, none⟩, cap, by rw [hkm.out]; exact hS.1, grown_after HB2.out hS.2, ?_⟩
    rw [hkm.out, hcut.out]
    have A2 : Apd w2 w.heap.size ⟨g2, 0, none⟩ (k + m) cap (ldI (L.take k) ++ ldI (L.drop K)) := by
      refine ⟨?_, HC.out, ?_, .inr HO2.out⟩
      · have := HO2.out.1; rwa [iv_length, Nat.mul_one] at this
      · have := HO2.out
        rw [← ldI_app] at this ⊢
        exact row_rdP this
    exact A2.pil HP2.out hS.2 h3
end Go.Proofs.Ytakpbnkncjddeaa

namespace Go.Proofs.Ytakpbnkncjddeaa
open Go.RowKit

theorem grown_trans {w w1 w2 : World} {r : Option Nat} (h1 : w.grownBy w1 r) (h2 : w1.grownBy w2 r) : w.grownBy w2 r :=
  ⟨h2.os.trans h1.os, h2.tape.trans h1.tape, h2.output.trans h1.output, Nat.le_trans h1.size h2.size, fun k hk hne => (h2.block k (Nat.lt_of_lt_of_le hk h1.size) hne).trans (h1.block k hk hne)⟩
theorem grown_below {w x y : World} {r : Option Nat} {H : Nat} (h1 : w.grownBy x r) (h2 : Below H x y) (hH : w.heap.size ≤ H) : w.grownBy y r :=
  ⟨h2.os.trans h1.os, h2.tape.trans h1.tape, h2.output.trans h1.output, Nat.le_trans h1.size h2.size, fun k hk hne => (h2.block k (Nat.lt_of_lt_of_le hk hH)).trans (h1.block k hk hne)⟩
/-- what was given back lies as it lay -/
theorem given_back {w w5 : World} {b : Nat} {v u : Value} (hP : PilAt w b u) (hg : w.grownBy w5 (some b)) (h5 : PilAt w5 b v) : Below w.heap.size w (w5.setCell ⟨b, 0, none⟩ u) := by
  have hS := h5.set u
  refine ⟨hg.os, hg.tape, hg.output, by simpa using hg.size, fun k hk => ?_⟩
  by_cases hkb : k = b
  · subst hkb
    exact (show _ = _ from hS.1).trans (show _ = _ from hP).symm
  · have hne : some k ≠ some b := fun e => hkb (by injection e)
    exact (hS.2.block k (Nat.lt_of_lt_of_le hk hg.size) hne).trans (hg.block k hk hne)
theorem Apd.alloc {w : World} {base n c : Nat} {b : Addr} {l : List Int} (h : Apd w base b n c l) (o : Obj) : Apd (w.alloc o) base b n c l := by
  obtain ⟨h1, h2, h3, h4⟩ := h
  have hb : Below w.heap.size w (w.alloc o) := (Below.refl _ w).alloc (Nat.le_refl _) o
  refine ⟨h1, h2, fun j hj => ?_, h4.imp id fun ho => ho.alloc o⟩
  obtain ⟨g, off, e, q1, q2⟩ := (h3.below hb) j hj
  exact ⟨g, off, e, Nat.lt_of_lt_of_le q1 hb.size, q2⟩

/-- what the loads of a pile of n cost to be joined -/
def LJ (n : Nat) : Prop := ∀ (b c : Nat) (a : Option Addr) (M : List Nat) (W : World), PilAt W b (.slice a n c) → Hid (RdI W W.heap.size a (ldI M)) → M.length = n → n ≤ c → M.sum ≤ 200 →
  Calls Try.prog 43 #[.pointer (some ⟨b, 0, none⟩)] W fun e w' => e = .returned (.int .i64 ((joinC M : Nat) : Int)) ∧ Below W.heap.size W w'

set_option maxRecDepth 100000 in
set_option maxHeartbeats 3200000 in
theorem leastAfter_of {n : Nat} (h5 : n + 1 ≤ 5) (ih : LJ n) (b c : Nat) (a : Option Addr) (L : List Nat) (w : World) (hP : PilAt w b (.slice a (n + 1) c)) (hR : Hid (RdI w w.heap.size a (ldI L))) (hn : L.length = n + 1) (hc : n + 1 ≤ c) (hs : L.sum ≤ 200) (k i : Nat) (hk : k < i) (hi : i < n + 1) :
    Calls Try.prog 65 #[.pointer (some ⟨b, 0, none⟩), .int .i64 (k : Int), .int .i64 (i : Int)] w fun e w' => e = .returned (.int .i64 ((pjQ L i k : Nat) : Int)) ∧ Below w.heap.size w w' := by
  obtain ⟨m, rfl⟩ : ∃ m, n = m + 1 := ⟨n - 1, by omega⟩
  have T1 := Lib.hid (take_any b (m + 1 + 1) c i a L w hP hR hn hc hi (by omega))
  have l1 := cut_len (L := L) (k := i) (by omega)
  have L1 : Hid ((cutL L i).length = m + 1) := by show _ = _; omega
  have T2 := Lib.hid (fun (ad : Addr) (c1 : Nat) (W : World) (hP1 : PilAt W b (.slice (some ad) (m + 1) c1)) (hR1 : Hid (RdI W W.heap.size (some ad) (ldI (cutL L i)))) (hc1 : m + 1 ≤ c1) =>
    take_any b (m + 1) c1 k (some ad) (cutL L i) W hP1 hR1 L1.out hc1 (by omega) (by omega))
  have hpj := pj_bd (L := L) (by omega) hs (i := i) (k := k) (by omega) (by omega) (by omega)
  have epj := pj_aft (L := L) hk (by omega)
  have lA := aft_len (L := L) hk (by omega)
  have sA := aft_sum (L := L) hk (by omega)
  have eA : ldI (cutL (cutL L i) k) ++ [((L.getD i 0 + L.getD k 0 : Nat) : Int)] = ldI (aftL L i k) := by rw [aftL, ldI_snoc]
  have I1 := Lib.hid (fun (c1 : Nat) (a1 : Option Addr) (W : World) (hP1 : PilAt W b (.slice a1 (m + 1) c1)) (hR1 : Hid (RdI W W.heap.size a1 (ldI (aftL L i k)))) (hc1 : m + 1 ≤ c1) => ih b c1 a1 (aftL L i k) W hP1 hR1 (by omega) hc1 (by omega))
  have eY : (cutL L i).getD k 0 = L.getD k 0 := cut_at hk
  obtain ⟨x, hx⟩ : ∃ x, x = L.getD i 0 := ⟨_, rfl⟩
  obtain ⟨y, hy⟩ : ∃ y, y = L.getD k 0 := ⟨_, rfl⟩
  obtain ⟨J, hJ⟩ : ∃ J, J = joinC (aftL L i k) := ⟨_, rfl⟩
  obtain ⟨A2, hA2⟩ : ∃ A2, A2 = ldI (cutL (cutL L i) k) := ⟨_, rfl⟩
  rw [← hx, ← hy] at epj eA hpj
  rw [← hJ] at epj I1
  rw [← hA2] at eA
  have EY : Hid ((cutL L i).getD k 0 = y) := eY.trans hy.symm
  have EX := Lib.hid hx
  have EA := Lib.hid eA
  have HA2 := Lib.hid hA2
  obtain ⟨z, hz⟩ : ∃ z, z = x + y := ⟨_, rfl⟩
  rw [← hz] at EA
  have e1 : IntKind.i64.wrap ((x : Int) + (y : Int)) = (z : Int) := by rw [IntKind.wrap_i64]; omega
  have e2 : IntKind.i64.wrap ((z : Int) + (J : Int)) = ((pjQ L i k : Nat) : Int) := by rw [IntKind.wrap_i64]; omega
  obtain ⟨c1, c2, c3⟩ := hP.cell
  have HP := Lib.hid hP
  have hm9 : m ≤ 100 := by omega
  obtain ⟨Z, hZ⟩ : ∃ Z, Z = pjQ L i k := ⟨_, rfl⟩
  rw [← hZ] at e2 ⊢
  clear hZ hz hx hy hJ hA2 eY eA epj hpj lA sA l1 hP ih hR hn hc hs hk hi h5
  go_enter_defers Try.func65, Try.ntmps65
  go_wp2_with fail
  refine T1.out.mono ?_
  rintro e w1 ⟨rfl, ad1, q1, P1, G1, A1⟩
  rw [← EX.out]
  obtain ⟨_, A1b, A1c, _⟩ := A1
  have hs1 : w.heap.size ≤ w1.heap.size := G1.size
  have T3 := Lib.hid (T2.out ad1 q1 w1 P1 A1c A1b)
  have HG1 := Lib.hid G1
  clear A1b A1c T1 T2 P1 G1
  go_wp2_with fail
  refine T3.out.mono ?_
  rintro e w2 ⟨rfl, ad2, q2, P2, G2, B2⟩
  rw [EY.out]
  rw [← HA2.out] at B2
  obtain ⟨d1, d2, d3⟩ := P2.cell
  have hs2 : w1.heap.size ≤ w2.heap.size := G2.size
  have HG2 := Lib.hid (grown_trans HG1.out G2)
  have AP := Lib.hid (Apd.alloc B2 (.cells #[.int .i64 (z : Int)] 3))
  have PA : Hid (PilAt (w2.alloc (.cells #[.int .i64 (z : Int)] 3)) b (.slice (some ad2) (m + 1 - 1) q2)) := (Below.heap_alloc w2 _ b d3).trans P2
  have b2 : b < w1.heap.size := Nat.lt_of_lt_of_le c3 hs1
  clear B2 P2 G2 T3 HG1
  go_wp2_with (at_builtin; refine wpList_app_pile rfl (.tmp 25) (.tmp 27) rfl w1.heap.size ad2 m q2 _ [(z : Int)] rfl AP.out ⟨_, 0, none⟩ 1 1 rfl (lit_rdP _ _) rfl (by omega) (by simp; omega) hm9 (by omega) ?_)
  intro g cap w3 hcap hg3 ho3 hb3
  rw [EA.out] at ho3
  have P3 : PilAt w3 b (.slice (some ad2) m q2) := PA.out.below hb3 b2
  obtain ⟨f1, f2, f3⟩ := P3.cell
  have PS := P3.set (.slice (some ⟨g, 0, none⟩) (m + 1) cap)
  have G4 := Lib.hid (grown_trans (grown_below (grown_trans HG2.out (World.grownBy_alloc w2 _ (some b))) hb3 hs1) PS.2)
  have R3 := row_rdP ho3
  have R4 : Hid (RdI (w3.setCell ⟨b, 0, none⟩ (.slice (some ⟨g, 0, none⟩) (m + 1) cap)) (w3.setCell ⟨b, 0, none⟩ (.slice (some ⟨g, 0, none⟩) (m + 1) cap)).heap.size (some ⟨g, 0, none⟩) (ldI (aftL L i k))) := by
    have := R3.pil P3 PS.2
    show RdI _ _ _ _
    rw [World.size_setCell]
    exact this
  have I2 := Lib.hid (I1.out cap (some ⟨g, 0, none⟩) _ PS.1 R4 hcap)
  have PP := Lib.hid PS.1
  clear PS R3 R4 P3 ho3 hb3 PA AP HG2 I1 hcap hg3 d1 d2 EA
  go_wp2_with fail
  refine I2.out.mono ?_
  rintro e w5 ⟨rfl, hb5⟩
  have P5 := Lib.hid (PP.out.below hb5 (PP.out.cell).2.2)
  have G5 := Lib.hid (grown_below G4.out hb5 G4.out.size)
  clear hb5 I2 PP G4
  go_wp2
  refine leaves_cons (f := 88) (args := #[.pointer (some ⟨b, 0, none⟩), .slice a (m + 1 + 1) c]) (by simp) (by simp [go_sem]) ?_
  refine (giveBack_deferred b (m + 1 + 1) c a _ .returning w5 P5.out).mono ?_
  rintro e u' w6 ⟨rfl, rfl, rfl⟩
  exact ⟨_, results_tmp rfl _ _ _, rfl, given_back HP.out G5.out P5.out⟩

set_option maxRecDepth 100000 in
set_option maxHeartbeats 3200000 in
theorem leastJoined_any : ∀ (n : Nat), n ≤ 5 → LJ n := by
  intro n
  induction n with
  | zero =>
    intro _ b c a M W hP _ hn _ _
    obtain ⟨c1, c2, c3⟩ := hP.cell
    have E := Lib.hid (joinC_small (L := M) (by omega))
    clear hn
    go_enter Try.func43, Try.ntmps43
    go_wp2
    go_ret
    exact ⟨by rw [E.out]; rfl, Below.refl _ _⟩
  | succ n ih =>
    intro h5 b c a M w hP hR hn hc hs
    obtain ⟨c1, c2, c3⟩ := hP.cell
    by_cases h1 : n = 0
    · subst h1
      have E := Lib.hid (joinC_small (L := M) (by omega))
      clear hn ih
      go_enter Try.func43, Try.ntmps43
      go_wp2
      go_ret
      exact ⟨by rw [E.out]; rfl, Below.refl _ _⟩
    · have CA : Hid (∀ (W : World) (k i : Nat), Below w.heap.size w W → k < i → i < n + 1 → Calls Try.prog 65 #[.pointer (some ⟨b, 0, none⟩), .int .i64 (k : Int), .int .i64 (i : Int)] W fun e w' => e = .returned (.int .i64 ((pjQ M i k : Nat) : Int)) ∧ Below W.heap.size W w') := fun W k i hW hk hi =>
        leastAfter_of h5 (ih (by omega)) b c a M W (hP.below hW c3) (Lib.hid fun j hj => by
          obtain ⟨g, off, e, q1, q2⟩ := (hR.out.below hW) j hj
          exact ⟨g, off, e, Nat.lt_of_lt_of_le q1 hW.size, q2⟩) hn hc hs k i hk hi
      have MN : Hid (Lib.minOf (ldI (prP M (n + 1) 0)) = (joinC M : Int)) := by show _ = _; rw [← hn]; exact prP_min (by omega)
      have LN : Hid (∀ i k, i ≤ n + 1 → k ≤ i → (prP M i k).length ≤ 100) := fun i k hi hk => by
        have := prP_len_le M i k
        have : i * i ≤ 5 * 5 := Nat.mul_le_mul (by omega) (by omega)
        omega
      have S0 : Hid ((prP M 0 0).length = 0 ∧ w.ownsRow w.heap.size 3 1 (.slice none 0 0) 0 (iv (ldI (prP M 0 0))) ∧ Below w.heap.size w w) := ⟨rfl, World.ownsRow_nil _ _ _ _, Below.refl _ _⟩
      have N0 : Hid (0 < (prP M (n + 1) 0).length) := by
        have : pjQ M 1 0 ∈ prP M (n + 1) 0 := prP_in (by omega) (by omega)
        exact List.length_pos_of_mem this
      have hw0 : Hid (∀ W, Below w.heap.size w W → w.heap.size ≤ W.heap.size) := fun W h => h.size
      have b0 : ¬ ((n + 1 : Nat) : Int) < 2 := by omega
      obtain ⟨N, hN⟩ : ∃ N, N = n + 1 := ⟨_, rfl⟩
      rw [← hN] at MN LN N0 CA c1 b0
      have hN5 : N ≤ 5 := by omega
      obtain ⟨B, hB⟩ : ∃ B, B = w.heap.size := ⟨_, rfl⟩
      rw [← hB] at CA S0 hw0 ⊢
      have HC3 : Hid (b < B) := by show _ < _; rw [hB]; exact c3
      clear hB hN ih hP hR hn hc hs h5 h1
      go_enter Try.func43, Try.ntmps43
      go_wp2
      go_loopw [3, 17] (fun v x wr => ∃ (i q : Nat) (a1 : Option Addr) (c1 : Nat), i ≤ N ∧ x = .int .i64 (i : Int) ∧ v = .slice a1 q c1 ∧ Hid ((prP M i 0).length = q ∧ wr.ownsRow B 3 1 (.slice a1 q c1) q (iv (ldI (prP M i 0))) ∧ Below B w wr)) (fun _ x _ => N - (intOf x).toNat)
      case atStart => exact ⟨0, 0, none, 0, Nat.zero_le _, rfl, rfl, S0⟩
      case round =>
        clear S0
        obtain ⟨i, q, a1, c4, hi, rfl, rfl, HS⟩ := hrel
        by_cases hlt : i < N
        · have b1 : (i : Int) < (N : Int) := by omega
          obtain ⟨wo, hwo⟩ : ∃ wo, wo = wr := ⟨_, rfl⟩
          subst hwo
          go_wp2
          go_loopw [3, 21] (fun v x wr => ∃ (k q : Nat) (a1 : Option Addr) (c1 : Nat), k ≤ i ∧ x = .int .i64 (k : Int) ∧ v = .slice a1 q c1 ∧ Hid ((prP M i k).length = q ∧ wr.ownsRow B 3 1 (.slice a1 q c1) q (iv (ldI (prP M i k))) ∧ Below B w wr)) (fun _ x _ => i - (intOf x).toNat)
          case atStart => exact ⟨0, q, a1, c4, Nat.zero_le _, rfl, rfl, HS⟩
          case round =>
            clear HS
            obtain ⟨k, q2, a2, c5, hk, rfl, rfl, HS⟩ := hrel
            by_cases hlt2 : k < i
            · have b2 : (k : Int) < (i : Int) := by omega
              obtain ⟨hq, ho, hb⟩ := HS.out
              have C1 := Lib.hid (CA.out wr k i hb hlt2 hlt)
              have hq9 : q2 ≤ 1000 := by have := LN.out i k (by omega) (by omega); omega
              have QE : Hid (ldI (prP M i k) ++ [((pjQ M i k : Nat) : Int)] = ldI (prP M i (k + 1))) := by show _ = _; rw [prP_more, ldI_snoc]
              have QL : Hid ((prP M i (k + 1)).length = q2 + 1) := by show _ = _; rw [prP_more, List.length_append, hq]; rfl
              obtain ⟨z, hz⟩ : ∃ z, z = pjQ M i k := ⟨_, rfl⟩
              rw [← hz] at C1 QE
              have HO := Lib.hid ho
              have HB := Lib.hid hb
              have e3 : IntKind.i64.wrap ((k : Int) + 1) = (k : Int) + 1 := by rw [IntKind.wrap_i64]; omega
              clear hz hq ho hb HS
              go_wp2_with fail
              refine C1.out.mono ?_
              rintro e w2 ⟨rfl, hb2⟩
              have O2 := Lib.hid ((own_of_blocks HO.out (fun j hj => hb2.block j (HO.out.lt j hj).2)).alloc (.cells #[.int .i64 (z : Int)] 3))
              have B2 : Hid (Below B w w2) := HB.out.trans (hb2.mono (hw0.out _ HB.out))
              have B3 : Hid (B ≤ w2.heap.size) := hw0.out _ B2.out
              clear HO HB hb2 C1
              go_wp2_with (at_builtin; refine wpList_append_rd rfl (.tmp 24) (.tmp 29) rfl B _ q2 _ rfl O2.out (some ⟨_, 0, none⟩) 1 1 rfl (l := [(z : Int)]) rfl (lit_rdP _ _) hq9 (by omega) (by have := B3.out; simp; omega) ?_)
              intro v3 w3 ho3 hg3
              obtain ⟨a3, c6, rfl⟩ := own_formN ho3
              rw [← iv_app, QE.out] at ho3
              have B4 : Hid (Below B w w3) := Below.grown (B2.out.alloc B3.out _) hg3 (by have := B3.out; simp; omega) (fun j hj => (O2.out.lt j hj).1)
              have O3 := Lib.hid ho3
              clear ho3 hg3 O2 B2 B3
              go_wp2
              go_roundw
              case rel => exact ⟨k + 1, q2 + 1, a3, c6, by omega, by go_num, rfl, QL.out, O3.out, B4.out⟩
              case measure => simp [intOf]; omega
            · obtain rfl : k = i := by omega
              have HS2 : Hid ((prP M (k + 1) 0).length = q2 ∧ wr.ownsRow B 3 1 (.slice a2 q2 c5) q2 (iv (ldI (prP M (k + 1) 0))) ∧ Below B w wr) := by
                show _ ∧ _
                rw [prP_next]
                exact HS.out
              clear HS
              go_wp2
              go_roundw
              case rel => exact ⟨k + 1, q2, a2, c5, by omega, by go_num, rfl, HS2⟩
              case measure => simp [intOf]; omega
        · obtain rfl : i = N := by omega
          obtain ⟨hq, ho, hb⟩ := HS.out
          have CM := Lib.hid (minRow_p (prP M i 0) a1 q c4 B wr ho (by have := N0.out; omega) (by have := LN.out i 0 (by omega) (by omega); omega))
          rw [MN.out] at CM
          have HB := Lib.hid hb
          clear hq ho hb HS
          go_wp2_with fail
          refine CM.out.mono ?_
          rintro e w2 ⟨rfl, rfl⟩
          go_wp2
          go_ret
          exact ⟨rfl, HB.out⟩

set_option maxHeartbeats 800000 in
theorem implJoinTried_any (l : List Int) (a : Option Addr) (cv : Nat) (w : World) {H : Nat} (hR : Hid (RdI w H a l)) (hH : H ≤ w.heap.size) (hl : l.length ≤ 1048576) (hcv : l.length ≤ cv) :
    Calls Try.prog 19 #[.slice a l.length cv] w fun e w' => e = .returned (.int .i64 (jtI l)) ∧ Below w.heap.size w w' := by
  have CV := Lib.hid (implValidLoads_rd l a cv w hR hl)
  cases hw : loadB l
  · rw [hw] at CV
    have E := Lib.hid (show jtI l = -1 by rw [jtI, hw]; rfl)
    clear hw
    go_enter Try.func19, Try.ntmps19
    go_wp2_with fail
    refine CV.out.mono ?_
    rintro e w1 ⟨rfl, rfl⟩
    go_wp2
    go_ret
    exact ⟨by rw [E.out]; rfl, Below.refl _ _⟩
  · rw [hw] at CV
    by_cases h5 : l.length ≤ 5
    · obtain ⟨L, rfl, eL, h7, h20⟩ := loadB_nats hw
      have E := Lib.hid (show jtI (ldI L) = (joinC L : Int) by rw [jtI, hw, decide_eq_true h5, natsL_ldI]; rfl)
      have b5 : ¬ (5 : Int) < ((ldI L).length : Int) := by omega
      have bw : Below w.heap.size w (w.alloc (.cells #[.slice a (ldI L).length cv] 39)) := (Below.refl _ w).alloc (Nat.le_refl _) _
      have hsum : L.sum ≤ 200 := by
        have := sum_bd h20
        rw [ldI_len] at h5
        omega
      have CJ := Lib.hid (leastJoined_any (ldI L).length h5 w.heap.size cv a L (w.alloc (.cells #[.slice a (ldI L).length cv] 39)) (heap_alloc_new w _) (Lib.hid fun j hj => by
        obtain ⟨g, off, e, q1, q2⟩ := (hR.out.below (bw.mono hH)) j hj
        exact ⟨g, off, e, by rw [World.size_alloc]; omega, q2⟩) (ldI_len L).symm hcv hsum)
      have BW := Lib.hid bw
      clear hw eL bw
      go_enter Try.func19, Try.ntmps19
      go_wp2_with fail
      refine CV.out.mono ?_
      rintro e w1 ⟨rfl, rfl⟩
      go_wp2_with fail
      refine CJ.out.mono ?_
      rintro e w2 ⟨rfl, hb2⟩
      have HB2 : Hid (Below w.heap.size w w2) := BW.out.trans (hb2.mono BW.out.size)
      clear hb2
      go_wp2
      go_ret
      exact ⟨by rw [E.out]; rfl, HB2.out⟩
    · have E := Lib.hid (show jtI l = -1 by rw [jtI, hw, decide_eq_false h5]; rfl)
      have b5 : (5 : Int) < (l.length : Int) := by omega
      clear hw
      go_enter Try.func19, Try.ntmps19
      go_wp2_with fail
      refine CV.out.mono ?_
      rintro e w1 ⟨rfl, rfl⟩
      go_wp2
      go_ret
      exact ⟨by rw [E.out]; rfl, Below.refl _ _⟩
end Go.Proofs.Ytakpbnkncjddeaa
