/-
  Rows that are appended to a list of the call's own, shared with another list; the law's edgesBackwards.
-/
import Derived.Test.YtgboecnfghhooaaCLess
import Derived.Test.YtgboecnfghhooaaCDetM
namespace Go.Proofs.Ytgboecnfghhooaa
open Go.RowKit

/-- row values that can be read, from an address on -/
def RdS (w : World) (H : Nat) (a : Option Addr) (VS : List Value) : Prop := ∀ (j : Nat) (u : Value), VS[j]? = some u → ∃ b off, a = some ⟨b, off, none⟩ ∧ b < H ∧ w.cell? ⟨b, off + j, none⟩ = some u
theorem RdS.below {w w' : World} {H : Nat} {a : Option Addr} {VS : List Value} (h : RdS w H a VS) (hb : Below H w w') : RdS w' H a VS := fun j u hu => by
  obtain ⟨b, off, h1, h2, h3⟩ := h j u hu
  exact ⟨b, off, h1, h2, (hb.cell (p := ⟨b, off + j, none⟩) h2).trans h3⟩
theorem RdS.of {w : World} {B H : Nat} {t : TypeId} {v : Value} {VS : List Value} (h : Own w B H t v VS) {a : Option Addr} {n c : Nat} (hv : v = .slice a n c) : RdS w H a VS := fun j u hu => by
  have hj := (List.getElem?_eq_some_iff.1 hu).1
  obtain ⟨g, cap, e, _, h2, c1, _⟩ := h.cell j hj
  rw [hv] at e
  simp only [Value.slice.injEq] at e
  exact ⟨g, 0, e.1, h2, by rw [Nat.zero_add, c1]; exact hu⟩
theorem wpList_append_gr {w : World} {ops : Array Oper} {rest : List Oper} {o : Oper} {a : Act} {Q : Exit → Act → World → Prop} (hgd : o.guard = none) (s x : Operand)
    (ho : o.op = .call { callee := .builtin .append, args := #[s, x], argTypes := #[26, 26] })
    (base : Nat) (v : Value) (n : Nat) (xs : List Value) (hs : a.eval s = v) (hown : w.ownsRow base 32 1 v n xs) (ao : Option Addr) (m c : Nat) (hx : a.eval x = .slice ao m c) (news : List Value) {H : Nat} (hl : news.length = m) (hR : RdS w H ao news)
    (h1 : ∀ u ∈ news, u.oneCell' = true) (hn : n ≤ 1000) (hm : m ≤ 1000) (hbase : base ≤ w.heap.size)
    (h : ∀ av nv cv w', w'.ownsRow base 32 1 (.slice av nv cv) (n + m) (xs ++ news) → w.grownBy w' v.ownBlock → wpList Try.prog ops Q rest (a.put o.dst (.slice av nv cv)) w') : wpList Try.prog ops Q (o :: rest) a w := by
  obtain ⟨j0, hj, hy0, hy1, hy2⟩ := info_parts Try.infoRowR
  rcases Nat.eq_zero_or_pos m with h0 | h0
  · subst h0
    obtain rfl : news = [] := List.eq_nil_of_length_eq_zero hl
    obtain ⟨av, nv, cv, rfl⟩ := own_formD hown
    refine wpList_append_zero hgd s x 26 ho base 32 j0 1 Try.underlying26 hj _ n xs hs hown ao c hx (h av nv cv w ?_ ⟨rfl, rfl, rfl, Nat.le_refl _, fun _ _ _ => rfl⟩)
    rw [List.append_nil, Nat.add_zero]
    exact hown
  · obtain ⟨b, off, rfl, _, _⟩ := hR 0 _ (List.getElem?_eq_getElem (by omega))
    refine wpList_append_lies w hgd s x 26 ho base 32 j0 (.slice none 0 0) 1 24 Try.underlying26 hj hy0 hy1 hy2 rfl (by decide) v n xs hs hown ⟨b, off, none⟩ m c news hx (by omega) (fun j u hu => ?_) h1 h0 (by unfold maxLen; omega) (by omega) hbase _ rfl (fun g cap w' h1 h2 _ _ => h _ _ _ w' h1 h2)
    obtain ⟨b', off', e, _, h3⟩ := hR j u hu
    simp only [Option.some.injEq, Addr.mk.injEq] at e
    obtain ⟨rfl, rfl, _⟩ := e
    rw [Addr.add_lit]
    exact h3
theorem Grid.form {w : World} {B H : Nat} {v : Value} {RV : List Value} {rows : List (List Int)} (h : Grid w B H v RV rows) : ∃ a c, v = .slice a rows.length c ∧ rows.length ≤ c ∧ RdS w H a RV := by
  obtain ⟨a, c, e, _, hc, _⟩ := h.1.slice
  rw [h.2.1] at e hc
  exact ⟨a, c, e, hc, RdS.of h.1 e⟩
theorem RowsI.reverse {w : World} {B H : Nat} {RV : List Value} {rows : List (List Int)} (h : RowsI w B H RV rows) : RowsI w B H RV.reverse rows.reverse := by
  refine ⟨by rw [List.length_reverse, List.length_reverse]; exact h.1, fun i v r h1 h2 => ?_⟩
  have hi : i < rows.length := by have := (List.getElem?_eq_some_iff.1 h2).1; rwa [List.length_reverse] at this
  rw [List.getElem?_reverse (by rw [h.1]; exact hi)] at h1
  rw [List.getElem?_reverse hi] at h2
  rw [h.1] at h1
  exact h.2 _ v r h1 h2
set_option maxHeartbeats 3200000 in
theorem backwards_p (rows : List (List Int)) (v : Value) (RV : List Value) (w : World) {B0 H0 : Nat} (hG : Hid (Grid w B0 H0 v RV rows)) (hH : H0 ≤ w.heap.size) (hB : B0 ≤ w.heap.size) (h20 : rows.length ≤ 20) :
    Calls Try.prog 25 #[v] w fun e w' => ∃ u, e = .returned u ∧ Grid w' B0 w'.heap.size u RV.reverse rows.reverse ∧ Below w.heap.size w w' := by
  obtain ⟨a, cv, rfl, hcv, hS⟩ := Grid.form hG.out
  have hRl : RV.length = rows.length := hG.out.2.1
  obtain ⟨m, hm⟩ : ∃ m, m = rows.length := ⟨_, rfl⟩
  have HRS := Lib.hid hS
  have HRV : Hid (RV.length = m) := by show _ = _; omega
  have ONE := Lib.hid (rows_one hG.out.2)
  rw [← hm] at hG hcv ⊢
  obtain ⟨B, hBe⟩ : ∃ B, B = w.heap.size := ⟨_, rfl⟩
  have HB0 := Lib.hid hBe
  have OL : Hid ((w.alloc (.cells #[] 32)).ownsRow B 32 1 (.slice (some ⟨w.heap.size, 0, none⟩) 0 0) 0 (RV.reverse.take 0)) := World.ownsRow_lit (base := B) (e := 32) (size := 1) w #[] 0 (by omega) (by unfold maxLen; omega) rfl
  have BL : Hid (Below B w (w.alloc (.cells #[] 32))) := by show Below _ _ _; rw [hBe]; exact (Below.refl _ w).alloc (Nat.le_refl _) _
  have hm20 : m ≤ 20 := by omega
  have em : IntKind.i64.wrap ((m : Int) - 1) = (m : Int) - 1 := by rw [IntKind.wrap_i64]; omega
  clear hS hRl hm hBe h20
  go_enter Try.func25, Try.ntmps25
  go_wp2_with fail
  go_loopw [3, 4] (fun e3 e4 wr => ∃ (k : Nat) (z : Int) (av : Option Addr) (nv cv : Nat), k ≤ m ∧ e4 = .int .i64 z ∧ z = (m : Int) - 1 - (k : Int) ∧ e3 = .slice av nv cv ∧ Hid (wr.ownsRow B 32 1 (.slice av nv cv) k (RV.reverse.take k)) ∧ Hid (Below B w wr)) (fun _ e4 _ => (intOf e4 + 1).toNat)
  case atStart => exact ⟨0, _, _, _, _, Nat.zero_le _, rfl, by omega, rfl, OL, BL⟩
  case round =>
    clear OL BL
    obtain ⟨k, z, av, nv, cv', hk, rfl, hz, rfl, HO, HB⟩ := hrel
    by_cases hlt : k < m
    · have b1 : (0 : Int) ≤ z := by omega
      obtain ⟨i, hi⟩ : ∃ i : Nat, z = (i : Int) := ⟨z.toNat, by omega⟩
      have him : i < m := by omega
      have hik : i = m - 1 - k := by omega
      obtain ⟨u, hu⟩ : ∃ u, RV[i]? = some u := ⟨_, List.getElem?_eq_getElem (by rw [HRV.out]; exact him)⟩
      obtain ⟨b, off, rfl, hbH, c1⟩ := HRS.out i u hu
      have hBr : Below w.heap.size w wr := by rw [← HB0.out]; exact HB.out
      have d1 := (hBr.cell (p := ⟨b, off + i, none⟩) (by show b < _; omega)).trans c1
      have h1u : u.oneCell' = true := ONE.out u (List.mem_of_getElem? hu)
      obtain ⟨au, nu, cu, rfl⟩ : ∃ au nu cu, u = .slice au nu cu := by
        have hgr := hG.out.2
        have hi' : i < rows.length := by rw [← hgr.1, HRV.out]; exact him
        obtain ⟨u', e1, ho⟩ := hgr.at_ i hi'
        rw [hu] at e1
        cases e1
        obtain ⟨a, c, e, _⟩ := ho.slice
        exact ⟨_, _, _, e⟩
      have TK : RV.reverse.take (k + 1) = RV.reverse.take k ++ [.slice au nu cu] := by
        have hkl : k < RV.reverse.length := by rw [List.length_reverse, HRV.out]; exact hlt
        rw [List.take_succ_eq_append_getElem hkl]
        congr 2
        have h2 : RV.reverse[k]? = some (.slice au nu cu) := by
          rw [List.getElem?_reverse (by rw [HRV.out]; exact hlt), HRV.out, ← hik]; exact hu
        rw [List.getElem?_eq_getElem hkl] at h2
        exact Option.some.inj h2
      have HTK := Lib.hid TK
      have b2 : (i : Int) < (m : Int) := by omega
      subst hi
      have ez : IntKind.i64.wrap ((i : Int) - 1) = (i : Int) - 1 := by rw [IntKind.wrap_i64]; omega
      have HHK : Hid ((i : Int) = (m : Int) - 1 - (k : Int)) := hz
      have sB : Hid (B ≤ wr.heap.size) := by show _ ≤ _; rw [HB0.out]; exact hBr.size
      clear c1 hu TK hik hz hBr
      go_wp2_with (at_builtin; refine wpList_append_gr (H := wr.heap.size + 1) rfl (.tmp 13) (.tmp 18) rfl B (.slice av nv cv') k (RV.reverse.take k) rfl (HO.out.alloc _) (some ⟨wr.heap.size, 0, none⟩) 1 1 rfl [.slice au nu cu] rfl ?_ (one_rowR _ _ _ _ rfl) (by omega) (by omega) (by have := sB.out; rw [World.size_alloc]; omega) ?_)
      · intro j x hx
        match j, hx with
        | 0, hx => exact ⟨wr.heap.size, 0, rfl, Nat.lt_succ_self _, by rw [← Option.some.inj hx]; exact cell_one_new wr _ _ 0 _ rfl⟩
      intro av2 nv2 cv2 w2 hv2 hg2
      have HO2 : Hid (w2.ownsRow B 32 1 (.slice av2 nv2 cv2) (k + 1) (RV.reverse.take (k + 1))) := by
        show World.ownsRow _ _ _ _ _ _ _
        rw [HTK.out]; exact hv2
      have HB2 : Hid (Below B w w2) := (HB.out.alloc sB.out _).grown hg2 (by have := sB.out; rw [World.size_alloc]; omega) (fun q hq => (HO.out.lt q hq).1)
      clear hv2 hg2 HO HB sB d1
      go_wp2
      go_roundw
      case rel => exact ⟨k + 1, _, _, _, _, by omega, rfl, by have := HHK.out; omega, rfl, HO2, HB2⟩
      case measure => first | (simp [intOf]; done) | (simp [intOf]; omega)
    · obtain rfl : k = m := by omega
      have b1 : ¬ (0 : Int) ≤ z := by omega
      have hBr : Below w.heap.size w wr := by rw [← HB0.out]; exact HB.out
      have GF : Hid (Grid wr B0 wr.heap.size (.slice av nv cv') RV.reverse rows.reverse) := by
        refine ⟨own_lo (B := B) (Own.of_own ?_) (by have := HB0.out; omega), ((hG.out.2.below (hBr.mono hH)).more (Nat.le_trans hH hBr.size)).reverse⟩
        have h := HO.out
        rw [List.take_of_length_le (by rw [List.length_reverse, HRV.out]; exact Nat.le_refl _)] at h
        rw [List.length_reverse, HRV.out]
        exact h
      have HBF := Lib.hid hBr
      clear hBr HO hz
      go_wp2
      go_ret
      exact ⟨_, rfl, GF.out, HBF.out⟩
end Go.Proofs.Ytgboecnfghhooaa
