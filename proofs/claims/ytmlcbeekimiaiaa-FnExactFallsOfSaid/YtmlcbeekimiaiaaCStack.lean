/-
  The contract of the model's function that gives numbers behind a stack.
-/
import Derived.Test.YtmlcbeekimiaiaaCFam
import Derived.Test.YtmlcbeekimiaiaaWPairs
import Derived.Test.YtmlcbeekimiaiaaZV
namespace Go.Proofs.Ytmlcbeekimiaiaa
open Go.RowKit

theorem Try.infoIntS : (Try.prog.info? 3).map (fun i => (i.zero, i.size, i.bytes)) = some (some (.int .i64 0), 1, 8) := by kernel_rfl
theorem stackF_next {s : ByteArray} {k : Nat} (hk : k < s.size) : stackF (s.data.toList.take (k + 1)) = stepS (stackF (s.data.toList.take k)) s[k] := by
  rw [stackF, fold_take _ _ _ _ (by rw [size_list]; exact hk), get_list s k hk]; rfl
theorem stackF_opn {s : ByteArray} {k : Nat} (hk : k < s.size) (hc : s[k].toNat = 40) : stackF (s.data.toList.take (k + 1)) = ((stackF (s.data.toList.take k)).1 ++ [(stackF (s.data.toList.take k)).2.2], (stackF (s.data.toList.take k)).2.1, (stackF (s.data.toList.take k)).2.2 + 1) := by
  rw [stackF_next hk, stepS, if_pos hc]
theorem stackF_cls {s : ByteArray} {k : Nat} (hk : k < s.size) (hc : s[k].toNat = 41) : stackF (s.data.toList.take (k + 1)) = ((stackF (s.data.toList.take k)).1.dropLast, (stackF (s.data.toList.take k)).2.1 ++ [(stackF (s.data.toList.take k)).1.getLastD 0], (stackF (s.data.toList.take k)).2.2) := by
  rw [stackF_next hk, stepS, if_neg (by omega)]
/-- what stands on the stack, how many have come, how many are out -/
theorem stackF_len (r : List UInt8) : ∀ o, scan r.reverse = some o → (stackF r.reverse).1.length = o ∧ (stackF r.reverse).2.2 ≤ r.length ∧ (stackF r.reverse).2.1.length ≤ r.length ∧ ∀ x ∈ (stackF r.reverse).1, x ≤ r.length := by
  induction r with
  | nil => intro o h; simp [scan] at h; subst h; simp [stackF]
  | cons c l ih =>
    intro o h
    rw [List.reverse_cons] at h ⊢
    rw [scan_snoc] at h
    cases hs : scan l.reverse with
    | none => rw [hs] at h; simp [vstep] at h
    | some q =>
      rw [hs] at h
      obtain ⟨h1, h2, h3, h4⟩ := ih q hs
      have e : stackF (l.reverse ++ [c]) = stepS (stackF l.reverse) c := by simp [stackF, List.foldl_append]
      rw [e]
      rcases step_some h with hc | ⟨hc, h0⟩
      · rw [step_opn q hc] at h
        cases h
        rw [stepS, if_pos hc]
        refine ⟨by simp [h1], by simp; omega, by simp; omega, fun x hx => ?_⟩
        simp only [List.mem_append, List.mem_singleton] at hx
        rcases hx with hx | hx
        · have := h4 x hx; simp; omega
        · simp; omega
      · rw [step_cls hc h0] at h
        cases h
        rw [stepS, if_neg (by omega)]
        refine ⟨by simp [h1], by simp; omega, by simp; omega, fun x hx => ?_⟩
        have := h4 x (List.dropLast_subset _ hx)
        simp; omega
theorem stackF_len' (l : List UInt8) (o : Nat) (h : scan l = some o) : (stackF l).1.length = o := by
  have := (stackF_len l.reverse o (by rw [List.reverse_reverse]; exact h)).1
  rwa [List.reverse_reverse] at this
theorem getLastD_at (l : List Nat) (n : Nat) (h : l.length = n + 1) : l.getLastD 0 = l[n]'(by omega) := by
  rw [List.getLastD_eq_getLast?, List.getLast?_eq_getElem?, List.getElem?_eq_getElem (by omega : l.length - 1 < l.length)]
  simp only [Option.getD_some]
  congr 1
  omega
theorem ints_at2 (l : List Nat) (k : Nat) (h : k < l.length) : (ints l)[k]? = some (.int .i64 ((l[k] : Nat) : Int)) := by simp [ints, h]
theorem ints_iv (l : List Nat) : ints l = iv (l.map fun (k : Nat) => (k : Int)) := by simp [ints, iv]

/-- what stands behind k bytes -/
structure Stk_ (B H n m : Nat) (st out : List Nat) (vs vo : Value) (w : World) : Prop where
  outs : w.ownsRow B 3 1 vo m (ints out)
  stk : w.ownsRow B 3 1 vs n (ints st)
  shp : ∃ g cap g' cap', vo = .slice (some ⟨g, 0, none⟩) m cap ∧ vs = .slice (some ⟨g', 0, none⟩) n cap' ∧ g ≠ g' ∧ n ≤ cap' ∧ m ≤ cap
  lens : out.length = m ∧ st.length = n
theorem own_cap {w : World} {B n g c : Nat} {t : TypeId} {xs : List Value} (h : w.ownsRow B t 1 (.slice (some ⟨g, 0, none⟩) n c) n xs) : n ≤ c := by
  rcases h.2 with ⟨h0, _⟩ | ⟨g', cap, cur, hv, _, _, h3, _⟩
  · cases h0
  · simp only [Value.slice.injEq] at hv
    omega
theorem one_int2 (n : Int) : ∀ u ∈ [Value.int .i64 n], u.oneCell' = true := by intro u hu; simp at hu; subst hu; rfl
theorem ownsRow_lo {w : World} {B B' n : Nat} {t : TypeId} {v : Value} {xs : List Value} (h : w.ownsRow B' t 1 v n xs) (hB : B ≤ B') : w.ownsRow B t 1 v n xs :=
  ⟨h.1, h.2.imp id (fun ⟨g, cap, cur, e1, hg, r⟩ => ⟨g, cap, cur, e1, by omega, r⟩)⟩

end Go.Proofs.Ytmlcbeekimiaiaa
