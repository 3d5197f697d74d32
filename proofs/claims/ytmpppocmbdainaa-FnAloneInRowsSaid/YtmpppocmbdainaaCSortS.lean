/-
  The contract of the model's function that puts texts in order, each one once; the words one turn away, byte by byte.
-/
import Derived.Test.YtmpppocmbdainaaCTurnS
namespace Go.Proofs.Ytmpppocmbdainaa
open Go.RowKit

theorem take_while {out : List (List UInt8)} {x : List UInt8} : ∀ {k : Nat}, k ≤ out.length → (∀ (j : Nat) (hj : j < out.length), j < k → lessL out[j] x = true) → (∀ (hk : k < out.length), lessL out[k] x = false) →
    out.takeWhile (fun y => lessL y x) = out.take k ∧ out.dropWhile (fun y => lessL y x) = out.drop k := by
  induction out with
  | nil => intro k hk _ _; simp
  | cons z r ih =>
    intro k hk h1 h2
    cases k with
    | zero =>
      have hz : lessL z x = false := h2 (by simp)
      rw [List.takeWhile_cons, List.dropWhile_cons, hz]
      simp
    | succ k =>
      have hz : lessL z x = true := h1 0 (by simp) (by omega)
      obtain ⟨i1, i2⟩ := ih (k := k) (by simpa using hk) (fun j hj hjk => by
        have := h1 (j + 1) (by simp; omega) (by omega)
        simpa using this) (fun hk' => by
        have := h2 (by simp; omega)
        simpa using this)
      rw [List.takeWhile_cons, List.dropWhile_cons, hz]
      simp [i1, i2]
theorem insW_at {out : List (List UInt8)} {x : List UInt8} {k : Nat} (hx : x ∉ out) (hk : k ≤ out.length) (h1 : ∀ (j : Nat) (hj : j < out.length), j < k → lessL out[j] x = true) (h2 : ∀ (hk : k < out.length), lessL out[k] x = false) :
    insW out x = out.take k ++ [x] ++ out.drop k := by
  obtain ⟨e1, e2⟩ := take_while hk h1 h2
  rw [insW, if_neg hx, e1, e2]
theorem sv_take (L : List (List UInt8)) (k : Nat) : (sv L).take k = sv (L.take k) := by simp [sv, List.map_take]
theorem sv_drop (L : List (List UInt8)) (k : Nat) : (sv L).drop k = sv (L.drop k) := by simp [sv, List.map_drop]
theorem sort_snoc (L : List (List UInt8)) (k : Nat) (h : k < L.length) : sortW (L.take (k + 1)) = insW (sortW (L.take k)) L[k] := by
  rw [sortW, List.take_succ_eq_append_getElem h, List.foldl_append]; rfl
theorem sort_le (L : List (List UInt8)) : (sortW L).length ≤ L.length := by
  have key : ∀ (L out : List (List UInt8)), (L.foldl insW out).length ≤ out.length + L.length := by
    intro L
    induction L with
    | nil => intro out; simp
    | cons x r ih =>
      intro out
      have := ih (insW out x)
      have h2 : (insW out x).length ≤ out.length + 1 := by
        by_cases hx : x ∈ out
        · rw [insW, if_pos hx]; omega
        · rw [insW_length hx]; omega
      rw [List.foldl_cons, List.length_cons]; omega
  have := key L []
  simpa [sortW] using this

theorem capS {w : World} {B n g c : Nat} {t : TypeId} {xs : List Value} (h : w.ownsRow B t 1 (.slice (some ⟨g, 0, none⟩) n c) n xs) : n ≤ c ∧ c ≤ maxLen := by
  rcases h.2 with ⟨h0, _⟩ | ⟨g', cap, cur, hv, _, _, h3, h4, _⟩
  · cases h0
  · simp only [Value.slice.injEq] at hv
    omega
theorem Txt.drewN {w0 w : World} {B g m c : Nat} {L : List (List UInt8)} (h : Txt w0 w B g m c L) (n : Nat) : Txt w0 (w.drewN n) B g m c L :=
  ⟨h.len, own_of_blocks h.own (fun _ _ => rfl), h.below.trans ⟨rfl, rfl, rfl, Nat.le_refl _, fun _ _ => rfl⟩⟩
end Go.Proofs.Ytmpppocmbdainaa
