/-
  The model's text of a branch. (The region with three appends in each other is written by wip/tools/gentext.py.)
-/
import Derived.Test.YtmpppocmbdainaaZBF
import Derived.Test.YtmpppocmbdainaaCSortS
namespace Go.Proofs.Ytmpppocmbdainaa
open Go.RowKit

/-- the texts of the first k neighbours but for the one that was come from -/
def txtS (E : Edges) (d u : Nat) (fr : Int) (k : Nat) : List (List UInt8) := (((nb E u).take k).filter fun (x : Nat) => !decide ((x : Int) = fr)).map fun x => txt E d x u
theorem txtS_yes {E : Edges} {d u k : Nat} {fr : Int} (hk : k < (nb E u).length) (h : ((nb E u)[k] : Int) ≠ fr) : txtS E d u fr (k + 1) = txtS E d u fr k ++ [txt E d (nb E u)[k] u] := by
  unfold txtS
  rw [List.take_succ_eq_append_getElem hk, List.filter_append, List.map_append, List.filter_cons_of_pos (by simpa using h)]; rfl
theorem txtS_no {E : Edges} {d u k : Nat} {fr : Int} (hk : k < (nb E u).length) (h : ((nb E u)[k] : Int) = fr) : txtS E d u fr (k + 1) = txtS E d u fr k := by
  unfold txtS
  rw [List.take_succ_eq_append_getElem hk, List.filter_append, List.map_append, List.filter_cons_of_neg (by simpa using h)]; simp
theorem txtS_all (E : Edges) (d u : Nat) (fr : Int) : txtS E d u fr (nb E u).length = (away E u fr).map fun x => txt E d x u := by unfold txtS away; rw [List.take_length]
theorem takeT_while {out : List (List UInt8)} {x : List UInt8} : ∀ {k : Nat}, k ≤ out.length → (∀ (j : Nat) (hj : j < out.length), j < k → leT out[j] x = true) → (∀ (hk : k < out.length), leT out[k] x = false) →
    out.takeWhile (fun y => leT y x) = out.take k ∧ out.dropWhile (fun y => leT y x) = out.drop k := by
  induction out with
  | nil => intro k hk _ _; simp
  | cons z r ih =>
    intro k hk h1 h2
    cases k with
    | zero =>
      have := h2 (by simp)
      rw [List.getElem_cons_zero] at this
      rw [List.takeWhile_cons, List.dropWhile_cons, this]; simp
    | succ k =>
      have hz := h1 0 (by simp) (by omega)
      rw [List.getElem_cons_zero] at hz
      obtain ⟨i1, i2⟩ := ih (k := k) (by simpa using hk) (fun j hj hk => by have := h1 (j + 1) (by simpa using hj) (by omega); simpa using this) (fun hk => by have := h2 (by simpa using hk); simpa using this)
      rw [List.takeWhile_cons, List.dropWhile_cons, if_pos hz, if_pos hz, i1, i2]
      exact ⟨rfl, rfl⟩
theorem insT_at {out : List (List UInt8)} {x : List UInt8} {k : Nat} (hk : k ≤ out.length) (h1 : ∀ (j : Nat) (hj : j < out.length), j < k → leT out[j] x = true) (h2 : ∀ (hk : k < out.length), leT out[k] x = false) : insT out x = out.take k ++ [x] ++ out.drop k := by
  obtain ⟨e1, e2⟩ := takeT_while hk h1 h2
  rw [insT, e1, e2]; simp
theorem nds_subS {E : Edges} {d u x : Nat} {fr : Int} (hx : x ∈ away E u fr) : (nds E d x u).length < (nds E (d + 1) u fr).length := by
  rw [nds, List.length_cons, List.length_flatMap]
  have := le_sum_mem (List.mem_map.2 ⟨x, hx, rfl⟩ : (nds E d x u).length ∈ (away E u fr).map fun x => (nds E d x u).length)
  omega
/-- the texts so far, in a row of the call's own -/
structure TxS (w2 w : World) (B C g m c : Nat) (L : List (List UInt8)) : Prop where
  len : L.length = m
  own : w.ownsRow B 9 1 (.slice (some ⟨g, 0, none⟩) m c) m (sv L)
  below : Below C w2 w
theorem flat_next {L : List (List UInt8)} {k : Nat} (hk : k < L.length) : (L.take (k + 1)).flatten = (L.take k).flatten ++ L[k] := by
  rw [List.take_succ_eq_append_getElem hk, List.flatten_append]; simp
theorem flat_le {L : List (List UInt8)} {k : Nat} : (L.take k).flatten.length ≤ L.flatten.length := by
  have := congrArg List.length (congrArg List.flatten (List.take_append_drop k L))
  rw [List.flatten_append, List.length_append] at this
  omega

end Go.Proofs.Ytmpppocmbdainaa
