/-
  The contracts of the model's functions on turns: is a word in a list; the words one turn away.
-/
import Derived.Test.YtmpppocmbdainaaCWords
import Derived.Test.YtmpppocmbdainaaCFam
import Derived.Test.YtmpppocmbdainaaZJ
import Derived.Test.YtmpppocmbdainaaCInts
import Derived.Deep.RegionLaw
import Derived.Deep.DeepCutAuto
import Derived.Maps.AppendAt
namespace Go.Proofs.Ytmpppocmbdainaa
open Go.RowKit

theorem sv_get (L : List (List UInt8)) (k : Nat) (h : k < L.length) : (sv L)[k]? = some (.string ⟨L[k].toArray⟩) := by simp [sv, h]
theorem mem_yes {L : List (List UInt8)} {x : List UInt8} {k : Nat} (h : k < L.length) (e : L[k] = x) : decide (x ∈ L) = true := decide_eq_true (e ▸ List.getElem_mem h)
theorem mem_not {L : List (List UInt8)} {x : List UInt8} (h : ∀ (j : Nat) (hj : j < L.length), L[j] ≠ x) : decide (x ∈ L) = false := by
  refine decide_eq_false fun hm => ?_
  obtain ⟨j, hj, e⟩ := List.getElem_of_mem hm
  exact h j hj e
theorem step_app {P : Program} {w : World} {ops : Array Oper} {o : Oper} {a : Act} {K : Act → World → Prop} {Q : Exit → Act → World → Prop} {E : Prop} (hgd : o.guard = none) (s x : Operand) (t : TypeId)
    (ho : o.op = .call { callee := .builtin .append, args := #[s, x], argTypes := #[t, t] })
    (base : Nat) (e : TypeId) (i : TypeInfo) (z : Value) (size bytes : Nat) (ht : P.underlying t = some (.slice e)) (hi : P.info? e = some i) (hz : i.zero = some z)
    (hsize : i.size = size) (hby : i.bytes = bytes) (hzs : z.cells.size = size) (hsz : 0 < size)
    (v : Value) (n : Nat) (xs : List Value) (hs : a.eval s = v) (hown : w.ownsRow base e size v n xs)
    (ad : Addr) (m c : Nat) (news : List Value) (hx : a.eval x = .slice (some ad) m c) (hl : news.length = m * size) (hnews : ∀ j u, news[j]? = some u → w.cell? (ad.add j) = some u) (h1 : ∀ u ∈ news, u.oneCell' = true)
    (h63 : n + m ≤ maxLen) (hbytes : (n + m) * bytes ≤ 140737488355328) (hbase : base ≤ w.heap.size)
    (h : ∀ v' w', w'.ownsRow base e size v' (n + m) (xs ++ news) → w.grownBy w' v.ownBlock → (v' = .slice none 0 0 ↔ v = .slice none 0 0 ∧ m = 0) → K (a.put o.dst v') w') :
    if Region.wanted o (yielded ops a.tmps) = true then Oper.wp P o a w K Q else E := by
  have hw : Region.wanted o (yielded ops a.tmps) = true := by simp [Region.wanted, hgd]
  rw [if_pos hw]
  exact wp_append_own w s x t ho base e i z size bytes ht hi hz hsize hby hzs hsz v n xs hs hown ad m c news hx hl hnews h1 h63 hbytes hbase h
theorem wrapS (n : Int) (h : -9223372036854775808 ≤ n ∧ n ≤ 9223372036854775807) : wrap64 n = n := by unfold wrap64; omega
theorem wrapK (k : Nat) (h : k ≤ 1000) : IntKind.i64.wrap ((k : Int) + 1) = (k : Int) + 1 := by
  rw [IntKind.wrap_i64]
  omega
theorem grown_drewS {w w' : World} {row : Option Nat} (h : w.drew.grownBy w' row) : w.grownBy w' row := ⟨h.1, h.2, h.3, h.4, h.5⟩
theorem own_shapeS {w : World} {B n : Nat} {t : TypeId} {v : Value} {xs : List Value} (h : w.ownsRow B t 1 v n xs) : ∃ a cap, v = .slice a n cap := by
  rcases h.2 with ⟨rfl, h0⟩ | ⟨g, cap, cur, rfl, _⟩
  · exact ⟨none, 0, by rw [h0]⟩
  · exact ⟨some ⟨g, 0, none⟩, cap, rfl⟩
/-- a list of texts of the call's own -/
structure Txt (w0 w : World) (B g m c : Nat) (L : List (List UInt8)) : Prop where
  len : L.length = m
  own : w.ownsRow B 9 1 (.slice (some ⟨g, 0, none⟩) m c) m (sv L)
  below : Below B w0 w
/-- a text is appended beside a list that is read -/
theorem txt_step {w0 wr w5 : World} {B g m c g5 c5 B3 H3 ga n3 c3 : Nat} {L : List (List UInt8)} {V : ByteArray} {xs : List Value} (hB : B = w0.heap.size) (T : Txt w0 wr B g m c L) (O : Own wr B3 H3 9 (.slice (some ⟨ga, 0, none⟩) n3 c3) xs) (hH : H3 ≤ wr.heap.size) (hne : ga ≠ g)
    (hv : w5.ownsRow B 9 1 (.slice (some ⟨g5, 0, none⟩) (m + 1) c5) (m + 1) (sv L ++ [.string V])) (hg : (wr.alloc (.cells #[.string V] 9)).grownBy w5 (Value.slice (some ⟨g, 0, none⟩) m c).ownBlock) (hw : (Value.slice (some ⟨g, 0, none⟩) m c).ownBlock = some g5 ∨ g5 = wr.heap.size + 1) :
    Txt w0 w5 B g5 (m + 1) c5 (L ++ [V.data.toList]) ∧ Own w5 B3 H3 9 (.slice (some ⟨ga, 0, none⟩) n3 c3) xs ∧ ga ≠ g5 ∧ wr.heap.size ≤ w5.heap.size := by
  have hs := T.below.size
  have hz : (wr.alloc (.cells #[.string V] 9)).heap.size = wr.heap.size + 1 := by simp
  have hsz := hg.size
  rw [hz] at hsz
  have hga := O.2 ga rfl
  refine ⟨⟨by rw [List.length_append, T.len]; rfl, ?_, ?_⟩, (O.alloc _).grown hg (.inr (by simp only [Value.ownBlock, ne_eq, Option.some.injEq]; exact hne)), ?_, by omega⟩
  · rw [str_list V, sv_snoc] at hv
    exact hv
  · exact (T.below.alloc (by omega) _).grown hg (by rw [hz]; omega) (fun q hq => (T.own.lt q hq.symm.symm).1)
  · rcases hw with e | e
    · simp only [Value.ownBlock, Option.some.injEq] at e
      omega
    · omega
theorem empty_not {s : ByteArray} {l : List UInt8} (h : s.data.toList = l) (hl : l ≠ []) : s.toList.isEmpty = false := by
  rw [ByteArray.toList_eq, h]
  cases l with
  | nil => exact absurd rfl hl
  | cons _ _ => rfl
theorem empty_yes {s : ByteArray} (h : s.data.toList = []) : s.toList.isEmpty = true := by rw [ByteArray.toList_eq, h]; rfl

end Go.Proofs.Ytmpppocmbdainaa
