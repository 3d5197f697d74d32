/-
  The contracts of the functions that list all words of so many pairs.
  The contracts of the model's functions on turns: is a word in a list; the words one turn away.
  The contract of the model's function that puts texts in order, each one once; the words one turn away, byte by byte.
-/
import Derived.Test.YtafdlilojlmchaaZV
import Derived.Test.YtafdlilojlmchaaZW
import Derived.Test.YtafdlilojlmchaaCFam
import Derived.Test.YtafdlilojlmchaaZJ
import Derived.Test.YtafdlilojlmchaaCInts
import Derived.Deep.RegionLaw
import Derived.Deep.DeepCutAuto
import Derived.Maps.AppendAt
namespace Go.Proofs.Ytafdlilojlmchaa
open Go.RowKit

theorem Try.infoStr : (Try.prog.info? 9).map (fun i => (i.zero, i.size, i.bytes)) = some (some (.string ⟨#[]⟩), 1, 16) := by kernel_rfl

def sv (L : List (List UInt8)) : List Value := L.map fun l => .string ⟨l.toArray⟩
theorem sv_length (L : List (List UInt8)) : (sv L).length = L.length := by simp [sv]
theorem sv_snoc (L : List (List UInt8)) (l : List UInt8) : sv L ++ [.string ⟨l.toArray⟩] = sv (L ++ [l]) := by simp [sv]
theorem sv_append (L M : List (List UInt8)) : sv L ++ sv M = sv (L ++ M) := by simp [sv]
theorem sv_one (L : List (List UInt8)) : ∀ v ∈ sv L, v.oneCell' = true := by
  intro v hv
  obtain ⟨n, _, rfl⟩ := List.mem_map.1 hv
  rfl
theorem one_str (s : ByteArray) : ∀ u ∈ [Value.string s], u.oneCell' = true := by intro u hu; simp at hu; subst hu; rfl
theorem str_list (s : ByteArray) : Value.string s = .string ⟨s.data.toList.toArray⟩ := by rw [show (ByteArray.mk s.data.toList.toArray) = s from bytes_ext (by simp)]

theorem wordsL_le : ∀ (f : Nat) (h : List UInt8) (o l : Nat), (wordsL f h o l).length ≤ 2 ^ f
  | 0, h, o, l => by simp [wordsL]
  | f + 1, h, o, l => by
    have h1 := wordsL_le f (h ++ [40]) (o + 1) (l - 1)
    have h2 := wordsL_le f (h ++ [41]) (o - 1) l
    rw [wordsL, List.length_append, Nat.pow_succ]
    have e : ∀ (p : Prop) [Decidable p] (X : List (List UInt8)), (if p then X else []).length ≤ X.length := fun p _ X => by split <;> simp
    have a := e (0 < l) (wordsL f (h ++ [40]) (o + 1) (l - 1))
    have b := e (0 < o) (wordsL f (h ++ [41]) (o - 1) l)
    omega

/-- what the program's function leaves: the list, grown -/
def Grew (B : Nat) (L : List (List UInt8)) (w : World) (e : Ending) (w' : World) : Prop :=
  ∃ v, e = .returned v ∧ w'.ownsRow B 9 1 v L.length (sv L) ∧ Below B w w'

end Go.Proofs.Ytafdlilojlmchaa

namespace Go.Proofs.Ytafdlilojlmchaa
open Go.RowKit

theorem sv_get (L : List (List UInt8)) (k : Nat) (h : k < L.length) : (sv L)[k]? = some (.string ⟨L[k].toArray⟩) := by simp [sv, h]
theorem mem_yes {L : List (List UInt8)} {x : List UInt8} {k : Nat} (h : k < L.length) (e : L[k] = x) : decide (x ∈ L) = true := decide_eq_true (e ▸ List.getElem_mem h)
theorem mem_not {L : List (List UInt8)} {x : List UInt8} (h : ∀ (j : Nat) (hj : j < L.length), L[j] ≠ x) : decide (x ∈ L) = false := by
  refine decide_eq_false fun hm => ?_
  obtain ⟨j, hj, e⟩ := List.getElem_of_mem hm
  exact h j hj e
theorem step_app {P : Program} {w : World} {ops : Array Oper} {o : Oper} {a : Act} {K : Act → World → Prop} {Q : Exit → Act → World → Prop} {E : Prop} (hgd : o.guard = none) (s x : Operand) (t : TypeId)
    (ho : o.op = .call { callee := .builtin .append, args := #[s, x], argTypes := #[t, t] })
    (base : Nat) (e : TypeId) (i : TypeInfo) (z : Value) (size bytes : Nat) (ht : P.underlying t = some (.slice e)) (hi : P.info? e = some i) (hz : i.zero = some z)
    (hsize : i.size = size) (hby : i.bytes = bytes) (hzs : z.cells.size = size) (hsz : 0 < size)
    (v : Value) (n : Nat) (xs : List Value) (hs : a.eval s = v) (hown : w.ownsRow base e size v n xs)
    (ad : Addr) (m c : Nat) (news : List Value) (hx : a.eval x = .slice (some ad) m c) (hl : news.length = m * size) (hnews : ∀ j u, news[j]? = some u → w.cell? (ad.add j) = some u) (h1 : ∀ u ∈ news, u.oneCell' = true)
    (h63 : n + m ≤ maxLen) (hbytes : (n + m) * bytes ≤ 140737488355328) (hbase : base ≤ w.heap.size)
    (h : ∀ v' w', w'.ownsRow base e size v' (n + m) (xs ++ news) → w.grownBy w' v.ownBlock → (v' = .slice none 0 0 ↔ v = .slice none 0 0 ∧ m = 0) → K (a.put o.dst v') w') :
    if Region.wanted o (yielded ops a.tmps) = true then Oper.wp P o a w K Q else E := by
  have hw : Region.wanted o (yielded ops a.tmps) = true := by simp [Region.wanted, hgd]
  rw [if_pos hw]
  exact wp_append_own w s x t ho base e i z size bytes ht hi hz hsize hby hzs hsz v n xs hs hown ad m c news hx hl hnews h1 h63 hbytes hbase h
theorem wrapS (n : Int) (h : -9223372036854775808 ≤ n ∧ n ≤ 9223372036854775807) : wrap64 n = n := by unfold wrap64; omega
theorem wrapK (k : Nat) (h : k ≤ 1000) : IntKind.i64.wrap ((k : Int) + 1) = (k : Int) + 1 := by
  rw [IntKind.wrap_i64]
  omega
theorem grown_drewS {w w' : World} {row : Option Nat} (h : w.drew.grownBy w' row) : w.grownBy w' row := ⟨h.1, h.2, h.3, h.4, h.5⟩
theorem own_shapeS {w : World} {B n : Nat} {t : TypeId} {v : Value} {xs : List Value} (h : w.ownsRow B t 1 v n xs) : ∃ a cap, v = .slice a n cap := by
  rcases h.2 with ⟨rfl, h0⟩ | ⟨g, cap, cur, rfl, _⟩
  · exact ⟨none, 0, by rw [h0]⟩
  · exact ⟨some ⟨g, 0, none⟩, cap, rfl⟩
/-- a list of texts of the call's own -/
structure Txt (w0 w : World) (B g m c : Nat) (L : List (List UInt8)) : Prop where
  len : L.length = m
  own : w.ownsRow B 9 1 (.slice (some ⟨g, 0, none⟩) m c) m (sv L)
  below : Below B w0 w
/-- a text is appended beside a list that is read -/
theorem txt_step {w0 wr w5 : World} {B g m c g5 c5 B3 H3 ga n3 c3 : Nat} {L : List (List UInt8)} {V : ByteArray} {xs : List Value} (hB : B = w0.heap.size) (T : Txt w0 wr B g m c L) (O : Own wr B3 H3 9 (.slice (some ⟨ga, 0, none⟩) n3 c3) xs) (hH : H3 ≤ wr.heap.size) (hne : ga ≠ g)
    (hv : w5.ownsRow B 9 1 (.slice (some ⟨g5, 0, none⟩) (m + 1) c5) (m + 1) (sv L ++ [.string V])) (hg : (wr.alloc (.cells #[.string V] 9)).grownBy w5 (Value.slice (some ⟨g, 0, none⟩) m c).ownBlock) (hw : (Value.slice (some ⟨g, 0, none⟩) m c).ownBlock = some g5 ∨ g5 = wr.heap.size + 1) :
    Txt w0 w5 B g5 (m + 1) c5 (L ++ [V.data.toList]) ∧ Own w5 B3 H3 9 (.slice (some ⟨ga, 0, none⟩) n3 c3) xs ∧ ga ≠ g5 ∧ wr.heap.size ≤ w5.heap.size := by
  have hs := T.below.size
  have hz : (wr.alloc (.cells #[.string V] 9)).heap.size = wr.heap.size + 1 := by simp
  have hsz := hg.size
  rw [hz] at hsz
  have hga := O.2 ga rfl
  refine ⟨⟨by rw [List.length_append, T.len]; rfl, ?_, ?_⟩, (O.alloc _).grown hg (.inr (by simp only [Value.ownBlock, ne_eq, Option.some.injEq]; exact hne)), ?_, by omega⟩
  · rw [str_list V, sv_snoc] at hv
    exact hv
  · exact (T.below.alloc (by omega) _).grown hg (by rw [hz]; omega) (fun q hq => (T.own.lt q hq.symm.symm).1)
  · rcases hw with e | e
    · simp only [Value.ownBlock, Option.some.injEq] at e
      omega
    · omega
theorem empty_not {s : ByteArray} {l : List UInt8} (h : s.data.toList = l) (hl : l ≠ []) : s.toList.isEmpty = false := by
  rw [ByteArray.toList_eq, h]
  cases l with
  | nil => exact absurd rfl hl
  | cons _ _ => rfl
theorem empty_yes {s : ByteArray} (h : s.data.toList = []) : s.toList.isEmpty = true := by rw [ByteArray.toList_eq, h]; rfl

end Go.Proofs.Ytafdlilojlmchaa

namespace Go.Proofs.Ytafdlilojlmchaa
open Go.RowKit

theorem take_while {out : List (List UInt8)} {x : List UInt8} : ∀ {k : Nat}, k ≤ out.length → (∀ (j : Nat) (hj : j < out.length), j < k → lessL out[j] x = true) → (∀ (hk : k < out.length), lessL out[k] x = false) →
    out.takeWhile (fun y => lessL y x) = out.take k ∧ out.dropWhile (fun y => lessL y x) = out.drop k := by
  induction out with
  | nil => intro k hk _ _; simp
  | cons z r ih =>
    intro k hk h1 h2
    cases k with
    | zero =>
      have hz : lessL z x = false := h2 (by simp)
      rw [List.takeWhile_cons, List.dropWhile_cons, hz]
      simp
    | succ k =>
      have hz : lessL z x = true := h1 0 (by simp) (by omega)
      obtain ⟨i1, i2⟩ := ih (k := k) (by simpa using hk) (fun j hj hjk => by
        have := h1 (j + 1) (by simp; omega) (by omega)
        simpa using this) (fun hk' => by
        have := h2 (by simp; omega)
        simpa using this)
      rw [List.takeWhile_cons, List.dropWhile_cons, hz]
      simp [i1, i2]
theorem insW_at {out : List (List UInt8)} {x : List UInt8} {k : Nat} (hx : x ∉ out) (hk : k ≤ out.length) (h1 : ∀ (j : Nat) (hj : j < out.length), j < k → lessL out[j] x = true) (h2 : ∀ (hk : k < out.length), lessL out[k] x = false) :
    insW out x = out.take k ++ [x] ++ out.drop k := by
  obtain ⟨e1, e2⟩ := take_while hk h1 h2
  rw [insW, if_neg hx, e1, e2]
theorem sv_take (L : List (List UInt8)) (k : Nat) : (sv L).take k = sv (L.take k) := by simp [sv, List.map_take]
theorem sv_drop (L : List (List UInt8)) (k : Nat) : (sv L).drop k = sv (L.drop k) := by simp [sv, List.map_drop]
theorem sort_snoc (L : List (List UInt8)) (k : Nat) (h : k < L.length) : sortW (L.take (k + 1)) = insW (sortW (L.take k)) L[k] := by
  rw [sortW, List.take_succ_eq_append_getElem h, List.foldl_append]; rfl
theorem sort_le (L : List (List UInt8)) : (sortW L).length ≤ L.length := by
  have key : ∀ (L out : List (List UInt8)), (L.foldl insW out).length ≤ out.length + L.length := by
    intro L
    induction L with
    | nil => intro out; simp
    | cons x r ih =>
      intro out
      have := ih (insW out x)
      have h2 : (insW out x).length ≤ out.length + 1 := by
        by_cases hx : x ∈ out
        · rw [insW, if_pos hx]; omega
        · rw [insW_length hx]; omega
      rw [List.foldl_cons, List.length_cons]; omega
  have := key L []
  simpa [sortW] using this

theorem capS {w : World} {B n g c : Nat} {t : TypeId} {xs : List Value} (h : w.ownsRow B t 1 (.slice (some ⟨g, 0, none⟩) n c) n xs) : n ≤ c ∧ c ≤ maxLen := by
  rcases h.2 with ⟨h0, _⟩ | ⟨g', cap, cur, hv, _, _, h3, h4, _⟩
  · cases h0
  · simp only [Value.slice.injEq] at hv
    omega
theorem Txt.drewN {w0 w : World} {B g m c : Nat} {L : List (List UInt8)} (h : Txt w0 w B g m c L) (n : Nat) : Txt w0 (w.drewN n) B g m c L :=
  ⟨h.len, own_of_blocks h.own (fun _ _ => rfl), h.below.trans ⟨rfl, rfl, rfl, Nat.le_refl _, fun _ _ => rfl⟩⟩
end Go.Proofs.Ytafdlilojlmchaa
