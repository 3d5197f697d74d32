/-
  The contracts of the model's functions that go through a two-armed tree: its word, its nodes between their arms.
  The contract of the model's function that lists a two-armed tree's nodes, each one between its arms.
  The contract of the model's function that answers a word's nodes, each one between its arms.
-/
import Derived.Test.YtakpbnkncjddeaaZPD
import Derived.Test.YtakpbnkncjddeaaZY
import Derived.Deep.RegionHeld3
import Derived.Deep.AppendLies
namespace Go.Proofs.Ytakpbnkncjddeaa
open Go.RowKit

/-- what is read in one row of two numbers -/
theorem grid_row {w : World} {B H : Nat} {v : Value} {RV : List Value} {rows : List (List Int)} (hG : Grid w B H v RV rows) (k : Nat) (hk : k < rows.length) (h2 : (rows.getD k []).length = 2) :
    ∃ g cap g2 c2, v = .slice (some ⟨g, 0, none⟩) rows.length cap ∧ w.cell? ⟨g, k, none⟩ = some (.slice (some ⟨g2, 0, none⟩) 2 c2) ∧ w.cell? ⟨g2, 0, none⟩ = some (.int .i64 (armA rows k)) ∧ w.cell? ⟨g2, 1, none⟩ = some (.int .i64 (armB rows k)) := by
  obtain ⟨au, cu, rfl, _, hcu, _, _⟩ := hG.1.slice
  have lu := hG.2.1
  obtain ⟨g1, rfl, _, _, h1, _⟩ := hG.1.at_ k (by rw [lu]; exact hk)
  obtain ⟨x, hx, ox⟩ := hG.2.at_ k hk
  rw [hx] at h1
  have e2 : rows[k].length = 2 := by rw [List.getD_eq_getElem?_getD, List.getElem?_eq_getElem hk] at h2; exact h2
  obtain ⟨ax, cx, rfl, _, _, _, _⟩ := ox.slice
  obtain ⟨g2, rfl, _, _, h3, _⟩ := ox.at_ 0 (by rw [iv_length]; omega)
  obtain ⟨g3, e3, _, _, h4, _⟩ := ox.at_ 1 (by rw [iv_length]; omega)
  cases e3
  rw [iv_at _ 0 (by omega)] at h3
  rw [iv_at _ 1 (by omega)] at h4
  refine ⟨g1, cu, g2, cx, by rw [lu], by rw [h1, iv_length, e2], ?_, ?_⟩
  · rw [h3, armA, List.getD_eq_getElem?_getD, List.getD_eq_getElem?_getD, List.getElem?_eq_getElem hk]
    simp only [Option.getD_some]
    rw [List.getElem?_eq_getElem (by omega)]; rfl
  · rw [h4, armB, List.getD_eq_getElem?_getD, List.getD_eq_getElem?_getD, List.getElem?_eq_getElem hk]
    simp only [Option.getD_some]
    rw [List.getElem?_eq_getElem (by omega)]; rfl

def wobS (rows : List (List Int)) (f : Nat) (x : Int) : ByteArray := ⟨(wobL rows f x).toArray⟩
theorem wobS_size (rows : List (List Int)) (f : Nat) (x : Int) : (wobS rows f x).size = (wobL rows f x).length := by rw [← size_list]; rfl
theorem wobS_nat (rows : List (List Int)) (f k : Nat) : wobS rows (f + 1) (k : Int) = (⟨#[40]⟩ : ByteArray) ++ wobS rows f (armA rows k) ++ (⟨#[41]⟩ : ByteArray) ++ wobS rows f (armB rows k) := by
  apply bytes_ext
  simp only [toList_append]
  show wobL rows (f + 1) k = _
  rw [wobL_nat]; rfl
theorem Grid.drewN {w : World} {B H : Nat} {v : Value} {RV : List Value} {rows : List (List Int)} (h : Grid w B H v RV rows) (n : Nat) : Grid (w.drewN n) B H v RV rows := h.same rfl

theorem grid_len {w : World} {B H : Nat} {v : Value} {RV : List Value} {rows : List (List Int)} (hG : Grid w B H v RV rows) (k : Nat) (hk : k < rows.length) :
    ∃ g cap ax c2, v = .slice (some ⟨g, 0, none⟩) rows.length cap ∧ w.cell? ⟨g, k, none⟩ = some (.slice ax (rows.getD k []).length c2) := by
  obtain ⟨au, cu, rfl, _, hcu, _, _⟩ := hG.1.slice
  have lu := hG.2.1
  obtain ⟨g1, rfl, _, _, h1, _⟩ := hG.1.at_ k (by rw [lu]; exact hk)
  obtain ⟨x, hx, ox⟩ := hG.2.at_ k hk
  rw [hx] at h1
  obtain ⟨ax, cx, rfl, _, _, _, _⟩ := ox.slice
  exact ⟨g1, cu, ax, cx, by rw [lu], by rw [h1, iv_length, List.getD_eq_getElem?_getD, List.getElem?_eq_getElem hk]; rfl⟩
theorem grid_val {w : World} {B H : Nat} {v : Value} {RV : List Value} {rows : List (List Int)} (hG : Grid w B H v RV rows) : ∃ a cap, v = .slice a rows.length cap := by
  obtain ⟨au, cu, rfl, _⟩ := hG.1.slice
  exact ⟨au, cu, by rw [hG.2.1]⟩

/-- the word of rows, and whether there is one -/
def bwS (rows : List (List Int)) : ByteArray := if rows.length = 0 then ⟨#[]⟩ else wobS rows 10 0
def bwV (rows : List (List Int)) : Value := if treeW rows = true then .tuple #[.string (bwS rows), .bool true] else .tuple #[.string ⟨#[]⟩, .bool false]
end Go.Proofs.Ytakpbnkncjddeaa

namespace Go.Proofs.Ytakpbnkncjddeaa
open Go.RowKit

theorem step_append_own {P : Program} {w : World} {ops : Array Oper} {o : Oper} {a : Act} {K : Act → World → Prop} {Q : Exit → Act → World → Prop} {E : Prop} (hgd : o.guard = none) (s x : Operand) (t : TypeId)
    (ho : o.op = .call { callee := .builtin .append, args := #[s, x], argTypes := #[t, t] })
    (base : Nat) (e : TypeId) (i : TypeInfo) (z : Value) (size bytes : Nat) (ht : P.underlying t = some (.slice e)) (hi : P.info? e = some i) (hz : i.zero = some z)
    (hsize : i.size = size) (hby : i.bytes = bytes) (hzs : z.cells.size = size) (hsz : 0 < size)
    (v : Value) (n : Nat) (xs : List Value) (hs : a.eval s = v) (hown : w.ownsRow base e size v n xs)
    (ad : Addr) (m c : Nat) (news : List Value) (hx : a.eval x = .slice (some ad) m c) (hl : news.length = m * size) (hnews : ∀ j u, news[j]? = some u → w.cell? (ad.add j) = some u) (h1 : ∀ u ∈ news, u.oneCell' = true)
    (h63 : n + m ≤ maxLen) (hbytes : (n + m) * bytes ≤ 140737488355328) (hbase : base ≤ w.heap.size)
    (h : ∀ v' w', w'.ownsRow base e size v' (n + m) (xs ++ news) → w.grownBy w' v.ownBlock → (v' = .slice none 0 0 ↔ v = .slice none 0 0 ∧ m = 0) → K (a.put o.dst v') w') :
    if Region.wanted o (yielded ops a.tmps) = true then Oper.wp P o a w K Q else E := by
  have hw : Region.wanted o (yielded ops a.tmps) = true := by simp [Region.wanted, hgd]
  rw [if_pos hw]
  exact wp_append_own w s x t ho base e i z size bytes ht hi hz hsize hby hzs hsz v n xs hs hown ad m c news hx hl hnews h1 h63 hbytes hbase h

theorem iv_one (l : List Int) : ∀ u ∈ iv l, u.oneCell' = true := by intro u hu; simp [iv] at hu; obtain ⟨x, _, rfl⟩ := hu; rfl
/-- the nodes, in the call's own memory -/
def BtwOut (l : List Int) (w : World) (e : Ending) (w' : World) : Prop :=
  ∃ g c, e = .returned (.slice (some ⟨g, 0, none⟩) l.length c) ∧ Own w' w.heap.size w'.heap.size 3 (.slice (some ⟨g, 0, none⟩) l.length c) (iv l) ∧ Below w.heap.size w w'
theorem BtwOut.from {l : List Int} {w W : World} (hb : Below w.heap.size w W) {e : Ending} {w' : World} (h : BtwOut l W e w') :
    ∃ g c, e = .returned (.slice (some ⟨g, 0, none⟩) l.length c) ∧ Own w' w.heap.size w'.heap.size 3 (.slice (some ⟨g, 0, none⟩) l.length c) (iv l) ∧ Below w.heap.size w w' ∧ Below W.heap.size W w' := by
  obtain ⟨g, c, he, ho, hb'⟩ := h
  exact ⟨g, c, he, own_lo ho hb.size, hb.trans (hb'.mono hb.size), hb'⟩

end Go.Proofs.Ytakpbnkncjddeaa

namespace Go.Proofs.Ytakpbnkncjddeaa
open Go.RowKit

theorem btw_word (s : List UInt8) (h : scan s = some 0) (h18 : s.length ≤ 18) (hne : s ≠ []) : okT (binL 18 s 0) 10 0 ∧ wobL (binL 18 s 0) 10 0 = s ∧ btwL (binL 18 s 0) 10 0 = stackL s := by
  have t := binL_tree 18 s 0 10 [] [] h h18 rfl (by omega)
  have e : rootA s 0 = 0 := if_neg hne
  rw [List.nil_append, List.append_nil, e] at t
  refine ⟨t.1, t.2.1, ?_⟩
  rw [t.2.2, stackL, stackF, fold_btw 18 s [] [] 0 h h18]; rfl
theorem stackL_len (s : List UInt8) (h : scan s = some 0) (h18 : s.length ≤ 18) (hne : s ≠ []) : (stackL s).length + 1 ≤ 1024 := by
  rw [← (btw_word s h h18 hne).2.2]
  exact btwL_len _ 10 _

end Go.Proofs.Ytakpbnkncjddeaa
