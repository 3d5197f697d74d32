/-
  Plain facts on the pairs that are open at each place of a word.
-/
import Derived.Test.YtakpbnkncjddeaaZV
import Derived.Test.YtakpbnkncjddeaaZW
namespace Go.Proofs.Ytakpbnkncjddeaa
open Go.RowKit

def ints (l : List Nat) : List Value := l.map fun (n : Nat) => .int .i64 n
theorem ints_length (l : List Nat) : (ints l).length = l.length := by simp [ints]
theorem ints_dropLast (l : List Nat) : (ints l).dropLast = ints l.dropLast := by simp [ints, List.map_dropLast]
theorem ints_snoc (l : List Nat) (n : Nat) : ints l ++ [.int .i64 n] = ints (l ++ [n]) := by simp [ints]
theorem ints_one (l : List Nat) : ∀ v ∈ ints l, v.oneCell' = true := by
  intro v hv
  obtain ⟨n, _, rfl⟩ := List.mem_map.1 hv
  rfl

theorem fold_open (l : List UInt8) : ∀ (a o : Nat) (R : List (List Nat)) (O : List Nat), O.length = a → l.foldl vstep (some a) = some o → (l.foldl stepOP (R, O)).2.length = o := by
  induction l with
  | nil => intro a o R O h1 h2; simp at h2; simp [h1, h2]
  | cons c r ih =>
    intro a o R O h1 h2
    simp only [List.foldl_cons] at h2 ⊢
    by_cases hc : c.toNat = 40
    · rw [show vstep (some a) c = some (a + 1) by simp [vstep, hc]] at h2
      rw [show stepOP (R, O) c = (R ++ [O], O ++ [R.length]) by simp [stepOP, hc]]
      exact ih _ _ _ _ (by simp [h1]) h2
    · by_cases hd : c.toNat = 41
      · by_cases h0 : a = 0
        · rw [show vstep (some a) c = none by simp [vstep, hd, h0], fold_none] at h2; simp at h2
        · rw [show vstep (some a) c = some (a - 1) by simp [vstep, hd, h0]] at h2
          rw [show stepOP (R, O) c = (R, O.dropLast) by simp [stepOP, hd]]
          exact ih _ _ _ _ (by simp [h1]) h2
      · rw [show vstep (some a) c = none by simp [vstep, hc, hd], fold_none] at h2; simp at h2
theorem openP_open {l : List UInt8} {o : Nat} (h : scan l = some o) : (openP l).2.length = o := fold_open l 0 o [] [] rfl h

theorem fold_rows (l : List UInt8) : ∀ (R : List (List Nat)) (O : List Nat), (l.foldl stepOP (R, O)).1.length ≤ R.length + l.length ∧ (l.foldl stepOP (R, O)).2.length ≤ O.length + l.length := by
  induction l with
  | nil => intro R O; simp
  | cons c r ih =>
    intro R O
    simp only [List.foldl_cons, List.length_cons]
    by_cases hd : c.toNat = 41
    · rw [show stepOP (R, O) c = (R, O.dropLast) by simp [stepOP, hd]]
      have := ih R O.dropLast
      simp only [List.length_dropLast] at this
      omega
    · rw [show stepOP (R, O) c = (R ++ [O], O ++ [R.length]) by simp [stepOP, hd]]
      have := ih (R ++ [O]) (O ++ [R.length])
      simp only [List.length_append, List.length_singleton] at this
      omega
theorem openP_le (l : List UInt8) : (openP l).1.length ≤ l.length ∧ (openP l).2.length ≤ l.length := by
  have := fold_rows l [] []
  simp only [List.length_nil, Nat.zero_add] at this
  exact this

theorem valid_take {s : ByteArray} (h : valid s.data.toList = true) (k : Nat) : ∃ o, scan (s.data.toList.take k) = some o := by
  cases e : scan (s.data.toList.take k) with
  | some o => exact ⟨o, rfl⟩
  | none => rw [not_valid e] at h; cases h

theorem openP_next {s : ByteArray} {k : Nat} (hk : k < s.size) : openP (s.data.toList.take (k + 1)) = stepOP (openP (s.data.toList.take k)) s[k] := by
  have e : s.data.toList.take (k + 1) = s.data.toList.take k ++ [s[k]] := take_snoc s.data.toList k hk
  rw [e, openP_snoc]
/-- at a ) something is open -/
theorem open_pos {s : ByteArray} (h : valid s.data.toList = true) {k : Nat} (hk : k < s.size) (hc : s[k].toNat = 41) : 0 < (openP (s.data.toList.take k)).2.length := by
  obtain ⟨o, ho⟩ := valid_take h k
  rw [openP_open ho]
  rcases Nat.eq_zero_or_pos o with h0 | h0
  · exfalso
    have := bad_cls hk ho (by rw [hc]; rfl) h0
    rw [this] at h; cases h
  · exact h0

/-- the rows that have been handed on -/
def Rows_ (w : World) (B H : Nat) (RV : List Value) (rows : List (List Nat)) : Prop :=
  RV.length = rows.length ∧ ∀ (i : Nat) (v : Value) (r : List Nat), RV[i]? = some v → rows[i]? = some r → Own w B H 3 v (ints r)
/-- none of them lies where v lies -/
def Apart_ (RV : List Value) (v : Value) : Prop := ∀ (i : Nat) (u : Value), RV[i]? = some u → u.ownBlock = none ∨ u.ownBlock ≠ v.ownBlock

section
variable {w w' : World} {B H H' : Nat} {RV : List Value} {rows : List (List Nat)}
theorem Rows_.more (h : Rows_ w B H RV rows) (hH : H ≤ H') : Rows_ w B H' RV rows := ⟨h.1, fun i v r h1 h2 => (h.2 i v r h1 h2).more hH⟩
theorem Rows_.below (h : Rows_ w B H RV rows) (hb : Below H w w') : Rows_ w' B H RV rows := ⟨h.1, fun i v r h1 h2 => (h.2 i v r h1 h2).below hb⟩
theorem Rows_.alloc (h : Rows_ w B H RV rows) (o : Obj) : Rows_ (w.alloc o) B H RV rows := ⟨h.1, fun i v r h1 h2 => (h.2 i v r h1 h2).alloc o⟩
theorem Rows_.nil : Rows_ w B H [] [] := ⟨rfl, fun i v r h => by simp at h⟩
theorem Rows_.snoc {v : Value} {r : List Nat} (h : Rows_ w B H RV rows) (hv : Own w B H 3 v (ints r)) : Rows_ w B H (RV ++ [v]) (rows ++ [r]) := by
  refine ⟨by simp [h.1], fun i u q h1 h2 => ?_⟩
  by_cases hi : i < RV.length
  · rw [List.getElem?_append_left hi] at h1
    rw [List.getElem?_append_left (by rw [← h.1]; exact hi)] at h2
    exact h.2 i u q h1 h2
  · have hi' : i = RV.length := by
      have := (List.getElem?_eq_some_iff.1 h1).1
      simp at this; omega
    subst hi'
    rw [List.getElem?_append_right (Nat.le_refl _), Nat.sub_self] at h1
    rw [h.1, List.getElem?_append_right (Nat.le_refl _), Nat.sub_self] at h2
    simp at h1 h2
    subst h1; subst h2
    exact hv
end
end Go.Proofs.Ytakpbnkncjddeaa
