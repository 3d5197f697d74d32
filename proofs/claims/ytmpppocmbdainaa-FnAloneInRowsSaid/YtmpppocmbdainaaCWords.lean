/-
  The contracts of the functions that list all words of so many pairs.
-/
import Derived.Test.YtmpppocmbdainaaZV
import Derived.Test.YtmpppocmbdainaaZW
namespace Go.Proofs.Ytmpppocmbdainaa
open Go.RowKit

theorem Try.infoStr : (Try.prog.info? 9).map (fun i => (i.zero, i.size, i.bytes)) = some (some (.string ⟨#[]⟩), 1, 16) := by kernel_rfl

def sv (L : List (List UInt8)) : List Value := L.map fun l => .string ⟨l.toArray⟩
theorem sv_length (L : List (List UInt8)) : (sv L).length = L.length := by simp [sv]
theorem sv_snoc (L : List (List UInt8)) (l : List UInt8) : sv L ++ [.string ⟨l.toArray⟩] = sv (L ++ [l]) := by simp [sv]
theorem sv_append (L M : List (List UInt8)) : sv L ++ sv M = sv (L ++ M) := by simp [sv]
theorem sv_one (L : List (List UInt8)) : ∀ v ∈ sv L, v.oneCell' = true := by
  intro v hv
  obtain ⟨n, _, rfl⟩ := List.mem_map.1 hv
  rfl
theorem one_str (s : ByteArray) : ∀ u ∈ [Value.string s], u.oneCell' = true := by intro u hu; simp at hu; subst hu; rfl
theorem str_list (s : ByteArray) : Value.string s = .string ⟨s.data.toList.toArray⟩ := by rw [show (ByteArray.mk s.data.toList.toArray) = s from bytes_ext (by simp)]

theorem wordsL_le : ∀ (f : Nat) (h : List UInt8) (o l : Nat), (wordsL f h o l).length ≤ 2 ^ f
  | 0, h, o, l => by simp [wordsL]
  | f + 1, h, o, l => by
    have h1 := wordsL_le f (h ++ [40]) (o + 1) (l - 1)
    have h2 := wordsL_le f (h ++ [41]) (o - 1) l
    rw [wordsL, List.length_append, Nat.pow_succ]
    have e : ∀ (p : Prop) [Decidable p] (X : List (List UInt8)), (if p then X else []).length ≤ X.length := fun p _ X => by split <;> simp
    have a := e (0 < l) (wordsL f (h ++ [40]) (o + 1) (l - 1))
    have b := e (0 < o) (wordsL f (h ++ [41]) (o - 1) l)
    omega

/-- what the program's function leaves: the list, grown -/
def Grew (B : Nat) (L : List (List UInt8)) (w : World) (e : Ending) (w' : World) : Prop :=
  ∃ v, e = .returned v ∧ w'.ownsRow B 9 1 v L.length (sv L) ∧ Below B w w'

end Go.Proofs.Ytmpppocmbdainaa
