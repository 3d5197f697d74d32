/-
  The contracts of the functions that list all words of so many pairs.
-/
import Derived.Test.YtlcjajkobhljcaaCMirror
import Derived.Test.YtlcjajkobhljcaaCRange
import Derived.Test.YtlcjajkobhljcaaWOwn
namespace Go.Proofs.Ytlcjajkobhljcaa
open Go.RowKit

theorem Try.infoStr : (Try.prog.info? 9).map (fun i => (i.zero, i.size, i.bytes)) = some (some (.string ⟨#[]⟩), 1, 16) := by kernel_rfl

def sv (L : List (List UInt8)) : List Value := L.map fun l => .string ⟨l.toArray⟩
theorem sv_length (L : List (List UInt8)) : (sv L).length = L.length := by simp [sv]
theorem sv_snoc (L : List (List UInt8)) (l : List UInt8) : sv L ++ [.string ⟨l.toArray⟩] = sv (L ++ [l]) := by simp [sv]
theorem sv_append (L M : List (List UInt8)) : sv L ++ sv M = sv (L ++ M) := by simp [sv]
theorem sv_one (L : List (List UInt8)) : ∀ v ∈ sv L, v.oneCell' = true := by
  intro v hv
  obtain ⟨n, _, rfl⟩ := List.mem_map.1 hv
  rfl
theorem one_str (s : ByteArray) : ∀ u ∈ [Value.string s], u.oneCell' = true := by intro u hu; simp at hu; subst hu; rfl
theorem str_list (s : ByteArray) : Value.string s = .string ⟨s.data.toList.toArray⟩ := by rw [show (ByteArray.mk s.data.toList.toArray) = s from bytes_ext (by simp)]

theorem wordsL_le : ∀ (f : Nat) (h : List UInt8) (o l : Nat), (wordsL f h o l).length ≤ 2 ^ f
  | 0, h, o, l => by simp [wordsL]
  | f + 1, h, o, l => by
    have h1 := wordsL_le f (h ++ [40]) (o + 1) (l - 1)
    have h2 := wordsL_le f (h ++ [41]) (o - 1) l
    rw [wordsL, List.length_append, Nat.pow_succ]
    have e : ∀ (p : Prop) [Decidable p] (X : List (List UInt8)), (if p then X else []).length ≤ X.length := fun p _ X => by split <;> simp
    have a := e (0 < l) (wordsL f (h ++ [40]) (o + 1) (l - 1))
    have b := e (0 < o) (wordsL f (h ++ [41]) (o - 1) l)
    omega

/-- what the program's function leaves: the list, grown -/
def Grew (B : Nat) (L : List (List UInt8)) (w : World) (e : Ending) (w' : World) : Prop :=
  ∃ v, e = .returned v ∧ w'.ownsRow B 9 1 v L.length (sv L) ∧ Below B w w'

set_option maxHeartbeats 3200000 in
theorem appendWords_any (B : Nat) : ∀ (f o l : Nat) (a b : Int) (h : ByteArray) (L : List (List UInt8)) (v : Value) (w : World), 2 * l + o = f → a = o → b = l → f ≤ 12 → h.size + f ≤ 100 → L.length + 2 ^ f ≤ 8192 → B ≤ w.heap.size →
    Hid (w.ownsRow B 9 1 v L.length (sv L)) → Calls Try.prog 42 #[v, .string h, .int .i64 a, .int .i64 b] w (Grew B (L ++ wordsL f h.data.toList o l) w) := by
  obtain ⟨i0, hi, hz0, hz1, hz2⟩ := info_parts Try.infoStr
  intro f
  induction f with
  | zero =>
    intro o l a b h L v w hf ha hb _ hh hL hB hown
    obtain rfl : o = 0 := by omega
    obtain rfl : l = 0 := by omega
    subst ha; subst hb
    have x3 : L.length + 1 ≤ maxLen := by unfold maxLen; omega
    have x4 : (L.length + 1) * 16 ≤ 140737488355328 := by omega
    have x5 : ∀ o : Obj, B ≤ (w.alloc o).heap.size := by intro o; simp; omega
    have X5 := Lib.hid x5
    clear hL x5
    go_enter Try.func42, Try.ntmps42
    go_wp2_with (at_builtin; refine wpList_append_own _ rfl _ _ 29 rfl B 9 i0 (.string ⟨#[]⟩) 1 16 Try.underlying29 hi hz0 hz1 hz2 rfl (by decide) _ _ _ rfl (hown.out.alloc _) ⟨w.heap.size, 0, none⟩ 1 1 [_] rfl rfl (cell_one_new _ _ _) (one_str _) x3 x4 (X5.out _) ?_)
    intro v' w1 hown' hgrow _
    go_wp2
    go_ret
    refine ⟨_, rfl, ?_, ((Below.refl _ _).alloc hB _).grown hgrow (X5.out _) (fun q hq => (hown.out.lt q hq).1)⟩
    rw [show wordsL 0 h.data.toList 0 0 = [h.data.toList] from rfl, ← sv_snoc, List.length_append, ← str_list]
    exact hown'
  | succ f ih =>
    intro o l a b h L v w hf ha hb hf12 hh hL hB hown
    have hp : 2 ^ (f + 1) = 2 ^ f + 2 ^ f := by rw [Nat.pow_succ]; omega
    have hp0 : 1 ≤ 2 ^ f := Nat.one_le_two_pow
    obtain ⟨P, hP⟩ : ∃ P, P = 2 ^ f := ⟨_, rfl⟩
    rw [hp, ← hP] at hL
    rw [← hP] at hp0 ih
    have hP' := Lib.hid hP
    clear hp hP
    subst ha; subst hb
    have s40 : (h ++ ByteArray.mk #[40]).size + f ≤ 100 := by rw [ByteArray.size_append, show (ByteArray.mk #[40]).size = 1 from rfl]; omega
    have s41 : (h ++ ByteArray.mk #[41]).size + f ≤ 100 := by rw [ByteArray.size_append, show (ByteArray.mk #[41]).size = 1 from rfl]; omega
    have e40 : (h ++ ByteArray.mk #[40]).data.toList = h.data.toList ++ [40] := toList_append _ _
    have e41 : (h ++ ByteArray.mk #[41]).data.toList = h.data.toList ++ [41] := toList_append _ _
    have E40 := Lib.hid e40
    have E41 := Lib.hid e41
    have hM := wordsL_le f (h.data.toList ++ [40]) (o + 1) (l - 1)
    rw [← hP'.out] at hM
    have z1 : h.size + (ByteArray.mk #[40]).size ≤ 9223372036854775807 := by rw [show (ByteArray.mk #[40]).size = 1 from rfl]; omega
    have z2 : h.size + (ByteArray.mk #[41]).size ≤ 9223372036854775807 := by rw [show (ByteArray.mk #[41]).size = 1 from rfl]; omega
    clear e40 e41
    by_cases hl : 0 < l
    · by_cases ho : 0 < o
      · have q0 : ((o : Int) == 0) = false := beq_false_of_ne (by omega)
        have q1 : (0 : Int) < (l : Int) := by omega
        have q2 : (0 : Int) < (o : Int) := by omega
        go_enter Try.func42, Try.ntmps42
        go_wp2_with fail
        refine (ih (o + 1) (l - 1) _ _ _ L _ _ (by omega) (by omega) (by omega) (by omega) s40 (by omega) hB hown).mono ?_
        rintro e w1 ⟨v1, rfl, ho1, hb1⟩
        have O1 := Lib.hid ho1
        have B1 := Lib.hid hb1
        have hs1 := hb1.size
        clear ho1 hb1
        go_wp2_with fail
        refine (ih (o - 1) l _ _ _ _ _ _ (by omega) (by omega) (by omega) (by omega) s41 (by rw [List.length_append, E40.out]; omega) (by omega) O1).mono ?_
        rintro e w2 ⟨v2, rfl, ho2, hb2⟩
        rw [E40.out, E41.out, List.append_assoc] at ho2
        go_wp2
        go_ret
        refine ⟨_, rfl, ?_, B1.out.trans hb2⟩
        rw [wordsL, if_pos hl, if_pos ho]
        exact ho2
      · obtain rfl : o = 0 := by omega
        have q1 : (0 : Int) < (l : Int) := by omega
        have q0 : ((l : Int) == 0) = false := beq_false_of_ne (by omega)
        go_enter Try.func42, Try.ntmps42
        go_wp2_with fail
        refine (ih (0 + 1) (l - 1) _ _ _ L _ _ (by omega) (by omega) (by omega) (by omega) s40 (by omega) hB hown).mono ?_
        rintro e w1 ⟨v1, rfl, ho1, hb1⟩
        rw [E40.out] at ho1
        go_wp2_with fail
        go_ret
        refine ⟨_, rfl, ?_, hb1⟩
        rw [wordsL, if_pos hl, if_neg ho, List.append_nil]
        exact ho1
    · obtain rfl : l = 0 := by omega
      have ho : 0 < o := by omega
      have q0 : ((o : Int) == 0) = false := beq_false_of_ne (by omega)
      have q2 : (0 : Int) < (o : Int) := by omega
      go_enter Try.func42, Try.ntmps42
      go_wp2_with fail
      refine (ih (o - 1) 0 _ _ _ L _ _ (by omega) (by omega) (by omega) (by omega) s41 (by omega) hB hown).mono ?_
      rintro e w1 ⟨v1, rfl, ho1, hb1⟩
      rw [E41.out] at ho1
      go_wp2_with fail
      go_ret
      refine ⟨_, rfl, ?_, hb1⟩
      rw [wordsL, if_neg hl, if_pos ho, List.nil_append]
      exact ho1
end Go.Proofs.Ytlcjajkobhljcaa
