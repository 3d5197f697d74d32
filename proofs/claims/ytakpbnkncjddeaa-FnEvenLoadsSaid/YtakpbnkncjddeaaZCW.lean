/-
  The contracts of the functions that list all words of so many pairs.
  The contract of the model's function that lists all words of so many pairs; what answers a list of texts in new memory.
-/
import Derived.Test.YtakpbnkncjddeaaZV
import Derived.Test.YtakpbnkncjddeaaZW
import Derived.Maps.AppendAt
namespace Go.Proofs.Ytakpbnkncjddeaa
open Go.RowKit

theorem Try.infoStr : (Try.prog.info? 9).map (fun i => (i.zero, i.size, i.bytes)) = some (some (.string ⟨#[]⟩), 1, 16) := by kernel_rfl

def sv (L : List (List UInt8)) : List Value := L.map fun l => .string ⟨l.toArray⟩
theorem sv_length (L : List (List UInt8)) : (sv L).length = L.length := by simp [sv]
theorem sv_snoc (L : List (List UInt8)) (l : List UInt8) : sv L ++ [.string ⟨l.toArray⟩] = sv (L ++ [l]) := by simp [sv]
theorem sv_append (L M : List (List UInt8)) : sv L ++ sv M = sv (L ++ M) := by simp [sv]
theorem sv_one (L : List (List UInt8)) : ∀ v ∈ sv L, v.oneCell' = true := by
  intro v hv
  obtain ⟨n, _, rfl⟩ := List.mem_map.1 hv
  rfl
theorem one_str (s : ByteArray) : ∀ u ∈ [Value.string s], u.oneCell' = true := by intro u hu; simp at hu; subst hu; rfl
theorem str_list (s : ByteArray) : Value.string s = .string ⟨s.data.toList.toArray⟩ := by rw [show (ByteArray.mk s.data.toList.toArray) = s from bytes_ext (by simp)]

theorem wordsL_le : ∀ (f : Nat) (h : List UInt8) (o l : Nat), (wordsL f h o l).length ≤ 2 ^ f
  | 0, h, o, l => by simp [wordsL]
  | f + 1, h, o, l => by
    have h1 := wordsL_le f (h ++ [40]) (o + 1) (l - 1)
    have h2 := wordsL_le f (h ++ [41]) (o - 1) l
    rw [wordsL, List.length_append, Nat.pow_succ]
    have e : ∀ (p : Prop) [Decidable p] (X : List (List UInt8)), (if p then X else []).length ≤ X.length := fun p _ X => by split <;> simp
    have a := e (0 < l) (wordsL f (h ++ [40]) (o + 1) (l - 1))
    have b := e (0 < o) (wordsL f (h ++ [41]) (o - 1) l)
    omega

/-- what the program's function leaves: the list, grown -/
def Grew (B : Nat) (L : List (List UInt8)) (w : World) (e : Ending) (w' : World) : Prop :=
  ∃ v, e = .returned v ∧ w'.ownsRow B 9 1 v L.length (sv L) ∧ Below B w w'

end Go.Proofs.Ytakpbnkncjddeaa

namespace Go.Proofs.Ytakpbnkncjddeaa
open Go.RowKit

/-- what both answer -/
def wordsOut (n : Int) : List (List UInt8) := if 0 ≤ n ∧ n ≤ 6 then wordsL (2 * n.toNat) [] 0 n.toNat else []
theorem wordsOut_length (n : Int) : (wordsOut n).length ≤ 4096 := by
  unfold wordsOut
  split
  · exact Nat.le_trans (wordsL_le _ _ _ _) (Nat.pow_le_pow_right (by decide) (by omega : 2 * n.toNat ≤ 12))
  · simp
/-- a list of texts in new memory -/
def TextsOut (L : List (List UInt8)) (w : World) (e : Ending) (w' : World) : Prop :=
  ∃ v, e = .returned v ∧ Own w' w.heap.size w'.heap.size 9 v (sv L) ∧ Below w.heap.size w w'
theorem noTexts (w w' : World) (hb : Below w.heap.size w w') : TextsOut [] w (.returned (.slice none 0 0)) w' := ⟨_, rfl, ⟨World.ownsRow_nil _ _ _ _, fun g hg => by simp [Value.ownBlock] at hg⟩, hb⟩

/-- a list of texts in new memory, not nil -/
def Fresh (L : List (List UInt8)) (w : World) (e : Ending) (w' : World) : Prop :=
  ∃ g cap, e = .returned (.slice (some ⟨g, 0, none⟩) L.length cap) ∧ w'.ownsRow w.heap.size 9 1 (.slice (some ⟨g, 0, none⟩) L.length cap) L.length (sv L) ∧ Below w.heap.size w w'

theorem own_keep {w w' : World} {B n H : Nat} {t : TypeId} {v : Value} {xs : List Value} (h : w.ownsRow B t 1 v n xs) (hb : Below H w w') (hH : w.heap.size ≤ H) : w'.ownsRow B t 1 v n xs :=
  own_of_blocks h fun g hg => hb.block g (by have := (h.lt g hg).2; omega)
theorem own_some {w : World} {B n : Nat} {t : TypeId} {v : Value} {xs : List Value} (h : w.ownsRow B t 1 v n xs) (hv : v ≠ .slice none 0 0) : ∃ g cap, v = .slice (some ⟨g, 0, none⟩) n cap := by
  rcases h.2 with ⟨h0, _⟩ | ⟨g, cap, cur, h1, _⟩
  · exact absurd h0 hv
  · exact ⟨g, cap, h1⟩

set_option maxHeartbeats 3200000 in
theorem wordsFrom_any : ∀ (f o l : Nat) (a b : Int) (h : ByteArray) (w : World), 2 * l + o = f → a = o → b = l → f ≤ 12 → h.size + f ≤ 100 →
    Calls Try.prog 59 #[.string h, .int .i64 a, .int .i64 b] w (Fresh (wordsL f h.data.toList o l) w) := by
  obtain ⟨i0, hi, hz0, hz1, hz2⟩ := info_parts Try.infoStr
  intro f
  induction f with
  | zero =>
    intro o l a b h w hf ha hb _ hh
    obtain rfl : o = 0 := by omega
    obtain rfl : l = 0 := by omega
    subst ha; subst hb
    go_enter Try.func59, Try.ntmps59
    go_wp2
    go_ret
    refine ⟨_, _, rfl, ?_, (Below.refl _ _).alloc (Nat.le_refl _) _⟩
    have := World.ownsRow_lit (base := w.heap.size) (e := 9) (size := 1) w #[.string h] 1 (Nat.le_refl _) (by decide) rfl
    rw [str_list h] at this
    rw [str_list h]
    exact this
  | succ f ih =>
    intro o l a b h w hf ha hb hf12 hh
    have hp : 2 ^ f ≤ 2 ^ 11 := Nat.pow_le_pow_right (by decide) (by omega)
    subst ha; subst hb
    have s40 : (h ++ ByteArray.mk #[40]).size + f ≤ 100 := by rw [ByteArray.size_append, show (ByteArray.mk #[40]).size = 1 from rfl]; omega
    have s41 : (h ++ ByteArray.mk #[41]).size + f ≤ 100 := by rw [ByteArray.size_append, show (ByteArray.mk #[41]).size = 1 from rfl]; omega
    have e40 : (h ++ ByteArray.mk #[40]).data.toList = h.data.toList ++ [40] := toList_append _ _
    have e41 : (h ++ ByteArray.mk #[41]).data.toList = h.data.toList ++ [41] := toList_append _ _
    have hM := Nat.le_trans (wordsL_le f (h.data.toList ++ [40]) (o + 1) (l - 1)) hp
    have hN := Nat.le_trans (wordsL_le f (h.data.toList ++ [41]) (o - 1) l) hp
    obtain ⟨M, hMe⟩ : ∃ M, M = wordsL f (h.data.toList ++ [40]) (o + 1) (l - 1) := ⟨_, rfl⟩
    obtain ⟨R, hRe⟩ : ∃ R, R = wordsL f (h.data.toList ++ [41]) (o - 1) l := ⟨_, rfl⟩
    rw [← hMe] at hM
    rw [← hRe] at hN
    have z1 : h.size + (ByteArray.mk #[40]).size ≤ 9223372036854775807 := by rw [show (ByteArray.mk #[40]).size = 1 from rfl]; omega
    have z2 : h.size + (ByteArray.mk #[41]).size ≤ 9223372036854775807 := by rw [show (ByteArray.mk #[41]).size = 1 from rfl]; omega
    have hlit := World.ownsRow_lit (base := w.heap.size) (e := 9) (size := 1) w #[] 0 (Nat.le_refl _) (by decide) rfl
    obtain ⟨W, hW⟩ : ∃ W, W = w.alloc (.cells #[] 9) := ⟨_, rfl⟩
    rw [← hW] at hlit
    have hbW : Below w.heap.size w W := by rw [hW]; exact (Below.refl _ _).alloc (Nat.le_refl _) _
    have hsW := hbW.size
    have HW := Lib.hid hW
    have HM := Lib.hid hMe
    have HR := Lib.hid hRe
    have E40 := Lib.hid e40
    have E41 := Lib.hid e41
    clear e40 e41 hMe hRe hW hp
    by_cases hl : 0 < l
    · by_cases ho : 0 < o
      · have q0 : ((o : Int) == 0) = false := beq_false_of_ne (by omega)
        have q1 : (0 : Int) < (l : Int) := by omega
        have q2 : (0 : Int) < (o : Int) := by omega
        go_enter Try.func59, Try.ntmps59
        go_wp2_with fail
        rw [← HW.out]
        refine (ih (o + 1) (l - 1) _ _ _ _ (by omega) (by omega) (by omega) (by omega) s40).mono ?_
        rintro e w1 ⟨g1, c1, rfl, ho1, hb1⟩
        rw [E40.out, ← HM.out] at ho1 ⊢
        have hl1 := own_keep hlit hb1 (Nat.le_refl _)
        have hbw1 := hbW.trans (hb1.mono hsW)
        have hs1 := hbw1.size
        have x1 : (sv M).length = M.length * 1 := by rw [sv_length, Nat.mul_one]
        have x2 := ho1.cells (g := g1) rfl
        have x3 : 0 + M.length ≤ maxLen := by unfold maxLen; omega
        have x4 : (0 + M.length) * 16 ≤ 140737488355328 := by omega
        have X2 := Lib.hid x2
        clear x2 ho1 hb1 hlit
        go_wp2_with (at_builtin; refine wpList_append_own _ rfl (.tmp 19) (.tmp 26) 41 rfl w.heap.size 9 i0 (.string ⟨#[]⟩) 1 16 Try.underlying41 hi hz0 hz1 hz2 rfl (by decide) _ 0 [] rfl hl1 ⟨g1, 0, none⟩ M.length c1 (sv M) rfl x1 X2.out (sv_one _) x3 x4 hs1 ?_)
        intro v2 w2 hv2 hg2 hn2
        obtain ⟨g2, c2, rfl⟩ := own_some hv2 hn2
        have hbw2 : Below w.heap.size w w2 := hbw1.grown hg2 hs1 (fun q hq => by simp [Value.ownBlock] at hq; omega)
        clear x1 x3 x4 hg2 hn2 hl1 hbw1 X2
        go_wp2_with fail
        refine (ih (o - 1) l _ _ _ _ (by omega) (by omega) (by omega) (by omega) s41).mono ?_
        rintro e w3 ⟨g3, c3, rfl, ho3, hb3⟩
        rw [E41.out, ← HR.out] at ho3 ⊢
        have hl3 := own_keep hv2 hb3 (Nat.le_refl _)
        have hbw3 := hbw2.trans (hb3.mono hbw2.size)
        have hs3 := hbw3.size
        have x1 : (sv R).length = R.length * 1 := by rw [sv_length, Nat.mul_one]
        have x2 := ho3.cells (g := g3) rfl
        have x3 : M.length + R.length ≤ maxLen := by unfold maxLen; omega
        have x4 : (M.length + R.length) * 16 ≤ 140737488355328 := by omega
        have X2 := Lib.hid x2
        clear x2 ho3 hb3 hv2
        go_wp2_with (at_builtin; refine wpList_append_own _ rfl (.tmp 30) (.tmp 36) 41 rfl w.heap.size 9 i0 (.string ⟨#[]⟩) 1 16 Try.underlying41 hi hz0 hz1 hz2 rfl (by decide) _ M.length (sv M) rfl hl3 ⟨g3, 0, none⟩ R.length c3 (sv R) rfl x1 X2.out (sv_one _) x3 x4 hs3 ?_)
        intro v4 w4 hv4 hg4 hn4
        obtain ⟨g4, c4, rfl⟩ := own_some hv4 hn4
        have hbw4 : Below w.heap.size w w4 := hbw3.grown hg4 hs3 (fun q hq => (hl3.lt q hq).1)
        rw [sv_append, ← List.length_append] at hv4
        clear hg4 hn4
        go_wp2
        go_ret
        rw [wordsL, if_pos hl, if_pos ho, ← HM.out, ← HR.out]
        exact ⟨_, _, by rw [List.length_append]; rfl, hv4, hbw4⟩
      · obtain rfl : o = 0 := by omega
        have q0 : ((l : Int) == 0) = false := beq_false_of_ne (by omega)
        have q1 : (0 : Int) < (l : Int) := by omega
        go_enter Try.func59, Try.ntmps59
        go_wp2_with fail
        rw [← HW.out]
        refine (ih (0 + 1) (l - 1) _ _ _ _ (by omega) (by omega) (by omega) (by omega) s40).mono ?_
        rintro e w1 ⟨g1, c1, rfl, ho1, hb1⟩
        rw [E40.out, ← HM.out] at ho1 ⊢
        have hl1 := own_keep hlit hb1 (Nat.le_refl _)
        have hbw1 := hbW.trans (hb1.mono hsW)
        have hs1 := hbw1.size
        have x1 : (sv M).length = M.length * 1 := by rw [sv_length, Nat.mul_one]
        have x2 := ho1.cells (g := g1) rfl
        have x3 : 0 + M.length ≤ maxLen := by unfold maxLen; omega
        have x4 : (0 + M.length) * 16 ≤ 140737488355328 := by omega
        have X2 := Lib.hid x2
        clear x2 ho1 hb1 hlit
        go_wp2_with (at_builtin; refine wpList_append_own _ rfl (.tmp 19) (.tmp 26) 41 rfl w.heap.size 9 i0 (.string ⟨#[]⟩) 1 16 Try.underlying41 hi hz0 hz1 hz2 rfl (by decide) _ 0 ([]) rfl hl1 ⟨g1, 0, none⟩ M.length c1 (sv M) rfl x1 X2.out (sv_one _) x3 x4 hs1 ?_)
        intro v2 w2 hv2 hg2 hn2
        obtain ⟨g2, c2, rfl⟩ := own_some hv2 hn2
        have hbw2 : Below w.heap.size w w2 := hbw1.grown hg2 hs1 (fun q hq => by simp [Value.ownBlock] at hq; omega)
        clear x1 x3 x4 hg2 hn2 hl1 hbw1 X2
        go_wp2
        go_ret
        rw [wordsL, if_pos hl, if_neg ho, List.append_nil, ← HM.out]
        exact ⟨_, _, rfl, hv2, hbw2⟩
    · obtain rfl : l = 0 := by omega
      have ho : 0 < o := by omega
      have q0 : ((o : Int) == 0) = false := beq_false_of_ne (by omega)
      have q2 : (0 : Int) < (o : Int) := by omega
      go_enter Try.func59, Try.ntmps59
      go_wp2_with fail
      rw [← HW.out]
      refine (ih (o - 1) 0 _ _ _ _ (by omega) (by omega) (by omega) (by omega) s41).mono ?_
      rintro e w1 ⟨g1, c1, rfl, ho1, hb1⟩
      rw [E41.out, ← HR.out] at ho1 ⊢
      have hl1 := own_keep hlit hb1 (Nat.le_refl _)
      have hbw1 := hbW.trans (hb1.mono hsW)
      have hs1 := hbw1.size
      have x1 : (sv R).length = R.length * 1 := by rw [sv_length, Nat.mul_one]
      have x2 := ho1.cells (g := g1) rfl
      have x3 : 0 + R.length ≤ maxLen := by unfold maxLen; omega
      have x4 : (0 + R.length) * 16 ≤ 140737488355328 := by omega
      have X2 := Lib.hid x2
      clear x2 ho1 hb1 hlit
      go_wp2_with (at_builtin; refine wpList_append_own _ rfl (.tmp 30) (.tmp 36) 41 rfl w.heap.size 9 i0 (.string ⟨#[]⟩) 1 16 Try.underlying41 hi hz0 hz1 hz2 rfl (by decide) _ 0 ([]) rfl hl1 ⟨g1, 0, none⟩ R.length c1 (sv R) rfl x1 X2.out (sv_one _) x3 x4 hs1 ?_)
      intro v2 w2 hv2 hg2 hn2
      obtain ⟨g2, c2, rfl⟩ := own_some hv2 hn2
      have hbw2 : Below w.heap.size w w2 := hbw1.grown hg2 hs1 (fun q hq => by simp [Value.ownBlock] at hq; omega)
      clear x1 x3 x4 hg2 hn2 hl1 hbw1 X2
      go_wp2
      go_ret
      rw [wordsL, if_neg hl, if_pos ho, List.nil_append, ← HR.out]
      exact ⟨_, _, rfl, hv2, hbw2⟩

end Go.Proofs.Ytakpbnkncjddeaa
