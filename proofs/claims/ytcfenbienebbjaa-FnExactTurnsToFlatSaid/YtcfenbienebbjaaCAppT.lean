/-
  The contract of the program's function that appends the words into which a word turns at one of its pairs.
-/
import Derived.Test.YtcfenbienebbjaaZP
import Derived.Test.YtcfenbienebbjaaCTurnS
import Derived.Test.YtcfenbienebbjaaCWFrom
import Derived.Test.YtcfenbienebbjaaZW
import Derived.Test.YtcfenbienebbjaaShelf
import Derived.Sort.OwnSorted
import Derived.Deep.RegionLaw
import Derived.Deep.DeepCutAuto
namespace Go.Proofs.Ytcfenbienebbjaa
open Go.RowKit

/-- a row of the call's own grows: what stays as it was -/
structure App (w w' : World) (B : Nat) (v v' : Value) : Prop where
  row : v'.ownBlock = v.ownBlock ∨ ∃ g, v'.ownBlock = some g ∧ w.heap.size ≤ g
  below : Below B w w'
  block : ∀ b, b < w.heap.size → v.ownBlock ≠ some b → w'.heap[b]? = w.heap[b]?
theorem App.refl (w : World) (B : Nat) (v : Value) : App w w B v v := ⟨.inl rfl, Below.refl _ _, fun _ _ _ => rfl⟩
theorem App.trans {w w1 w2 : World} {B : Nat} {v v1 v2 : Value} (h : App w w1 B v v1) (k : App w1 w2 B v1 v2) : App w w2 B v v2 := by
  have hs := h.below.size
  refine ⟨?_, h.below.trans k.below, fun b hb hne => ?_⟩
  · rcases k.row with e | ⟨g, e, hg⟩
    · rcases h.row with e' | ⟨g, e', hg⟩
      · exact .inl (e.trans e')
      · exact .inr ⟨g, e.trans e', hg⟩
    · exact .inr ⟨g, e, by omega⟩
  · rw [k.block b (by omega) ?_, h.block b hb hne]
    rcases h.row with e | ⟨g, e, hg⟩
    · rw [e]; exact hne
    · rw [e]; intro e'; cases e'; omega
theorem app_one {w w5 : World} {B m g c : Nat} {v : Value} {V : Value} {t : TypeId} {xs : List Value} (hB : B ≤ w.heap.size) (hv : w.ownsRow B t 1 v m xs)
    (hg : (w.alloc (.cells #[V] t)).grownBy w5 v.ownBlock) (hw : v.ownBlock = some g ∨ g = w.heap.size + 1) : App w w5 B v (.slice (some ⟨g, 0, none⟩) (m + 1) c) := by
  have hz : (w.alloc (.cells #[V] t)).heap.size = w.heap.size + 1 := by simp
  refine ⟨?_, ((Below.refl B w).alloc hB _).grown hg (by rw [hz]; omega) (fun q hq => (hv.lt q hq).1), fun b hb hne => ?_⟩
  · rcases hw with e | e
    · left; rw [e]; rfl
    · right; exact ⟨g, rfl, by omega⟩
  · rw [hg.block b (by rw [hz]; omega) (fun e => hne e.symm), Below.heap_alloc _ _ _ hb]
theorem suf_eq (l : List UInt8) : Lib.hasSuffix l [40] = decide (l.getLast? = some 40) := by
  unfold Lib.hasSuffix
  cases hl : l.reverse with
  | nil =>
    have : l = [] := by simpa using hl
    subst this; rfl
  | cons c r =>
    have : l = r.reverse ++ [c] := by rw [← List.reverse_reverse l, hl]; simp
    subst this
    rw [List.getLast?_concat]
    simp only [List.isSuffixOf, List.reverse_append, List.reverse_cons, List.reverse_nil, List.nil_append, List.reverse_reverse, List.singleton_append]
    by_cases h : c = 40
    · subst h; simp
    · rw [decide_eq_false (by simpa using h)]
      simpa [List.isPrefixOf] using fun e => h e.symm
theorem pre_eq (l : List UInt8) : Lib.hasPrefix l [40] = decide (l.head? = some 40) := by
  unfold Lib.hasPrefix
  cases l with
  | nil => rfl
  | cons c r =>
    by_cases h : c = 40
    · subst h; simp
    · rw [List.head?_cons, decide_eq_false (by simpa using h)]
      simpa [List.isPrefixOf] using fun e => h e.symm
theorem tsuf_eq {l : List UInt8} (h : l.getLast? = some 40) : Lib.trimSuffix l [40] = l.dropLast := by
  unfold Lib.trimSuffix
  rw [suf_eq, decide_eq_true h, if_pos rfl, List.dropLast_eq_take]; rfl
theorem tpre_eq {l : List UInt8} (h : l.head? = some 40) : Lib.trimPrefix l [40] = l.tail := by
  unfold Lib.trimPrefix
  rw [pre_eq, decide_eq_true h, if_pos rfl]; simp
theorem cutS_yes (p : ByteArray) (hp : p.size ≤ 64) (h : p.data.toList.getLast? = some 40) :
    ∃ o : ByteArray, o.data.toList = p.data.toList.dropLast ∧ o.size ≤ 64 ∧ ∀ w, Calls Try.prog 36 #[.string p, .string ⟨#[40]⟩] w fun e w' => e = .returned (.tuple #[.string o, .bool true]) ∧ w = w' := by
  have ho : (⟨p.data.toList.dropLast.toArray⟩ : ByteArray).data.toList = p.data.toList.dropLast := by simp
  refine ⟨⟨p.data.toList.dropLast.toArray⟩, ho, ?_, fun w => ?_⟩
  · rw [← size_list, ho, List.length_dropLast, size_list]; omega
  · have := Try.strings_CutSuffix p ⟨#[40]⟩ w (by omega)
    rw [show (⟨#[40]⟩ : ByteArray).data.toList = [40] from rfl, suf_eq, tsuf_eq h, decide_eq_true h] at this
    exact this.mono fun e w' ⟨h1, h2⟩ => ⟨h1, h2.symm⟩
theorem cutS_no (p : ByteArray) (hp : p.size ≤ 64) (h : p.data.toList.getLast? ≠ some 40) :
    ∃ o : ByteArray, ∀ w, Calls Try.prog 36 #[.string p, .string ⟨#[40]⟩] w fun e w' => e = .returned (.tuple #[.string o, .bool false]) ∧ w = w' := by
  refine ⟨⟨(Lib.trimSuffix p.data.toList [40]).toArray⟩, fun w => ?_⟩
  have := Try.strings_CutSuffix p ⟨#[40]⟩ w (by omega)
  rw [show (⟨#[40]⟩ : ByteArray).data.toList = [40] from rfl, suf_eq, decide_eq_false h] at this
  exact this.mono fun e w' ⟨h1, h2⟩ => ⟨h1, h2.symm⟩
theorem cutP_yes (p : ByteArray) (hp : p.size ≤ 64) (h : p.data.toList.head? = some 40) :
    ∃ o : ByteArray, o.data.toList = p.data.toList.tail ∧ o.size ≤ 64 ∧ ∀ w, Calls Try.prog 37 #[.string p, .string ⟨#[40]⟩] w fun e w' => e = .returned (.tuple #[.string o, .bool true]) ∧ w = w' := by
  have ho : (⟨p.data.toList.tail.toArray⟩ : ByteArray).data.toList = p.data.toList.tail := by simp
  refine ⟨⟨p.data.toList.tail.toArray⟩, ho, ?_, fun w => ?_⟩
  · rw [← size_list, ho, List.length_tail, size_list]; omega
  · have := Try.strings_CutPrefix p ⟨#[40]⟩ w
    rw [show (⟨#[40]⟩ : ByteArray).data.toList = [40] from rfl, pre_eq, tpre_eq h, decide_eq_true h] at this
    exact this.mono fun e w' ⟨h1, h2⟩ => ⟨h1, h2.symm⟩
theorem cutP_no (p : ByteArray) (h : p.data.toList.head? ≠ some 40) :
    ∃ o : ByteArray, ∀ w, Calls Try.prog 37 #[.string p, .string ⟨#[40]⟩] w fun e w' => e = .returned (.tuple #[.string o, .bool false]) ∧ w = w' := by
  refine ⟨⟨(Lib.trimPrefix p.data.toList [40]).toArray⟩, fun w => ?_⟩
  have := Try.strings_CutPrefix p ⟨#[40]⟩ w
  rw [show (⟨#[40]⟩ : ByteArray).data.toList = [40] from rfl, pre_eq, decide_eq_false h] at this
  exact this.mono fun e w' ⟨h1, h2⟩ => ⟨h1, h2.symm⟩

/-- what comes back: the row grown by so many texts -/
def Apps (v : Value) (L M : List (List UInt8)) (B : Nat) (w : World) (e : Ending) (w' : World) : Prop :=
  ∃ v', e = .returned v' ∧ w'.ownsRow B 9 1 v' (L ++ M).length (sv (L ++ M)) ∧ App w w' B v v'
theorem apps_nil {v : Value} {L : List (List UInt8)} {B : Nat} {w : World} (h : w.ownsRow B 9 1 v L.length (sv L)) : Apps v L [] B w (.returned v) w := ⟨v, rfl, by rw [List.append_nil]; exact h, App.refl _ _ _⟩
theorem apps_trans {v v2 : Value} {L M1 M2 K : List (List UInt8)} {B : Nat} {w w1 w2 : World} {v1 : Value} (hK : K = L ++ M1) (hA : App w w1 B v v1) (h : Apps v1 K M2 B w1 (.returned v2) w2) : Apps v L (M1 ++ M2) B w (.returned v2) w2 := by
  obtain ⟨v', he, h1, h2⟩ := h
  cases he
  subst hK
  rw [List.append_assoc] at h1
  exact ⟨_, rfl, h1, hA.trans h2⟩
theorem row_one {w5 : World} {B m g c : Nat} {L : List (List UInt8)} {V : ByteArray} {x : List UInt8} (hm : L.length = m) (hV : V.data.toList = x)
    (hv : w5.ownsRow B 9 1 (.slice (some ⟨g, 0, none⟩) (m + 1) c) (m + 1) (sv L ++ [.string V])) : w5.ownsRow B 9 1 (.slice (some ⟨g, 0, none⟩) (L ++ [x]).length c) (L ++ [x]).length (sv (L ++ [x])) := by
  rw [str_list V, hV, sv_snoc] at hv
  rw [List.length_append, hm]
  exact hv

set_option maxHeartbeats 1600000 in
set_option maxRecDepth 100000 in
theorem appendTurns_any (v : Value) (L : List (List UInt8)) (p x q : ByteArray) (w : World) {B : Nat} (hv : Hid (w.ownsRow B 9 1 v L.length (sv L))) (hB : Hid (B ≤ w.heap.size)) (hl : L.length ≤ 64)
    (hp : p.size ≤ 64) (hx : x.size ≤ 64) (hq : q.size ≤ 64) :
    Calls Try.prog 24 #[v, .string p, .string x, .string q] w (Apps v L (appT p.data.toList x.data.toList q.data.toList) B w) := by
  obtain ⟨i0, hi, hz0, hz1, hz2⟩ := info_parts Try.infoStr
  have H1 : Hid (∃ (o : ByteArray) (b : Bool), (b = true → o.size ≤ 64) ∧ (∀ w, Calls Try.prog 36 #[.string p, .string ⟨#[40]⟩] w fun e w' => e = .returned (.tuple #[.string o, .bool b]) ∧ w = w') ∧
      aheadT p.data.toList x.data.toList q.data.toList = if b = true then [(o ++ x ++ ⟨#[40]⟩ ++ q).data.toList] else []) := by
    by_cases h1 : p.data.toList.getLast? = some 40
    · obtain ⟨o, ho, hos, HC⟩ := cutS_yes p hp h1
      refine ⟨o, true, fun _ => hos, HC, ?_⟩
      rw [aheadT, if_pos h1]
      simp [ho]
    · obtain ⟨o, HC⟩ := cutS_no p hp h1
      refine ⟨o, false, nofun, HC, ?_⟩
      rw [aheadT, if_neg h1]
      rfl
  have H2 : Hid (∃ (o : ByteArray) (b : Bool), (b = true → o.size ≤ 64) ∧ (∀ w, Calls Try.prog 37 #[.string q, .string ⟨#[40]⟩] w fun e w' => e = .returned (.tuple #[.string o, .bool b]) ∧ w = w') ∧
      behindT p.data.toList x.data.toList q.data.toList = if b = true then [(p ++ ⟨#[40]⟩ ++ x ++ o).data.toList] else []) := by
    by_cases h1 : q.data.toList.head? = some 40
    · obtain ⟨o, ho, hos, HC⟩ := cutP_yes q hq h1
      refine ⟨o, true, fun _ => hos, HC, ?_⟩
      rw [behindT, if_pos h1]
      simp [ho]
    · obtain ⟨o, HC⟩ := cutP_no q h1
      refine ⟨o, false, nofun, HC, ?_⟩
      rw [behindT, if_neg h1]
      rfl
  obtain ⟨o1, b1, s1', C1', E1'⟩ := H1.out
  obtain ⟨o2, b2, s2', C2', E2'⟩ := H2.out
  rw [appT]
  generalize aheadT p.data.toList x.data.toList q.data.toList = M1 at E1' ⊢
  generalize behindT p.data.toList x.data.toList q.data.toList = M2 at E2' ⊢
  have C1 := Lib.hid C1'
  have C2 := Lib.hid C2'
  have E1 := Lib.hid E1'
  have E2 := Lib.hid E2'
  have S1 := Lib.hid s1'
  have S2 := Lib.hid s2'
  have HV0 := Lib.hid (apps_nil hv.out)
  obtain ⟨m, hm⟩ : ∃ m, m = L.length := ⟨_, rfl⟩
  have HO := hv.out
  rw [← hm] at HO hl
  obtain ⟨va, vc, rfl⟩ := own_shapeS HO
  have HO := Lib.hid HO
  have HM := Lib.hid hm
  clear H1 H2 C1' C2' E1' E2' s1' s2' hm hv
  go_enter Try.func24, Try.ntmps24
  go_upto_if 18 with (go_at_call 36; refine (C1.out _).mono ?_; rintro e0 w1 ⟨rfl, rfl⟩)
  go_cut [0] (fun s0 wx => Hid (Apps (.slice va m vc) L M1 B w (.returned s0) wx))
  case first =>
    cases b1 with
    | false =>
      have e := E1.out
      rw [if_neg (by decide)] at e
      subst e
      clear E1 C1 S1
      go_wp2_with fail
      go_meet
      exact HV0
    | true =>
      have hs1 := S1.out rfl
      have n1 : ¬ (9223372036854775807 < o1.size + x.size) := by omega
      have n2 : ¬ (9223372036854775807 < o1.size + x.size + 1) := by omega
      have n3 : ¬ (9223372036854775807 < o1.size + x.size + 1 + q.size) := by omega
      have y1 : m + 1 ≤ maxLen := by unfold maxLen; omega
      have y2 : (m + 1) * 16 ≤ 140737488355328 := by omega
      have Y3 := Lib.hid (show ∀ o : Obj, B ≤ (w.alloc o).heap.size by intro o; have := hB.out; simp; omega)
      have Y4 := Lib.hid (show ∀ o : Obj, (w.alloc o).heap.size = w.heap.size + 1 by intro o; simp)
      have e := E1.out
      rw [if_pos rfl] at e
      subst e
      clear E1 C1 S1 HV0
      go_wp2_with (at_builtin; refine wpList_append_lies _ rfl (.tmp 19) (.tmp 26) 22 rfl B 9 i0 (.string ⟨#[]⟩) 1 16 Try.underlying22 hi hz0 hz1 hz2 rfl (by decide) _ m (sv L) rfl (HO.out.alloc _) ⟨w.heap.size, 0, none⟩ 1 1 [_] rfl rfl (cell_one_new _ _ _) (one_str _) (by decide) y1 y2 (Y3.out _) (w.heap.size + 1) (Y4.out _) ?_)
      intro g5 c5 w5 hv5 hg5 hw5 hl5
      have R5 : Hid (Apps (.slice va m vc) L [(o1 ++ x ++ ⟨#[40]⟩ ++ q).data.toList] B w (.returned (.slice (some ⟨g5, 0, none⟩) (m + 1) c5)) w5) := by
        refine ⟨_, rfl, ?_, app_one hB.out HO.out hg5 hw5⟩
        have := row_one HM.out.symm rfl hv5
        rw [List.length_append, ← HM.out] at this
        rw [List.length_append, ← HM.out]
        exact this
      clear hv5 hg5 hw5 hl5
      go_wp2_with fail
      go_meet
      exact R5
  case rest =>
    clear HV0 HO
    obtain ⟨v1, he, HR, HA⟩ := hcut.out
    obtain rfl := Ending.returned.inj he
    have HL : (L ++ M1).length ≤ 66 := by
      rw [List.length_append, ← HM.out, E1.out]
      split
      · simp; omega
      · simp; omega
    obtain ⟨K, hK⟩ : ∃ K, K = L ++ M1 := ⟨_, rfl⟩
    rw [← hK] at HR HL
    have HA := Lib.hid HA
    have HB := Lib.hid (Nat.le_trans hB.out HA.out.below.size)
    have HK := Lib.hid hK
    obtain ⟨m1, hm⟩ : ∃ m1, m1 = K.length := ⟨_, rfl⟩
    rw [← hm] at HR HL
    obtain ⟨va1, vc1, rfl⟩ := own_shapeS HR
    have HO := Lib.hid HR
    have HM := Lib.hid hm
    clear hcut he hK hm HR E1 S1 C1
    cases b2 with
    | false =>
      have e := E2.out
      rw [if_neg (by decide)] at e
      subst e
      clear E2 S2
      go_wp2_with (go_at_call 37; refine (C2.out _).mono ?_; rintro e0 w1 ⟨rfl, rfl⟩)
      go_ret
      refine apps_trans HK.out HA.out (by rw [HM.out] at HO ⊢; exact apps_nil HO.out)
    | true =>
      have hs2 := S2.out rfl
      have n1 : ¬ (9223372036854775807 < p.size + 1) := by omega
      have n2 : ¬ (9223372036854775807 < p.size + 1 + x.size) := by omega
      have n3 : ¬ (9223372036854775807 < p.size + 1 + x.size + o2.size) := by omega
      have y1 : m1 + 1 ≤ maxLen := by unfold maxLen; omega
      have y2 : (m1 + 1) * 16 ≤ 140737488355328 := by omega
      have Y3 := Lib.hid (show ∀ o : Obj, B ≤ (wc.alloc o).heap.size by intro o; have := HB.out; simp; omega)
      have Y4 := Lib.hid (show ∀ o : Obj, (wc.alloc o).heap.size = wc.heap.size + 1 by intro o; simp)
      have e := E2.out
      rw [if_pos rfl] at e
      subst e
      clear E2 S2
      go_wp2_with (first
        | (go_at_call 37; refine (C2.out _).mono ?_; rintro e0 w1 ⟨rfl, rfl⟩)
        | (at_builtin; refine wpList_append_lies _ rfl (.tmp 34) (.tmp 41) 22 rfl B 9 i0 (.string ⟨#[]⟩) 1 16 Try.underlying22 hi hz0 hz1 hz2 rfl (by decide) _ m1 (sv K) rfl (HO.out.alloc _) ⟨wc.heap.size, 0, none⟩ 1 1 [_] rfl rfl (cell_one_new _ _ _) (one_str _) (by decide) y1 y2 (Y3.out _) (wc.heap.size + 1) (Y4.out _) ?_))
      intro g5 c5 w5 hv5 hg5 hw5 hl5
      have R5 : Hid (Apps (.slice va1 m1 vc1) K [(p ++ ⟨#[40]⟩ ++ x ++ o2).data.toList] B wc (.returned (.slice (some ⟨g5, 0, none⟩) (m1 + 1) c5)) w5) := by
        refine ⟨_, rfl, ?_, app_one HB.out HO.out hg5 hw5⟩
        have := row_one HM.out.symm rfl hv5
        rw [List.length_append, ← HM.out] at this
        rw [List.length_append, ← HM.out]
        exact this
      clear hv5 hg5 hw5 hl5
      go_wp2
      go_ret
      exact apps_trans HK.out HA.out R5.out
end Go.Proofs.Ytcfenbienebbjaa
