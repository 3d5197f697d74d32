/-
  The contract of the model's function that answers a word's nodes, each one between its arms.
-/
import Derived.Test.YtpphilladlladaaCBtw
import Derived.Test.YtpphilladlladaaWTree
namespace Go.Proofs.Ytpphilladlladaa
open Go.RowKit

theorem btw_word (s : List UInt8) (h : scan s = some 0) (h18 : s.length ≤ 18) (hne : s ≠ []) : okT (binL 18 s 0) 10 0 ∧ wobL (binL 18 s 0) 10 0 = s ∧ btwL (binL 18 s 0) 10 0 = stackL s := by
  have t := binL_tree 18 s 0 10 [] [] h h18 rfl (by omega)
  have e : rootA s 0 = 0 := if_neg hne
  rw [List.nil_append, List.append_nil, e] at t
  refine ⟨t.1, t.2.1, ?_⟩
  rw [t.2.2, stackL, stackF, fold_btw 18 s [] [] 0 h h18]; rfl
theorem stackL_len (s : List UInt8) (h : scan s = some 0) (h18 : s.length ≤ 18) (hne : s ≠ []) : (stackL s).length + 1 ≤ 1024 := by
  rw [← (btw_word s h h18 hne).2.2]
  exact btwL_len _ 10 _

theorem specBetweenOf_yes (s : ByteArray) (w : World) (hv : Hid (valid s.data.toList = true)) :
    Calls Try.prog 21 #[.string s] w (IntsOut (stackL s.data.toList) w) := by
  have h18 := valid_size hv.out
  have hsm : s.size ≤ maxLen := by unfold maxLen; omega
  by_cases hs : s.size = 0
  · have hs0 : s = ⟨#[]⟩ := bytes_ext (by rw [List.eq_nil_of_length_eq_zero (show s.data.toList.length = 0 by rw [size_list]; omega)])
    subst hs0
    clear hs h18
    go_enter Try.func21, Try.ntmps21
    go_wp2_with (go_at_call 39; refine (specValid_is true _ _ hsm hv).mono ?_; rintro e w1 ⟨rfl, rfl⟩)
    go_ret
    have hl := lit_own2 w #[] 3 (by decide)
    exact ⟨_, rfl, hl.more (by simp), (Below.refl _ w).alloc (Nat.le_refl _) _⟩
  · have hne : s.data.toList ≠ [] := fun e => hs (by rw [← size_list, e]; rfl)
    have q0 : s.toList.isEmpty = false := by rw [ByteArray.toList_eq]; simpa using hne
    obtain ⟨t1, _, t3⟩ := btw_word s.data.toList (valid_scan hv.out).1 (by rw [size_list]; exact h18) hne
    have HB := Lib.hid (fun g c RV (rows : List (List Int)) (w' : World) => binFrom_any w.heap.size 18 s 0 g c RV rows w' h18 hv.out)
    rw [← t3]
    obtain ⟨rows, hrows⟩ : ∃ rows, rows = binL 18 s.data.toList 0 := ⟨_, rfl⟩
    rw [← hrows] at t1 ⊢
    have HR := Lib.hid hrows
    have BT := Lib.hid (fun (B H : Nat) v RV w (h1 : H ≤ w.heap.size) h2 => between_any rows (B := B) (H := H) (v := v) (RV := RV) 10 0 w (Nat.le_refl _) t1 h1 h2)
    clear t1 t3 hrows hne hs
    go_enter Try.func21, Try.ntmps21
    go_wp2_with (go_at_call 39; refine (specValid_is true _ _ hsm hv).mono ?_; rintro e w1 ⟨rfl, rfl⟩)
    have hl := lit_own2 w #[] 29 (by decide)
    refine (HB.out _ _ [] [] _ (by simp; omega) (by omega) (by simp) (Lib.hid ⟨hl.more (by simp), RowsI.nil⟩)).mono ?_
    rintro e w1 ⟨g, c, RV, rfl, hG, hb⟩
    rw [List.nil_append, ← HR.out] at hG ⊢
    have HG := Lib.hid hG
    have hb' := ((Below.refl _ _).alloc (Nat.le_refl _) _).trans (hb.mono (by simp))
    have HB' := Lib.hid hb'
    clear hG hb hb' hl
    go_wp2_with fail
    refine (BT.out _ _ _ _ _ (Nat.le_refl _) HG).mono ?_
    rintro e w2 h
    obtain ⟨g2, c2, rfl, ho, _, hb2⟩ := h.from (Below.refl _ _)
    go_wp2
    go_ret
    exact ⟨_, rfl, own_lo ho HB'.out.size, HB'.out.trans (hb2.mono HB'.out.size)⟩
theorem specBetweenOf_no (s : ByteArray) (w : World) (hs : s.size ≤ maxLen) (hv : Hid (valid s.data.toList = false)) :
    Calls Try.prog 21 #[.string s] w (IntsOut [] w) := by
  go_enter Try.func21, Try.ntmps21
  go_wp2_with (go_at_call 39; refine (specValid_is false _ _ hs hv).mono ?_; rintro e w1 ⟨rfl, rfl⟩)
  go_ret
  exact nilOut _ _ (Below.refl _ _)
theorem specBetweenOf_any (s : ByteArray) (w : World) (hs : s.size ≤ maxLen) :
    Calls Try.prog 21 #[.string s] w (IntsOut (stackOut s.data.toList) w) := by
  cases hv : valid s.data.toList with
  | true => rw [stackOut, if_pos hv]; exact specBetweenOf_yes s w hv
  | false => rw [stackOut, if_neg (by rw [hv]; decide)]; exact specBetweenOf_no s w hs hv
end Go.Proofs.Ytpphilladlladaa
