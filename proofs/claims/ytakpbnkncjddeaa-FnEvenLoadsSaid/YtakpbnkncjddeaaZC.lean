/-
  The contracts of the model's functions on words as two-armed trees.
  The contract of the model's function that gives numbers behind a stack.
  The contracts of the model's functions on words as two-armed trees and as cut polygons, for whatever text.
-/
import Derived.Test.YtakpbnkncjddeaaZV
import Derived.Test.YtakpbnkncjddeaaZY
import Derived.Test.YtakpbnkncjddeaaWPairs
import Derived.Test.YtakpbnkncjddeaaZW
namespace Go.Proofs.Ytakpbnkncjddeaa
open Go.RowKit

theorem of_scan {l : List UInt8} (h : scan l = some 0) (h18 : l.length ≤ 18) : valid l = true := by simp [valid, h, h18]

set_option maxHeartbeats 800000 in
theorem closing_any (s : ByteArray) (hv : valid s.data.toList = true) (hne : 0 < s.size) (w : World) :
    Calls Try.prog 75 #[.string s] w fun e w' => e = .returned (.int .i64 (cl 0 s.data.toList - 1 : Nat)) ∧ w = w' := by
  have h18 : s.size ≤ 18 := (valid_scan hv).2
  have HV := Lib.hid hv
  clear hv
  go_enter Try.func75, Try.ntmps75
  go_wp2
  go_loop [3, 4] (fun a b => ∃ k o : Nat, k ≤ s.size ∧ o ≤ k ∧ (k = 0 ∨ 0 < o) ∧ a = .int .i64 o ∧ b = .int .i64 k ∧ Hid (scan (s.data.toList.take k) = some o) ∧ Hid (cl 0 s.data.toList = k + cl o (s.data.toList.drop k))) (fun _ b => s.size - (intOf b).toNat)
  case atStart => exact ⟨0, 0, Nat.zero_le _, Nat.le_refl _, .inl rfl, rfl, rfl, rfl, by show _ = _; simp⟩
  case round =>
    obtain ⟨k, o, hk, hok, hko, rfl, rfl, HS, HC⟩ := hrel
    by_cases hlt : k < s.size
    · have hd : s.data.toList.drop k = s[k] :: s.data.toList.drop (k + 1) := by
        rw [List.drop_eq_getElem_cons (by rw [size_list]; exact hlt), get_list s k hlt]
      have hc0 := HC.out
      rw [hd] at hc0
      have b1 : (k : Int) < (s.size : Int) := by omega
      rcases valid_byte HV.out k hlt with hc | hc
      · have hcp : ((s[k].toNat : Int) == 40) = true := by rw [hc]; rfl
        have N := Lib.hid (scan_opn hlt HS.out hcp)
        have q0 : ((o : Int) + 1 == 0) = false := beq_false_of_ne (by omega)
        rw [cl_opn o _ _ hc] at hc0
        have M : Hid (cl 0 s.data.toList = k + 1 + cl (o + 1) (s.data.toList.drop (k + 1))) := by show _ = _; omega
        clear hd hc0 HC HS hc
        go_wp2
        go_round
        case rel => exact ⟨k + 1, o + 1, by omega, by omega, .inr (by omega), by go_num, by go_num, N, M⟩
        case measure => simp [intOf]; omega
      · have hcp : ((s[k].toNat : Int) == 40) = false := by rw [hc]; rfl
        have hcq : ((s[k].toNat : Int) == 41) = true := by rw [hc]; rfl
        have ho : 0 < o := by
          obtain ⟨q, hq⟩ := valid_take HV.out (k + 1)
          rw [scan_next hlt HS.out] at hq
          apply Classical.byContradiction
          intro e
          obtain rfl : o = 0 := by omega
          simp [vstep, hc] at hq
        have N := Lib.hid (scan_cls hlt HS.out hcq ho)
        by_cases h1 : o = 1
        · subst h1
          rw [cl_last 1 _ _ (by omega) (by omega)] at hc0
          have M := Lib.hid hc0
          clear hd hc0 HC HS hc hcq
          go_wp2
          go_ret
          exact ⟨by rw [M.out]; rfl, rfl⟩
        · have q0 : ((o : Int) - 1 == 0) = false := beq_false_of_ne (by omega)
          rw [cl_cls o _ _ (by omega) (by omega)] at hc0
          have M : Hid (cl 0 s.data.toList = k + 1 + cl (o - 1) (s.data.toList.drop (k + 1))) := by show _ = _; omega
          clear hd hc0 HC HS hc hcq
          go_wp2
          go_round
          case rel => exact ⟨k + 1, o - 1, by omega, by omega, .inr (by omega), by go_num, by go_num, N, M⟩
          case measure => simp [intOf]; omega
    · exfalso
      have e := HS.out
      rw [List.take_of_length_le (by rw [size_list]; omega), (valid_scan HV.out).1] at e
      have : o = 0 := (Option.some.inj e).symm
      omega

theorem Try.infoRowF : (Try.prog.info? 23).map (fun i => (i.zero, i.size, i.bytes)) = some (some (.slice none 0 0), 1, 24) := by kernel_rfl
theorem extract_list (s : ByteArray) (a b : Nat) : (s.extract a b).data.toList = (s.data.toList.drop a).take (b - a) := by
  rw [ByteArray.data_extract]; simp [List.extract_eq_take_drop]
/-- a list of rows, new or handed on -/
def GridOut (B : Nat) (rows : List (List Int)) (w : World) (e : Ending) (w' : World) : Prop :=
  ∃ g c RV, e = .returned (.slice (some ⟨g, 0, none⟩) rows.length c) ∧ Grid w' B w'.heap.size (.slice (some ⟨g, 0, none⟩) rows.length c) RV rows ∧ Below w.heap.size w w'

theorem own_some3 {w : World} {B n : Nat} {t : TypeId} {v : Value} {xs : List Value} (h : w.ownsRow B t 1 v n xs) (hv : v ≠ .slice none 0 0) : ∃ g cap, v = .slice (some ⟨g, 0, none⟩) n cap := by
  rcases h.2 with ⟨h0, _⟩ | ⟨g, cap, cur, h1, _⟩
  · exact absurd h0 hv
  · exact ⟨g, cap, h1⟩
theorem lit_own2 (w : World) (cs : Array Value) (t : TypeId) (hm : cs.size ≤ maxLen) : Own (w.alloc (.cells cs t)) w.heap.size (w.heap.size + 1) t (.slice (some ⟨w.heap.size, 0, none⟩) cs.size cs.size) cs.toList := by
  have := World.ownsRow_lit (base := w.heap.size) (e := t) (size := 1) w cs cs.size (Nat.le_refl _) hm (by omega)
  exact ⟨by rw [Array.length_toList]; exact this, fun g hg => by simp [Value.ownBlock] at hg; omega⟩

end Go.Proofs.Ytakpbnkncjddeaa

namespace Go.Proofs.Ytakpbnkncjddeaa
open Go.RowKit

theorem Try.infoIntS : (Try.prog.info? 3).map (fun i => (i.zero, i.size, i.bytes)) = some (some (.int .i64 0), 1, 8) := by kernel_rfl
theorem stackF_next {s : ByteArray} {k : Nat} (hk : k < s.size) : stackF (s.data.toList.take (k + 1)) = stepS (stackF (s.data.toList.take k)) s[k] := by
  rw [stackF, fold_take _ _ _ _ (by rw [size_list]; exact hk), get_list s k hk]; rfl
theorem stackF_opn {s : ByteArray} {k : Nat} (hk : k < s.size) (hc : s[k].toNat = 40) : stackF (s.data.toList.take (k + 1)) = ((stackF (s.data.toList.take k)).1 ++ [(stackF (s.data.toList.take k)).2.2], (stackF (s.data.toList.take k)).2.1, (stackF (s.data.toList.take k)).2.2 + 1) := by
  rw [stackF_next hk, stepS, if_pos hc]
theorem stackF_cls {s : ByteArray} {k : Nat} (hk : k < s.size) (hc : s[k].toNat = 41) : stackF (s.data.toList.take (k + 1)) = ((stackF (s.data.toList.take k)).1.dropLast, (stackF (s.data.toList.take k)).2.1 ++ [(stackF (s.data.toList.take k)).1.getLastD 0], (stackF (s.data.toList.take k)).2.2) := by
  rw [stackF_next hk, stepS, if_neg (by omega)]
/-- what stands on the stack, how many have come, how many are out -/
theorem stackF_len (r : List UInt8) : ∀ o, scan r.reverse = some o → (stackF r.reverse).1.length = o ∧ (stackF r.reverse).2.2 ≤ r.length ∧ (stackF r.reverse).2.1.length ≤ r.length ∧ ∀ x ∈ (stackF r.reverse).1, x ≤ r.length := by
  induction r with
  | nil => intro o h; simp [scan] at h; subst h; simp [stackF]
  | cons c l ih =>
    intro o h
    rw [List.reverse_cons] at h ⊢
    rw [scan_snoc] at h
    cases hs : scan l.reverse with
    | none => rw [hs] at h; simp [vstep] at h
    | some q =>
      rw [hs] at h
      obtain ⟨h1, h2, h3, h4⟩ := ih q hs
      have e : stackF (l.reverse ++ [c]) = stepS (stackF l.reverse) c := by simp [stackF, List.foldl_append]
      rw [e]
      rcases step_some h with hc | ⟨hc, h0⟩
      · rw [step_opn q hc] at h
        cases h
        rw [stepS, if_pos hc]
        refine ⟨by simp [h1], by simp; omega, by simp; omega, fun x hx => ?_⟩
        simp only [List.mem_append, List.mem_singleton] at hx
        rcases hx with hx | hx
        · have := h4 x hx; simp; omega
        · simp; omega
      · rw [step_cls hc h0] at h
        cases h
        rw [stepS, if_neg (by omega)]
        refine ⟨by simp [h1], by simp; omega, by simp; omega, fun x hx => ?_⟩
        have := h4 x (List.dropLast_subset _ hx)
        simp; omega
theorem stackF_len' (l : List UInt8) (o : Nat) (h : scan l = some o) : (stackF l).1.length = o := by
  have := (stackF_len l.reverse o (by rw [List.reverse_reverse]; exact h)).1
  rwa [List.reverse_reverse] at this
theorem getLastD_at (l : List Nat) (n : Nat) (h : l.length = n + 1) : l.getLastD 0 = l[n]'(by omega) := by
  rw [List.getLastD_eq_getLast?, List.getLast?_eq_getElem?, List.getElem?_eq_getElem (by omega : l.length - 1 < l.length)]
  simp only [Option.getD_some]
  congr 1
  omega
theorem ints_at2 (l : List Nat) (k : Nat) (h : k < l.length) : (ints l)[k]? = some (.int .i64 ((l[k] : Nat) : Int)) := by simp [ints, h]
theorem ints_iv (l : List Nat) : ints l = iv (l.map fun (k : Nat) => (k : Int)) := by simp [ints, iv]

/-- what stands behind k bytes -/
structure Stk_ (B H n m : Nat) (st out : List Nat) (vs vo : Value) (w : World) : Prop where
  outs : w.ownsRow B 3 1 vo m (ints out)
  stk : w.ownsRow B 3 1 vs n (ints st)
  shp : ∃ g cap g' cap', vo = .slice (some ⟨g, 0, none⟩) m cap ∧ vs = .slice (some ⟨g', 0, none⟩) n cap' ∧ g ≠ g' ∧ n ≤ cap' ∧ m ≤ cap
  lens : out.length = m ∧ st.length = n
theorem own_cap {w : World} {B n g c : Nat} {t : TypeId} {xs : List Value} (h : w.ownsRow B t 1 (.slice (some ⟨g, 0, none⟩) n c) n xs) : n ≤ c := by
  rcases h.2 with ⟨h0, _⟩ | ⟨g', cap, cur, hv, _, _, h3, _⟩
  · cases h0
  · simp only [Value.slice.injEq] at hv
    omega
theorem one_int2 (n : Int) : ∀ u ∈ [Value.int .i64 n], u.oneCell' = true := by intro u hu; simp at hu; subst hu; rfl
theorem ownsRow_lo {w : World} {B B' n : Nat} {t : TypeId} {v : Value} {xs : List Value} (h : w.ownsRow B' t 1 v n xs) (hB : B ≤ B') : w.ownsRow B t 1 v n xs :=
  ⟨h.1, h.2.imp id (fun ⟨g, cap, cur, e1, hg, r⟩ => ⟨g, cap, cur, e1, by omega, r⟩)⟩

end Go.Proofs.Ytakpbnkncjddeaa

namespace Go.Proofs.Ytakpbnkncjddeaa
open Go.RowKit

theorem rows_one {w : World} {B H : Nat} {RV : List Value} {rows : List (List Int)} (h : RowsI w B H RV rows) : ∀ u ∈ RV, u.oneCell' = true := by
  intro u hu
  obtain ⟨i, hi, rfl⟩ := List.getElem_of_mem hu
  obtain ⟨ao, cap, hv', _⟩ := (h.2 i _ _ (List.getElem?_eq_getElem hi) (List.getElem?_eq_getElem (by rw [← h.1]; exact hi))).slice
  rw [hv']; rfl

end Go.Proofs.Ytakpbnkncjddeaa
