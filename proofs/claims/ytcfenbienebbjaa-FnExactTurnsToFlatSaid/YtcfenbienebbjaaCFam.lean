/-
  The contracts of the model's functions on words as two-armed trees.
-/
import Derived.Test.YtcfenbienebbjaaZV
import Derived.Test.YtcfenbienebbjaaZW
namespace Go.Proofs.Ytcfenbienebbjaa
open Go.RowKit

theorem of_scan {l : List UInt8} (h : scan l = some 0) (h18 : l.length ≤ 18) : valid l = true := by simp [valid, h, h18]

set_option maxHeartbeats 800000 in
theorem closing_any (s : ByteArray) (hv : valid s.data.toList = true) (hne : 0 < s.size) (w : World) :
    Calls Try.prog 35 #[.string s] w fun e w' => e = .returned (.int .i64 (cl 0 s.data.toList - 1 : Nat)) ∧ w = w' := by
  have h18 : s.size ≤ 18 := (valid_scan hv).2
  have HV := Lib.hid hv
  clear hv
  go_enter Try.func35, Try.ntmps35
  go_wp2
  go_loop [3, 4] (fun a b => ∃ k o : Nat, k ≤ s.size ∧ o ≤ k ∧ (k = 0 ∨ 0 < o) ∧ a = .int .i64 o ∧ b = .int .i64 k ∧ Hid (scan (s.data.toList.take k) = some o) ∧ Hid (cl 0 s.data.toList = k + cl o (s.data.toList.drop k))) (fun _ b => s.size - (intOf b).toNat)
  case atStart => exact ⟨0, 0, Nat.zero_le _, Nat.le_refl _, .inl rfl, rfl, rfl, rfl, by show _ = _; simp⟩
  case round =>
    obtain ⟨k, o, hk, hok, hko, rfl, rfl, HS, HC⟩ := hrel
    by_cases hlt : k < s.size
    · have hd : s.data.toList.drop k = s[k] :: s.data.toList.drop (k + 1) := by
        rw [List.drop_eq_getElem_cons (by rw [size_list]; exact hlt), get_list s k hlt]
      have hc0 := HC.out
      rw [hd] at hc0
      have b1 : (k : Int) < (s.size : Int) := by omega
      rcases valid_byte HV.out k hlt with hc | hc
      · have hcp : ((s[k].toNat : Int) == 40) = true := by rw [hc]; rfl
        have N := Lib.hid (scan_opn hlt HS.out hcp)
        have q0 : ((o : Int) + 1 == 0) = false := beq_false_of_ne (by omega)
        rw [cl_opn o _ _ hc] at hc0
        have M : Hid (cl 0 s.data.toList = k + 1 + cl (o + 1) (s.data.toList.drop (k + 1))) := by show _ = _; omega
        clear hd hc0 HC HS hc
        go_wp2
        go_round
        case rel => exact ⟨k + 1, o + 1, by omega, by omega, .inr (by omega), by go_num, by go_num, N, M⟩
        case measure => simp [intOf]; omega
      · have hcp : ((s[k].toNat : Int) == 40) = false := by rw [hc]; rfl
        have hcq : ((s[k].toNat : Int) == 41) = true := by rw [hc]; rfl
        have ho : 0 < o := by
          obtain ⟨q, hq⟩ := valid_take HV.out (k + 1)
          rw [scan_next hlt HS.out] at hq
          apply Classical.byContradiction
          intro e
          obtain rfl : o = 0 := by omega
          simp [vstep, hc] at hq
        have N := Lib.hid (scan_cls hlt HS.out hcq ho)
        by_cases h1 : o = 1
        · subst h1
          rw [cl_last 1 _ _ (by omega) (by omega)] at hc0
          have M := Lib.hid hc0
          clear hd hc0 HC HS hc hcq
          go_wp2
          go_ret
          exact ⟨by rw [M.out]; rfl, rfl⟩
        · have q0 : ((o : Int) - 1 == 0) = false := beq_false_of_ne (by omega)
          rw [cl_cls o _ _ (by omega) (by omega)] at hc0
          have M : Hid (cl 0 s.data.toList = k + 1 + cl (o - 1) (s.data.toList.drop (k + 1))) := by show _ = _; omega
          clear hd hc0 HC HS hc hcq
          go_wp2
          go_round
          case rel => exact ⟨k + 1, o - 1, by omega, by omega, .inr (by omega), by go_num, by go_num, N, M⟩
          case measure => simp [intOf]; omega
    · exfalso
      have e := HS.out
      rw [List.take_of_length_le (by rw [size_list]; omega), (valid_scan HV.out).1] at e
      have : o = 0 := (Option.some.inj e).symm
      omega

theorem Try.infoRowF : (Try.prog.info? 33).map (fun i => (i.zero, i.size, i.bytes)) = some (some (.slice none 0 0), 1, 24) := by kernel_rfl
theorem extract_list (s : ByteArray) (a b : Nat) : (s.extract a b).data.toList = (s.data.toList.drop a).take (b - a) := by
  rw [ByteArray.data_extract]; simp [List.extract_eq_take_drop]
/-- a list of rows, new or handed on -/
def GridOut (B : Nat) (rows : List (List Int)) (w : World) (e : Ending) (w' : World) : Prop :=
  ∃ g c RV, e = .returned (.slice (some ⟨g, 0, none⟩) rows.length c) ∧ Grid w' B w'.heap.size (.slice (some ⟨g, 0, none⟩) rows.length c) RV rows ∧ Below w.heap.size w w'

theorem own_some3 {w : World} {B n : Nat} {t : TypeId} {v : Value} {xs : List Value} (h : w.ownsRow B t 1 v n xs) (hv : v ≠ .slice none 0 0) : ∃ g cap, v = .slice (some ⟨g, 0, none⟩) n cap := by
  rcases h.2 with ⟨h0, _⟩ | ⟨g, cap, cur, h1, _⟩
  · exact absurd h0 hv
  · exact ⟨g, cap, h1⟩
theorem lit_own2 (w : World) (cs : Array Value) (t : TypeId) (hm : cs.size ≤ maxLen) : Own (w.alloc (.cells cs t)) w.heap.size (w.heap.size + 1) t (.slice (some ⟨w.heap.size, 0, none⟩) cs.size cs.size) cs.toList := by
  have := World.ownsRow_lit (base := w.heap.size) (e := t) (size := 1) w cs cs.size (Nat.le_refl _) hm (by omega)
  exact ⟨by rw [Array.length_toList]; exact this, fun g hg => by simp [Value.ownBlock] at hg; omega⟩

end Go.Proofs.Ytcfenbienebbjaa
