/-
  The contracts of the law's own helpers on lists of texts: two lists are the same; a list is marked; it still bears its marks.
-/
import Derived.Test.YtlnofjkdpoiabaaCWFrom
import Derived.Test.YtlnofjkdpoiabaaCInts
import Derived.Deep.QuietTactic
namespace Go.Proofs.Ytlnofjkdpoiabaa
open Go.RowKit

/-- the digits of a number -/
def digs : Nat → Nat → List UInt8
  | 0, _ => []
  | f + 1, k => if k = 0 then [] else digs f (k / 10) ++ [UInt8.ofNat (48 + k % 10)]
/-- the text of a mark -/
def mtext (k : Nat) : ByteArray := ⟨([109] ++ digs 20 k).toArray⟩

theorem bytes_one (n : Nat) (h : n < 256) : UInt8.toNat (UInt8.ofNat n) = n := by simp; omega

set_option maxHeartbeats 1600000 in
theorem markText_any (k : Nat) (hk : 1 ≤ k) (hk2 : k ≤ 100000) (w : World) :
    Calls Try.prog 21 #[.int .i64 k] w fun e w' => e = .returned (.string (mtext k)) ∧ Below w.heap.size w w' := by
  have q0 : ¬ (k : Int) ≤ 0 := by omega
  go_enter Try.func21, Try.ntmps21
  go_wp2
  go_loopw [0, 3] (fun n t wr => ∃ (m f : Nat) (b : ByteArray), n = .int .i64 m ∧ t = .string b ∧ m ≤ 100000 ∧ b.size + f = 20 ∧ Hid (digs f m ++ b.data.toList = digs 20 k) ∧ m < 10 ^ f ∧ Below w.heap.size w wr) (fun n _ _ => (intOf n).toNat)
  case atStart => exact ⟨k, 20, ⟨#[]⟩, rfl, rfl, hk2, rfl, by show _ = _; simp, by omega, Below.refl _ _⟩
  case round =>
    obtain ⟨m, f, b, rfl, rfl, hm, hbf, HD, hmf, hb⟩ := hrel
    clear q0
    by_cases h0 : 0 < m
    · have q1 : (0 : Int) < (m : Int) := by omega
      obtain ⟨f, rfl⟩ : ∃ g, f = g + 1 := by
        rcases f with _ | g
        · simp at hmf; omega
        · exact ⟨g, rfl⟩
      have hd : digs (f + 1) m = digs f (m / 10) ++ [UInt8.ofNat (48 + m % 10)] := by rw [digs, if_neg (by omega)]
      have hm10 : m / 10 < 10 ^ f := by rw [Nat.pow_succ] at hmf; omega
      obtain ⟨c, hc⟩ : ∃ c, c = UInt8.ofNat (48 + m % 10) := ⟨_, rfl⟩
      have hcn : (c.toNat : Int) = 48 + (m : Int) % 10 := by rw [hc, bytes_one _ (by omega)]; omega
      rw [← hc] at hd
      have hconv : (convert 68 9 (.slice (some ⟨wr.heap.size, 0, none⟩) 1 1)).run Try.prog (wr.alloc (.cells #[.int .u8 (48 + (m : Int) % 10)] 5)) = .ok (.string ⟨[c].toArray⟩) (wr.alloc (.cells #[.int .u8 (48 + (m : Int) % 10)] 5)) :=
        run_convert_bytes_back (P := Try.prog) _ 68 9 5 ⟨wr.heap.size, 0, none⟩ 1 [c] Try.underlying68 Try.underlying5 Try.underlying9 (fun j hj => by
          obtain rfl : j = 0 := by simpa using hj
          have := cell_one_new wr (Value.int .u8 (48 + (m : Int) % 10)) 5 0 _ rfl
          simp only [List.getElem_cons_zero, hcn]
          exact this)
      have z1 : (ByteArray.mk [c].toArray).size + b.size ≤ 9223372036854775807 := by rw [show (ByteArray.mk [c].toArray).size = 1 from rfl]; omega
      have HD' : Hid (digs f (m / 10) ++ (ByteArray.mk [c].toArray ++ b).data.toList = digs 20 k) := by
        show _ = _
        rw [toList_append, ← HD.out, hd, List.append_assoc]
      have hsz : (ByteArray.mk [c].toArray ++ b).size + f = 20 := by rw [ByteArray.size_append, show (ByteArray.mk [c].toArray).size = 1 from rfl]; omega
      have hb' := hb.alloc hb.size (.cells #[.int .u8 (48 + (m : Int) % 10)] 5)
      clear hd hc hcn HD hb
      go_wp2
      go_roundw
      case rel => exact ⟨m / 10, f, _, by go_num, rfl, by omega, hsz, HD', hm10, hb'⟩
      case measure => simp [intOf]; omega
    · obtain rfl : m = 0 := by omega
      have z1 : (ByteArray.mk #[109]).size + b.size ≤ 9223372036854775807 := by rw [show (ByteArray.mk #[109]).size = 1 from rfl]; omega
      have HD' : Hid ((ByteArray.mk #[109] ++ b).data.toList = [109] ++ digs 20 k) := by
        show _ = _
        rw [toList_append, ← HD.out]
        have : digs f 0 = [] := by cases f <;> simp [digs]
        rw [this]; rfl
      go_wp2
      go_ret
      exact ⟨ret_string (by rw [HD'.out]; simp [mtext]), hb⟩
end Go.Proofs.Ytlnofjkdpoiabaa
