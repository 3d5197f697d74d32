/-
  The contract of the program's function that reads a word from its end.
-/
import Derived.Test.YtpphilladlladaaCMirror
namespace Go.Proofs.Ytpphilladlladaa
open Go.RowKit

theorem own_iterAt {w : World} {base : Nat} {e : TypeId} {size : Nat} {v : Value} {n : Nat} {xs : List Value} (h : w.ownsRow base e size v n xs) {k : Nat} (hk : v.ownBlock ≠ some k) (s : ByteArray) (p : Nat) : (w.iterAt k s p).ownsRow base e size v n xs := by
  obtain ⟨h1, h2⟩ := h
  refine ⟨h1, ?_⟩
  rcases h2 with h2 | ⟨g, cap, cur, a, b, c, d⟩
  · exact .inl h2
  · subst a
    exact .inr ⟨g, cap, cur, rfl, b, by rw [Lib.iterAt_other _ _ _ _ _ (fun e => hk (by simp [Value.ownBlock, e]))]; exact c, d⟩
theorem iterPos_of {w : World} {k : Nat} {s : ByteArray} {p : Nat} (h : w.heap[k]? = some (.stringIter s p)) : w.iterPos k = p := by simp [World.iterPos, h]

/-- one letter set: the row, the iterator, what lay before -/
theorem mirror_round {s : ByteArray} {w wr : World} {G I k : Nat} (hG : w.heap.size ≤ G) (hne : G ≠ I) (hI : w.heap.size ≤ I) (hk : k < s.size)
    (hit : wr.heap[I]? = some (.stringIter s k)) (hown : wr.ownsRow w.heap.size 5 1 (.slice (some ⟨G, 0, none⟩) s.size s.size) s.size (mcells s k)) (hb : Below w.heap.size w wr) (u : Value) (hu : u = .int .u8 ((flip s[k]).toNat : Int)) :
    ((wr.iterAt I s (k + 1)).setCell ⟨G, s.size - 1 - k, none⟩ u).heap[I]? = some (.stringIter s (k + 1)) ∧
    ((wr.iterAt I s (k + 1)).setCell ⟨G, s.size - 1 - k, none⟩ u).ownsRow w.heap.size 5 1 (.slice (some ⟨G, 0, none⟩) s.size s.size) s.size (mcells s (k + 1)) ∧
    Below w.heap.size w ((wr.iterAt I s (k + 1)).setCell ⟨G, s.size - 1 - k, none⟩ u) := by
  have h1 := own_iterAt hown (k := I) (by simp [Value.ownBlock, hne]) s (k + 1)
  have h2 := (h1.stored (s.size - 1 - k) u).1
  subst hu
  rw [mcells_step s k hk] at h2
  refine ⟨?_, h2, (Lib.below_iterAt hb hI s (k + 1)).setCell hG _⟩
  rw [Below.heap_setCell _ _ _ _ (fun e => hne e.symm)]
  exact Lib.iterAt_heap wr I s k (k + 1) hit

theorem flip_val {c : UInt8} (h : c.toNat = 40 ∨ c.toNat = 41) : (((c.toNat : Int) == 40) = true ∧ Value.int .u8 41 = .int .u8 ((flip c).toNat : Int)) ∨ (((c.toNat : Int) == 40) = false ∧ Value.int .u8 40 = .int .u8 ((flip c).toNat : Int)) := by
  rcases h with h | h
  · left; rw [h]; refine ⟨rfl, ?_⟩; rw [flip, if_pos h]; rfl
  · right; rw [h]; refine ⟨rfl, ?_⟩; rw [flip, if_neg (by omega)]; rfl

set_option maxHeartbeats 800000 in
theorem implMirror_yes (s : ByteArray) (w : World) (hv : Hid (valid s.data.toList = true)) :
    Calls Try.prog 30 #[.string s] w fun e w' => e = .returned (.string ⟨(mirrorL s.data.toList).toArray⟩) ∧ Below w.heap.size w w' := by
  have h18 := valid_size hv.out
  have hsm : s.size ≤ maxLen := by unfold maxLen; omega
  obtain ⟨i0, hi, hz0, hz1, hz2⟩ := info_parts Try.infoByte
  go_enter Try.func30, Try.ntmps30
  go_wp2_with (first
    | (go_at_call 36; refine (implValid_is true _ _ hsm hv).mono ?_; rintro e w1 ⟨rfl, hb⟩)
    | (at_make; refine wpList_make_full _ rfl _ _ 22 rfl w.heap.size 5 i0 (.int .u8 0) 1 Try.underlying22 hi hz0 hz1 _ _ _ _ s.size rfl rfl (by omega) (by omega) ?b2 hsm ?b4 ?_))
  case b2 => rw [hz2]; omega
  case b4 => exact hb.size
  intro w2 hown hgrow
  have hsz : w1.heap.size < w2.heap.size := by
    have := hown.lt w1.heap.size rfl; omega
  have hb2 : Below w.heap.size w w2 := hb.grown hgrow hb.size (fun k hk => by cases hk)
  have hle := hb.size
  rw [show (madeCells #[Value.int .u8 0] s.size).toList = mcells s 0 by rw [mcells_zero]; exact toList_madeCells_one _ _] at hown
  have hown2 := hown.alloc (.stringIter s 0)
  have hb3 := hb2.alloc (by omega) (.stringIter s 0)
  obtain ⟨G, hG⟩ : ∃ G, G = w1.heap.size := ⟨_, rfl⟩
  obtain ⟨I, hI⟩ : ∃ I, I = w2.heap.size := ⟨_, rfl⟩
  have hit2 : (w2.iter s 0).heap[I]? = some (.stringIter s 0) := by rw [hI]; exact World.iter_heap w2 s 0
  rw [← hG] at hown2 hsz hle
  rw [← hI] at hsz
  have hwI : w.heap.size ≤ I := by omega
  have hne : G ≠ I := by omega
  go_wp2
  rw [← hG, ← hI]
  clear hG hI hb hgrow hown hb2
  go_loopw [4] (fun _ wr => ∃ k : Nat, k ≤ s.size ∧ wr.heap[I]? = some (.stringIter s k) ∧ wr.ownsRow w.heap.size 5 1 (.slice (some ⟨G, 0, none⟩) s.size s.size) s.size (mcells s k) ∧ Below w.heap.size w wr) (fun _ wr => s.size - wr.iterPos I)
  case atStart => exact ⟨0, Nat.zero_le _, hit2, hown2, hb3⟩
  case round =>
    obtain ⟨k, hk, hit, hown, hb⟩ := hrel
    have hpos := Lib.hid (iterPos_of hit)
    clear hit2 hown2 hb3
    by_cases hlt : k < s.size
    · have ha : s[k].toNat < 128 := by rcases valid_byte hv.out k hlt with h | h <;> omega
      have hnx := fun ty => Lib.run_next_ascii_at (P := Try.prog) wr I s k ty hit hlt ha
      have R := fun u hu => mirror_round (by omega) hne hwI hlt hit hown hb u hu
      have h1 := own_iterAt hown (k := I) (by simp [Value.ownBlock, hne]) s (k + 1)
      have hcell := (h1.cellAt (s.size - 1 - k) (by omega)).trans (List.getElem?_eq_getElem (by rw [mcells_length s k hk]; omega))
      have hfr := h1.frozenAt (s.size - 1 - k)
      have ei : ((s.size : Int) - 1 - (k : Int)).toNat = s.size - 1 - k := by omega
      rcases flip_val (valid_byte hv.out k hlt) with ⟨ht, hu⟩ | ⟨ht, hu⟩
      all_goals
        have R := Lib.hid (R _ hu)
        clear hu hown h1 hit hb
        go_wp2
        go_roundw
        case rel => exact ⟨k + 1, by omega, R.out.1, R.out.2.1, R.out.2.2⟩
        case measure => rw [iterPos_of R.out.1, hpos.out]; omega
    · obtain rfl : k = s.size := by omega
      have hnx := fun ty => Lib.run_next_end_at (P := Try.prog) wr I s s.size ty hit hlt
      have hconv := run_convert_bytes_back (P := Try.prog) wr 22 9 5 ⟨G, 0, none⟩ s.size (mirrorL s.data.toList) Try.underlying22 Try.underlying5 Try.underlying9 (fun j hj => by
        have hj' : j < s.size := by rw [mirrorL_length, size_list] at hj; exact hj
        rw [show (⟨G, 0, none⟩ : Addr).add j = ⟨G, j, none⟩ by simp [Addr.add_lit], hown.cellAt j (by omega)]
        have e : mcells s s.size = (mirrorL s.data.toList).map fun c => .int .u8 (c.toNat : Int) := by
          rw [mcells, Nat.sub_self, List.take_of_length_le (Nat.le_of_eq (size_list s))]; rfl
        rw [e, List.getElem?_map, List.getElem?_eq_getElem hj]; rfl)
      rw [mirrorL_length, size_list] at hconv
      go_wp2
      go_ret
      exact ⟨rfl, hb⟩

theorem implMirror_no (s : ByteArray) (w : World) (hs : s.size ≤ maxLen) (hv : Hid (valid s.data.toList = false)) :
    Calls Try.prog 30 #[.string s] w fun e w' => e = .returned (.string ⟨#[]⟩) ∧ Below w.heap.size w w' := by
  go_enter Try.func30, Try.ntmps30
  go_wp2_with (go_at_call 36; refine (implValid_is false _ _ hs hv).mono ?_; rintro e w1 ⟨rfl, hb⟩)
  go_ret
  exact ⟨rfl, by assumption⟩

theorem specMirror_yes (s : ByteArray) (w : World) (hv : Hid (valid s.data.toList = true)) :
    Calls Try.prog 31 #[.string s] w fun e w' => e = .returned (.string ⟨(mirrorL s.data.toList).toArray⟩) ∧ w = w' := by
  have h18 := valid_size hv.out
  have hsm : s.size ≤ maxLen := by unfold maxLen; omega
  go_enter Try.func31, Try.ntmps31
  go_wp2_with (first
    | (go_at_call 39; refine (specValid_is true _ _ hsm hv).mono ?_; rintro e w1 ⟨rfl, rfl⟩)
    | (go_at_call 54; refine (specMirror_any _ _ (by omega)).mono ?_; rintro e w1 ⟨rfl, rfl⟩))
  go_ret
  exact ⟨rfl, rfl⟩
theorem specMirror_no (s : ByteArray) (w : World) (hs : s.size ≤ maxLen) (hv : Hid (valid s.data.toList = false)) :
    Calls Try.prog 31 #[.string s] w fun e w' => e = .returned (.string ⟨#[]⟩) ∧ w = w' := by
  go_enter Try.func31, Try.ntmps31
  go_wp2_with (go_at_call 39; refine (specValid_is false _ _ hs hv).mono ?_; rintro e w1 ⟨rfl, rfl⟩)
  go_ret
  exact ⟨rfl, rfl⟩

/-- what both answer -/
def mirOut (l : List UInt8) : ByteArray := if valid l then ⟨(mirrorL l).toArray⟩ else ⟨#[]⟩
theorem implMirror_any (s : ByteArray) (w : World) (hs : s.size ≤ maxLen) :
    Calls Try.prog 30 #[.string s] w fun e w' => e = .returned (.string (mirOut s.data.toList)) ∧ Below w.heap.size w w' := by
  cases hv : valid s.data.toList with
  | true => rw [mirOut, if_pos hv]; exact implMirror_yes s w hv
  | false => rw [mirOut, if_neg (by rw [hv]; decide)]; exact implMirror_no s w hs hv
theorem specMirrorOf_any (s : ByteArray) (w : World) (hs : s.size ≤ maxLen) :
    Calls Try.prog 31 #[.string s] w fun e w' => e = .returned (.string (mirOut s.data.toList)) ∧ w = w' := by
  cases hv : valid s.data.toList with
  | true => rw [mirOut, if_pos hv]; exact specMirror_yes s w hv
  | false => rw [mirOut, if_neg (by rw [hv]; decide)]; exact specMirror_no s w hs hv
end Go.Proofs.Ytpphilladlladaa
