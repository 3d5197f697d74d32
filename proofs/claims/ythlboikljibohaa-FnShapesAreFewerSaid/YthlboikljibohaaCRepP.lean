/-
  The library's slices.Repeat at one number that is 1: so many ones.
-/
import Derived.Test.YthlboikljibohaaCSortP
import Derived.Laws.CopyOwn
import Derived.Deep.RegionLaw
namespace Go.Proofs.Ythlboikljibohaa
open Go.RowKit

/-- k ones of n -/
def rowR (n k : Nat) : List Value := List.replicate k (.int .i64 1) ++ List.replicate (n - k) (.int .i64 0)
theorem rowR_length {n k : Nat} (h : k ≤ n) : (rowR n k).length = n := by simp [rowR]; omega
theorem rowR_splice {n k m : Nat} (h : k + m ≤ n) : splice (rowR n k) k (List.replicate m (.int .i64 1)) = rowR n (k + m) := by
  unfold splice rowR
  rw [List.take_left' (by simp), List.length_replicate]
  have e1 : (List.replicate k (Value.int .i64 1) ++ List.replicate (n - k) (Value.int .i64 0)).drop (k + m) = List.replicate (n - (k + m)) (.int .i64 0) := by
    rw [List.drop_append, List.drop_replicate, List.drop_replicate, List.length_replicate, show k - (k + m) = 0 by omega, show n - k - (k + m - k) = n - (k + m) by omega]
    rfl
  rw [e1, ← List.append_assoc, List.replicate_append_replicate]
theorem rowR_ones (n : Nat) : rowR n n = degV n (fun _ => 1) := by
  unfold rowR
  apply List.ext_getElem?
  intro j
  by_cases hj : j < n
  · rw [degV_at _ hj, List.getElem?_append_left (by simpa using hj), List.getElem?_replicate, if_pos hj]; rfl
  · rw [List.getElem?_eq_none (by simp; omega), List.getElem?_eq_none (by rw [degV_length]; omega)]
theorem one_src {w : World} {g : Nat} {x : Value} (h : w.cell? ⟨g, 0, none⟩ = some x) : ∀ j v, [x][j]? = some v → w.cell? ((⟨g, 0, none⟩ : Addr).add j) = some v := by
  intro j v hv
  match j, hv with
  | 0, hv => simp at hv; subst hv; exact h
theorem full_of_own {w : World} {B g n : Nat} {t : TypeId} {xs : List Value} (h : w.ownsRow B t 1 (.slice (some ⟨g, 0, none⟩) n n) n xs) : w.heap[g]? = some (.cells xs.toArray t (0, 0)) := by
  rcases h.2 with ⟨h0, _⟩ | ⟨g', cap, cur, hv, _, h2, _, _, h5, h6⟩
  · cases h0
  · simp only [Value.slice.injEq, Option.some.injEq, Addr.mk.injEq] at hv
    obtain ⟨⟨rfl, _⟩, _, rfl⟩ := hv
    rw [h2]
    have : cur.toList = xs := by rw [← h6]; exact (List.take_of_length_le (by simp; omega)).symm
    rw [← this]
set_option maxHeartbeats 1600000 in
set_option maxRecDepth 100000 in
theorem repeat_p (N g : Nat) (w : World) (hc : w.cell? ⟨g, 0, none⟩ = some (.int .i64 1)) (hN : 2 ≤ N ∧ N ≤ 7) :
    Calls Try.prog 57 #[.slice (some ⟨g, 0, none⟩) 1 1, .int .i64 (N : Int)] w fun e w' => ∃ G, e = .returned (.slice (some ⟨G, 0, none⟩) N N) ∧ Dg w w' w.heap.size G N (fun _ => 1) := by
  obtain ⟨i0, hi, hz0, hz1, hz2⟩ := info_parts Try.infoIntR
  have CM := fun W => Try.bits_Mul 1 N (by omega) (by omega) W
  rw [show (1 * N / 18446744073709551616 : Nat) = 0 by omega, show (1 * N % 18446744073709551616 : Nat) = N by omega] at CM
  have CM := Lib.hid CM
  have n0 : ¬ ((N : Int) < 0) := by omega
  have n1 : IntKind.u64.wrap (N : Int) = (N : Int) := by rw [IntKind.wrap_u64]; omega
  have n2 : ¬ (9223372036854775807 < (N : Int)) := by omega
  have n3 : IntKind.i64.wrap (N : Int) = (N : Int) := by rw [IntKind.wrap_i64]; omega
  obtain ⟨hN2, hN7⟩ := hN
  have hg : g < w.heap.size := World.block_lt_of_cell? w _ hc
  go_enter Try.func57, Try.ntmps57
  go_wp2_with fail
  refine (CM.out w).mono ?_
  rintro e w1 ⟨rfl, rfl⟩
  go_wp2_with (at_make; refine wpList_make_full _ rfl _ _ 34 rfl w1.heap.size 3 i0 (.int .i64 0) 1 Try.underlying34 hi hz0 hz1 _ _ _ _ N rfl rfl rfl rfl ?b2 ?b3 (Nat.le_refl _) ?_)
  case b2 => rw [hz2]; omega
  case b3 => unfold maxLen; omega
  intro w2 hown hgrow
  have hb2 : Below w1.heap.size w1 w2 := (Below.refl _ _).grown hgrow (Nat.le_refl _) (fun k hk => by cases hk)
  rw [show (madeCells #[Value.int .i64 0] N).toList = List.replicate N (Value.int .i64 0) from toList_madeCells_one _ _] at hown
  have hc2 : w2.cell? ⟨g, 0, none⟩ = some (.int .i64 1) := (hb2.cell (p := ⟨g, 0, none⟩) hg).trans hc
  obtain ⟨G, hGe⟩ : ∃ G, G = w1.heap.size := ⟨_, rfl⟩
  rw [← hGe] at hown hb2 ⊢
  have F0 : Hid (w2.heap[G]? = some (.cells (rowR N 0).toArray 3 (0, 0))) := full_of_own hown
  have HGe := Lib.hid hGe
  have HB2 := Lib.hid hb2
  have gne : Hid (g ≠ G) := by show _ ≠ _; omega
  clear hown hgrow hb2 hGe hc CM
  have q1 : Hid ([Value.int .i64 1].length = Nat.min 1 N) := show 1 = Nat.min 1 N from (Nat.min_eq_left (by omega)).symm
  have q2 : Hid (0 + [Value.int .i64 1].length ≤ (rowR N 0).length) := by rw [rowR_length (by omega)]; show 1 ≤ N; omega
  go_wp2_with (refine wpList_copy_splice (o := ⟨some 33, _, _, _, _, _⟩) rfl (.tmp 31) (.tmp 32) 34 34 rfl 3 Try.underlying34 (by kernel_rfl) (some ⟨G, 0, none⟩) (some ⟨g, 0, none⟩) N N 1 1 rfl rfl G 0 (rowR N 0) 3 F0.out [.int .i64 1] q1.out (fun _ => ⟨rfl, _, rfl, one_src hc2⟩) q2.out (one_intR _) G w1 HB2.out (Nat.le_refl _) ?_)
  intro w3 F1 hb3
  have F1 : Hid (w3.heap[G]? = some (.cells (rowR N 1).toArray 3 (0, 0))) := by
    have := F1.out
    rw [show [Value.int .i64 1] = List.replicate 1 (.int .i64 1) from rfl, rowR_splice (by omega)] at this
    exact this
  have HB3 := Lib.hid hb3
  clear hc2 F0 HB2 q1 q2 hb3
  go_wp2
  go_loopw [8] (fun i wr => ∃ k : Nat, 1 ≤ k ∧ k ≤ N ∧ i = .int .i64 (k : Int) ∧ Hid (wr.heap[G]? = some (.cells (rowR N k).toArray 3 (0, 0))) ∧ Hid (Below G w1 wr)) (fun i _ => N - (intOf i).toNat)
  case atStart => exact ⟨1, Nat.le_refl _, by omega, rfl, F1, HB3⟩
  case round =>
    clear F1 HB3
    obtain ⟨k, hk1, hk, rfl, HF, HB⟩ := hrel
    by_cases hlt : k < N
    · have b1 : (k : Int) < (N : Int) := by omega
      obtain ⟨m, hm⟩ : ∃ m, m = Nat.min k (N - k) := ⟨_, rfl⟩
      have hm1 : m = min k (N - k) := hm
      have hm2 : k + m ≤ N ∧ 1 ≤ m ∧ m ≤ k := by omega
      have q1 : Hid ((List.replicate m (Value.int .i64 1)).length = Nat.min k (N - k)) := by show _ = _; rw [List.length_replicate, hm]
      have q2 : Hid (k + (List.replicate m (Value.int .i64 1)).length ≤ (rowR N k).length) := by show _ ≤ _; rw [List.length_replicate, rowR_length hk]; omega
      have q3 : Hid (∀ j v, (List.replicate m (Value.int .i64 1))[j]? = some v → wr.cell? ((⟨G, 0, none⟩ : Addr).add j) = some v) := fun j v hv => by
        have hj : j < m := by have := (List.getElem?_eq_some_iff.1 hv).1; rwa [List.length_replicate] at this
        rw [List.getElem?_replicate, if_pos hj] at hv
        rw [show (⟨G, 0, none⟩ : Addr).add j = ⟨G, j, none⟩ by simp [Addr.add_lit], cell_of_row wr G j _ _ _ HF.out]
        have : (rowR N k)[j]? = some (.int .i64 1) := by
          unfold rowR
          rw [List.getElem?_append_left (by simp; omega), List.getElem?_replicate, if_pos (by omega)]
        rw [← hv]
        simpa using this
      have q4 : Hid (∀ v ∈ List.replicate m (Value.int .i64 1), v.oneCell' = true) := fun v hv => by rw [(List.mem_replicate.1 hv).2]; rfl
      have SP := Lib.hid (rowR_splice (n := N) hm2.1)
      have SL : (List.replicate m (Value.int .i64 1)).length = m := List.length_replicate
      have HM := Lib.hid hm2
      obtain ⟨cs, hcs⟩ : ∃ cs, cs = List.replicate m (Value.int .i64 1) := ⟨_, rfl⟩
      rw [← hcs] at q1 q2 q3 q4 SP SL
      have SL := Lib.hid SL
      have HBd : Hid (Below G w1 wr.drew) := Below.drew HB.out
      have nk : ¬ N = k := by omega
      have i1 : (0 : Int) ≤ (k : Int) := by omega
      have i2 : (k : Int) ≤ (N : Int) := by omega
      have i3 : IntKind.i64.wrap ((k : Int) + (m : Int)) = (k : Int) + (m : Int) := by rw [IntKind.wrap_i64]; omega
      clear hcs hm hm1 hm2
      go_wp2
      go_region_law (first
        | (refine step_copy_splice ?gd (.tmp 41) (.tmp 44) 34 34 ?ho 3 Try.underlying34 (by kernel_rfl) (some ⟨G, k, none⟩) (some ⟨G, 0, none⟩) (N - k) (N - k) k N ?hd ?hs G k (rowR N k) 3 HF.out cs q1.out (fun _ => ⟨rfl, _, rfl, q3.out⟩) q2.out q4.out G w1 HBd.out (Nat.le_refl _) ?_
           case gd => rfl
           case ho => rfl
           case hd => kernel_rfl
           case hs => kernel_rfl
           intro w4 hg4 hb4
           rw [SL.out]))
      all_goals
        have F4 : Hid (w4.heap[G]? = some (.cells (rowR N (k + m)).toArray 3 (0, 0))) := by
          have := hg4.out
          rw [SP.out] at this
          exact this
        have HB4 := Lib.hid hb4
        clear hg4 hb4 HF HB q1 q2 q3 q4 SP
        go_simp
        go_wp2
        go_roundw
        case rel => exact ⟨k + m, by omega, HM.out.1, by go_num, F4, HB4⟩
        case measure => have := HM.out; simp [intOf]; omega
    · obtain rfl : k = N := by omega
      go_wp2
      go_ret
      refine ⟨G, rfl, own_of_full (by omega) (by unfold maxLen; omega) (degV_length _ _) ?_, by rw [← HGe.out]; exact HB.out, by rw [HGe.out]; exact Nat.le_refl _⟩
      rw [← rowR_ones]; exact HF.out
end Go.Proofs.Ythlboikljibohaa
