/-
  The contracts of the law's helpers that mark a list of rows, and that find the marks again.
-/
import Derived.Test.YtnepfbellbmgeaaCInts
import Derived.Test.YtnepfbellbmgeaaZW
namespace Go.Proofs.Ytnepfbellbmgeaa
open Go.RowKit

/-- j marks set -/
def mkF (s : Nat) (l : List Int) (j : Nat) : List Int := (List.range j).map (fun (i : Nat) => (s : Int) + i) ++ l.drop j
theorem mkF_zero (s : Nat) (l : List Int) : mkF s l 0 = l := by simp [mkF]
theorem mkF_length (s : Nat) (l : List Int) (j : Nat) (h : j ≤ l.length) : (mkF s l j).length = l.length := by simp [mkF]; omega
theorem mkF_set (s : Nat) (l : List Int) (j : Nat) (h : j < l.length) : (mkF s l j).set j ((s : Int) + j) = mkF s l (j + 1) := by
  simp only [mkF]
  rw [List.set_append_right _ _ (by simp), List.length_map, List.length_range, Nat.sub_self, List.drop_eq_getElem_cons h, List.set_cons_zero, List.range_succ, List.map_append, List.append_assoc]
  rfl
/-- n marks -/
def marksF (s n : Nat) : List Int := (List.range n).map fun (i : Nat) => (s : Int) + i
theorem mkF_full (s : Nat) (l : List Int) : mkF s l l.length = marksF s l.length := by simp [mkF, marksF]
theorem marksF_length (s n : Nat) : (marksF s n).length = n := by simp [marksF]
theorem marksF_at (s n k : Nat) (h : k < n) : (iv (marksF s n))[k]? = some (.int .i64 ((s : Int) + k)) := by simp [iv, marksF, h]

set_option maxHeartbeats 800000 in
theorem markInts_from (s : Nat) (hs : s ≤ 1125899906842624) (l : List Int) (u : Value) (w : World) {B H : Nat} (hu : Hid (Own w B H 3 u (iv l))) (hl : l.length ≤ 1048576) :
    Calls Try.prog 17 #[u, .int .i64 s] w fun e w' => e = .returned (.int .i64 ((s : Int) + l.length)) ∧ Own w' B H 3 u (iv (marksF s l.length)) ∧ w.grownBy w' u.ownBlock ∧ w'.heap.size = w.heap.size := by
  obtain ⟨au, cu, rfl, hnone, hcu, hcm, hsome⟩ := hu.out.slice
  rw [iv_length] at hu hcu hnone ⊢
  go_enter Try.func17, Try.ntmps17
  go_wp2
  have Hsome := Lib.hid hsome
  have Hnone := Lib.hid hnone
  clear hsome hnone
  go_loopw [1, 5] (fun m i wr => ∃ k : Nat, k ≤ l.length ∧ i = .int .i64 k ∧ m = .int .i64 ((s : Int) + k) ∧ Hid (Own wr B H 3 (.slice au l.length cu) (iv (mkF s l k)) ∧ w.grownBy wr (Value.slice au l.length cu).ownBlock ∧ wr.heap.size = w.heap.size)) (fun _ i _ => l.length - (intOf i).toNat)
  case atStart => exact ⟨0, Nat.zero_le _, rfl, rfl, by rw [mkF_zero]; exact ⟨hu.out, ⟨rfl, rfl, rfl, Nat.le_refl _, fun _ _ _ => rfl⟩, rfl⟩⟩
  case round =>
    obtain ⟨k, hk, rfl, rfl, HS⟩ := hrel
    by_cases hlt : k < l.length
    · obtain ⟨g1, rfl, hB, _, h1, f1⟩ := HS.out.1.at_ k (by rw [iv_length, mkF_length s l k hk]; exact hlt)
      rw [iv_at (mkF s l k) k (by rw [mkF_length s l k hk]; exact hlt)] at h1
      have b1 : (k : Int) < (l.length : Int) := by omega
      have HS' : Hid (Own (wr.setCell ⟨g1, k, none⟩ (.int .i64 ((s : Int) + k))) B H 3 (.slice (some ⟨g1, 0, none⟩) l.length cu) (iv (mkF s l (k + 1))) ∧ w.grownBy (wr.setCell ⟨g1, k, none⟩ (.int .i64 ((s : Int) + k))) (Value.slice (some ⟨g1, 0, none⟩) l.length cu).ownBlock ∧ (wr.setCell ⟨g1, k, none⟩ (.int .i64 ((s : Int) + k))).heap.size = w.heap.size) := by
        obtain ⟨ho, hg, hz⟩ := HS.out
        have hlen : (iv (mkF s l k)).length = l.length := by rw [iv_length, mkF_length s l k hk]
        have ho1 := ho.1
        rw [hlen] at ho1
        have st := ho1.stored k (.int .i64 ((s : Int) + k))
        rw [iv_set, mkF_set s l k hlt] at st
        refine ⟨⟨by rw [iv_length, mkF_length s l (k + 1) hlt]; exact st.1, ho.2⟩, ⟨hg.os, hg.tape, hg.output, by have := hg.size; simpa using this, fun q hq hne => ?_⟩, by simpa using hz⟩
        rw [Below.heap_setCell _ _ _ _ (fun e => hne (by simp [Value.ownBlock, e]))]
        exact hg.block q hq hne
      clear HS
      go_wp2
      go_roundw
      case rel => exact ⟨k + 1, by omega, by go_num, by go_num, HS'⟩
      case measure => simp [intOf]; omega
    · obtain rfl : k = l.length := by omega
      go_wp2
      go_ret
      exact ⟨rfl, by rw [← mkF_full s]; exact HS.out.1, HS.out.2⟩

set_option maxHeartbeats 800000 in
theorem heldInts_from (s : Nat) (hs : s ≤ 1125899906842624) (n : Nat) (u : Value) (w : World) {B H : Nat} (hu : Hid (Own w B H 3 u (iv (marksF s n)))) (hl : n ≤ 1048576) :
    Calls Try.prog 18 #[u, .int .i64 s] w fun e w' => e = .returned (.int .i64 ((s : Int) + n)) ∧ w = w' := by
  obtain ⟨au, cu, rfl, hnone, hcu, hcm, hsome⟩ := hu.out.slice
  rw [iv_length, marksF_length] at hu hcu hnone ⊢
  go_enter Try.func18, Try.ntmps18
  go_wp2
  clear hsome hnone
  go_loop [1, 5] (fun m i => ∃ k : Nat, k ≤ n ∧ i = .int .i64 k ∧ m = .int .i64 ((s : Int) + k)) (fun _ i => n - (intOf i).toNat)
  case atStart => exact ⟨0, Nat.zero_le _, rfl, rfl⟩
  case round =>
    obtain ⟨k, hk, rfl, rfl⟩ := hrel
    by_cases hlt : k < n
    · obtain ⟨g1, rfl, hB, _, h1, f1⟩ := hu.out.at_ k (by rw [iv_length, marksF_length]; exact hlt)
      rw [marksF_at s n k hlt] at h1
      have b1 : (k : Int) < (n : Int) := by omega
      go_wp2
      go_round
      case rel => exact ⟨k + 1, by omega, by go_num, by go_num⟩
      case measure => simp [intOf]; omega
    · obtain rfl : k = n := by omega
      go_wp2
      go_ret
      exact ⟨rfl, rfl⟩

/-- how many numbers the first j rows hold -/
def offs (rows : List (List Int)) : Nat → Nat
  | 0 => 0
  | j + 1 => offs rows j + (rows.getD j []).length
theorem offs_le (rows : List (List Int)) (j : Nat) : ∀ d, offs rows j ≤ offs rows (j + d) := by
  intro d
  induction d with
  | zero => exact Nat.le_refl _
  | succ d ih => rw [Nat.add_succ, offs]; omega
theorem offs_mono (rows : List (List Int)) {j n : Nat} (h : j ≤ n) : offs rows j ≤ offs rows n := by
  have := offs_le rows j (n - j)
  rwa [show j + (n - j) = n by omega] at this
/-- what row j holds when the first i are marked -/
def rowC (s : Nat) (rows : List (List Int)) (i j : Nat) : List Int := if j < i then marksF (s + offs rows j) (rows.getD j []).length else rows.getD j []
def rowM (s : Nat) (rows : List (List Int)) (i : Nat) : List (List Int) := (List.range rows.length).map (rowC s rows i)
theorem rowM_length (s : Nat) (rows : List (List Int)) (i : Nat) : (rowM s rows i).length = rows.length := by simp [rowM]
theorem rowM_at (s : Nat) (rows : List (List Int)) (i j : Nat) (h : j < rows.length) : (rowM s rows i)[j]? = some (rowC s rows i j) := by simp [rowM, h]
theorem rowM_zero (s : Nat) (rows : List (List Int)) : rowM s rows 0 = rows := by
  apply List.ext_getElem?
  intro j
  by_cases h : j < rows.length
  · rw [rowM_at s rows 0 j h, rowC, if_neg (by omega), List.getD_eq_getElem?_getD, List.getElem?_eq_getElem h]; rfl
  · rw [List.getElem?_eq_none (by rw [rowM_length]; omega), List.getElem?_eq_none (by omega)]
/-- nothing has turned but what the rows hold -/
structure Spots (w w' : World) (RV : List Value) : Prop where
  os : w'.os = w.os
  tape : w'.tape = w.tape
  output : w'.output = w.output
  size : w'.heap.size = w.heap.size
  block : ∀ q, q < w.heap.size → (∀ u ∈ RV, u.ownBlock ≠ some q) → w'.heap[q]? = w.heap[q]?
theorem Spots.refl (w : World) (RV : List Value) : Spots w w RV := ⟨rfl, rfl, rfl, rfl, fun _ _ _ => rfl⟩
theorem Spots.step {w w1 w2 : World} {RV : List Value} {u : Value} (h : Spots w w1 RV) (hu : u ∈ RV) (hg : w1.grownBy w2 u.ownBlock) (hz : w2.heap.size = w1.heap.size) : Spots w w2 RV :=
  ⟨hg.os.trans h.os, hg.tape.trans h.tape, hg.output.trans h.output, hz.trans h.size, fun q hq hn => (hg.block q (by rw [h.size]; exact hq) (fun e => hn u hu e.symm)).trans (h.block q hq hn)⟩
theorem Spots.below {w w' : World} {RV : List Value} (h : Spots w w' RV) {B : Nat} (hB : B ≤ w.heap.size) (hr : ∀ u ∈ RV, ∀ q, u.ownBlock = some q → B ≤ q) : Below B w w' :=
  ⟨h.os, h.tape, h.output, Nat.le_of_eq h.size.symm, fun q hq => h.block q (by omega) (fun u hu e => by have := hr u hu q e; omega)⟩
theorem Own.spots {w w' : World} {RV : List Value} {B H : Nat} {t : TypeId} {v : Value} {xs : List Value} (h : Own w B H t v xs) (hs : Spots w w' RV) (hne : ∀ u ∈ RV, v.ownBlock = none ∨ v.ownBlock ≠ u.ownBlock) : Own w' B H t v xs :=
  ⟨own_of_blocks h.1 (fun q hq => hs.block q (h.1.lt q hq).2 (fun u hu e => by
    rcases hne u hu with h0 | h0
    · rw [h0] at hq; cases hq
    · exact h0 (hq.trans e.symm))), h.2⟩
theorem rows_mark {w w' : World} {B H s i : Nat} {RV : List Value} {rows : List (List Int)} {u : Value} (h : RowsI w B H RV (rowM s rows i)) (hd : Dist RV) (hi : i < rows.length) (hu : RV[i]? = some u)
    (ho : Own w' B H 3 u (iv (marksF (s + offs rows i) (rows.getD i []).length))) (hg : w.grownBy w' u.ownBlock) : RowsI w' B H RV (rowM s rows (i + 1)) := by
  refine ⟨by rw [h.1, rowM_length, rowM_length], fun j v r h1 h2 => ?_⟩
  have hj : j < rows.length := by
    apply Classical.byContradiction
    intro e
    rw [List.getElem?_eq_none (by rw [rowM_length]; omega)] at h2
    cases h2
  rw [rowM_at s rows (i + 1) j hj] at h2
  cases h2
  by_cases e : j = i
  · subst e
    rw [hu] at h1
    cases h1
    rw [rowC, if_pos (by omega)]
    exact ho
  · have e1 : rowC s rows (i + 1) j = rowC s rows i j := by
      unfold rowC
      by_cases hl : j < i
      · rw [if_pos (by omega), if_pos hl]
      · rw [if_neg (by omega), if_neg hl]
    rw [e1]
    refine (h.2 j v _ h1 (rowM_at s rows i j hj)).grown hg ?_
    by_cases hl : j < i
    · exact hd j i v u hl h1 hu
    · rcases hd i j u v (by omega) hu h1 with h0 | h0
      · rw [h0]
        cases v.ownBlock with
        | none => exact .inl rfl
        | some q => exact .inr (by simp)
      · exact .inr (fun h => h0 h.symm)

set_option maxHeartbeats 400000 in
theorem markRows_any (s : Nat) (rows : List (List Int)) (v : Value) (RV : List Value) (w : World) {B H : Nat} (hG : Hid (Grid w B H v RV rows)) (hd : Dist RV) (hs : s + offs rows rows.length ≤ 1125899906842624) (hl : rows.length ≤ 1048576) (hr : ∀ r ∈ rows, r.length ≤ 1048576) :
    Calls Try.prog 16 #[v, .int .i64 s] w fun e w' => e = .returned (.int .i64 ((s : Int) + offs rows rows.length)) ∧ Grid w' B H v RV (rowM s rows rows.length) ∧ Spots w w' RV := by
  obtain ⟨au, cu, rfl, _, hcu, _, _⟩ := hG.out.1.slice
  have lu := hG.out.2.1
  rw [lu] at hG hcu ⊢
  have LU := Lib.hid lu
  have HR := Lib.hid hr
  have HD := Lib.hid hd
  have HS := Lib.hid hs
  clear lu hr hd hs
  go_enter Try.func16, Try.ntmps16
  go_wp2
  go_loopw [1, 5] (fun m i wr => ∃ k : Nat, k ≤ rows.length ∧ i = .int .i64 k ∧ Hid (m = .int .i64 ((s : Int) + offs rows k)) ∧ Hid (Grid wr B H (.slice au rows.length cu) RV (rowM s rows k) ∧ Spots w wr RV)) (fun _ i _ => rows.length - (intOf i).toNat)
  case atStart => exact ⟨0, Nat.zero_le _, rfl, by simp [offs, Hid], by rw [rowM_zero]; exact ⟨hG.out, Spots.refl _ _⟩⟩
  case round =>
    obtain ⟨k, hk, rfl, HM, HQ⟩ := hrel
    have hm := HM.out
    subst hm
    by_cases hlt : k < rows.length
    · obtain ⟨g1, rfl, _, _, h1, _⟩ := HQ.out.1.1.at_ k (by rw [LU.out]; exact hlt)
      obtain ⟨x, hx, ox⟩ := HQ.out.1.2.at_ k (by rw [rowM_length]; exact hlt)
      rw [hx] at h1
      have hc : (rowM s rows k)[k]'(by rw [rowM_length]; exact hlt) = rows.getD k [] := by
        have := rowM_at s rows k k hlt
        rw [List.getElem?_eq_getElem (by rw [rowM_length]; exact hlt)] at this
        rw [Option.some.inj this, rowC, if_neg (by omega)]
      rw [hc] at ox
      have hrk : (rows.getD k []).length ≤ 1048576 := by
        rw [List.getD_eq_getElem?_getD, List.getElem?_eq_getElem hlt]
        exact HR.out _ (List.getElem_mem hlt)
      obtain ⟨row, hrow⟩ : ∃ row, row = rows.getD k [] := ⟨_, rfl⟩
      rw [← hrow] at ox hrk
      have ho1 := offs_mono rows (show k ≤ rows.length by omega)
      have ho2 := HS.out
      have C1 := Lib.hid (markInts_from (s + offs rows k) (by omega) row x wr (Lib.hid ox) hrk)
      have e0 : ((s + offs rows k : Nat) : Int) = (s : Int) + offs rows k := by omega
      have e3 : ((s : Int) + offs rows k) + row.length = (s : Int) + offs rows (k + 1) := by rw [offs, hrow]; omega
      rw [e0, e3] at C1
      obtain ⟨X, hX⟩ : ∃ X, X = (s : Int) + offs rows k := ⟨_, rfl⟩
      obtain ⟨Y, hY⟩ : ∃ Y, Y = (s : Int) + offs rows (k + 1) := ⟨_, rfl⟩
      rw [← hX] at C1 ⊢
      rw [← hY] at C1
      have HY := Lib.hid hY
      have HX := Lib.hid hx
      have HROW := Lib.hid hrow
      have b1 : (k : Int) < (rows.length : Int) := by omega
      obtain ⟨ax, cx, rfl, _⟩ := ox.slice
      have HOX := Lib.hid ox
      clear hx hc hrk ho1 ho2 e0 e3 hX hY ox hrow
      go_wp2_with fail
      refine C1.out.mono ?_
      rintro e w2 ⟨rfl, o2, g2, z2⟩
      have o3 : Own w2 B H 3 (.slice ax (iv row).length cx) (iv (marksF (s + offs rows k) (rows.getD k []).length)) := by rw [← HROW.out]; exact o2
      have R : Hid (Grid w2 B H (.slice (some ⟨g1, 0, none⟩) rows.length cu) RV (rowM s rows (k + 1)) ∧ Spots w w2 RV) := by
        refine ⟨⟨HQ.out.1.1.grown g2 (HQ.out.1.1.ne HOX.out (by decide)), rows_mark HQ.out.1.2 HD.out hlt HX.out o3 g2⟩, HQ.out.2.step (List.mem_of_getElem? HX.out) g2 z2⟩
      clear o2 g2 z2
      go_wp2
      go_roundw
      case rel => exact ⟨k + 1, by omega, by go_num, by rw [HY.out]; rfl, R⟩
      case measure => simp [intOf]; omega
    · obtain rfl : k = rows.length := by omega
      go_wp2
      go_ret
      exact ⟨rfl, HQ.out⟩

end Go.Proofs.Ytnepfbellbmgeaa
