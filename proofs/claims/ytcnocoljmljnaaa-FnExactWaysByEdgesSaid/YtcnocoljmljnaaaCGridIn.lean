/-
  Rows of numbers that came in: how they lie; the contracts of the law's own helpers that measure and copy them.
-/
import Derived.Test.YtcnocoljmljnaaaCToInts
import Derived.Test.YtcnocoljmljnaaaZW
import Derived.Test.YtcnocoljmljnaaaCFam
namespace Go.Proofs.Ytcnocoljmljnaaa
open Go.RowKit

/-- what is told of a slice of rows of numbers that came in -/
def IsRows (w : World) (a : Option Addr) (len cap : Nat) (A : Nat → Option Addr) (L C : Nat → Nat) (Z : Nat → List Int) : Prop :=
  (a = none ∧ len = 0 ∧ cap = 0) ∨
  ∃ x : Addr, a = some x ∧ len ≤ cap ∧ cap ≤ maxLen ∧ ∀ r, r < len → w.cell? (x.add r) = some (.slice (A r) (L r) (C r)) ∧ L r ≤ maxLen ∧ IsRow .i64 w (A r) (L r) (C r) (Z r)
section
variable {w w' : World} {a : Option Addr} {len cap : Nat} {A : Nat → Option Addr} {L C : Nat → Nat} {Z : Nat → List Int}
theorem IsRows.below (h : IsRows w a len cap A L C Z) (hb : Below w.heap.size w w') : IsRows w' a len cap A L C Z := by
  rcases h with h | ⟨x, h1, h2, h3, h4⟩
  · exact .inl h
  · refine .inr ⟨x, h1, h2, h3, fun r hr => ?_⟩
    obtain ⟨h5, h6, h7⟩ := h4 r hr
    exact ⟨(hb.cell (World.block_lt_of_cell? w _ h5)).trans h5, h6, h7.below hb⟩
theorem IsRows.at_ (h : IsRows w a len cap A L C Z) (r : Nat) (hr : r < len) : ∃ b off, a = some ⟨b, off, none⟩ ∧ w.cell? ⟨b, off + r, none⟩ = some (.slice (A r) (L r) (C r)) ∧ L r ≤ maxLen ∧ IsRow .i64 w (A r) (L r) (C r) (Z r) := by
  rcases h with ⟨_, h0, _⟩ | ⟨x, h1, h2, h3, h4⟩
  · omega
  · obtain ⟨b, off, spot⟩ := x
    obtain ⟨h5, h6, h7⟩ := h4 r hr
    have hspot : spot = none := by simpa [Addr.add] using World.cell?_spot (h4 0 (by omega)).1
    subst hspot
    exact ⟨b, off, h1, by rwa [Addr.add_lit] at h5, h6, h7⟩
theorem IsRows.caps (h : IsRows w a len cap A L C Z) : len ≤ cap ∧ cap ≤ maxLen := by
  rcases h with ⟨_, h0, h1⟩ | ⟨x, h1, h2, h3, _⟩
  · subst h0; subst h1; exact ⟨Nat.le_refl _, Nat.zero_le _⟩
  · exact ⟨h2, h3⟩
end

theorem isRows_open (x : Addr) (len cap : Nat) (A : Nat → Option Addr) (L C : Nat → Nat) (Z : Nat → List Int) (w : World) (hl : len ≤ cap) (hm : cap ≤ maxLen)
    (h : ∀ r, r < cap → w.cell? (x.add r) = some (.slice (A r) (L r) (C r)) ∧ L r ≤ C r ∧ C r ≤ maxLen ∧ (Z r).length = C r ∧ (∀ n ∈ Z r, (Lit.int .i64 n).wf = true) ∧ (A r = none → C r = 0) ∧
      ∀ a', A r = some a' → 0 ≤ a'.block ∧ ∀ c, c < C r → w.cell? (a'.add c) = some (.int .i64 ((Z r).getD c 0))) : IsRows w (some x) len cap A L C Z := by
  refine .inr ⟨x, rfl, hl, hm, fun r hr => ?_⟩
  obtain ⟨h1, h2, h3, h4, h5, h6, h7⟩ := h r (by omega)
  refine ⟨h1, by omega, ?_⟩
  cases hA : A r with
  | none =>
    have hc := h6 hA
    exact .inl ⟨rfl, by omega, hc, List.eq_nil_of_length_eq_zero (by omega)⟩
  | some a' => exact .inr ⟨a', rfl, h2, h3, h4, fun i hi => (h7 a' hA).2 i (by omega), h5⟩
theorem szInt_any (a : Option Addr) (n c : Nat) (m : Nat) (w : World) (hn : n ≤ maxLen) (hm : m ≤ 1048576) :
    Calls Try.prog 24 #[.slice a n c, .int .i64 m] w fun e w' => e = .returned (.int .i64 (if m < n then -1 else (m : Int) - n)) ∧ w' = w := by
  unfold maxLen at hn
  by_cases h : m < n
  · rw [if_pos h]
    have h1 : (m : Int) - (n : Int) < 0 := by omega
    go_enter Try.func24, Try.ntmps24
    go_wp2
    go_ret
    exact ⟨rfl, rfl⟩
  · rw [if_neg h]
    have h1 : ¬ ((m : Int) - (n : Int) < 0) := by omega
    go_enter Try.func24, Try.ntmps24
    go_wp2
    go_ret
    exact ⟨rfl, rfl⟩

set_option maxHeartbeats 800000 in
theorem szRows_any (a : Option Addr) (len cap : Nat) (A : Nat → Option Addr) (L C : Nat → Nat) (Z : Nat → List Int) (w : World) (hr : Hid (IsRows w a len cap A L C Z)) :
    Calls Try.prog 9 #[.slice a len cap, .int .i64 1048576] w fun e w' => ∃ z : Int, e = .returned (.int .i64 z) ∧ (0 ≤ z → len ≤ 1048576 ∧ ∀ r, r < len → L r ≤ 1048576) ∧ w' = w := by
  have hcap := hr.out.caps
  have hmax : len ≤ 9223372036854775807 := by unfold maxLen at hcap; omega
  by_cases h : 1048576 < len
  · have h1 : (1048576 : Int) - (len : Int) < 0 := by omega
    go_enter Try.func9, Try.ntmps9
    go_wp2
    go_ret
    exact ⟨-1, rfl, fun h => by omega, rfl⟩
  · have h1 : ¬ ((1048576 : Int) - (len : Int) < 0) := by omega
    go_enter Try.func9, Try.ntmps9
    go_wp2
    go_loopw [1, 5] (fun m i wr => ∃ k m' : Nat, k ≤ len ∧ m' ≤ 1048576 ∧ m = .int .i64 m' ∧ i = .int .i64 k ∧ Hid (∀ r, r < k → L r ≤ 1048576) ∧ wr = w) (fun _ i _ => len - (intOf i).toNat)
    case atStart => exact ⟨0, 1048576 - len, Nat.zero_le _, by omega, by congr 1; omega, rfl, fun r hr => by omega, rfl⟩
    case round =>
      obtain ⟨k, m', hk, hm', rfl, rfl, HL, rfl⟩ := hrel
      by_cases hlt : k < len
      · obtain ⟨b, off, rfl, hc, hLk, _⟩ := hr.out.at_ k hlt
        have b1 : (k : Int) < (len : Int) := by omega
        obtain ⟨Ak, hAk⟩ : ∃ Ak, Ak = A k := ⟨_, rfl⟩
        obtain ⟨Lk, hL⟩ : ∃ Lk, Lk = L k := ⟨_, rfl⟩
        obtain ⟨Ck, hCk⟩ : ∃ Ck, Ck = C k := ⟨_, rfl⟩
        rw [← hAk, ← hL, ← hCk] at hc
        rw [← hL] at hLk
        have CS := Lib.hid (szInt_any Ak Lk Ck m' wr hLk hm')
        have HLE := Lib.hid hL
        clear hAk hCk hL
        by_cases hml : m' < Lk
        · rw [if_pos hml] at CS
          go_wp2_with fail
          refine CS.out.mono ?_
          rintro e w1 ⟨rfl, rfl⟩
          clear CS
          go_wp2
          go_ret
          exact ⟨-1, rfl, fun h => by omega, rfl⟩
        · rw [if_neg hml] at CS
          obtain ⟨m2, hm2⟩ : ∃ m2 : Nat, (m' : Int) - (Lk : Int) = m2 := ⟨m' - Lk, by omega⟩
          rw [hm2] at CS
          have hm3 : m2 ≤ 1048576 := by omega
          have HL2 : Hid (∀ r, r < k + 1 → L r ≤ 1048576) := fun r hr => by
            by_cases e : r = k
            · rw [e, ← HLE.out]; omega
            · exact HL.out r (by omega)
          clear hml hm2
          go_wp2_with fail
          refine CS.out.mono ?_
          rintro e w1 ⟨rfl, rfl⟩
          clear CS
          go_wp2
          go_roundw
          case rel => exact ⟨k + 1, m2, by omega, hm3, rfl, by go_num, HL2.out, by simp⟩
          case measure => simp [intOf]; omega
      · have b1 : (len : Int) ≤ (k : Int) := by omega
        have HL2 : Hid (∀ r, r < len → L r ≤ 1048576) := fun r hr => HL.out r (by omega)
        go_wp2
        go_ret
        exact ⟨m', rfl, fun _ => ⟨by omega, HL2.out⟩, rfl⟩

/-- the rows that are handed in -/
def rowsIn (len : Nat) (L : Nat → Nat) (Z : Nat → List Int) : List (List Int) := (List.range len).map fun r => (Z r).take (L r)
theorem rowsIn_length (len : Nat) (L : Nat → Nat) (Z : Nat → List Int) : (rowsIn len L Z).length = len := by simp [rowsIn]
theorem rowsIn_at (len : Nat) (L : Nat → Nat) (Z : Nat → List Int) (k : Nat) (h : k < len) : (rowsIn len L Z)[k]? = some ((Z k).take (L k)) := by simp [rowsIn, h]
/-- k rows are copied -/
structure Copd (wr : World) (G len k : Nat) (L : Nat → Nat) (Z : Nat → List Int) (RV : List Value) : Prop where
  own : wr.ownsRow G 29 1 (.slice (some ⟨G, 0, none⟩) len len) len RV
  len : RV.length = len
  rows : ∀ (i : Nat) (v : Value), i < k → RV[i]? = some v → Own wr G wr.heap.size 3 v (iv ((Z i).take (L i)))
  dist : ∀ (i j : Nat) (u v : Value), i < j → j < k → RV[i]? = some u → RV[j]? = some v → u.ownBlock = none ∨ u.ownBlock ≠ v.ownBlock

set_option maxHeartbeats 1600000 in
theorem toRowsD_any (a : Option Addr) (len cap : Nat) (A : Nat → Option Addr) (L C : Nat → Nat) (Z : Nat → List Int) (w : World) (hr : Hid (IsRows w a len cap A L C Z)) (hl : len ≤ 1048576) (hL : Hid (∀ r, r < len → L r ≤ 1048576)) :
    Calls Try.prog 11 #[.slice a len cap] w fun e w' => ∃ v RV, e = .returned v ∧ Grid w' w.heap.size w'.heap.size v RV (rowsIn len L Z) ∧ Dist RV ∧ Below w.heap.size w w' := by
  obtain ⟨i0, hi, hz0, hz1, hz2⟩ := info_parts Try.infoRowF
  obtain ⟨G, hG⟩ : ∃ G, G = w.heap.size := ⟨_, rfl⟩
  go_enter Try.func11, Try.ntmps11
  go_wp2_with (at_make; refine wpList_make_full _ rfl _ _ 22 rfl w.heap.size 29 i0 (.slice none 0 0) 1 Try.underlying22 hi hz0 hz1 _ _ _ _ len rfl rfl rfl rfl ?b2 ?b3 (Nat.le_refl _) ?_)
  case b2 => rw [hz2]; omega
  case b3 => unfold maxLen; omega
  intro w1 hown hgrow
  have hb1 : Below w.heap.size w w1 := (Below.refl _ _).grown hgrow (Nat.le_refl _) (fun k hk => by cases hk)
  rw [show (madeCells #[Value.slice none 0 0] len).toList = List.replicate len (.slice none 0 0) by rw [toList_madeCells_one], ← hG] at hown
  rw [← hG]
  have HG := Lib.hid hG
  have hGB : w.heap.size ≤ G := by omega
  have H0 : Hid (Copd w1 G len 0 L Z (List.replicate len (.slice none 0 0))) := ⟨hown, by simp, fun i v hi => by omega, fun i j u v hij hj => by omega⟩
  have HB1 := Lib.hid hb1
  clear hG hgrow hown hb1
  go_wp2
  go_loopw [4] (fun i wr => ∃ (k : Nat) (RV : List Value), k ≤ len ∧ i = .int .i64 k ∧ Hid (Copd wr G len k L Z RV) ∧ Hid (Below w.heap.size w wr)) (fun i _ => len - (intOf i).toNat)
  case atStart => exact ⟨0, _, Nat.zero_le _, rfl, H0, HB1⟩
  case round =>
    clear H0 HB1
    obtain ⟨k, RV, hk, rfl, H, HB⟩ := hrel
    by_cases hlt : k < len
    · obtain ⟨b, off, rfl, hc, hLk, hrow⟩ := (hr.out.below HB.out).at_ k hlt
      have b1 : (k : Int) < (len : Int) := by omega
      have ct := toInts_any (A k) (L k) (C k) (Z k) wr hrow (hL.out k hlt)
      obtain ⟨Ak, hAk⟩ : ∃ Ak, Ak = A k := ⟨_, rfl⟩
      obtain ⟨Lk, hLk2⟩ : ∃ Lk, Lk = L k := ⟨_, rfl⟩
      obtain ⟨Ck, hCk⟩ : ∃ Ck, Ck = C k := ⟨_, rfl⟩
      rw [← hAk, ← hLk2, ← hCk] at hc ct
      have HLK := Lib.hid hLk2
      have CT := Lib.hid ct
      clear hAk hLk2 hCk ct hrow hLk
      go_wp2_with fail
      refine CT.out.mono ?_
      rintro e w2 ⟨v, rfl, ov, hb2⟩
      have hw2 := own_of_blocks (w' := w2) H.out.own (fun g hg => hb2.block g (H.out.own.lt g hg).2)
      have hsz := hb2.size
      have hGlt := (H.out.own.lt G rfl).2
      obtain ⟨d, hd⟩ : ∃ d, w2.cell? ⟨G, k, none⟩ = some d := ⟨_, (hw2.cellAt k (by omega)).trans (List.getElem?_eq_getElem (by rw [H.out.len]; exact hlt))⟩
      have hf := hw2.frozenAt k
      have h1 := (hw2.stored k v).1
      have H2 : Hid (Copd (w2.setCell ⟨G, k, none⟩ v) G len (k + 1) L Z (RV.set k v)) := by
        refine ⟨h1, by rw [List.length_set, H.out.len], fun i u hi hu => ?_, fun i j u x hij hj hu hx => ?_⟩
        rotate_left
        · rw [List.getElem?_set_ne (by omega)] at hu
          by_cases he : j = k
          · subst he
            rw [List.getElem?_set_self (by rw [H.out.len]; exact hlt)] at hx
            cases hx
            have hou := H.out.rows i u hij hu
            cases hb0 : u.ownBlock with
            | none => exact .inl rfl
            | some g =>
              right
              intro e
              have q1 := hou.2 g hb0
              have q2 := (ov.1.lt g e.symm).1
              omega
          · rw [List.getElem?_set_ne (by omega)] at hx
            exact H.out.dist i j u x hij (by omega) hu hx
        have hkeep : ∀ {x : Value} {xs : List Value} {B H' : Nat}, Own w2 B H' 3 x xs → Own (w2.setCell ⟨G, k, none⟩ v) B H' 3 x xs := fun {x xs B H'} ho => by
          refine ⟨own_of_blocks ho.1 fun g hg => Below.heap_setCell _ _ _ _ ?_, ho.2⟩
          intro e
          have e' : g = G := e
          subst e'
          rcases Own.ne (t' := 29) (v' := .slice (some ⟨g, 0, none⟩) len len) (ys := RV) (B' := g) (H' := g + 1) ho ⟨by rw [H.out.len]; exact hw2, fun q hq => by simp only [Value.ownBlock, Option.some.injEq] at hq; omega⟩ (by decide) with h | h
          · rw [hg] at h; cases h
          · rw [hg] at h; exact h rfl
        have hsz2 : (w2.setCell ⟨G, k, none⟩ v).heap.size = w2.heap.size := by simp
        rw [hsz2]
        by_cases he : i = k
        · subst he
          rw [List.getElem?_set_self (by rw [H.out.len]; exact hlt)] at hu
          cases hu
          rw [← HLK.out]
          exact hkeep (own_lo ov (by omega))
        · rw [List.getElem?_set_ne (by omega)] at hu
          exact hkeep (((H.out.rows i u (by omega) hu).below hb2).more hsz)
      have H3 : Hid (Below w.heap.size w (w2.setCell ⟨G, k, none⟩ v)) := (HB.out.trans (hb2.mono HB.out.size)).setCell (p := ⟨G, k, none⟩) hGB v
      obtain ⟨av, nv, cv, rfl⟩ : ∃ av nv cv, v = .slice av nv cv := by
        obtain ⟨x, y, z, _⟩ := ov.slice
        exact ⟨x, _, y, z⟩
      clear ov hb2 hw2 h1 CT H HB hsz
      go_wp2
      go_roundw
      case rel => exact ⟨k + 1, _, by omega, by go_num, H2, H3⟩
      case measure => simp [intOf]; omega
    · obtain rfl : k = len := by omega
      go_wp2
      go_ret
      refine ⟨_, RV, rfl, ⟨Own.of_own ?_, ?_⟩, fun i j u v hij hu hv => H.out.dist i j u v hij (by have := (List.getElem?_eq_some_iff.1 hv).1; rw [H.out.len] at this; exact this) hu hv, HB.out⟩
      · rw [H.out.len, ← HG.out]; exact H.out.own
      · refine ⟨by rw [H.out.len, rowsIn_length], fun i v r h1 h2 => ?_⟩
        have hi : i < k := by
          have := (List.getElem?_eq_some_iff.1 h1).1
          rw [H.out.len] at this; exact this
        rw [rowsIn_at _ _ _ _ hi] at h2
        cases h2
        rw [← HG.out]
        exact H.out.rows i v hi h1
theorem toRows_any (a : Option Addr) (len cap : Nat) (A : Nat → Option Addr) (L C : Nat → Nat) (Z : Nat → List Int) (w : World) (hr : Hid (IsRows w a len cap A L C Z)) (hl : len ≤ 1048576) (hL : Hid (∀ r, r < len → L r ≤ 1048576)) :
    Calls Try.prog 11 #[.slice a len cap] w fun e w' => ∃ v RV, e = .returned v ∧ Grid w' w.heap.size w'.heap.size v RV (rowsIn len L Z) ∧ Below w.heap.size w w' :=
  (toRowsD_any a len cap A L C Z w hr hl hL).mono fun _ _ ⟨v, RV, h1, h2, _, h3⟩ => ⟨v, RV, h1, h2, h3⟩
end Go.Proofs.Ytcnocoljmljnaaa
