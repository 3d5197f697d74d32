/-
  The contracts of the model's functions that go through a two-armed tree: its word, its nodes between their arms.
-/
import Derived.Test.YtpphilladlladaaCFamB
import Derived.Test.YtpphilladlladaaWFamB
namespace Go.Proofs.Ytpphilladlladaa
open Go.RowKit

/-- what is read in one row of two numbers -/
theorem grid_row {w : World} {B H : Nat} {v : Value} {RV : List Value} {rows : List (List Int)} (hG : Grid w B H v RV rows) (k : Nat) (hk : k < rows.length) (h2 : (rows.getD k []).length = 2) :
    ∃ g cap g2 c2, v = .slice (some ⟨g, 0, none⟩) rows.length cap ∧ w.cell? ⟨g, k, none⟩ = some (.slice (some ⟨g2, 0, none⟩) 2 c2) ∧ w.cell? ⟨g2, 0, none⟩ = some (.int .i64 (armA rows k)) ∧ w.cell? ⟨g2, 1, none⟩ = some (.int .i64 (armB rows k)) := by
  obtain ⟨au, cu, rfl, _, hcu, _, _⟩ := hG.1.slice
  have lu := hG.2.1
  obtain ⟨g1, rfl, _, _, h1, _⟩ := hG.1.at_ k (by rw [lu]; exact hk)
  obtain ⟨x, hx, ox⟩ := hG.2.at_ k hk
  rw [hx] at h1
  have e2 : rows[k].length = 2 := by rw [List.getD_eq_getElem?_getD, List.getElem?_eq_getElem hk] at h2; exact h2
  obtain ⟨ax, cx, rfl, _, _, _, _⟩ := ox.slice
  obtain ⟨g2, rfl, _, _, h3, _⟩ := ox.at_ 0 (by rw [iv_length]; omega)
  obtain ⟨g3, e3, _, _, h4, _⟩ := ox.at_ 1 (by rw [iv_length]; omega)
  cases e3
  rw [iv_at _ 0 (by omega)] at h3
  rw [iv_at _ 1 (by omega)] at h4
  refine ⟨g1, cu, g2, cx, by rw [lu], by rw [h1, iv_length, e2], ?_, ?_⟩
  · rw [h3, armA, List.getD_eq_getElem?_getD, List.getD_eq_getElem?_getD, List.getElem?_eq_getElem hk]
    simp only [Option.getD_some]
    rw [List.getElem?_eq_getElem (by omega)]; rfl
  · rw [h4, armB, List.getD_eq_getElem?_getD, List.getD_eq_getElem?_getD, List.getElem?_eq_getElem hk]
    simp only [Option.getD_some]
    rw [List.getElem?_eq_getElem (by omega)]; rfl

def wobS (rows : List (List Int)) (f : Nat) (x : Int) : ByteArray := ⟨(wobL rows f x).toArray⟩
theorem wobS_size (rows : List (List Int)) (f : Nat) (x : Int) : (wobS rows f x).size = (wobL rows f x).length := by rw [← size_list]; rfl
theorem wobS_nat (rows : List (List Int)) (f k : Nat) : wobS rows (f + 1) (k : Int) = (⟨#[40]⟩ : ByteArray) ++ wobS rows f (armA rows k) ++ (⟨#[41]⟩ : ByteArray) ++ wobS rows f (armB rows k) := by
  apply bytes_ext
  simp only [toList_append]
  show wobL rows (f + 1) k = _
  rw [wobL_nat]; rfl
theorem Grid.drewN {w : World} {B H : Nat} {v : Value} {RV : List Value} {rows : List (List Int)} (h : Grid w B H v RV rows) (n : Nat) : Grid (w.drewN n) B H v RV rows := h.same rfl

set_option maxHeartbeats 1600000 in
theorem wordOfBin_any (rows : List (List Int)) {B H : Nat} {v : Value} {RV : List Value} : ∀ (f : Nat) (x : Int) (w : World), f ≤ 10 → okT rows f x → Hid (Grid w B H v RV rows) →
    Calls Try.prog 46 #[v, .int .i64 x] w fun e w' => e = .returned (.string (wobS rows f x)) ∧ ∃ m, w' = w.drewN m := by
  intro f
  induction f with
  | zero =>
    intro x w _ hx _
    have hx' : x < 0 := hx
    go_enter Try.func46, Try.ntmps46
    go_wp2
    go_ret
    exact ⟨rfl, 0, rfl⟩
  | succ f ih =>
    intro x w hf hx hG
    by_cases hneg : x < 0
    · have e : wobS rows (f + 1) x = ⟨#[]⟩ := by unfold wobS; rw [wobL_neg _ _ _ hneg]
      rw [e]
      clear hx ih e
      go_enter Try.func46, Try.ntmps46
      go_wp2
      go_ret
      exact ⟨rfl, 0, rfl⟩
    · obtain ⟨k, rfl⟩ : ∃ k : Nat, x = k := ⟨x.toNat, by omega⟩
      obtain ⟨hk, h2, ha, hb⟩ := okT_nat hx
      have hG' := hG.out
      obtain ⟨g, cap, g2, c2, rfl, h1, h3, h4⟩ := grid_row hG.out k hk h2
      have I := Lib.hid (fun n (y : Int) (hy : Hid (okT rows f y)) => ih y (w.drewN n) (by omega) hy.out (Lib.hid (hG'.drewN n)))
      have HA := Lib.hid ha
      have HB := Lib.hid hb
      have s1 := wobL_len rows f (armA rows k)
      have s2 := wobL_len rows f (armB rows k)
      have p := pow_bound (show f + 1 ≤ 10 by omega)
      rw [← wobS_size] at s1 s2
      rw [wobS_nat]
      obtain ⟨a, hA⟩ : ∃ a, a = armA rows k := ⟨_, rfl⟩
      obtain ⟨b, hB⟩ : ∃ b, b = armB rows k := ⟨_, rfl⟩
      rw [← hA] at HA s1 h3 ⊢
      rw [← hB] at HB s2 h4 ⊢
      have z1 : (wobS rows f a).size ≤ 1024 := by omega
      have z2 : (wobS rows f b).size ≤ 1024 := by omega
      have b1 : (k : Int) < (rows.length : Int) := by omega
      clear hx ih ha hb hA hB h2 s1 s2 p hG'
      go_enter Try.func46, Try.ntmps46
      go_wp2
      go_quiet ((go_at_call 46; exact Calls.quiet_of (I.out _ _ (by assumption))))
      go_wp2
      go_ret
      exact ⟨rfl, nq, rfl⟩

theorem grid_len {w : World} {B H : Nat} {v : Value} {RV : List Value} {rows : List (List Int)} (hG : Grid w B H v RV rows) (k : Nat) (hk : k < rows.length) :
    ∃ g cap ax c2, v = .slice (some ⟨g, 0, none⟩) rows.length cap ∧ w.cell? ⟨g, k, none⟩ = some (.slice ax (rows.getD k []).length c2) := by
  obtain ⟨au, cu, rfl, _, hcu, _, _⟩ := hG.1.slice
  have lu := hG.2.1
  obtain ⟨g1, rfl, _, _, h1, _⟩ := hG.1.at_ k (by rw [lu]; exact hk)
  obtain ⟨x, hx, ox⟩ := hG.2.at_ k hk
  rw [hx] at h1
  obtain ⟨ax, cx, rfl, _, _, _, _⟩ := ox.slice
  exact ⟨g1, cu, ax, cx, by rw [lu], by rw [h1, iv_length, List.getD_eq_getElem?_getD, List.getElem?_eq_getElem hk]; rfl⟩
theorem grid_val {w : World} {B H : Nat} {v : Value} {RV : List Value} {rows : List (List Int)} (hG : Grid w B H v RV rows) : ∃ a cap, v = .slice a rows.length cap := by
  obtain ⟨au, cu, rfl, _⟩ := hG.1.slice
  exact ⟨au, cu, by rw [hG.2.1]⟩

set_option maxHeartbeats 3200000 in
theorem sizeBelow_any (rows : List (List Int)) (hl : rows.length ≤ 1048576) {B H : Nat} {v : Value} {RV : List Value} (w : World) (hG : Hid (Grid w B H v RV rows)) : ∀ (f k : Nat), k ≤ rows.length → rows.length < k + f →
    Calls Try.prog 64 #[v, .int .i64 k] w fun e w' => e = .returned (.int .i64 (szL rows f k)) ∧ w' = w := by
  intro f
  induction f with
  | zero => intro k h1 h2; omega
  | succ f ih =>
    intro k hkl hf
    by_cases hk : k < rows.length
    · have b1 : (k : Int) < (rows.length : Int) := by omega
      by_cases h2 : (rows.getD k []).length = 2
      · obtain ⟨g, cap, g2, c2, hv, h1, h3, h4⟩ := grid_row hG.out k hk h2
        have hv' := hv
        subst hv'
        have I := Lib.hid (fun (m : Nat) (hm : m ≤ rows.length) (hmk : k < m) => ih m hm (by omega))
        have ha : w.cell? ⟨g2, 0, none⟩ = some (.int .i64 (armJ rows k 0)) := h3
        have hb : w.cell? ⟨g2, 1, none⟩ = some (.int .i64 (armJ rows k 1)) := h4
        have NX := Lib.hid (fun (j : Nat) (n : Int) (h : CntI rows f k j n) (hj : j < 2) (hn : 0 ≤ armN (szL rows f) k n (armJ rows k j)) => h.next hk h2 hj hn)
        have BD := Lib.hid (fun (j : Nat) (n : Int) (h : CntI rows f k j n) (hj : j < 2) (hn : armN (szL rows f) k n (armJ rows k j) = -1) => h.bad hk h2 hj hn)
        have H2 := Lib.hid h2
        have LE := Lib.hid (szL_le rows f)
        clear ih h3 h4 hf h2 hv
        go_enter Try.func64, Try.ntmps64
        go_wp2
        have ed : decide (rows.length ≤ k) = false := by simp; omega
        simp only [ed]
        clear ed
        go_loopw [5, 6, 7, 8] (fun n arm _ _ wr => ∃ (j : Nat) (m : Int), j ≤ 2 ∧ n = .int .i64 m ∧ arm = .int .i64 j ∧ Hid (CntI rows f k j m) ∧ wr = w) (fun _ arm _ _ _ => 2 - (intOf arm).toNat)
        case atStart => exact ⟨0, 1, by omega, rfl, rfl, ⟨by omega, by omega, .inl ⟨rfl, rfl⟩⟩, rfl⟩
        case round =>
          obtain ⟨j, m, hj, rfl, rfl, HC, rfl⟩ := hrel
          by_cases hlt : j < 2
          · have b2 : (j : Int) < 2 := by omega
            have hcell : wr.cell? ⟨g2, j, none⟩ = some (.int .i64 (armJ rows k j)) := by
              have : j = 0 ∨ j = 1 := by omega
              rcases this with rfl | rfl
              · exact ha
              · exact hb
            obtain ⟨y, hy⟩ : ∃ y, y = armJ rows k j := ⟨_, rfl⟩
            have N1 := Lib.hid (NX.out j m HC.out hlt)
            have N2 := Lib.hid (BD.out j m HC.out hlt)
            rw [← hy] at hcell N1 N2
            have m1 := HC.out.1
            have m2 := HC.out.2.1
            clear hy
            by_cases hn : y = -1
            · subst hn
              rw [armN_no] at N1
              go_wp2
              go_roundw
              case rel => exact ⟨j + 1, m, by omega, rfl, by go_num, N1.out (by omega), by simp⟩
              case measure => simp [intOf]; omega
            · by_cases ho : y = k + m
              · subst ho
                obtain ⟨q, hq⟩ : ∃ q : Nat, (k : Int) + m = q := ⟨((k : Int) + m).toNat, by omega⟩
                rw [hq] at hcell hn N1 N2
                have hc := I.out q (by omega) (by omega)
                have N3 := Lib.hid (fun h => armN_bad (szL rows f) k m q hn hq.symm h)
                have N4 := Lib.hid (fun h => armN_on (szL rows f) k m q hn hq.symm h)
                rw [Int.toNat_natCast] at N3 N4
                obtain ⟨z, hz⟩ : ∃ z, z = szL rows f q := ⟨_, rfl⟩
                have z1 := LE.out q
                rw [← hz] at hc N3 N4 z1
                have HQ := Lib.hid hc
                have z2 : z ≤ rows.length := by omega
                clear hc hz
                by_cases hzn : z < 0
                · have F := Lib.hid (N2.out (N3.out hzn))
                  go_wp2_with (go_at_call 64; refine HQ.out.mono ?_; rintro e w1 ⟨rfl, rfl⟩)
                  go_ret
                  exact ⟨by rw [F.out]; rfl, rfl⟩
                · have e1 := N4.out hzn
                  have F := Lib.hid (N1.out (by rw [e1]; omega))
                  rw [e1] at F
                  have z3 := z1.2 (by omega)
                  have z4 : 0 ≤ z := by omega
                  clear e1 z1
                  go_wp2_with (go_at_call 64; refine HQ.out.mono ?_; rintro e w1 ⟨rfl, rfl⟩)
                  go_roundw
                  case rel => exact ⟨j + 1, m + z, by omega, by go_num, by go_num, F.out, by simp⟩
                  case measure => simp [intOf]; omega
              · have F := Lib.hid (N2.out (armN_off _ _ _ _ hn ho))
                go_wp2
                go_ret
                exact ⟨by rw [F.out]; rfl, rfl⟩
          · have b2 : (2 : Int) ≤ (j : Int) := by omega
            have e : Hid (szL rows (f + 1) k = m) := by
              rcases HC.out.2.2 with ⟨h, _⟩ | ⟨h, _⟩ | ⟨_, h⟩
              · omega
              · omega
              · exact h.symm
            go_wp2
            go_ret
            exact ⟨by rw [e.out]; rfl, rfl⟩
      · rw [szL_no _ _ _ (.inr h2)]
        obtain ⟨g, cap, ax, c2, rfl, h1⟩ := grid_len hG.out k hk
        obtain ⟨n2, hn2⟩ : ∃ n2, n2 = (rows.getD k []).length := ⟨_, rfl⟩
        rw [← hn2] at h1 h2
        have h2' : ((n2 : Int) != 2) = true := by simp; omega
        clear ih hn2
        go_enter Try.func64, Try.ntmps64
        go_wp2
        go_ret
        exact ⟨rfl, rfl⟩
    · rw [szL_no _ _ _ (.inl (by omega))]
      obtain ⟨a, cap, rfl⟩ := grid_val hG.out
      have b1 : (rows.length : Int) ≤ (k : Int) := by omega
      clear ih
      go_enter Try.func64, Try.ntmps64
      go_wp2
      go_ret
      exact ⟨rfl, rfl⟩

theorem validBin_any (rows : List (List Int)) (hl : rows.length ≤ 1048576) {B H : Nat} {v : Value} {RV : List Value} (w : World) (hG : Hid (Grid w B H v RV rows)) :
    Calls Try.prog 45 #[v] w fun e w' => e = .returned (.bool (treeB rows)) ∧ w' = w := by
  have hG' := hG
  obtain ⟨a, cap, rfl⟩ := grid_val hG.out
  by_cases h9 : rows.length ≤ 9
  · have b1 : (rows.length : Int) ≤ 9 := by omega
    by_cases h0 : rows.length = 0
    · have e : treeB rows = true := by simp [treeB, h0]
      rw [e]
      have b2 : ((rows.length : Int) == 0) = true := by simp [h0]
      clear e
      go_enter Try.func45, Try.ntmps45
      go_wp2
      go_ret
      exact ⟨rfl, rfl⟩
    · have e : treeB rows = (szL rows 10 0 == (rows.length : Int)) := by simp [treeB, h0, h9]; rfl
      rw [e]
      have b2 : ((rows.length : Int) == 0) = false := beq_eq_false_iff_ne.mpr (by omega)
      have C := Lib.hid (sizeBelow_any rows hl w hG' 10 0 (by omega) (by omega))
      clear e
      go_enter Try.func45, Try.ntmps45
      go_wp2_with (go_at_call 64; refine C.out.mono ?_; rintro e w1 ⟨rfl, rfl⟩)
      go_ret
      exact ⟨rfl, rfl⟩
  · have e : treeB rows = false := by simp [treeB, h9]
    rw [e]
    have b1 : 9 < (rows.length : Int) := by omega
    clear e
    go_enter Try.func45, Try.ntmps45
    go_wp2
    go_ret
    exact ⟨rfl, rfl⟩

/-- the word of rows, and whether there is one -/
def bwS (rows : List (List Int)) : ByteArray := if rows.length = 0 then ⟨#[]⟩ else wobS rows 10 0
def bwV (rows : List (List Int)) : Value := if treeB rows = true then .tuple #[.string (bwS rows), .bool true] else .tuple #[.string ⟨#[]⟩, .bool false]
theorem specWordOfBin_any (rows : List (List Int)) (hl : rows.length ≤ 1048576) {B H : Nat} {v : Value} {RV : List Value} (w : World) (hG : Hid (Grid w B H v RV rows)) :
    Calls Try.prog 17 #[v] w fun e w' => e = .returned (bwV rows) ∧ ∃ m, w' = w.drewN m := by
  have hG' := hG
  have C := Lib.hid (validBin_any rows hl w hG')
  obtain ⟨a, cap, rfl⟩ := grid_val hG.out
  cases ht : treeB rows with
  | false =>
    rw [ht] at C
    have e : bwV rows = .tuple #[.string ⟨#[]⟩, .bool false] := by simp [bwV, ht]
    rw [e]
    clear e ht
    go_enter Try.func17, Try.ntmps17
    go_wp2_with (go_at_call 45; refine C.out.mono ?_; rintro e w1 ⟨rfl, rfl⟩)
    go_ret2
    exact ⟨rfl, 0, rfl⟩
  | true =>
    rw [ht] at C
    by_cases h0 : rows.length = 0
    · have e : bwV rows = .tuple #[.string ⟨#[]⟩, .bool true] := by simp [bwV, ht, bwS, h0]
      rw [e]
      rw [h0] at C ⊢
      clear e ht h0 hG hG' hl
      go_enter Try.func17, Try.ntmps17
      go_wp2_with (go_at_call 45; refine C.out.mono ?_; rintro e w1 ⟨rfl, rfl⟩)
      go_ret2
      exact ⟨rfl, 0, rfl⟩
    · have e : bwV rows = .tuple #[.string (wobS rows 10 0), .bool true] := by simp [bwV, ht, bwS, h0]
      rw [e]
      have b2 : ((rows.length : Int) == 0) = false := beq_eq_false_iff_ne.mpr (by omega)
      have ok : okT rows 10 0 := tree_ok rows ht h0
      have D := wordOfBin_any rows 10 0 w (by omega) ok hG'
      obtain ⟨t, ht2⟩ : ∃ t, t = wobS rows 10 0 := ⟨_, rfl⟩
      rw [← ht2] at D ⊢
      have D := Lib.hid D
      clear e ht ok ht2
      go_enter Try.func17, Try.ntmps17
      go_wp2_with (go_at_call 45; refine C.out.mono ?_; rintro e w1 ⟨rfl, rfl⟩)
      refine D.out.mono ?_
      rintro e w1 ⟨rfl, m, rfl⟩
      go_wp2
      go_ret2
      exact ⟨rfl, m, rfl⟩
end Go.Proofs.Ytpphilladlladaa
