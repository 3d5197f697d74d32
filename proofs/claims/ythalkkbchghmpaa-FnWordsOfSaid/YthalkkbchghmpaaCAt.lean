/-
  The contracts of the functions that give the word of a rank.
-/
import Derived.Test.YthalkkbchghmpaaCRank
import Derived.Test.YthalkkbchghmpaaCCountB
import Derived.Test.YthalkkbchghmpaaCFirst
namespace Go.Proofs.Ythalkkbchghmpaa
open Go.RowKit

/-! ### the model's -/
theorem at_bytes {a c : ByteArray} (h : a.data.toList = c.data.toList) : Value.string a = .string c := by rw [bytes_ext h]

set_option maxHeartbeats 1600000 in
theorem specWat_in (n r : Nat) (hn : n ≤ 9) (hr : r < ee n 0) (w : World) :
    Calls Try.prog 51 #[.int .i64 n, .int .i64 r] w fun e w' => e = .returned (.string ⟨(wat (2 * n) r 0 n).toArray⟩) ∧ w = w' := by
  have hr9 := (ee_bd n hn 0 (by omega)).2
  go_enter Try.func51, Try.ntmps51
  go_wp2
  go_loop [1, 5, 6, 7] (fun a b c d => ∃ (f x o l : Nat) (t : ByteArray), a = .int .i64 x ∧ b = .string t ∧ c = .int .i64 o ∧ d = .int .i64 l ∧ 2 * l + o = f ∧ t.size + f = 2 * n ∧ o + l ≤ n ∧ x < 4862 ∧ Hid (x < ee l o ∧ t.data.toList ++ wat f x o l = wat (2 * n) r 0 n)) (fun _ b _ _ => match b with | .string t => 2 * n - t.size | _ => 0)
  case atStart => exact ⟨2 * n, r, 0, n, ⟨#[]⟩, rfl, rfl, rfl, rfl, by omega, by simp [ByteArray.size], by omega, by omega, hr, rfl⟩
  case round =>
    obtain ⟨f, x, o, l, t, rfl, rfl, rfl, rfl, hf, ht, hon, hx, H⟩ := hrel
    cases f with
    | zero =>
      have e : t = ⟨(wat (2 * n) r 0 n).toArray⟩ := bytes_ext (by rw [← H.out.2]; simp [wat])
      have E := Lib.hid e
      have b1 : 2 * (n : Int) ≤ (t.size : Int) := by omega
      clear e
      go_wp2
      go_ret
      exact ⟨by rw [← E.out]; rfl, rfl⟩
    | succ f =>
      have z1 : t.size + (ByteArray.mk #[40]).size ≤ 9223372036854775807 := by rw [show (ByteArray.mk #[40]).size = 1 from rfl]; omega
      have z2 : t.size + (ByteArray.mk #[41]).size ≤ 9223372036854775807 := by rw [show (ByteArray.mk #[41]).size = 1 from rfl]; omega
      have s40 : (t ++ ByteArray.mk #[40]).size = t.size + 1 := by rw [ByteArray.size_append]; rfl
      have s41 : (t ++ ByteArray.mk #[41]).size = t.size + 1 := by rw [ByteArray.size_append]; rfl
      have e40 : (t ++ ByteArray.mk #[40]).data.toList = t.data.toList ++ [40] := toList_append _ _
      have e41 : (t ++ ByteArray.mk #[41]).data.toList = t.data.toList ++ [41] := toList_append _ _
      have S40 := Lib.hid s40
      have S41 := Lib.hid s41
      have E40 := Lib.hid e40
      have E41 := Lib.hid e41
      have b1 : (t.size : Int) < 2 * (n : Int) := by omega
      clear s40 s41 e40 e41
      by_cases hl : 0 < l
      · have y := ee_bd (l - 1) (by omega) (o + 1) (by omega)
        have i1 := fun w => specEnds_in _ (o + 1) (l - 1) ((o : Int) + 1) ((l : Int) - 1) w rfl (by omega) (by omega) (by omega)
        have b2 : (0 : Int) < (l : Int) := by omega
        by_cases hk : x < ee (l - 1) (o + 1)
        · have N : Hid (x < ee (l - 1) (o + 1) ∧ (t ++ ByteArray.mk #[40]).data.toList ++ wat f x (o + 1) (l - 1) = wat (2 * n) r 0 n) := ⟨hk, by
            rw [← H.out.2, wat_opn f x o l hl hk, E40.out, List.append_assoc]; rfl⟩
          obtain ⟨X, hX⟩ : ∃ X, X = ee (l - 1) (o + 1) := ⟨_, rfl⟩
          rw [← hX] at y i1 hk
          have I1 := Lib.hid i1
          have b3 : (x : Int) < (X : Int) := by omega
          clear i1 hX H
          go_wp2_with fail
          refine (I1.out _).mono ?_
          rintro e w1 ⟨rfl, rfl⟩
          go_wp2
          go_round
          case rel => exact ⟨f, x, o + 1, l - 1, t ++ ByteArray.mk #[40], rfl, rfl, by go_num, by go_num, by omega, by rw [S40.out]; omega, by omega, hx, N⟩
          case measure => show 2 * n - (t ++ ByteArray.mk #[40]).size < 2 * n - t.size; rw [S40.out]; omega
        · obtain ⟨ho, hlt⟩ := low_open hl H.out.1 hk
          have N : Hid (x - ee (l - 1) (o + 1) < ee l (o - 1) ∧ (t ++ ByteArray.mk #[41]).data.toList ++ wat f (x - ee (l - 1) (o + 1)) (o - 1) l = wat (2 * n) r 0 n) := ⟨hlt, by
            rw [← H.out.2, wat_cls f x o l hl hk, E41.out, List.append_assoc]; rfl⟩
          clear hlt
          obtain ⟨X, hX⟩ : ∃ X, X = ee (l - 1) (o + 1) := ⟨_, rfl⟩
          rw [← hX] at y i1 hk N
          have I1 := Lib.hid i1
          have b3 : (X : Int) ≤ (x : Int) := by omega
          clear i1 hX H
          go_wp2_with fail
          refine (I1.out _).mono ?_
          rintro e w1 ⟨rfl, rfl⟩
          go_wp2
          go_round
          case rel => exact ⟨f, x - X, o - 1, l, t ++ ByteArray.mk #[41], by go_num, rfl, by go_num, rfl, by omega, by rw [S41.out]; omega, by omega, by omega, N⟩
          case measure => show 2 * n - (t ++ ByteArray.mk #[41]).size < 2 * n - t.size; rw [S41.out]; omega
      · obtain rfl : l = 0 := by omega
        have N : Hid (x < ee 0 (o - 1) ∧ (t ++ ByteArray.mk #[41]).data.toList ++ wat f x (o - 1) 0 = wat (2 * n) r 0 n) := ⟨H.out.1, by
          rw [← H.out.2, wat_end, E41.out, List.append_assoc]; rfl⟩
        clear H hl
        go_wp2
        go_round
        case rel => exact ⟨f, x, o - 1, 0, t ++ ByteArray.mk #[41], by go_num, rfl, by go_num, rfl, by omega, by rw [S41.out]; omega, by omega, by omega, N⟩
        case measure => show 2 * n - (t ++ ByteArray.mk #[41]).size < 2 * n - t.size; rw [S41.out]; omega

/-- what both answer -/
def atV (n r : Int) : Value := if 0 ≤ n ∧ n ≤ 9 ∧ 0 ≤ r ∧ r < (ee n.toNat 0 : Nat) then .tuple #[.string ⟨(wat (2 * n.toNat) r.toNat 0 n.toNat).toArray⟩, .bool true] else .tuple #[.string ⟨#[]⟩, .bool false]

/-! ### the program's: the cut -/
/-- the state of the cut: how many words stand ahead, in its box -/
def Ahead (B n₀ : Nat) (w0 : World) (a : Nat) (W : World) : Prop := W.heap[B]? = some (.cells #[.int .i64 a] 3 (0, 0)) ∧ (Below n₀ w0 W ∧ n₀ ≤ W.heap.size) ∧ n₀ ≤ B ∧ a < 9223372036854775808

set_option maxHeartbeats 800000 in
theorem cutAt_any (B n₀ B1 : Nat) (hB1 : B < B1) (w0 : World) (a : Nat) (h : ByteArray) (o l : Nat) (W : World) (hol : o + l ≤ 9) (hA : Ahead B n₀ w0 a W) :
    Calls Try.prog 47 #[Beg h o l, .pointer (some ⟨B, 0, none⟩)] W fun e W' =>
      e = .returned (.bool (cutAt a h.data.toList o l).1) ∧ Ahead B n₀ w0 (cutAt a h.data.toList o l).2 W' ∧ KT 45 W W' ∧ Keep B1 W W' := by
  obtain ⟨hb, hbl, hnB, ha⟩ := hA
  have hBW : B < W.heap.size := (Array.getElem?_eq_some_iff.1 hb).1
  obtain ⟨W1, hW1⟩ : ∃ W1, W1 = W.alloc (.cells #[.string h, .int .i64 o, .int .i64 l] 45) := ⟨_, rfl⟩
  have c0 := implEnds_in o l hol W1
  have y := ee_bd l (by omega) o (by omega)
  have hb1 : W1.heap[B]? = some (.cells #[.int .i64 a] 3 (0, 0)) := by rw [hW1]; exact (Below.heap_alloc _ _ _ hBW).trans hb
  have hk1 : KT 45 W W1 := by rw [hW1]; exact (KT.refl W).alloc _
  have hp1 : Keep B1 W W1 := by rw [hW1]; exact (Keep.refl B1 W).alloc _
  have hl1 : Below n₀ w0 W1 ∧ n₀ ≤ W1.heap.size := by rw [hW1]; exact ⟨hbl.1.alloc hbl.2 _, by simp; omega⟩
  unfold cutAt
  obtain ⟨X, hX⟩ : ∃ X, X = ee l o := ⟨_, rfl⟩
  rw [← hX] at c0 y ⊢
  have C0 := Lib.hid c0
  have HL := Lib.hid hl1
  have HK := Lib.hid hk1
  have HP := Lib.hid hp1
  have HB1 := Lib.hid hb1
  have HN := Lib.hid hnB
  have hsz : B < W1.heap.size := (Array.getElem?_eq_some_iff.1 hb1).1
  clear c0 hl1 hk1 hp1 hb1 hX hbl hb hnB
  go_enter Try.func47, Try.ntmps47
  simp only [Beg]
  go_wp2_with fail
  rw [← hW1]
  clear hW1
  refine C0.out.mono ?_
  rintro e W2 ⟨rfl, hb2⟩
  have g2 : W2.heap[B]? = some (.cells #[.int .i64 a] 3 (0, 0)) := (hb2.block B hsz).trans HB1.out
  have hk2 : KT 45 W W2 := fun k vs r e => (hb2.block k (Array.getElem?_eq_some_iff.1 (HK.out k vs r e)).1).trans (HK.out k vs r e)
  have hp2 : Keep B1 W W2 := fun k x hk e => (hb2.block k (Array.getElem?_eq_some_iff.1 (HP.out k x hk e)).1).trans (HP.out k x hk e)
  have hl2 : Below n₀ w0 W2 ∧ n₀ ≤ W2.heap.size := ⟨HL.out.1.trans (hb2.mono HL.out.2), by have := hb2.size; have := HL.out.2; omega⟩
  have HL2 := Lib.hid hl2
  have HK2 := Lib.hid hk2
  have HP2 := Lib.hid hp2
  have HG2 := Lib.hid g2
  have cB : W2.cell? ⟨B, 0, none⟩ = some (.int .i64 a) := cell_blk g2 0
  have fB : W2.frozen? ⟨B, 0, none⟩ = false := Boxed.frozen g2
  clear hb2 HL HK HP HB1 hl2 hk2 hp2 g2
  by_cases hx : a < X
  · have b1 : (a : Int) < (X : Int) := by omega
    go_wp2
    go_ret
    exact ⟨rfl, ⟨HG2.out, HL2.out, HN.out, ha⟩, HK2.out, HP2.out⟩
  · have b1 : (X : Int) ≤ (a : Int) := by omega
    have ex : ((a - X : Nat) : Int) = (a : Int) - (X : Int) := by omega
    have EX := Lib.hid ex
    clear ex
    go_wp2
    go_ret
    refine ⟨rfl, ⟨?_, ⟨?_, ?_⟩, HN.out, by omega⟩, ?_, ?_⟩
    · show _ = some (Obj.cells #[.int .i64 ((a - X : Nat) : Int)] _ _)
      rw [EX.out]; exact Boxed.set (.int .i64 ((a : Int) - (X : Int))) HG2.out
    · exact HL2.out.1.setCell (p := ⟨B, 0, none⟩) HN.out _
    · simpa using HL2.out.2
    · intro k vs r e
      have hne : k ≠ B := fun ek => by subst ek; have := HK2.out k vs r e; rw [HG2.out] at this; cases this
      exact ((grownBy_setCell' W2 B _).block k (Array.getElem?_eq_some_iff.1 (HK2.out k vs r e)).1 (by simpa using hne)).trans (HK2.out k vs r e)
    · intro k x hk e
      exact ((grownBy_setCell' W2 B _).block k (Array.getElem?_eq_some_iff.1 (HP2.out k x hk e)).1 (by simp; omega)).trans (HP2.out k x hk e)

theorem firm_ahead (B n₀ : Nat) (w0 : World) (S : Nat) (hS : B < S) (hn : n₀ ≤ S) (a : Nat) : Firm S (Ahead B n₀ w0 a) := fun W W' row hs hg hr =>
  ⟨Firm.blk hS W W' row hs.1 hg hr, Firm.below hn W W' row hs.2.1 hg hr, hs.2.2.1, hs.2.2.2⟩

theorem firstV_at (n r : Nat) : firstV (gw cutAt (2 * n) r [] 0 n).1 = if r < ee n 0 then .tuple #[.string ⟨(wat (2 * n) r 0 n).toArray⟩, .bool true] else .tuple #[.string ⟨#[]⟩, .bool false] := by
  by_cases h : r < ee n 0
  · obtain ⟨t, ht⟩ := gw_at (2 * n) r [] 0 n (by omega) h
    rw [ht, if_pos h]; rfl
  · rw [gw_cut _ _ _ _ _ (by rw [cutAt_yes h]), if_neg h]; rfl

theorem firstV_two (L : List (List UInt8)) : ∃ x b, firstV L = .tuple #[.string x, .bool b] := by
  cases L <;> exact ⟨_, _, rfl⟩

theorem atV_in (n r : Nat) (hn : n ≤ 9) : atV n r = firstV (gw cutAt (2 * n) r [] 0 n).1 := by
  rw [firstV_at, atV]
  by_cases h : r < ee n 0
  · rw [if_pos h, if_pos (by simp; omega)]; simp
  · rw [if_neg h, if_neg (by simp; omega)]

set_option maxHeartbeats 800000 in
theorem implAt_in (n r : Nat) (hn : n ≤ 9) (hr : r < 9223372036854775808) (w : World) :
    Calls Try.prog 25 #[.int .i64 n, .int .i64 r] w fun e w' => e = .returned (atV n r) ∧ Below w.heap.size w w' := by
  rw [atV_in n r hn]
  obtain ⟨x, b, hfv⟩ := firstV_two (gw cutAt (2 * n) r [] 0 n).1
  rw [hfv]
  have HFV := Lib.hid hfv
  clear hfv
  have d1 : decide ((n : Int) < 0) = false := decide_eq_false (by omega)
  have d2 : decide (9 < (n : Int)) = false := decide_eq_false (by omega)
  have d3 : (0 : Int) ≤ (r : Int) := by omega
  go_enter Try.func25, Try.ntmps25
  go_wp2_with fail
  obtain ⟨W1, hW1⟩ : ∃ W1, W1 = w.alloc (.cells #[.int .i64 r] 3) := ⟨_, rfl⟩
  have hbx : Boxed W1 w.heap.size 3 (.int .i64 r) := by rw [hW1]; exact Boxed.new w 3 (.int .i64 r)
  have hbl : Below w.heap.size w W1 := by rw [hW1]; exact (Below.refl _ w).alloc (Nat.le_refl _) _
  have hs1 : W1.heap.size = w.heap.size + 1 := by rw [hW1]; simp
  rw [← hW1]
  clear hW1
  refine (callsIn_wide.1 (wordsBut_any Fence.wide 100 trivial rfl _ _ _ _)).mono ?_
  rintro e w2 ⟨rfl, rfl⟩
  have HS1 := Lib.hid hs1
  clear hs1
  go_wp2_with fail
  have hq : Ahead w.heap.size w.heap.size w r ((W1.alloc (.cells #[.int .i64 n] 3)).alloc (.cells #[.func (.func 47) #[] #[.pointer (some ⟨w.heap.size, 0, none⟩)]] 46)) :=
    (firm_ahead _ _ _ (w.heap.size + 1) (by omega) (by omega) r).alloc _ ((firm_ahead _ _ _ (w.heap.size + 1) (by omega) (by omega) r).alloc _ ⟨hbx, ⟨hbl, by rw [HS1.out]; omega⟩, Nat.le_refl _, hr⟩)
  have z3 : ((W1.alloc (.cells #[.int .i64 n] 3)).alloc (.cells #[.func (.func 47) #[] #[.pointer (some ⟨w.heap.size, 0, none⟩)]] 46)).heap.size = w.heap.size + 3 := by simp; rw [HS1.out]
  refine (callsIn_wide.1 (firstOf_any cutAt Fence.wide rfl rfl trivial trivial trivial 47 #[.pointer (some ⟨w.heap.size, 0, none⟩)] trivial (enters_of Try.func47 (by kernel_rfl) rfl) n hn
    (Ahead w.heap.size w.heap.size w) w.heap.size w _ (fun s => firm_ahead _ _ _ _ (by rw [z3]; omega) (by rw [z3]; omega) s) (fun s W' h => h.2.1)
    (fun m s h o l W hsz hol hA => callsIn_wide.2 (cutAt_any w.heap.size w.heap.size _ (by rw [z3]; omega) w s h o l W (by omega) hA)) (by rw [z3]; omega) 100 r _ _ ?hBn ?hBc hq)).mono ?_
  case hBn => exact ((Boxed.new W1 3 (.int .i64 n)).alloc _).cell
  case hBc => 
    have := (Boxed.new (W1.alloc (.cells #[.int .i64 n] 3)) 46 (.func (.func 47) #[] #[.pointer (some ⟨w.heap.size, 0, none⟩)])).cell
    rw [World.size_alloc] at this
    exact this
  rintro e w3 ⟨he, hb⟩
  rw [HFV.out] at he
  subst he
  clear HFV hbx hbl hq z3
  go_wp2
  go_ret2
  exact ⟨rfl, hb⟩

theorem implAt_any (n r : Int) (hr : (Lit.int .i64 r).wf = true) (w : World) :
    Calls Try.prog 25 #[.int .i64 n, .int .i64 r] w fun e w' => e = .returned (atV n r) ∧ Below w.heap.size w w' := by
  by_cases h : 0 ≤ n ∧ n ≤ 9 ∧ 0 ≤ r
  · obtain ⟨k, rfl⟩ : ∃ k : Nat, n = k := ⟨n.toNat, by omega⟩
    obtain ⟨q, rfl⟩ : ∃ k : Nat, r = k := ⟨r.toNat, by omega⟩
    exact implAt_in k q (by omega) (by simp [Lit.wf] at hr; omega) w
  · have e : atV n r = .tuple #[.string ⟨#[]⟩, .bool false] := by unfold atV; rw [if_neg (by omega)]
    rw [e]
    clear e hr
    by_cases h1 : n < 0
    · have d1 : decide (n < 0) = true := decide_eq_true h1
      clear h
      go_enter Try.func25, Try.ntmps25
      go_wp2
      go_ret2
      exact ⟨rfl, Below.refl _ _⟩
    · have d1 : decide (n < 0) = false := decide_eq_false h1
      by_cases h2 : 9 < n
      · have d2 : decide (9 < n) = true := decide_eq_true h2
        clear h h1
        go_enter Try.func25, Try.ntmps25
        go_wp2
        go_ret2
        exact ⟨rfl, Below.refl _ _⟩
      · have d2 : decide (9 < n) = false := decide_eq_false h2
        have d3 : r < 0 := by omega
        clear h h1 h2
        go_enter Try.func25, Try.ntmps25
        go_wp2
        go_ret2
        exact ⟨rfl, Below.refl _ _⟩

theorem ee_catI (n : Nat) (hn : n ≤ 9) : cat n = (ee n 0 : Nat) := by rw [ee_cat n hn]; revert n; decide

theorem specAt_any (n r : Int) (hr : (Lit.int .i64 r).wf = true) (w : World) :
    Calls Try.prog 27 #[.int .i64 n, .int .i64 r] w fun e w' => e = .returned (atV n r) ∧ Below w.heap.size w w' := by
  by_cases h : 0 ≤ n ∧ n ≤ 9
  · obtain ⟨k, rfl⟩ : ∃ k : Nat, n = k := ⟨n.toNat, by omega⟩
    have hk : k ≤ 9 := by omega
    by_cases h0 : r < 0
    · have e : atV k r = .tuple #[.string ⟨#[]⟩, .bool false] := by unfold atV; rw [if_neg (by omega)]
      rw [e]
      clear e hr h
      have d1 : decide (r < 0) = true := decide_eq_true h0
      go_enter Try.func27, Try.ntmps27
      go_wp2_with fail
      refine (inRange_yes _ _ _ _ (by omega) (by omega)).mono ?_
      rintro e w' ⟨rfl, rfl⟩
      go_wp2
      go_ret2
      exact ⟨rfl, Below.refl _ _⟩
    · obtain ⟨q, rfl⟩ : ∃ k : Nat, r = k := ⟨r.toNat, by omega⟩
      have d1 : decide ((q : Int) < 0) = false := decide_eq_false h0
      rw [atV_in k q hk, firstV_at]
      have hcat := Lib.hid (ee_catI k hk)
      clear hr h
      by_cases hx : q < ee k 0
      · rw [if_pos hx]
        have C1 := Lib.hid (fun w => specWat_in k q hk hx w)
        go_enter Try.func27, Try.ntmps27
        go_wp2_with fail
        refine (inRange_yes _ _ _ _ (by omega) (by omega)).mono ?_
        rintro e w' ⟨rfl, rfl⟩
        go_wp2_with fail
        refine (counts_any k hk _).mono ?_
        rintro e w1 ⟨v, rfl, hown, hb, _⟩
        rw [catV_length] at hown
        obtain ⟨g, cap, rfl, hg, hgl, hc, hcm⟩ := own_form hown (by omega)
        have hcell := (hown.cellAt k (by omega)).trans (catV_at (k + 1) k (by omega))
        rw [hcat.out] at hcell
        have b1 : k < k + 1 := by omega
        clear hown hcat
        obtain ⟨X, hX⟩ : ∃ X, X = ee k 0 := ⟨_, rfl⟩
        rw [← hX] at hcell hx
        clear hX
        have b2 : (q : Int) < (X : Int) := by omega
        go_wp2_with fail
        refine (C1.out _).mono ?_
        rintro e w' ⟨rfl, rfl⟩
        go_wp2
        go_ret2
        exact ⟨rfl, hb⟩
      · rw [if_neg hx]
        go_enter Try.func27, Try.ntmps27
        go_wp2_with fail
        refine (inRange_yes _ _ _ _ (by omega) (by omega)).mono ?_
        rintro e w' ⟨rfl, rfl⟩
        go_wp2_with fail
        refine (counts_any k hk _).mono ?_
        rintro e w1 ⟨v, rfl, hown, hb, _⟩
        rw [catV_length] at hown
        obtain ⟨g, cap, rfl, hg, hgl, hc, hcm⟩ := own_form hown (by omega)
        have hcell := (hown.cellAt k (by omega)).trans (catV_at (k + 1) k (by omega))
        rw [hcat.out] at hcell
        have b1 : k < k + 1 := by omega
        clear hown hcat
        obtain ⟨X, hX⟩ : ∃ X, X = ee k 0 := ⟨_, rfl⟩
        rw [← hX] at hcell hx
        clear hX
        have b2 : (X : Int) ≤ (q : Int) := by omega
        go_wp2
        go_ret2
        exact ⟨rfl, hb⟩
  · have e : atV n r = .tuple #[.string ⟨#[]⟩, .bool false] := by unfold atV; rw [if_neg (by omega)]
    rw [e]
    clear e hr
    have h2 : n < 0 ∨ 9 < n := by omega
    have H2 := Lib.hid h2
    clear h h2
    go_enter Try.func27, Try.ntmps27
    go_wp2_with fail
    refine (inRange_no _ _ _ _ H2.out).mono ?_
    rintro e w' ⟨rfl, rfl⟩
    go_wp2
    go_ret2
    exact ⟨rfl, Below.refl _ _⟩
end Go.Proofs.Ythalkkbchghmpaa
