/-
  The walk of the law that trees are spans of all edges: the web of all edges, and its spans.
-/
import Derived.Test.YthlboikljibohaaZD
import Derived.Test.YthlboikljibohaaCGridApp
import Derived.Test.YthlboikljibohaaCGridA
import Derived.Test.YthlboikljibohaaCByRows
import Derived.Test.YthlboikljibohaaCCountT
import Derived.Test.YthlboikljibohaaZW
import Derived.Test.YthlboikljibohaaWCodeF
namespace Go.Proofs.Ythlboikljibohaa
open Go.RowKit

/-- the edges of which the greater end is less than b, and a edges to b -/
def fullU (b a : Nat) : Edges := fullE b ++ (List.range a).map fun x => (x, b)
def fullR (b a : Nat) : List (List Int) := rowsE (fullU b a)
theorem fullR_succ (b a : Nat) : fullR b (a + 1) = fullR b a ++ [[(a : Int), (b : Int)]] := by
  unfold fullR fullU rowsE
  rw [List.range_succ]; simp
theorem fullR_next (b : Nat) : fullR b b = fullR (b + 1) 0 := by
  unfold fullR fullU
  congr 1
  rw [show fullE (b + 1) = fullE b ++ (List.range b).map fun a => (a, b) by unfold fullE; rw [List.range_succ, List.flatMap_append]; simp]
  simp
theorem fullR_two (b a : Nat) : ∀ r ∈ fullR b a, r.length = 2 := fun r hr => by
  obtain ⟨v, _, rfl⟩ := List.mem_map.1 hr; rfl
def fullN (b a : Nat) : Nat := b * (b - 1) / 2 + a
theorem fullR_le (b a : Nat) (hb : b ≤ 8) (ha : a ≤ b) : (fullR b a).length ≤ 64 := by
  have h : ∀ b, b ≤ 8 → (fullE b).length ≤ 28 := by decide
  have := h b hb
  unfold fullR fullU rowsE
  rw [List.length_map, List.length_append, List.length_map, List.length_range]
  omega
theorem full_facts : ∀ n : Nat, n ≤ 7 → 1 ≤ n → spanC (n : Int) (fullR n 0) = if n ≤ 4 then ((n ^ (n - 2) : Nat) : Int) else -1 := by
  intro n h7 h1
  have e0 : fullU n 0 = fullE n := by unfold fullU; simp
  have e1 : edgesR (fullR n 0) = fullE n := by unfold fullR; rw [edges_rows, e0]
  have hl : (fullR n 0).length = (fullE n).length := by unfold fullR rowsE; rw [List.length_map, e0]
  by_cases h4 : n ≤ 4
  · rw [if_pos h4]
    have h := List.all_eq_true.1 full_spans n (List.mem_range.2 (by omega))
    simp only [Bool.or_eq_true, decide_eq_true_eq] at h
    have h := h.resolve_left (by omega)
    have hw : webB (n : Int) (fullR n 0) = true := by
      refine webB_iff.2 ⟨fun r hr => ?_, by omega, ?_⟩
      · obtain ⟨e, he, rfl⟩ := List.mem_map.1 hr
        rw [e0] at he
        unfold fullE at he
        obtain ⟨b, hb, he⟩ := List.mem_flatMap.1 he
        obtain ⟨a, ha, rfl⟩ := List.mem_map.1 he
        have hb := List.mem_range.1 hb
        have ha := List.mem_range.1 ha
        refine ⟨rfl, ?_, ?_⟩
        · show 0 ≤ (a : Int) ∧ (a : Int) ≤ (n : Int) - 1
          omega
        · show 0 ≤ (b : Int) ∧ (b : Int) ≤ (n : Int) - 1
          omega
      · have hd : ∀ n, n ≤ 4 → (fullE n).length ≤ 8 := by decide
        rw [hl]; exact hd n h4
    rw [spanC, if_pos hw, Int.toNat_natCast, e1, h]
  · rw [if_neg h4, spanC, if_neg]
    intro hw
    obtain ⟨_, h5, h8⟩ := webB_iff.1 hw
    obtain rfl : n = 5 := by omega
    rw [hl] at h8
    exact absurd h8 (by decide)

set_option maxHeartbeats 3200000 in
set_option maxRecDepth 100000 in
theorem fullWeb_any (n : Nat) (w : World) (hn : n ≤ 7) :
    Calls Try.prog 12 #[.int .i64 (n : Int)] w fun e w' => ∃ v RV, e = .returned v ∧ Grid w' w.heap.size w'.heap.size v RV (fullR n 0) ∧ Below w.heap.size w w' := by
  obtain ⟨j0, hj, hy0, hy1, hy2⟩ := info_parts Try.infoRowR
  obtain ⟨B, hBe⟩ : ∃ B, B = w.heap.size := ⟨_, rfl⟩
  have HBE := Lib.hid hBe
  have G0 : Hid (GridA (w.alloc (.cells #[] 34)) B (.slice (some ⟨w.heap.size, 0, none⟩) 0 0) [] (fullR 0 0)) := by
    refine ⟨⟨Own.of_own (World.ownsRow_lit (base := B) (e := 34) (size := 1) w #[] 0 (by omega) (by unfold maxLen; omega) rfl), RowsI.nil⟩, fun i j u x _ h => by simp at h⟩
  have BL : Hid (Below B w (w.alloc (.cells #[] 34))) := by show Below _ _ _; rw [hBe]; exact (Below.refl _ w).alloc (Nat.le_refl _) _
  rw [← hBe] at G0 ⊢
  go_enter Try.func12, Try.ntmps12
  go_wp2
  rw [← hBe]
  clear hBe
  go_loopw [3, 4] (fun e3 e4 wr => ∃ (b m g cp : Nat) (RV : List Value), b ≤ n ∧ e4 = .int .i64 (b : Int) ∧ e3 = .slice (some ⟨g, 0, none⟩) m cp ∧ Hid (m = (fullR b 0).length) ∧ Hid (GridA wr B (.slice (some ⟨g, 0, none⟩) m cp) RV (fullR b 0)) ∧ Hid (Below B w wr)) (fun _ e4 _ => n - (intOf e4).toNat)
  case atStart => exact ⟨0, 0, _, _, _, Nat.zero_le _, rfl, rfl, rfl, G0, BL⟩
  case round =>
    clear G0 BL
    obtain ⟨b, m, g, cp, RV, hb, rfl, rfl, HM, G, HB⟩ := hrel
    by_cases hlt : b < n
    · have b1 : (b : Int) < (n : Int) := by omega
      have HNX := Lib.hid (fullR_next b)
      go_wp2
      go_loopw [3, 5] (fun e3 e5 wr => ∃ (a m g cp : Nat) (RV : List Value), a ≤ b ∧ e5 = .int .i64 (a : Int) ∧ e3 = .slice (some ⟨g, 0, none⟩) m cp ∧ Hid (m = (fullR b a).length) ∧ Hid (GridA wr B (.slice (some ⟨g, 0, none⟩) m cp) RV (fullR b a)) ∧ Hid (Below B w wr)) (fun _ e5 _ => b - (intOf e5).toNat)
      case atStart => exact ⟨0, m, g, cp, RV, Nat.zero_le _, rfl, rfl, HM, G, HB⟩
      case round =>
        clear G HB HM
        obtain ⟨a, m, g, cp, RV, ha, rfl, rfl, HM, G, HB⟩ := hrel
        by_cases hla : a < b
        · have b2 : (a : Int) < (b : Int) := by omega
          have HR := Lib.hid (fullR_succ b a)
          have hm64 : m ≤ 64 := by rw [HM.out]; exact fullR_le b a (by omega) ha
          have hGs : B ≤ wr.heap.size := by rw [HBE.out]; exact (HBE.out ▸ HB.out.size)
          have OW : wr.ownsRow B 34 1 (.slice (some ⟨g, 0, none⟩) m cp) m RV := by
            have h1 := G.out.grid.1.1
            rwa [G.out.grid.2.1, ← HM.out] at h1
          have z1 : m + 1 ≤ maxLen := by unfold maxLen; omega
          have z2 : (m + 1) * 24 ≤ 140737488355328 := by omega
          have HGS := Lib.hid hGs
          have Y3 := Lib.hid (show B ≤ ((wr.alloc (.cells #[.int .i64 (a : Int), .int .i64 (b : Int)] 3)).alloc (.cells #[.slice (some ⟨wr.heap.size, 0, none⟩) 2 2] 34)).heap.size by simp; omega)
          have OW3 := Lib.hid ((OW.alloc (.cells #[.int .i64 (a : Int), .int .i64 (b : Int)] 3)).alloc (.cells #[.slice (some ⟨wr.heap.size, 0, none⟩) 2 2] 34))
          have CN := cell_one_new (wr.alloc (.cells #[.int .i64 (a : Int), .int .i64 (b : Int)] 3)) (.slice (some ⟨wr.heap.size, 0, none⟩) 2 2) 34
          rw [World.size_alloc] at CN
          have CN := Lib.hid CN
          have HML := HM.out.symm
          have HML := Lib.hid HML
          clear OW hGs
          go_wp2_with (at_builtin; refine wpList_append_lies _ rfl (.tmp 17) (.tmp 21) 26 rfl B 34 j0 (.slice none 0 0) 1 24 Try.underlying26 hj hy0 hy1 hy2 rfl (Nat.succ_pos 0) (.slice (some ⟨g, 0, none⟩) m cp) m RV rfl OW3.out ⟨wr.heap.size + 1, 0, none⟩ 1 1 [.slice (some ⟨wr.heap.size, 0, none⟩) 2 2] rfl rfl CN.out (one_rowR _ _ _ _ rfl) (Nat.succ_pos 0) z1 z2 Y3.out _ rfl ?_)
          intro g7 c7 w7 hv7 hg7 _ _
          obtain ⟨G7, B7⟩ := G.out.push (cs := #[.int .i64 (a : Int), .int .i64 (b : Int)]) (n := 2) (row := [(a : Int), (b : Int)]) HML.out rfl rfl (by omega) HGS.out hv7 hg7
          rw [← HR.out] at G7
          have G8 := Lib.hid G7
          have B8 := Lib.hid (HB.out.trans B7)
          have M8 : Hid (m + 1 = (fullR b (a + 1)).length) := by show _ = _; rw [HR.out, List.length_append, ← HM.out]; rfl
          clear hv7 hg7 G7 B7 OW3 CN Y3 HGS G HB HR HML HM
          go_wp2
          go_roundw
          case rel => exact ⟨a + 1, m + 1, g7, c7, _, by omega, by go_num, rfl, M8, G8, B8⟩
          case measure => simp [intOf]; omega
        · obtain rfl : a = b := by omega
          rw [HNX.out] at HM G
          go_wp2
          go_roundw
          case rel => exact ⟨a + 1, m, g, cp, RV, by omega, by go_num, rfl, HM, G, HB⟩
          case measure => simp [intOf]; omega
    · obtain rfl : b = n := by omega
      go_wp2
      go_ret
      exact ⟨_, RV, rfl, G.out.grid, HB.out⟩

set_option maxHeartbeats 800000 in
theorem drawCountTrees (a : Option Addr) (len cap : Nat) (zs : List Int) (w : World) (hr : Hid (IsRow .u8 w a len cap zs)) (hl : len ≤ 1048576) :
    Calls Try.prog 8 #[.slice a len cap] w fun e w' => ∃ n : Nat, n ≤ 8 ∧ e = .returned (.int .i64 (n : Int)) ∧ Below w.heap.size w w' := by
  go_enter Try.func8, Try.ntmps8
  go_wp2_with fail
  refine (newReader_any a len cap zs w hr.out hl).mono ?_
  rintro e w1 ⟨n, R, rfl, h, hb⟩
  have hlow := h.low
  have l9 := lit_own w1 #[.int .i64 4, .int .i64 5, .int .i64 3, .int .i64 7, .int .i64 2, .int .i64 1, .int .i64 0, .int .i64 8] 3 (by decide)
  have L9 : Hid (Own (w1.alloc (.cells #[.int .i64 4, .int .i64 5, .int .i64 3, .int .i64 7, .int .i64 2, .int .i64 1, .int .i64 0, .int .i64 8] 3)) w1.heap.size (w1.heap.size + 1) 3 (.slice (some ⟨w1.heap.size, 0, none⟩) 8 8) (iv [4, 5, 3, 7, 2, 1, 0, 8])) := l9
  have hbW : Below w1.heap.size w1 (w1.alloc (.cells #[.int .i64 4, .int .i64 5, .int .i64 3, .int .i64 7, .int .i64 2, .int .i64 1, .int .i64 0, .int .i64 8] 3)) := (Below.refl _ _).alloc (Nat.le_refl _) _
  have R1 := Lib.hid (h.grow hbW)
  have B1 := Lib.hid (hb.trans (hbW.mono hb.size))
  have hRl := h.lt
  have NE : Hid ((Value.slice (some ⟨w1.heap.size, 0, none⟩) 8 8).ownBlock ≠ some R) := by show _ ≠ _; simp [Value.ownBlock]; omega
  have OA := Lib.hid (one_any [4, 5, 3, 7, 2, 1, 0, 8] _ w.heap.size R a n cap 0 _ R1 (by omega) L9 NE.out (by decide) (by decide))
  clear l9 hbW h hb hr
  go_wp2_with fail
  refine OA.out.mono ?_
  rintro e w2 ⟨y, hy, rfl, hrd, honly⟩
  obtain ⟨N, rfl, hN⟩ : ∃ N : Nat, y = N ∧ N ≤ 8 := by
    simp only [List.mem_cons, List.not_mem_nil, or_false] at hy
    exact ⟨y.toNat, by omega, by omega⟩
  have B2 := Lib.hid (B1.out.trans (honly.below hlow))
  clear hy hrd honly
  go_wp2
  go_ret
  exact ⟨N, hN, rfl, B2.out⟩

set_option maxHeartbeats 1600000 in
theorem countTrees_law (a : Option Addr) (len cap : Nat) (zs : List Int) (w : World) (hr0 : IsRow .u8 w a len cap zs) :
    Calls Try.prog 3 #[.slice a len cap] w fun e w' => e = .returned (.bool true) ∧ Below w.heap.size w w' := by
  have hr := Lib.hid hr0
  clear hr0
  by_cases hbig : (1048576 : Int) < (len : Int)
  · go_enter Try.func3, Try.ntmps3
    go_wp2
    go_ret
    exact ⟨rfl, Below.refl _ _⟩
  · go_enter Try.func3, Try.ntmps3
    go_wp2_with fail
    refine (drawCountTrees a len cap zs w hr (by omega)).mono ?_
    rintro e w1 ⟨n, hn8, rfl, b1⟩
    have hwf : (Lit.int .i64 (n : Int)).wf = true := wf_smallC (n : Int) (by omega)
    have CP := Lib.hid (fun w => countTrees_p (n : Int) w hwf)
    have CS := Lib.hid (fun w => specCountTrees_any (n : Int) w)
    have B1 := Lib.hid b1
    have s01 := b1.size
    have HF : Hid ((treesN (n : Int) = -1) ∨ (1 ≤ n ∧ n ≤ 7 ∧ treesN (n : Int) = ((n ^ (n - 2) : Nat) : Int))) := by
      show _ ∨ _
      by_cases h : 1 ≤ (n : Int) ∧ (n : Int) ≤ 7
      · right; rw [treesN, if_pos h]; exact ⟨by omega, by omega, rfl⟩
      · left; rw [treesN, if_neg h]
    obtain ⟨t, ht⟩ : ∃ t, t = treesN (n : Int) := ⟨_, rfl⟩
    rw [← ht] at HF
    simp only [← ht] at CP CS
    have f1 : (t == t) = true := beq_self_eq_true _
    clear ht b1 hr
    go_wp2_with fail
    refine (CP.out _).mono ?_
    rintro e w2 ⟨rfl, rfl⟩
    go_wp2_with fail
    refine (CS.out _).mono ?_
    rintro e w2 ⟨rfl, rfl⟩
    rcases HF.out with rfl | ⟨h1, h7, ht⟩
    · clear HF
      go_wp2_with fail
      refine (CS.out _).mono ?_
      rintro e w2 ⟨rfl, rfl⟩
      go_wp2
      go_ret
      exact ⟨rfl, B1.out⟩
    · have htn : ¬ t < 0 := by omega
      have HFF := full_facts n h7 h1
      have HSP : Hid (spanC (n : Int) (fullR n 0) = t ∨ spanC (n : Int) (fullR n 0) = -1) := by
        show _ ∨ _
        rw [HFF]
        by_cases h4 : n ≤ 4
        · left; rw [if_pos h4, ht]
        · right; rw [if_neg h4]
      have HT := Lib.hid ht
      have HL := Lib.hid (show (fullR n 0).length ≤ 1048576 by have := fullR_le n 0 (by omega) (by omega); omega)
      clear HF HFF CP CS ht
      go_wp2_with fail
      refine (fullWeb_any n w1 h7).mono ?_
      rintro e w2 ⟨v, RV, rfl, g2, b2⟩
      have G2 := Lib.hid g2
      have B2 := Lib.hid (B1.out.trans (b2.mono s01))
      have s12 := Lib.hid (show w.heap.size ≤ w2.heap.size by have := b2.size; omega)
      have CR := Lib.hid (spanByRows_p (n : Int) (fullR n 0) v RV w2 _ _ G2 (Nat.le_refl _) HL.out (fun r hr => by rw [fullR_two n 0 r hr]; decide) hwf)
      obtain ⟨k, hk⟩ : ∃ k, k = spanC (n : Int) (fullR n 0) := ⟨_, rfl⟩
      rw [← hk] at CR HSP
      obtain ⟨av, cv, rfl, _⟩ := Grid.form g2
      clear g2 b2 hk HL B1
      go_wp2_with fail
      refine CR.out.mono ?_
      rintro e w3 ⟨rfl, b3⟩
      have B3 := Lib.hid (B2.out.trans (b3.mono s12.out))
      clear b3 CR
      rcases HSP.out with rfl | rfl
      · clear HSP
        go_wp2
        go_ret
        exact ⟨by first | rfl | simp, B3.out⟩
      · clear HSP
        go_wp2
        go_ret
        exact ⟨rfl, B3.out⟩
end Go.Proofs.Ythlboikljibohaa
