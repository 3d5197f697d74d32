/-
  The contract of the function that draws a web.
-/
import Derived.Test.YtgboecnfghhooaaZD
import Derived.Test.YtgboecnfghhooaaCGridPut
import Derived.Test.YtgboecnfghhooaaCGridA
import Derived.Test.YtgboecnfghhooaaCCodeE
namespace Go.Proofs.Ytgboecnfghhooaa
open Go.RowKit

theorem GridA.only {w w' : World} {B H R n c p : Nat} {a : Option Addr} {v : Value} {RV : List Value} {rows : List (List Int)} (h : GridA w H v RV rows) (hr : Rd w B R a n c p) (ho : Only R w w') : GridA w' H v RV rows :=
  ⟨(h.grid.only hr ho).more (Nat.le_of_eq ho.size.symm), h.dist⟩
theorem GridA.litW {w : World} {H : Nat} (hH : H ≤ w.heap.size) : GridA (w.alloc (.cells #[] 32)) H (.slice (some ⟨w.heap.size, 0, none⟩) 0 0) [] [] := by
  have h1 := World.ownsRow_lit (base := H) (e := 32) (size := 1) w #[] 0 hH (by decide) rfl
  exact ⟨⟨⟨h1, fun q hq => (h1.lt q hq).2⟩, RowsI.nil⟩, fun i j u v _ h => by simp at h⟩
/-- a number of nodes and some rows of two numbers -/
def WebDrawn (B R : Nat) (a : Option Addr) (n c : Nat) (w : World) (e : Ending) (w' : World) : Prop :=
  ∃ (m : Int) (rows : List (List Int)) (v : Value) (RV : List Value) (p H : Nat), e = .returned (.tuple #[.int .i64 m, v]) ∧ Grid w' H w'.heap.size v RV rows ∧ (1 ≤ m ∧ m ≤ 5) ∧ rows.length ≤ 9 ∧ (∀ r ∈ rows, r.length = 2) ∧ Below B w w' ∧ p ≤ 100 ∧ Rd w' B R a n c p ∧ R < H ∧ B ≤ H

set_option maxHeartbeats 6400000 in
set_option maxRecDepth 100000 in
theorem someWeb_any (B R : Nat) (a : Option Addr) (n c : Nat) (w : World) (h : Hid (Rd w B R a n c 0)) :
    Calls Try.prog 46 #[.pointer (some ⟨R, 0, none⟩)] w (WebDrawn B R a n c w) := by
  obtain ⟨j0, hj, hy0, hy1, hy2⟩ := info_parts Try.infoRowR
  have hlow := h.out.low
  have hRlt := h.out.lt
  have l9 := lit_own w #[.int .i64 4, .int .i64 3, .int .i64 5, .int .i64 2, .int .i64 1] 3 (by decide)
  have L9 : Hid (Own (w.alloc (.cells #[.int .i64 4, .int .i64 3, .int .i64 5, .int .i64 2, .int .i64 1] 3)) w.heap.size (w.heap.size + 1) 3 (.slice (some ⟨w.heap.size, 0, none⟩) 5 5) (iv [4, 3, 5, 2, 1])) := l9
  have hbW : Below w.heap.size w (w.alloc (.cells #[.int .i64 4, .int .i64 3, .int .i64 5, .int .i64 2, .int .i64 1] 3)) := (Below.refl _ _).alloc (Nat.le_refl _) _
  have R1 := Lib.hid (h.out.grow hbW)
  have B1 := Lib.hid (show Below B w (w.alloc (.cells #[.int .i64 4, .int .i64 3, .int .i64 5, .int .i64 2, .int .i64 1] 3)) from hbW.mono (by omega))
  have NE := Lib.hid (rd_ne l9 R1.out (by decide))
  have OA := Lib.hid (one_any [4, 3, 5, 2, 1] _ B R a n c 0 _ R1 (by omega) L9 NE.out (by decide) (by decide))
  clear l9 hbW h
  go_enter Try.func46, Try.ntmps46
  go_wp2_with fail
  refine OA.out.mono ?_
  rintro e w2 ⟨y, hy, rfl, hrd, honly⟩
  obtain ⟨N, rfl, hN1, hN5⟩ : ∃ N : Nat, y = N ∧ 1 ≤ N ∧ N ≤ 5 := by
    simp only [List.mem_cons, List.not_mem_nil, or_false] at hy
    exact ⟨y.toNat, by omega, by omega, by omega⟩
  have R2 := Lib.hid hrd
  have B2 := Lib.hid (B1.out.trans (honly.below hlow))
  have hR2 := hrd.lt
  have hB2 := B2.out.size
  clear hy hrd honly OA NE L9 R1 B1
  obtain ⟨H1, hH1⟩ : ∃ H1, H1 = w2.heap.size := ⟨_, rfl⟩
  have HH1 := Lib.hid hH1
  have G3 : Hid (GridA (w2.alloc (.cells #[] 32)) H1 (.slice (some ⟨w2.heap.size, 0, none⟩) 0 0) [] []) := GridA.litW (Nat.le_of_eq hH1)
  have hb3 : Below w2.heap.size w2 (w2.alloc (.cells #[] 32)) := (Below.refl _ _).alloc (Nat.le_refl _) _
  have R3 := Lib.hid (R2.out.grow hb3)
  have B3 := Lib.hid (B2.out.trans (hb3.mono (by omega)))
  have hRH : R < H1 := by omega
  have hBH : B ≤ H1 := by omega
  clear hb3 R2 B2 hH1 hB2 hR2
  go_upto_region 3 with fail
  obtain ⟨w3, hw3⟩ : ∃ w3, w3 = w2.alloc (.cells #[] 32) := ⟨_, rfl⟩
  rw [← hw3] at G3 R3 B3 ⊢
  rw [← HH1.out] at G3 ⊢
  have s3 : w3.heap.size = H1 + 1 := by rw [hw3, World.size_alloc, HH1.out]
  have S3 := Lib.hid s3
  have l9 := lit_own w3 #[.int .i64 5, .int .i64 4, .int .i64 6, .int .i64 3, .int .i64 7, .int .i64 2, .int .i64 8, .int .i64 0] 3 (by decide)
  have L9 : Hid (Own (w3.alloc (.cells #[.int .i64 5, .int .i64 4, .int .i64 6, .int .i64 3, .int .i64 7, .int .i64 2, .int .i64 8, .int .i64 0] 3)) w3.heap.size (w3.heap.size + 1) 3 (.slice (some ⟨w3.heap.size, 0, none⟩) 8 8) (iv [5, 4, 6, 3, 7, 2, 8, 0])) := l9
  have hbW : Below w3.heap.size w3 (w3.alloc (.cells #[.int .i64 5, .int .i64 4, .int .i64 6, .int .i64 3, .int .i64 7, .int .i64 2, .int .i64 8, .int .i64 0] 3)) := (Below.refl _ _).alloc (Nat.le_refl _) _
  have R4 := Lib.hid (R3.out.grow hbW)
  have G4 := Lib.hid (G3.out.below hbW)
  have B4 := Lib.hid (B3.out.trans (hbW.mono (by omega)))
  have NE := Lib.hid (rd_ne l9 R4.out (by decide))
  have OA := Lib.hid (one_any [5, 4, 6, 3, 7, 2, 8, 0] _ B R a n c _ _ R4 (by omega) L9 NE.out (by decide) (by decide))
  clear l9 hbW hw3 G3 R3 B3 s3
  go_wp2_with fail
  refine OA.out.mono ?_
  rintro e w5 ⟨y, hy, rfl, hrd, honly⟩
  obtain ⟨K, rfl, hK8⟩ : ∃ K : Nat, y = K ∧ K ≤ 8 := by
    simp only [List.mem_cons, List.not_mem_nil, or_false] at hy
    exact ⟨y.toNat, by omega, by omega⟩
  have G5 := Lib.hid (GridA.only G4.out R4.out honly)
  have R5 := Lib.hid hrd
  have B5 := Lib.hid (B4.out.trans (honly.below hlow))
  clear hy hrd honly OA NE L9 G4 R4 B4 S3
  go_wp2
  go_loopw [5, 6] (fun v kk wr => ∃ (k g cp p : Nat) (RV : List Value) (rows : List (List Int)), k ≤ K ∧ v = .slice (some ⟨g, 0, none⟩) k cp ∧ kk = .int .i64 ((K - k : Nat) : Int) ∧ p ≤ 2 + 2 * k ∧ Hid (GridA wr H1 (.slice (some ⟨g, 0, none⟩) k cp) RV rows) ∧ Hid (rows.length = k) ∧ Hid (∀ r ∈ rows, r.length = 2) ∧ Hid (Rd wr B R a n c p) ∧ Hid (Below B w wr)) (fun _ kk _ => (intOf kk).toNat)
  case atStart => exact ⟨0, H1, 0, _, [], [], Nat.zero_le _, rfl, rfl, by omega, G5, rfl, (show ∀ r ∈ ([] : List (List Int)), r.length = 2 by intro r hr; simp at hr), R5, B5⟩
  case round =>
    clear G5 R5 B5
    obtain ⟨k, g, cp, p, RV, rows, hk, rfl, rfl, hp, G, HL, H2, HR, HB⟩ := hrel
    by_cases hlt : k < K
    · have i1 : (0 : Int) < ((K - k : Nat) : Int) := by omega
      have ek : IntKind.i64.wrap (((K - k : Nat) : Int) - 1) = ((K - (k + 1) : Nat) : Int) := by rw [IntKind.wrap_i64]; omega
      go_wp2_with fail
      refine (pick_any B R a n c _ _ _ HR.out (by omega) (by omega) (by omega)).mono ?_
      rintro e w4 ⟨x1, rfl, hx1, _, hrd, honly⟩
      have G4 := Lib.hid (GridA.only G.out HR.out honly)
      have R4 := Lib.hid hrd
      have B4 := Lib.hid (HB.out.trans (honly.below hlow))
      clear hrd honly
      go_wp2_with fail
      refine (pick_any B R a n c _ _ _ R4.out (by omega) (by omega) (by omega)).mono ?_
      rintro e w5 ⟨x2, rfl, hx2, _, hrd, honly⟩
      have G5 := Lib.hid (GridA.only G4.out R4.out honly)
      have R5 := Lib.hid hrd
      have B5 := Lib.hid (B4.out.trans (honly.below hlow))
      clear hrd honly
      clear G R4 G4 B4 HR HB hx1 hx2
      have hGs : H1 ≤ w5.heap.size := (Nat.le_trans (Nat.le_succ_of_le (Nat.le_refl _)) ((G5.out.grid.1.1.lt g rfl).1 |> fun h => Nat.le_trans (Nat.succ_le_succ h) (G5.out.grid.1.1.lt g rfl).2))
      have OW : w5.ownsRow H1 32 1 (.slice (some ⟨g, 0, none⟩) k cp) k RV := by
        have h1 := G5.out.grid.1.1
        rwa [G5.out.grid.2.1, HL.out] at h1
      have z1 : k + 1 ≤ maxLen := by unfold maxLen; omega
      have z2 : (k + 1) * 24 ≤ 140737488355328 := by omega
      have Y3 := Lib.hid (show H1 ≤ ((w5.alloc (.cells #[.int .i64 (x1 : Int), .int .i64 (x2 : Int)] 3)).alloc (.cells #[.slice (some ⟨w5.heap.size, 0, none⟩) 2 2] 32)).heap.size by simp; omega)
      have OW3 := Lib.hid ((OW.alloc (.cells #[.int .i64 (x1 : Int), .int .i64 (x2 : Int)] 3)).alloc (.cells #[.slice (some ⟨w5.heap.size, 0, none⟩) 2 2] 32))
      have CN := cell_one_new (w5.alloc (.cells #[.int .i64 (x1 : Int), .int .i64 (x2 : Int)] 3)) (.slice (some ⟨w5.heap.size, 0, none⟩) 2 2) 32
      rw [World.size_alloc] at CN
      have CN := Lib.hid CN
      clear OW
      go_wp2_with (at_builtin; refine wpList_append_lies _ rfl (.tmp 19) (.tmp 27) 26 rfl H1 32 j0 (.slice none 0 0) 1 24 Try.underlying26 hj hy0 hy1 hy2 rfl (Nat.succ_pos 0) (.slice (some ⟨g, 0, none⟩) k cp) k RV rfl OW3.out ⟨w5.heap.size + 1, 0, none⟩ 1 1 [.slice (some ⟨w5.heap.size, 0, none⟩) 2 2] rfl rfl CN.out (one_rowR _ _ _ _ rfl) (Nat.succ_pos 0) z1 z2 Y3.out _ rfl ?_)
      intro g7 c7 w7 hv7 hg7 _ _
      obtain ⟨G7, B7⟩ := G5.out.push (cs := #[.int .i64 (x1 : Int), .int .i64 (x2 : Int)]) (n := 2) (row := [(x1 : Int), (x2 : Int)]) HL.out rfl rfl (by omega) hGs hv7 hg7
      have R7 := Lib.hid (R5.out.below B7 hRH)
      have B8 := Lib.hid (B5.out.trans (B7.mono (by omega)))
      have G8 := Lib.hid G7
      have HL8 : Hid ((rows ++ [[(x1 : Int), (x2 : Int)]]).length = k + 1) := by show _ = _; rw [List.length_append, HL.out]; rfl
      have H28 : Hid (∀ r ∈ rows ++ [[(x1 : Int), (x2 : Int)]], r.length = 2) := fun r hr => by
        rcases List.mem_append.1 hr with h | h
        · exact H2.out r h
        · rw [List.mem_singleton.1 h]; rfl
      clear hv7 hg7 G7 B7 OW3 CN Y3 hGs
      clear G5 R5 B5 HL H2
      go_wp2
      go_roundw
      case rel => exact ⟨k + 1, g7, c7, _, _, _, by omega, rfl, by first | rfl | rw [ek], by omega, G8, HL8, H28, R7, B8⟩
      case measure => first | (rw [ek]; simp [intOf]; omega) | (simp [intOf]; omega)
    · obtain rfl : k = K := by omega
      have i1 : ¬ ((0 : Int) < ((k - k : Nat) : Int)) := by omega
      by_cases hn1 : 1 < N
      · have c1 : (1 : Int) < (N : Int) := by omega
        go_wp2_with fail
        refine (pick_any B R a n c _ 2 _ HR.out (by omega) (by omega) (by omega)).mono ?_
        rintro e w4 ⟨x0, rfl, hx0, _, hrd, honly⟩
        have G4 := Lib.hid (GridA.only G.out HR.out honly)
        have R4 := Lib.hid hrd
        have B4 := Lib.hid (HB.out.trans (honly.below hlow))
        clear hrd honly
        clear HR G HB hx0
        by_cases hz : x0 = 0
        · subst hz
          go_wp2
          go_loopw [5, 7] (fun v vv wr => ∃ (k g cp p q : Nat) (RV : List Value) (rows : List (List Int)), k ≤ 8 ∧ q ≤ N ∧ v = .slice (some ⟨g, 0, none⟩) k cp ∧ vv = .int .i64 (q : Int) ∧ 1 ≤ q ∧ p ≤ 30 + q ∧ Hid (GridA wr H1 (.slice (some ⟨g, 0, none⟩) k cp) RV rows) ∧ Hid (rows.length = k) ∧ Hid (∀ r ∈ rows, r.length = 2) ∧ Hid (Rd wr B R a n c p) ∧ Hid (Below B w wr)) (fun _ vv _ => N - (intOf vv).toNat)
          case atStart => exact ⟨k, g, cp, _, 1, RV, rows, hK8, hN1, rfl, rfl, Nat.le_refl _, by omega, G4, HL, H2, R4, B4⟩
          case round =>
            clear G4 HL H2 R4 B4
            obtain ⟨k, g, cp, p, q, RV, rows, hk8, hq, rfl, rfl, hq1, hp, G, HL, H2, HR, HB⟩ := hrel
            by_cases hqn : q < N ∧ k < 8
            · have i2 : (q : Int) < (N : Int) := by omega
              have i3 : (k : Int) < 8 := by omega
              go_wp2_with fail
              refine (pick_any B R a n c _ _ _ HR.out (by omega) (by omega) (by omega)).mono ?_
              rintro e w5 ⟨x2, rfl, hx2, _, hrd, honly⟩
              have G5 := Lib.hid (GridA.only G.out HR.out honly)
              have R5 := Lib.hid hrd
              have B5 := Lib.hid (HB.out.trans (honly.below hlow))
              clear hrd honly
              clear G HR HB hx2
              have hGs : H1 ≤ w5.heap.size := (Nat.le_trans (Nat.le_succ_of_le (Nat.le_refl _)) ((G5.out.grid.1.1.lt g rfl).1 |> fun h => Nat.le_trans (Nat.succ_le_succ h) (G5.out.grid.1.1.lt g rfl).2))
              have OW : w5.ownsRow H1 32 1 (.slice (some ⟨g, 0, none⟩) k cp) k RV := by
                have h1 := G5.out.grid.1.1
                rwa [G5.out.grid.2.1, HL.out] at h1
              have z1 : k + 1 ≤ maxLen := by unfold maxLen; omega
              have z2 : (k + 1) * 24 ≤ 140737488355328 := by omega
              have Y3 := Lib.hid (show H1 ≤ ((w5.alloc (.cells #[.int .i64 (q : Int), .int .i64 (x2 : Int)] 3)).alloc (.cells #[.slice (some ⟨w5.heap.size, 0, none⟩) 2 2] 32)).heap.size by simp; omega)
              have OW3 := Lib.hid ((OW.alloc (.cells #[.int .i64 (q : Int), .int .i64 (x2 : Int)] 3)).alloc (.cells #[.slice (some ⟨w5.heap.size, 0, none⟩) 2 2] 32))
              have CN := cell_one_new (w5.alloc (.cells #[.int .i64 (q : Int), .int .i64 (x2 : Int)] 3)) (.slice (some ⟨w5.heap.size, 0, none⟩) 2 2) 32
              rw [World.size_alloc] at CN
              have CN := Lib.hid CN
              clear OW
              go_wp2_with (at_builtin; refine wpList_append_lies _ rfl (.tmp 46) (.tmp 52) 26 rfl H1 32 j0 (.slice none 0 0) 1 24 Try.underlying26 hj hy0 hy1 hy2 rfl (Nat.succ_pos 0) (.slice (some ⟨g, 0, none⟩) k cp) k RV rfl OW3.out ⟨w5.heap.size + 1, 0, none⟩ 1 1 [.slice (some ⟨w5.heap.size, 0, none⟩) 2 2] rfl rfl CN.out (one_rowR _ _ _ _ rfl) (Nat.succ_pos 0) z1 z2 Y3.out _ rfl ?_)
              intro g7 c7 w7 hv7 hg7 _ _
              obtain ⟨G7, B7⟩ := G5.out.push (cs := #[.int .i64 (q : Int), .int .i64 (x2 : Int)]) (n := 2) (row := [(q : Int), (x2 : Int)]) HL.out rfl rfl (by omega) hGs hv7 hg7
              have R7 := Lib.hid (R5.out.below B7 hRH)
              have B8 := Lib.hid (B5.out.trans (B7.mono (by omega)))
              have G8 := Lib.hid G7
              have HL8 : Hid ((rows ++ [[(q : Int), (x2 : Int)]]).length = k + 1) := by show _ = _; rw [List.length_append, HL.out]; rfl
              have H28 : Hid (∀ r ∈ rows ++ [[(q : Int), (x2 : Int)]], r.length = 2) := fun r hr => by
                rcases List.mem_append.1 hr with h | h
                · exact H2.out r h
                · rw [List.mem_singleton.1 h]; rfl
              clear hv7 hg7 G7 B7 OW3 CN Y3 hGs
              clear G5 R5 B5 HL H2
              go_wp2
              go_roundw
              case rel => exact ⟨k + 1, g7, c7, _, q + 1, _, _, by omega, by omega, rfl, by go_num, by omega, by omega, G8, HL8, H28, R7, B8⟩
              case measure => simp [intOf]; omega
            · by_cases hq2 : q < N
              · have i2 : (q : Int) < (N : Int) := by omega
                have i3 : ¬ ((k : Int) < 8) := by omega
                go_wp2_with fail
                refine (pick_any B R a n c _ 30 _ HR.out (by omega) (by omega) (by omega)).mono ?_
                rintro e wp1 ⟨x1, rfl, hx1, _, hrd, honly⟩
                have Gp1 := Lib.hid (GridA.only G.out HR.out honly)
                have Rp1 := Lib.hid hrd
                have Bp1 := Lib.hid (HB.out.trans (honly.below hlow))
                clear hrd honly
                by_cases hx0 : x1 = 0
                · subst hx0
                  have l3 := lit_own wp1 #[.int .i64 (N : Int), .int .i64 (-1)] 3 (by show (2 : Nat) ≤ maxLen; unfold maxLen; omega)
                  have L3 : Hid (Own (wp1.alloc (.cells #[.int .i64 (N : Int), .int .i64 (-1)] 3)) wp1.heap.size (wp1.heap.size + 1) 3 (.slice (some ⟨wp1.heap.size, 0, none⟩) 2 2) (iv [(N : Int), -1])) := l3
                  have hbW : Below wp1.heap.size wp1 (wp1.alloc (.cells #[.int .i64 (N : Int), .int .i64 (-1)] 3)) := (Below.refl _ _).alloc (Nat.le_refl _) _
                  have hRp := Rp1.out.lt
                  have R5 := Lib.hid (Rp1.out.grow hbW)
                  have G5 := Lib.hid (Gp1.out.below hbW)
                  have B5 := Lib.hid (Bp1.out.trans (hbW.mono (by omega)))
                  have NE := Lib.hid (rd_ne l3 R5.out (by decide))
                  have OA := Lib.hid (one_any [(N : Int), -1] _ B R a n c _ _ R5 (by omega) L3 NE.out (by show 0 < 2; omega) (by show 2 ≤ 1000; omega))
                  clear l3 hbW Gp1 Rp1 Bp1 hRp
                  go_wp2_with fail
                  refine OA.out.mono ?_
                  rintro e w6 ⟨y3, _, rfl, hrd, honly⟩
                  have G6 := Lib.hid (GridA.only G5.out R5.out honly)
                  have R6 := Lib.hid hrd
                  have B6 := Lib.hid (B5.out.trans (honly.below hlow))
                  clear hrd honly OA NE L3 G5 R5 B5
                  have hGs : H1 ≤ w6.heap.size := (Nat.le_trans (Nat.le_succ_of_le (Nat.le_refl _)) ((G6.out.grid.1.1.lt g rfl).1 |> fun h => Nat.le_trans (Nat.succ_le_succ h) (G6.out.grid.1.1.lt g rfl).2))
                  have OW : w6.ownsRow H1 32 1 (.slice (some ⟨g, 0, none⟩) k cp) k RV := by
                    have h1 := G6.out.grid.1.1
                    rwa [G6.out.grid.2.1, HL.out] at h1
                  have z1 : k + 1 ≤ maxLen := by unfold maxLen; omega
                  have z2 : (k + 1) * 24 ≤ 140737488355328 := by omega
                  have Y3 := Lib.hid (show H1 ≤ ((w6.alloc (.cells #[.int .i64 (0 : Int), .int .i64 y3] 3)).alloc (.cells #[.slice (some ⟨w6.heap.size, 0, none⟩) 2 2] 32)).heap.size by simp; omega)
                  have OW3 := Lib.hid ((OW.alloc (.cells #[.int .i64 (0 : Int), .int .i64 y3] 3)).alloc (.cells #[.slice (some ⟨w6.heap.size, 0, none⟩) 2 2] 32))
                  have CN := cell_one_new (w6.alloc (.cells #[.int .i64 (0 : Int), .int .i64 y3] 3)) (.slice (some ⟨w6.heap.size, 0, none⟩) 2 2) 32
                  rw [World.size_alloc] at CN
                  have CN := Lib.hid CN
                  clear OW
                  go_wp2_with (at_builtin; refine wpList_append_lies _ rfl (.tmp 57) (.tmp 63) 26 rfl H1 32 j0 (.slice none 0 0) 1 24 Try.underlying26 hj hy0 hy1 hy2 rfl (Nat.succ_pos 0) (.slice (some ⟨g, 0, none⟩) k cp) k RV rfl OW3.out ⟨w6.heap.size + 1, 0, none⟩ 1 1 [.slice (some ⟨w6.heap.size, 0, none⟩) 2 2] rfl rfl CN.out (one_rowR _ _ _ _ rfl) (Nat.succ_pos 0) z1 z2 Y3.out _ rfl ?_)
                  intro g7 c7 w7 hv7 hg7 _ _
                  obtain ⟨G7, B7⟩ := G6.out.push (cs := #[.int .i64 (0 : Int), .int .i64 y3]) (n := 2) (row := [(0 : Int), y3]) HL.out rfl rfl (by omega) hGs hv7 hg7
                  have R7 := Lib.hid (R6.out.below B7 hRH)
                  have B8 := Lib.hid (B6.out.trans (B7.mono (by omega)))
                  have G8 := Lib.hid G7
                  have HL8 : Hid ((rows ++ [[(0 : Int), y3]]).length = k + 1) := by show _ = _; rw [List.length_append, HL.out]; rfl
                  have H28 : Hid (∀ r ∈ rows ++ [[(0 : Int), y3]], r.length = 2) := fun r hr => by
                    rcases List.mem_append.1 hr with h | h
                    · exact H2.out r h
                    · rw [List.mem_singleton.1 h]; rfl
                  clear hv7 hg7 G7 B7 OW3 CN Y3 hGs
                  go_wp2
                  go_ret2
                  exact ⟨_, _, _, _, _, H1, rfl, G8.out.grid, by omega, by rw [HL8.out]; omega, H28.out, B8.out, by omega, R7.out, hRH, hBH⟩
                · have j0' : ((x1 : Int) == 0) = false := beq_false_of_ne (by omega)
                  have HLk := Lib.hid (show rows.length ≤ 9 by rw [HL.out]; omega)
                  go_wp2
                  go_ret2
                  exact ⟨_, _, _, _, _, H1, rfl, Gp1.out.grid, by omega, HLk.out, H2.out, Bp1.out, by omega, Rp1.out, hRH, hBH⟩
              · have i2 : ¬ ((q : Int) < (N : Int)) := by omega
                go_wp2_with fail
                refine (pick_any B R a n c _ 30 _ HR.out (by omega) (by omega) (by omega)).mono ?_
                rintro e wp1 ⟨x1, rfl, hx1, _, hrd, honly⟩
                have Gp1 := Lib.hid (GridA.only G.out HR.out honly)
                have Rp1 := Lib.hid hrd
                have Bp1 := Lib.hid (HB.out.trans (honly.below hlow))
                clear hrd honly
                by_cases hx0 : x1 = 0
                · subst hx0
                  have l3 := lit_own wp1 #[.int .i64 (N : Int), .int .i64 (-1)] 3 (by show (2 : Nat) ≤ maxLen; unfold maxLen; omega)
                  have L3 : Hid (Own (wp1.alloc (.cells #[.int .i64 (N : Int), .int .i64 (-1)] 3)) wp1.heap.size (wp1.heap.size + 1) 3 (.slice (some ⟨wp1.heap.size, 0, none⟩) 2 2) (iv [(N : Int), -1])) := l3
                  have hbW : Below wp1.heap.size wp1 (wp1.alloc (.cells #[.int .i64 (N : Int), .int .i64 (-1)] 3)) := (Below.refl _ _).alloc (Nat.le_refl _) _
                  have hRp := Rp1.out.lt
                  have R5 := Lib.hid (Rp1.out.grow hbW)
                  have G5 := Lib.hid (Gp1.out.below hbW)
                  have B5 := Lib.hid (Bp1.out.trans (hbW.mono (by omega)))
                  have NE := Lib.hid (rd_ne l3 R5.out (by decide))
                  have OA := Lib.hid (one_any [(N : Int), -1] _ B R a n c _ _ R5 (by omega) L3 NE.out (by show 0 < 2; omega) (by show 2 ≤ 1000; omega))
                  clear l3 hbW Gp1 Rp1 Bp1 hRp
                  go_wp2_with fail
                  refine OA.out.mono ?_
                  rintro e w6 ⟨y3, _, rfl, hrd, honly⟩
                  have G6 := Lib.hid (GridA.only G5.out R5.out honly)
                  have R6 := Lib.hid hrd
                  have B6 := Lib.hid (B5.out.trans (honly.below hlow))
                  clear hrd honly OA NE L3 G5 R5 B5
                  have hGs : H1 ≤ w6.heap.size := (Nat.le_trans (Nat.le_succ_of_le (Nat.le_refl _)) ((G6.out.grid.1.1.lt g rfl).1 |> fun h => Nat.le_trans (Nat.succ_le_succ h) (G6.out.grid.1.1.lt g rfl).2))
                  have OW : w6.ownsRow H1 32 1 (.slice (some ⟨g, 0, none⟩) k cp) k RV := by
                    have h1 := G6.out.grid.1.1
                    rwa [G6.out.grid.2.1, HL.out] at h1
                  have z1 : k + 1 ≤ maxLen := by unfold maxLen; omega
                  have z2 : (k + 1) * 24 ≤ 140737488355328 := by omega
                  have Y3 := Lib.hid (show H1 ≤ ((w6.alloc (.cells #[.int .i64 (0 : Int), .int .i64 y3] 3)).alloc (.cells #[.slice (some ⟨w6.heap.size, 0, none⟩) 2 2] 32)).heap.size by simp; omega)
                  have OW3 := Lib.hid ((OW.alloc (.cells #[.int .i64 (0 : Int), .int .i64 y3] 3)).alloc (.cells #[.slice (some ⟨w6.heap.size, 0, none⟩) 2 2] 32))
                  have CN := cell_one_new (w6.alloc (.cells #[.int .i64 (0 : Int), .int .i64 y3] 3)) (.slice (some ⟨w6.heap.size, 0, none⟩) 2 2) 32
                  rw [World.size_alloc] at CN
                  have CN := Lib.hid CN
                  clear OW
                  go_wp2_with (at_builtin; refine wpList_append_lies _ rfl (.tmp 57) (.tmp 63) 26 rfl H1 32 j0 (.slice none 0 0) 1 24 Try.underlying26 hj hy0 hy1 hy2 rfl (Nat.succ_pos 0) (.slice (some ⟨g, 0, none⟩) k cp) k RV rfl OW3.out ⟨w6.heap.size + 1, 0, none⟩ 1 1 [.slice (some ⟨w6.heap.size, 0, none⟩) 2 2] rfl rfl CN.out (one_rowR _ _ _ _ rfl) (Nat.succ_pos 0) z1 z2 Y3.out _ rfl ?_)
                  intro g7 c7 w7 hv7 hg7 _ _
                  obtain ⟨G7, B7⟩ := G6.out.push (cs := #[.int .i64 (0 : Int), .int .i64 y3]) (n := 2) (row := [(0 : Int), y3]) HL.out rfl rfl (by omega) hGs hv7 hg7
                  have R7 := Lib.hid (R6.out.below B7 hRH)
                  have B8 := Lib.hid (B6.out.trans (B7.mono (by omega)))
                  have G8 := Lib.hid G7
                  have HL8 : Hid ((rows ++ [[(0 : Int), y3]]).length = k + 1) := by show _ = _; rw [List.length_append, HL.out]; rfl
                  have H28 : Hid (∀ r ∈ rows ++ [[(0 : Int), y3]], r.length = 2) := fun r hr => by
                    rcases List.mem_append.1 hr with h | h
                    · exact H2.out r h
                    · rw [List.mem_singleton.1 h]; rfl
                  clear hv7 hg7 G7 B7 OW3 CN Y3 hGs
                  go_wp2
                  go_ret2
                  exact ⟨_, _, _, _, _, H1, rfl, G8.out.grid, by omega, by rw [HL8.out]; omega, H28.out, B8.out, by omega, R7.out, hRH, hBH⟩
                · have j0' : ((x1 : Int) == 0) = false := beq_false_of_ne (by omega)
                  have HLk := Lib.hid (show rows.length ≤ 9 by rw [HL.out]; omega)
                  go_wp2
                  go_ret2
                  exact ⟨_, _, _, _, _, H1, rfl, Gp1.out.grid, by omega, HLk.out, H2.out, Bp1.out, by omega, Rp1.out, hRH, hBH⟩
        · have j1 : ((x0 : Int) == 0) = false := beq_false_of_ne (by omega)
          go_wp2_with fail
          refine (pick_any B R a n c _ 30 _ R4.out (by omega) (by omega) (by omega)).mono ?_
          rintro e wp1 ⟨x1, rfl, hx1, _, hrd, honly⟩
          have Gp1 := Lib.hid (GridA.only G4.out R4.out honly)
          have Rp1 := Lib.hid hrd
          have Bp1 := Lib.hid (B4.out.trans (honly.below hlow))
          clear hrd honly
          by_cases hx0 : x1 = 0
          · subst hx0
            have l3 := lit_own wp1 #[.int .i64 (N : Int), .int .i64 (-1)] 3 (by show (2 : Nat) ≤ maxLen; unfold maxLen; omega)
            have L3 : Hid (Own (wp1.alloc (.cells #[.int .i64 (N : Int), .int .i64 (-1)] 3)) wp1.heap.size (wp1.heap.size + 1) 3 (.slice (some ⟨wp1.heap.size, 0, none⟩) 2 2) (iv [(N : Int), -1])) := l3
            have hbW : Below wp1.heap.size wp1 (wp1.alloc (.cells #[.int .i64 (N : Int), .int .i64 (-1)] 3)) := (Below.refl _ _).alloc (Nat.le_refl _) _
            have hRp := Rp1.out.lt
            have R5 := Lib.hid (Rp1.out.grow hbW)
            have G5 := Lib.hid (Gp1.out.below hbW)
            have B5 := Lib.hid (Bp1.out.trans (hbW.mono (by omega)))
            have NE := Lib.hid (rd_ne l3 R5.out (by decide))
            have OA := Lib.hid (one_any [(N : Int), -1] _ B R a n c _ _ R5 (by omega) L3 NE.out (by show 0 < 2; omega) (by show 2 ≤ 1000; omega))
            clear l3 hbW Gp1 Rp1 Bp1 hRp
            go_wp2_with fail
            refine OA.out.mono ?_
            rintro e w6 ⟨y3, _, rfl, hrd, honly⟩
            have G6 := Lib.hid (GridA.only G5.out R5.out honly)
            have R6 := Lib.hid hrd
            have B6 := Lib.hid (B5.out.trans (honly.below hlow))
            clear hrd honly OA NE L3 G5 R5 B5
            have hGs : H1 ≤ w6.heap.size := (Nat.le_trans (Nat.le_succ_of_le (Nat.le_refl _)) ((G6.out.grid.1.1.lt g rfl).1 |> fun h => Nat.le_trans (Nat.succ_le_succ h) (G6.out.grid.1.1.lt g rfl).2))
            have OW : w6.ownsRow H1 32 1 (.slice (some ⟨g, 0, none⟩) k cp) k RV := by
              have h1 := G6.out.grid.1.1
              rwa [G6.out.grid.2.1, HL.out] at h1
            have z1 : k + 1 ≤ maxLen := by unfold maxLen; omega
            have z2 : (k + 1) * 24 ≤ 140737488355328 := by omega
            have Y3 := Lib.hid (show H1 ≤ ((w6.alloc (.cells #[.int .i64 (0 : Int), .int .i64 y3] 3)).alloc (.cells #[.slice (some ⟨w6.heap.size, 0, none⟩) 2 2] 32)).heap.size by simp; omega)
            have OW3 := Lib.hid ((OW.alloc (.cells #[.int .i64 (0 : Int), .int .i64 y3] 3)).alloc (.cells #[.slice (some ⟨w6.heap.size, 0, none⟩) 2 2] 32))
            have CN := cell_one_new (w6.alloc (.cells #[.int .i64 (0 : Int), .int .i64 y3] 3)) (.slice (some ⟨w6.heap.size, 0, none⟩) 2 2) 32
            rw [World.size_alloc] at CN
            have CN := Lib.hid CN
            clear OW
            go_wp2_with (at_builtin; refine wpList_append_lies _ rfl (.tmp 57) (.tmp 63) 26 rfl H1 32 j0 (.slice none 0 0) 1 24 Try.underlying26 hj hy0 hy1 hy2 rfl (Nat.succ_pos 0) (.slice (some ⟨g, 0, none⟩) k cp) k RV rfl OW3.out ⟨w6.heap.size + 1, 0, none⟩ 1 1 [.slice (some ⟨w6.heap.size, 0, none⟩) 2 2] rfl rfl CN.out (one_rowR _ _ _ _ rfl) (Nat.succ_pos 0) z1 z2 Y3.out _ rfl ?_)
            intro g7 c7 w7 hv7 hg7 _ _
            obtain ⟨G7, B7⟩ := G6.out.push (cs := #[.int .i64 (0 : Int), .int .i64 y3]) (n := 2) (row := [(0 : Int), y3]) HL.out rfl rfl (by omega) hGs hv7 hg7
            have R7 := Lib.hid (R6.out.below B7 hRH)
            have B8 := Lib.hid (B6.out.trans (B7.mono (by omega)))
            have G8 := Lib.hid G7
            have HL8 : Hid ((rows ++ [[(0 : Int), y3]]).length = k + 1) := by show _ = _; rw [List.length_append, HL.out]; rfl
            have H28 : Hid (∀ r ∈ rows ++ [[(0 : Int), y3]], r.length = 2) := fun r hr => by
              rcases List.mem_append.1 hr with h | h
              · exact H2.out r h
              · rw [List.mem_singleton.1 h]; rfl
            clear hv7 hg7 G7 B7 OW3 CN Y3 hGs
            go_wp2
            go_ret2
            exact ⟨_, _, _, _, _, H1, rfl, G8.out.grid, by omega, by rw [HL8.out]; omega, H28.out, B8.out, by omega, R7.out, hRH, hBH⟩
          · have j0' : ((x1 : Int) == 0) = false := beq_false_of_ne (by omega)
            have HLk := Lib.hid (show rows.length ≤ 9 by rw [HL.out]; omega)
            go_wp2
            go_ret2
            exact ⟨_, _, _, _, _, H1, rfl, Gp1.out.grid, by omega, HLk.out, H2.out, Bp1.out, by omega, Rp1.out, hRH, hBH⟩
      · have c1 : ¬ ((1 : Int) < (N : Int)) := by omega
        go_wp2_with fail
        refine (pick_any B R a n c _ 30 _ HR.out (by omega) (by omega) (by omega)).mono ?_
        rintro e wp1 ⟨x1, rfl, hx1, _, hrd, honly⟩
        have Gp1 := Lib.hid (GridA.only G.out HR.out honly)
        have Rp1 := Lib.hid hrd
        have Bp1 := Lib.hid (HB.out.trans (honly.below hlow))
        clear hrd honly
        by_cases hx0 : x1 = 0
        · subst hx0
          have l3 := lit_own wp1 #[.int .i64 (N : Int), .int .i64 (-1)] 3 (by show (2 : Nat) ≤ maxLen; unfold maxLen; omega)
          have L3 : Hid (Own (wp1.alloc (.cells #[.int .i64 (N : Int), .int .i64 (-1)] 3)) wp1.heap.size (wp1.heap.size + 1) 3 (.slice (some ⟨wp1.heap.size, 0, none⟩) 2 2) (iv [(N : Int), -1])) := l3
          have hbW : Below wp1.heap.size wp1 (wp1.alloc (.cells #[.int .i64 (N : Int), .int .i64 (-1)] 3)) := (Below.refl _ _).alloc (Nat.le_refl _) _
          have hRp := Rp1.out.lt
          have R5 := Lib.hid (Rp1.out.grow hbW)
          have G5 := Lib.hid (Gp1.out.below hbW)
          have B5 := Lib.hid (Bp1.out.trans (hbW.mono (by omega)))
          have NE := Lib.hid (rd_ne l3 R5.out (by decide))
          have OA := Lib.hid (one_any [(N : Int), -1] _ B R a n c _ _ R5 (by omega) L3 NE.out (by show 0 < 2; omega) (by show 2 ≤ 1000; omega))
          clear l3 hbW Gp1 Rp1 Bp1 hRp
          go_wp2_with fail
          refine OA.out.mono ?_
          rintro e w6 ⟨y3, _, rfl, hrd, honly⟩
          have G6 := Lib.hid (GridA.only G5.out R5.out honly)
          have R6 := Lib.hid hrd
          have B6 := Lib.hid (B5.out.trans (honly.below hlow))
          clear hrd honly OA NE L3 G5 R5 B5
          have hGs : H1 ≤ w6.heap.size := (Nat.le_trans (Nat.le_succ_of_le (Nat.le_refl _)) ((G6.out.grid.1.1.lt g rfl).1 |> fun h => Nat.le_trans (Nat.succ_le_succ h) (G6.out.grid.1.1.lt g rfl).2))
          have OW : w6.ownsRow H1 32 1 (.slice (some ⟨g, 0, none⟩) k cp) k RV := by
            have h1 := G6.out.grid.1.1
            rwa [G6.out.grid.2.1, HL.out] at h1
          have z1 : k + 1 ≤ maxLen := by unfold maxLen; omega
          have z2 : (k + 1) * 24 ≤ 140737488355328 := by omega
          have Y3 := Lib.hid (show H1 ≤ ((w6.alloc (.cells #[.int .i64 (0 : Int), .int .i64 y3] 3)).alloc (.cells #[.slice (some ⟨w6.heap.size, 0, none⟩) 2 2] 32)).heap.size by simp; omega)
          have OW3 := Lib.hid ((OW.alloc (.cells #[.int .i64 (0 : Int), .int .i64 y3] 3)).alloc (.cells #[.slice (some ⟨w6.heap.size, 0, none⟩) 2 2] 32))
          have CN := cell_one_new (w6.alloc (.cells #[.int .i64 (0 : Int), .int .i64 y3] 3)) (.slice (some ⟨w6.heap.size, 0, none⟩) 2 2) 32
          rw [World.size_alloc] at CN
          have CN := Lib.hid CN
          clear OW
          go_wp2_with (at_builtin; refine wpList_append_lies _ rfl (.tmp 57) (.tmp 63) 26 rfl H1 32 j0 (.slice none 0 0) 1 24 Try.underlying26 hj hy0 hy1 hy2 rfl (Nat.succ_pos 0) (.slice (some ⟨g, 0, none⟩) k cp) k RV rfl OW3.out ⟨w6.heap.size + 1, 0, none⟩ 1 1 [.slice (some ⟨w6.heap.size, 0, none⟩) 2 2] rfl rfl CN.out (one_rowR _ _ _ _ rfl) (Nat.succ_pos 0) z1 z2 Y3.out _ rfl ?_)
          intro g7 c7 w7 hv7 hg7 _ _
          obtain ⟨G7, B7⟩ := G6.out.push (cs := #[.int .i64 (0 : Int), .int .i64 y3]) (n := 2) (row := [(0 : Int), y3]) HL.out rfl rfl (by omega) hGs hv7 hg7
          have R7 := Lib.hid (R6.out.below B7 hRH)
          have B8 := Lib.hid (B6.out.trans (B7.mono (by omega)))
          have G8 := Lib.hid G7
          have HL8 : Hid ((rows ++ [[(0 : Int), y3]]).length = k + 1) := by show _ = _; rw [List.length_append, HL.out]; rfl
          have H28 : Hid (∀ r ∈ rows ++ [[(0 : Int), y3]], r.length = 2) := fun r hr => by
            rcases List.mem_append.1 hr with h | h
            · exact H2.out r h
            · rw [List.mem_singleton.1 h]; rfl
          clear hv7 hg7 G7 B7 OW3 CN Y3 hGs
          go_wp2
          go_ret2
          exact ⟨_, _, _, _, _, H1, rfl, G8.out.grid, by omega, by rw [HL8.out]; omega, H28.out, B8.out, by omega, R7.out, hRH, hBH⟩
        · have j0' : ((x1 : Int) == 0) = false := beq_false_of_ne (by omega)
          have HLk := Lib.hid (show rows.length ≤ 9 by rw [HL.out]; omega)
          go_wp2
          go_ret2
          exact ⟨_, _, _, _, _, H1, rfl, Gp1.out.grid, by omega, HLk.out, H2.out, Bp1.out, by omega, Rp1.out, hRH, hBH⟩

/-- what the laws on webs are handed -/
def WebIn (B : Nat) (w : World) (e : Ending) (w' : World) : Prop :=
  ∃ (m : Int) (rows : List (List Int)) (v : Value) (RV : List Value), e = .returned (.tuple #[.int .i64 m, v]) ∧ Grid w' B w'.heap.size v RV rows ∧ (1 ≤ m ∧ m ≤ 5) ∧ rows.length ≤ 9 ∧ (∀ r ∈ rows, r.length = 2) ∧ Below B w w'
def WebInK (B : Nat) (w : World) (e : Ending) (w' : World) : Prop :=
  ∃ (m k : Int) (rows : List (List Int)) (v : Value) (RV : List Value), e = .returned (.tuple #[.int .i64 m, v, .int .i64 k]) ∧ Grid w' B w'.heap.size v RV rows ∧ (1 ≤ m ∧ m ≤ 5) ∧ (-1 ≤ k ∧ k ≤ 9) ∧ rows.length ≤ 9 ∧ (∀ r ∈ rows, r.length = 2) ∧ Below B w w'
set_option maxHeartbeats 800000 in
theorem drawValidWeb (a : Option Addr) (len cap : Nat) (zs : List Int) (w : World) (hr : Hid (IsRow .u8 w a len cap zs)) (hl : len ≤ 1048576) :
    Calls Try.prog 16 #[.slice a len cap] w (WebIn w.heap.size w) := by
  go_enter Try.func16, Try.ntmps16
  go_wp2_with fail
  refine (newReader_any a len cap zs w hr.out hl).mono ?_
  rintro e w1 ⟨n, R, rfl, h, hb⟩
  have H := Lib.hid h
  have HB := Lib.hid hb
  clear h hb hr
  go_wp2_with fail
  refine (someWeb_any w.heap.size R a n cap w1 H).mono ?_
  rintro e w2 ⟨m, rows, v, RV, p, H0, rfl, hG, h1, h2, h3, hb, _, _, _, hBH⟩
  have HG := Lib.hid (hG.lo hBH)
  have HB2 := Lib.hid (HB.out.trans hb)
  have H3 := Lib.hid h3
  clear hG hb h3
  go_wp2
  go_ret2
  exact ⟨m, rows, v, RV, rfl, HG.out, h1, h2, H3.out, HB2.out⟩
set_option maxHeartbeats 800000 in
theorem drawSpanByRows (a : Option Addr) (len cap : Nat) (zs : List Int) (w : World) (hr : Hid (IsRow .u8 w a len cap zs)) (hl : len ≤ 1048576) :
    Calls Try.prog 19 #[.slice a len cap] w (WebIn w.heap.size w) := by
  go_enter Try.func19, Try.ntmps19
  go_wp2_with fail
  refine (newReader_any a len cap zs w hr.out hl).mono ?_
  rintro e w1 ⟨n, R, rfl, h, hb⟩
  have H := Lib.hid h
  have HB := Lib.hid hb
  clear h hb hr
  go_wp2_with fail
  refine (someWeb_any w.heap.size R a n cap w1 H).mono ?_
  rintro e w2 ⟨m, rows, v, RV, p, H0, rfl, hG, h1, h2, h3, hb, _, _, _, hBH⟩
  have HG := Lib.hid (hG.lo hBH)
  have HB2 := Lib.hid (HB.out.trans hb)
  have H3 := Lib.hid h3
  clear hG hb h3
  go_wp2
  go_ret2
  exact ⟨m, rows, v, RV, rfl, HG.out, h1, h2, H3.out, HB2.out⟩
set_option maxHeartbeats 800000 in
theorem drawSpanByCuts (a : Option Addr) (len cap : Nat) (zs : List Int) (w : World) (hr : Hid (IsRow .u8 w a len cap zs)) (hl : len ≤ 1048576) :
    Calls Try.prog 23 #[.slice a len cap] w (WebIn w.heap.size w) := by
  go_enter Try.func23, Try.ntmps23
  go_wp2_with fail
  refine (newReader_any a len cap zs w hr.out hl).mono ?_
  rintro e w1 ⟨n, R, rfl, h, hb⟩
  have H := Lib.hid h
  have HB := Lib.hid hb
  clear h hb hr
  go_wp2_with fail
  refine (someWeb_any w.heap.size R a n cap w1 H).mono ?_
  rintro e w2 ⟨m, rows, v, RV, p, H0, rfl, hG, h1, h2, h3, hb, _, _, _, hBH⟩
  have HG := Lib.hid (hG.lo hBH)
  have HB2 := Lib.hid (HB.out.trans hb)
  have H3 := Lib.hid h3
  clear hG hb h3
  go_wp2
  go_ret2
  exact ⟨m, rows, v, RV, rfl, HG.out, h1, h2, H3.out, HB2.out⟩
set_option maxHeartbeats 800000 in
theorem drawSpansOf (a : Option Addr) (len cap : Nat) (zs : List Int) (w : World) (hr : Hid (IsRow .u8 w a len cap zs)) (hl : len ≤ 1048576) :
    Calls Try.prog 26 #[.slice a len cap] w (WebIn w.heap.size w) := by
  go_enter Try.func26, Try.ntmps26
  go_wp2_with fail
  refine (newReader_any a len cap zs w hr.out hl).mono ?_
  rintro e w1 ⟨n, R, rfl, h, hb⟩
  have H := Lib.hid h
  have HB := Lib.hid hb
  clear h hb hr
  go_wp2_with fail
  refine (someWeb_any w.heap.size R a n cap w1 H).mono ?_
  rintro e w2 ⟨m, rows, v, RV, p, H0, rfl, hG, h1, h2, h3, hb, _, _, _, hBH⟩
  have HG := Lib.hid (hG.lo hBH)
  have HB2 := Lib.hid (HB.out.trans hb)
  have H3 := Lib.hid h3
  clear hG hb h3
  go_wp2
  go_ret2
  exact ⟨m, rows, v, RV, rfl, HG.out, h1, h2, H3.out, HB2.out⟩
set_option maxHeartbeats 1600000 in
set_option maxRecDepth 100000 in
theorem drawSpansWith (a : Option Addr) (len cap : Nat) (zs : List Int) (w : World) (hr : Hid (IsRow .u8 w a len cap zs)) (hl : len ≤ 1048576) :
    Calls Try.prog 31 #[.slice a len cap] w (WebInK w.heap.size w) := by
  go_enter Try.func31, Try.ntmps31
  go_wp2_with fail
  refine (newReader_any a len cap zs w hr.out hl).mono ?_
  rintro e w1 ⟨n, R, rfl, h, hb⟩
  have H := Lib.hid h
  have HB := Lib.hid hb
  have hlow := h.low
  clear h hb hr
  go_wp2_with fail
  refine (someWeb_any w.heap.size R a n cap w1 H).mono ?_
  rintro e w2 ⟨m, rows, v, RV, p, H0, rfl, hG, h1, h2, h3, hb, hp, hrd, hRH, hBH⟩
  obtain ⟨av, cv, rfl, _, _, _, _⟩ := hG.1.slice
  have hgl : RV.length = rows.length := hG.2.1
  obtain ⟨z, hz⟩ : ∃ z, z = RV.length := ⟨_, rfl⟩
  have hz9 : z ≤ 9 := by omega
  rw [← hz] at hG ⊢
  have HG := Lib.hid hG
  have HB2 := Lib.hid (HB.out.trans hb)
  have H3 := Lib.hid h3
  have HR := Lib.hid hrd
  clear hG hb h3 hrd hgl hz
  go_wp2_with fail
  refine (pick_any w.heap.size R a n cap _ _ _ HR.out (by omega) (by omega) (by omega)).mono ?_
  rintro e w3 ⟨x, rfl, hx1, hx2, hrd, honly⟩
  have hx9 : x ≤ 9 := by
    by_cases hz0 : 1 ≤ (z : Int)
    · have := hx1 hz0; omega
    · have := hx2 (by omega); omega
  have G3 := Lib.hid ((HG.out.only HR.out honly).more (show _ ≤ w3.heap.size from Nat.le_of_eq honly.size.symm))
  have B3 := Lib.hid (HB2.out.trans (honly.below hlow))
  have l3 := lit_own w3 #[.int .i64 (x : Int), .int .i64 0, .int .i64 (z : Int), .int .i64 (-1)] 3 (by show (4 : Nat) ≤ maxLen; unfold maxLen; omega)
  have L3 : Hid (Own (w3.alloc (.cells #[.int .i64 (x : Int), .int .i64 0, .int .i64 (z : Int), .int .i64 (-1)] 3)) w3.heap.size (w3.heap.size + 1) 3 (.slice (some ⟨w3.heap.size, 0, none⟩) 4 4) (iv [(x : Int), 0, (z : Int), -1])) := l3
  have hbW : Below w3.heap.size w3 (w3.alloc (.cells #[.int .i64 (x : Int), .int .i64 0, .int .i64 (z : Int), .int .i64 (-1)] 3)) := (Below.refl _ _).alloc (Nat.le_refl _) _
  have hR3 := hrd.lt
  have R4 := Lib.hid (hrd.grow hbW)
  have G4 := Lib.hid ((G3.out.below hbW).more hbW.size)
  have B4 := Lib.hid (B3.out.trans (hbW.mono (by omega)))
  have NE := Lib.hid (rd_ne l3 R4.out (by decide))
  have OA := Lib.hid (one_any [(x : Int), 0, (z : Int), -1] _ w.heap.size R a n cap _ _ R4 (by omega) L3 NE.out (by show 0 < 4; omega) (by show 4 ≤ 1000; omega))
  clear hrd honly l3 hbW HG HB2 HR G3 B3 hx1 hx2
  go_wp2_with fail
  refine OA.out.mono ?_
  rintro e w5 ⟨y, hy, rfl, hrd, honly⟩
  have hy9 : -1 ≤ y ∧ y ≤ 9 := by
    simp only [List.mem_cons, List.not_mem_nil, or_false] at hy
    omega
  have G5 := Lib.hid ((G4.out.only R4.out honly).more (show _ ≤ w5.heap.size from Nat.le_of_eq honly.size.symm))
  have B5 := Lib.hid (B4.out.trans (honly.below hlow))
  clear hy hrd honly OA NE L3 G4 R4 B4
  go_wp2
  go_ret3
  exact ⟨m, y, rows, _, RV, rfl, G5.out.lo hBH, h1, hy9, h2, H3.out, B5.out⟩
end Go.Proofs.Ytgboecnfghhooaa
