/-
  The walk of the law on rings.
-/
import Derived.Test.YtgboecnfghhooaaCGridApp
import Derived.Test.YtgboecnfghhooaaCGridA
import Derived.Test.YtgboecnfghhooaaCByCuts
import Derived.Test.YtgboecnfghhooaaCByRows
import Derived.Test.YtgboecnfghhooaaCWithP
import Derived.Test.YtgboecnfghhooaaKSpanL
namespace Go.Proofs.Ytgboecnfghhooaa
open Go.RowKit

/-- the first k edges of the ring of N nodes -/
def ringR (N k : Nat) : List (List Int) := (List.range k).map fun (v : Nat) => [(v : Int), (((v + 1) % N : Nat) : Int)]
theorem ringR_len (N k : Nat) : (ringR N k).length = k := by simp [ringR]
theorem ringR_succ (N k : Nat) : ringR N (k + 1) = ringR N k ++ [[(k : Int), (((k + 1) % N : Nat) : Int)]] := by
  unfold ringR; rw [List.range_succ, List.map_append]; rfl
theorem ringR_two (N k : Nat) : ∀ r ∈ ringR N k, r.length = 2 := fun r hr => by
  obtain ⟨v, _, rfl⟩ := List.mem_map.1 hr
  rfl
theorem ringR_edges (N : Nat) : edgesR (ringR N N) = ringE N := by
  unfold edgesR ringR ringE
  rw [List.map_map]
  refine List.map_congr_left fun v _ => ?_
  show ((v : Int).toNat, (((v + 1) % N : Nat) : Int).toNat) = _
  rw [Int.toNat_natCast, Int.toNat_natCast]
theorem ringR_web {N : Nat} (h3 : 3 ≤ N) (h5 : N ≤ 5) : webB (N : Int) (ringR N N) = true := by
  refine webB_iff.2 ⟨fun r hr => ?_, by omega, by rw [ringR_len]; omega⟩
  obtain ⟨v, hv, rfl⟩ := List.mem_map.1 hr
  have hv := List.mem_range.1 hv
  have := Nat.mod_lt (v + 1) (by omega : 0 < N)
  refine ⟨rfl, ?_, ?_⟩
  · show 0 ≤ (v : Int) ∧ (v : Int) ≤ (N : Int) - 1
    omega
  · show 0 ≤ (((v + 1) % N : Nat) : Int) ∧ (((v + 1) % N : Nat) : Int) ≤ (N : Int) - 1
    omega
theorem ring_facts {N : Nat} (h3 : 3 ≤ N) (h5 : N ≤ 5) : spanC (N : Int) (ringR N N) = N ∧ spanW (N : Int) (ringR N N) 0 = (N : Int) - 1 := by
  have h := List.all_eq_true.1 ring_spans N (List.mem_range.2 (by omega))
  simp only [Bool.or_eq_true, Bool.and_eq_true, decide_eq_true_eq] at h
  obtain ⟨e1, e2⟩ := h.resolve_left (by omega)
  constructor
  · rw [spanC, if_pos (ringR_web h3 h5), Int.toNat_natCast, ringR_edges, e1]
  · rw [spanW, if_pos ⟨ringR_web h3 h5, by omega, by rw [ringR_len]; omega⟩, Int.toNat_natCast, ringR_edges]
    show ((hasN (spansN N (ringE N)) 0 : Nat) : Int) = _
    rw [e2]; omega
set_option maxHeartbeats 3200000 in
set_option maxRecDepth 100000 in
theorem rings_law (a : Option Addr) (len cap : Nat) (zs : List Int) (w : World) (hr0 : IsRow .u8 w a len cap zs) :
    Calls Try.prog 10 #[.slice a len cap] w fun e w' => e = .returned (.bool true) ∧ Below w.heap.size w w' := by
  have hr := Lib.hid hr0
  obtain ⟨j0, hj, hy0, hy1, hy2⟩ := info_parts Try.infoRowR
  clear hr0
  by_cases hbig : (1048576 : Int) < (len : Int)
  · go_enter Try.func10, Try.ntmps10
    go_wp2
    go_ret
    exact ⟨rfl, Below.refl _ _⟩
  · go_enter Try.func10, Try.ntmps10
    go_wp2_with fail
    refine (drawSpanByCuts a len cap zs w hr (by omega)).mono ?_
    rintro e w1 ⟨n, rows, v, RV, rfl, g1, hn, hl, hr2, b1⟩
    have hwf : (Lit.int .i64 n).wf = true := wf_smallW n (by omega)
    have G1 := Lib.hid g1
    have B1 := Lib.hid b1
    have hrs : ∀ r ∈ rows, r.length ≤ 1048576 := fun r h => by rw [hr2 r h]; decide
    have HRS := Lib.hid hrs
    have hrl : rows.length ≤ 1048576 := by omega
    obtain ⟨av, cv, rfl, hcv, _⟩ := Grid.form g1
    obtain ⟨m, hm⟩ : ∃ m, m = rows.length := ⟨_, rfl⟩
    rw [← hm] at G1 hcv ⊢
    have HMR := Lib.hid hm
    have s01 := b1.size
    clear g1 b1 hr hrs hm
    have CI := Lib.hid (spanByCuts_p n rows _ RV w1 _ _ G1 (Nat.le_refl _) hrl HRS.out hwf)
    obtain ⟨t, ht⟩ : ∃ t, t = spanC n rows := ⟨_, rfl⟩
    rw [← ht] at CI
    have HT := Lib.hid ht
    clear ht
    go_wp2_with fail
    refine CI.out.mono ?_
    rintro e w2 ⟨rfl, b2⟩
    have G2 := Lib.hid (G1.out.below b2)
    have B2 := Lib.hid (B1.out.trans (b2.mono s01))
    have s12 := b2.size
    have CS := Lib.hid (specSpanByCuts_any n rows _ RV w2 G2 s12 hrl)
    rw [← HT.out] at CS
    clear b2 CI
    go_wp2_with fail
    refine CS.out.mono ?_
    rintro e w3 ⟨rfl, b3⟩
    have G3 := Lib.hid (G2.out.below (b3.mono s12))
    have B3 := Lib.hid (B2.out.trans (b3.mono (by omega)))
    have s13 : w1.heap.size ≤ w3.heap.size := by have := b3.size; omega
    have q2 : ((t : Int) != t) = false := by simp
    have CV := Lib.hid (validWeb_p n rows _ RV w3 _ _ G3 s13 hrl HRS.out hwf)
    obtain ⟨b, hb⟩ : ∃ b, b = webB n rows := ⟨_, rfl⟩
    rw [← hb] at CV
    clear b3 G2 B2 CS hb
    go_wp2_with fail
    refine CV.out.mono ?_
    rintro e w4 ⟨rfl, b4⟩
    have B4 := Lib.hid (B3.out.trans (b4.mono (by omega)))
    have s04 : w.heap.size ≤ w4.heap.size := by have := b4.size; omega
    clear b4 CV G3 B3
    cases b with
    | false =>
      go_wp2
      go_ret
      exact ⟨rfl, B4.out⟩
    | true =>
      by_cases h3 : n < 3
      · go_wp2
        go_ret
        exact ⟨rfl, B4.out⟩
      · obtain ⟨N, hN⟩ : ∃ N : Nat, n = N := ⟨n.toNat, by omega⟩
        subst hN
        have hN3 : 3 ≤ N := by omega
        have hN5 : N ≤ 5 := by omega
        have HF := Lib.hid (ring_facts hN3 hN5)
        have en : IntKind.i64.wrap ((N : Int) - 1) = (N : Int) - 1 := by rw [IntKind.wrap_i64]; omega
        have q0 : ¬ ((N : Int) = 0) := by omega
        obtain ⟨B, hBe⟩ : ∃ B, B = w4.heap.size := ⟨_, rfl⟩
        have HBE := Lib.hid hBe
        have G0 : Hid (GridA (w4.alloc (.cells #[] 32)) B (.slice (some ⟨w4.heap.size, 0, none⟩) 0 0) [] (ringR N 0)) := by
          refine ⟨⟨Own.of_own (World.ownsRow_lit (base := B) (e := 32) (size := 1) w4 #[] 0 (by omega) (by unfold maxLen; omega) rfl), RowsI.nil⟩, fun i j u x _ h => by simp at h⟩
        have BL : Hid (Below B w4 (w4.alloc (.cells #[] 32))) := by show Below _ _ _; rw [hBe]; exact (Below.refl _ w4).alloc (Nat.le_refl _) _
        have s0B : w.heap.size ≤ B := by omega
        clear hBe s04
        go_wp2_with fail
        go_loopw [5, 6] (fun e5 e6 wr => ∃ (i g cp : Nat) (RV : List Value), i ≤ N ∧ e6 = .int .i64 (i : Int) ∧ e5 = .slice (some ⟨g, 0, none⟩) i cp ∧ Hid (GridA wr B (.slice (some ⟨g, 0, none⟩) i cp) RV (ringR N i)) ∧ Hid (Below B w4 wr)) (fun _ e6 _ => N - (intOf e6).toNat)
        case atStart => exact ⟨0, _, _, _, Nat.zero_le _, rfl, rfl, G0, BL⟩
        case round =>
          clear G0 BL
          obtain ⟨i, g, cp, RV, hi, rfl, rfl, G, HB⟩ := hrel
          by_cases hlt : i < N
          · have b1 : (i : Int) < (N : Int) := by omega
            have HR := Lib.hid (ringR_succ N i)
            obtain ⟨q, hq⟩ : ∃ q, q = (i + 1) % N := ⟨_, rfl⟩
            rw [← hq] at HR
            have e1 : IntKind.i64.wrap ((i : Int) + 1) = (i : Int) + 1 := by rw [IntKind.wrap_i64]; omega
            have e2 : ((i : Int) + 1).tmod (N : Int) = (q : Int) := by
              rw [Int.tmod_eq_emod_of_nonneg (by omega), hq]; exact (Int.natCast_emod (i + 1) N).symm
            have e3 : IntKind.i64.wrap (q : Int) = (q : Int) := by
              have := Nat.mod_lt (i + 1) (by omega : 0 < N)
              rw [IntKind.wrap_i64]; omega
            have hGs : B ≤ wr.heap.size := by rw [HBE.out]; exact HB.out.size
            have OW : wr.ownsRow B 32 1 (.slice (some ⟨g, 0, none⟩) i cp) i RV := by
              have h1 := G.out.grid.1.1
              rwa [G.out.grid.2.1, ringR_len] at h1
            have z1 : i + 1 ≤ maxLen := by unfold maxLen; omega
            have z2 : (i + 1) * 24 ≤ 140737488355328 := by omega
            have HGS := Lib.hid hGs
            have Y3 := Lib.hid (show B ≤ ((wr.alloc (.cells #[.int .i64 (i : Int), .int .i64 (q : Int)] 3)).alloc (.cells #[.slice (some ⟨wr.heap.size, 0, none⟩) 2 2] 32)).heap.size by simp; omega)
            have OW3 := Lib.hid ((OW.alloc (.cells #[.int .i64 (i : Int), .int .i64 (q : Int)] 3)).alloc (.cells #[.slice (some ⟨wr.heap.size, 0, none⟩) 2 2] 32))
            have CN := cell_one_new (wr.alloc (.cells #[.int .i64 (i : Int), .int .i64 (q : Int)] 3)) (.slice (some ⟨wr.heap.size, 0, none⟩) 2 2) 32
            rw [World.size_alloc] at CN
            have CN := Lib.hid CN
            clear OW hGs hq
            go_wp2_with (at_builtin; refine wpList_append_lies _ rfl (.tmp 36) (.tmp 43) 26 rfl B 32 j0 (.slice none 0 0) 1 24 Try.underlying26 hj hy0 hy1 hy2 rfl (Nat.succ_pos 0) (.slice (some ⟨g, 0, none⟩) i cp) i RV rfl OW3.out ⟨wr.heap.size + 1, 0, none⟩ 1 1 [.slice (some ⟨wr.heap.size, 0, none⟩) 2 2] rfl rfl CN.out (one_rowR _ _ _ _ rfl) (Nat.succ_pos 0) z1 z2 Y3.out _ rfl ?_)
            intro g7 c7 w7 hv7 hg7 _ _
            obtain ⟨G7, B7⟩ := G.out.push (cs := #[.int .i64 (i : Int), .int .i64 (q : Int)]) (n := 2) (row := [(i : Int), (q : Int)]) (ringR_len N i) rfl rfl (by omega) HGS.out hv7 hg7
            rw [← HR.out] at G7
            have G8 := Lib.hid G7
            have B8 := Lib.hid (HB.out.trans B7)
            clear hv7 hg7 G7 B7 OW3 CN Y3 HGS G HB HR
            go_wp2
            go_roundw
            case rel => exact ⟨i + 1, g7, c7, _, by omega, by go_num, rfl, G8, B8⟩
            case measure => simp [intOf]; omega
          · obtain rfl : i = N := by omega
            have GG := Lib.hid G.out.grid
            have l1 : (ringR i i).length ≤ 1048576 := by rw [ringR_len]; omega
            have CR := Lib.hid (spanByRows_p (i : Int) (ringR i i) _ RV wr _ _ GG (Nat.le_refl _) l1 (fun r hr => by rw [ringR_two i i r hr]; decide) hwf)
            rw [HF.out.1] at CR
            have B5 := Lib.hid (B4.out.trans (HB.out.mono s0B))
            have s5 : w.heap.size ≤ wr.heap.size := by have := HB.out.size; have := B4.out.size; omega
            have q3 : ((i : Int) == (i : Int)) = true := by simp
            have q4 : (((i : Int) - 1) == ((i : Int) - 1)) = true := by simp
            clear G HB
            go_wp2_with fail
            refine CR.out.mono ?_
            rintro e w6 ⟨rfl, b6⟩
            have G6 := Lib.hid (GG.out.below b6)
            have B6 := Lib.hid (B5.out.trans (b6.mono s5))
            have s6 : wr.heap.size ≤ w6.heap.size := b6.size
            have CW := Lib.hid (spansWith_p (i : Int) (ringR i i) 0 _ RV w6 _ _ G6 s6 l1)
            rw [HF.out.2] at CW
            clear b6 CR GG B5
            go_wp2_with fail
            refine CW.out.mono ?_
            rintro e w7 ⟨rfl, b7⟩
            have B7 := Lib.hid (B6.out.trans (b7.mono (by omega)))
            clear b7 CW
            go_wp2
            go_ret
            exact ⟨rfl, B7.out⟩
end Go.Proofs.Ytgboecnfghhooaa
