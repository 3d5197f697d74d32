/-
  For every argument of FnShiftFor, whatever its value, the call returns true, leaves what it was handed as it was and changes no older memory. Conditions: none beside the row's own.
-/
import Derived.Test.YtchfnbcpjiiphaaRows
import Derived.Test.YtchfnbcpjiiphaaCDrawPX
import Derived.Test.YtchfnbcpjiiphaaCShiftX
import Derived.Test.YtchfnbcpjiiphaaCShiftS
import Derived.Test.YtchfnbcpjiiphaaZW
import Derived.WalkKit
import Derived.ProofKit
import Derived.OpenShut
import Derived.ShutString
import Derived.ChangeOld
import Derived.Below
import Derived.SizedLaws
import Derived.HandedShaped
import Derived.Conc.Holds
import Derived.Test.YtchfnbcpjiiphaaCLeav
namespace Go.Proofs.Ytchfnbcpjiiphaa.fnShiftFor
open Go.RowKit

def InvSh (n c : Nat) (w : World) (v : Value) (a : Act) (w' : World) : Prop :=
  ∃ (k : Nat) (u0 u1 u6 u7 u8 u9 u10 u11 u12 u13 u14 u15 u16 u17 u18 u19 u20 u21 u22 u23 u24 u25 u26 u27 u28 u29 u30 u31 u32 u33 u34 u35 u36 u37 u38 u39 u40 u41 u42 u43 u44 u45 u46 u47 u48 u49 u50 u51 u52 u53 u54 u55 u56 u57 u58 : Value), k ≤ n + 1 ∧ BelowX w.heap.size w w' ∧
    a = { tmps := #[u0, u1, .bool false, v, .int .i64 c, .int .i64 k, u6, u7, u8, u9, u10, u11, u12, u13, u14, u15, u16, u17, u18, u19, u20, u21, u22, u23, u24, u25, u26, u27, u28, u29, u30, u31, u32, u33, u34, u35, u36, u37, u38, u39, u40, u41, u42, u43, u44, u45, u46, u47, u48, u49, u50, u51, u52, u53, u54, u55, u56, u57, u58], defers := [] }
theorem invSh_like {n c : Nat} {w : World} {v : Value} (a : Act) (w' w₁ : World) (hl : Like w' w₁) (h : InvSh n c w v a w') : InvSh n c w v a w₁ := by
  obtain ⟨k, u0, u1, u6, u7, u8, u9, u10, u11, u12, u13, u14, u15, u16, u17, u18, u19, u20, u21, u22, u23, u24, u25, u26, u27, u28, u29, u30, u31, u32, u33, u34, u35, u36, u37, u38, u39, u40, u41, u42, u43, u44, u45, u46, u47, u48, u49, u50, u51, u52, u53, u54, u55, u56, u57, u58, h1, h2, h3⟩ := h
  exact ⟨k, u0, u1, u6, u7, u8, u9, u10, u11, u12, u13, u14, u15, u16, u17, u18, u19, u20, u21, u22, u23, u24, u25, u26, u27, u28, u29, u30, u31, u32, u33, u34, u35, u36, u37, u38, u39, u40, u41, u42, u43, u44, u45, u46, u47, u48, u49, u50, u51, u52, u53, u54, u55, u56, u57, u58, h1, h2.like hl, h3⟩
def MuSh (n : Nat) (a : Act) (_ : World) : Nat := match a.tmps.getD 5 undef with | .int _ j => n + 1 - j.toNat | _ => 0
theorem own_formL {w : World} {B n : Nat} {t : TypeId} {v : Value} {xs : List Value} (h : w.ownsRow B t 1 v n xs) : ∃ a c, v = .slice a n c := by
  rcases h.2 with ⟨h0, h1⟩ | ⟨g, cap, cur, e, _⟩
  · exact ⟨none, 0, by rw [h0, h1]⟩
  · exact ⟨_, _, e⟩
theorem Try.infoIntSh : (Try.prog.info? 3).map (fun i => (i.zero, i.size, i.bytes)) = some (some (.int .i64 0), 1, 8) := by kernel_rfl
set_option maxRecDepth 100000 in
set_option maxHeartbeats 3200000 in
theorem fnShiftFor_walk (a : Option Addr) (len cap : Nat) (zs : List Int) (w : World) (hr0 : IsRow .u8 w a len cap zs) (_hreach : cap * 1 ≤ 140737488351232) (hs : SetX Try.prog w) :
    CallsX Try.prog 8 #[.slice a len cap] w (AnsX (.bool true) w) := by
  have hr := Lib.hid hr0
  clear hr0
  refine callsX_of_postX Try.func8 rfl ansX_like ?_
  simp only [Try.ntmps8, List.size_toArray, List.length_cons, List.length_nil, Nat.reduceAdd, Nat.reduceSub, Array.replicate_succ, Array.replicate_zero, List.push_toArray, List.append_toArray, List.nil_append, List.cons_append]
  obtain ⟨Q, hQ0⟩ : ∃ Q, Q = postX Try.f8 (AnsX (.bool true) w) := ⟨_, rfl⟩
  have hQl : LikeQ Q := by rw [hQ0]; exact likeQ_post ansX_like
  rw [← hQ0]
  have hQ := Lib.hid hQ0
  clear hQ0
  refine wpX_piece tameT (by kernel_rfl) rfl hs.set hQl fun w₁ hl₁ => ?_
  go_wp2
  refine wpX_like ?_ hl₁
  clear hl₁ w₁
  by_cases hbig : (1048576 : Int) < (len : Int)
  · refine wpX_piece tameT (by kernel_rfl) rfl hs.set hQl fun w₁ hl₁ => ?_
    have hb := Lib.hid (like_x (B := w.heap.size) hl₁)
    go_wp2
    show Q _ _ _
    rw [hQ.out]
    exact ⟨.inr rfl, rfl, _, results_one rfl _, rfl, hb.out⟩
  · refine wpX_piece tameT (by kernel_rfl) rfl hs.set hQl fun w₁ hl₁ => ?_
    go_wp2
    refine wpX_like ?_ hl₁
    clear hl₁ w₁
    obtain ⟨i0, hi, hz0, hz1, hz2⟩ := info_parts Try.infoIntSh
    refine wpX_seq (wpX_region ?_)
    simp only [List.size_toArray, List.length_cons, List.length_nil, Nat.reduceAdd, Nat.zero_add, List.range, List.range.loop]
    refine opsX_pure rfl rfl rfl fun w₁ hl₁ K hK => ?_
    go_simp
    refine hK _ ?_
    clear hK K hl₁ w₁
    refine opsX_calls (drawShiftFor_x a len cap zs w hr.out (by omega) hs) rfl rfl rfl (by simp [Act.eval]) Try.func33 rfl rfl fun v1 w2 hp => ?_
    obtain ⟨l, ho, h9, hb2⟩ := hp
    obtain ⟨av, cv, rfl, _⟩ := ho.slice
    rw [iv_length] at ho ⊢
    have HL := Lib.hid (show l.length ≤ 1048576 by omega)
    obtain ⟨n, hn⟩ : ∃ n, n = l.length := ⟨_, rfl⟩
    have HN := Lib.hid hn
    rw [← hn] at ho h9 ⊢
    have O := Lib.hid (fun (W : World) (k : BelowX w2.heap.size w2 W) => ho.x k)
    have BB := Lib.hid (fun (W : World) (k : BelowX w2.heap.size w2 W) => hb2.trans (k.mono hb2.size))
    have SS := Lib.hid (fun (W : World) (k : BelowX w2.heap.size w2 W) => hs.x (BB.out W k))
    have K2 := Lib.hid (BelowX.refl w2.heap.size w2)
    clear ho hb2 hn
    walk_nrm
    refine opsX_pure rfl rfl rfl fun w₁ hl₁ K hK => ?_
    go_simp
    refine hK _ ?_
    clear hK K hl₁ w₁
    refine opsX_nil ?_
    show WpX _ _ Q _ _
    have CP := Lib.hid (fun (v : Value) (W : World) (B H : Nat) (hv : Own W B H 3 v (iv l)) (hH : H ≤ W.heap.size) (hs : SetX Try.prog W) => shiftFor_x l v W hv hH HL.out hs)
    have CS := Lib.hid (fun (v : Value) (W : World) (B H : Nat) (hv : Hid (Own W B H 3 v (iv l))) (hH : H ≤ W.heap.size) => specShiftFor_any l v W hv hH HL.out)
    have SF := Lib.hid (fun h => shift_facts (l := l) h)
    obtain ⟨d, hd⟩ : ∃ d, d = shiftB l := ⟨_, rfl⟩
    rw [← hd] at CP CS SF
    clear hd
    have dd : (d == d) = true := by simp
    have dn : (d != d) = false := by simp
    -- out := impl.ShiftFor(list)
    refine wpX_seq (wpX_region ?_)
    simp only [List.size_toArray, List.length_cons, List.length_nil, Nat.reduceAdd, Nat.zero_add, List.range, List.range.loop]
    refine opsX_pure rfl rfl rfl fun w₁ hl₁ K hK => ?_
    go_simp
    refine hK _ ?_
    clear hK K hl₁ w₁
    refine opsX_calls (CP.out (.slice av n cv) w2 _ _ (O.out w2 K2.out) K2.out.size (SS.out w2 K2.out)) rfl rfl rfl (by simp [Act.eval]) Try.func34 rfl rfl fun v3 w3 hp => ?_
    obtain ⟨rfl, hb3⟩ := hp
    have K3 := Lib.hid (K2.out.trans (hb3.mono K2.out.size))
    clear hb3
    walk_nrm
    refine opsX_pure rfl rfl rfl fun w₁ hl₁ K hK => ?_
    go_simp
    refine hK _ ?_
    clear hK K hl₁ w₁
    refine opsX_nil ?_
    show WpX _ _ Q _ _
    by_cases h0 : d < 0
    · refine wpX_piece tameT (by kernel_rfl) rfl (SS.out w3 K3.out).set hQl fun w₁ hl₁ => ?_
      have K4 := Lib.hid (K3.out.like hl₁)
      go_wp2_with fail
      refine (CS.out (.slice av n cv) w₁ _ _ (Lib.hid (O.out w₁ K4.out)) K4.out.size).mono ?_
      rintro e w5 ⟨rfl, hb5⟩
      have K5 := Lib.hid (K4.out.trans (below_x (hb5.mono K4.out.size)))
      clear hb5
      go_wp2_with fail
      refine (CS.out (.slice av n cv) w5 _ _ (Lib.hid (O.out w5 K5.out)) K5.out.size).mono ?_
      rintro e w6 ⟨rfl, hb6⟩
      have K6 := Lib.hid (K5.out.trans (below_x (hb6.mono K5.out.size)))
      clear hb6
      go_wp2
      show Q _ _ _
      rw [hQ.out]
      exact ⟨.inr rfl, rfl, _, results_one rfl _, rfl, BB.out _ K6.out⟩
    · refine wpX_piece tameT (by kernel_rfl) rfl (SS.out w3 K3.out).set hQl fun w₁ hl₁ => ?_
      have K4 := Lib.hid (K3.out.like hl₁)
      go_wp2_with fail
      refine (CS.out (.slice av n cv) w₁ _ _ (Lib.hid (O.out w₁ K4.out)) K4.out.size).mono ?_
      rintro e w5 ⟨rfl, hb5⟩
      have K5 := Lib.hid (K4.out.trans (below_x (hb5.mono K4.out.size)))
      clear hb5
      go_wp2
      obtain ⟨c, rfl, hc, hw, hpk⟩ := SF.out (by omega)
      rw [← HN.out] at hc hpk
      have hn8 : n ≤ 8 := by rw [HN.out]; exact wishB_len hw
      have HW := Lib.hid hw
      have PF := Lib.hid hpk
      have hw1 : IntKind.i64.wrap ((n : Int) + 1) = (n : Int) + 1 := by rw [IntKind.wrap_i64]; omega
      clear hw hpk SF dd dn CS CP h0
      refine wpX_seq (wpX_seq (wpX_region ?_))
      simp only [List.size_toArray, List.length_cons, List.length_nil, Nat.zero_add, List.range, List.range.loop]
      refine opsX_pure rfl rfl rfl fun w₁ hl₁ K hK => ?_
      go_simp
      refine hK _ ?_
      clear hK K hl₁ w₁
      refine opsX_nil ?_
      refine wpX_block ?_
      refine wpX_loop (InvSh n c w5 (.slice av n cv)) (MuSh n) ⟨0, _, _, _, _, _, _, _, _, _, _, _, _, _, _, _, _, _, _, _, _, _, _, _, _, _, _, _, _, _, _, _, _, _, _, _, _, _, _, _, _, _, _, _, _, _, _, _, _, _, _, _, _, _, _, _, Nat.zero_le _, BelowX.refl _ _, rfl⟩ ?_
      rintro a w' ⟨k, u0, u1, u6, u7, u8, u9, u10, u11, u12, u13, u14, u15, u16, u17, u18, u19, u20, u21, u22, u23, u24, u25, u26, u27, u28, u29, u30, u31, u32, u33, u34, u35, u36, u37, u38, u39, u40, u41, u42, u43, u44, u45, u46, u47, u48, u49, u50, u51, u52, u53, u54, u55, u56, u57, u58, hk, hb, rfl⟩
      have KL := Lib.hid (K5.out.trans (hb.mono K5.out.size))
      have BI := Lib.hid hb
      clear hb
      refine wpX_seq (wpX_seq (wpX_region ?_))
      simp only [List.size_toArray, List.length_cons, List.length_nil, Nat.reduceAdd, Nat.zero_add, List.range, List.range.loop]
      refine opsX_pure rfl rfl rfl fun w₁ hl₁ K hK => ?_
      go_simp
      refine hK _ ?_
      clear hK K hl₁ w₁
      refine opsX_pure rfl rfl rfl fun w₁ hl₁ K hK => ?_
      go_simp
      refine hK _ ?_
      clear hK K hl₁ w₁
      refine opsX_pure rfl rfl rfl fun w₁ hl₁ K hK => ?_
      go_simp
      refine hK _ ?_
      clear hK K hl₁ w₁
      refine opsX_pure rfl rfl rfl fun w₁ hl₁ K hK => ?_
      go_simp
      refine hK _ ?_
      clear hK K hl₁ w₁
      refine opsX_nil ?_
      by_cases hlt : k ≤ n
      · refine wpX_cond (t := true) (by simp [Act.eval, hlt]) ?_
        rw [if_pos rfl]
        refine wpX_skip ?_
        show WpX _ _ _ _ _
        refine wpX_seq (wpX_block ?_)
        refine wpX_letter (likeQ_block (likeQ_then (likeQ_loop invSh_like (fun _ _ _ => rfl) (likeQ_block (likeQ_then hQl))))) fun Q1 hQ1l hQ1 => ?_
        refine wpX_piece tameT (by kernel_rfl) rfl (SS.out w' KL.out).set hQ1l fun w₁ hl₁ => ?_
        have KA := Lib.hid (KL.out.like hl₁)
        have BA := Lib.hid (BI.out.like hl₁)
        clear hl₁
        go_wp2
        obtain ⟨G, hG⟩ : ∃ G, G = w₁.heap.size := ⟨_, rfl⟩
        have OS0 : Hid ((w₁.alloc (.cells #[] 3)).ownsRow G 3 1 (.slice (some ⟨w₁.heap.size, 0, none⟩) 0 0) 0 (iv [])) := World.ownsRow_lit (base := G) (e := 3) (size := 1) w₁ #[] 0 (Nat.le_of_eq hG) (by decide) rfl
        have HG : Hid (w2.heap.size ≤ G) := by show _ ≤ _; rw [hG]; exact KA.out.size
        have HZ0 : Hid (G ≤ (w₁.alloc (.cells #[] 3)).heap.size) := by show _ ≤ _; rw [World.size_alloc, hG]; omega
        have KC := Lib.hid (KA.out.trans (below_x ((Below.refl w2.heap.size w₁).alloc KA.out.size (.cells #[] 3))))
        have BC := Lib.hid (BA.out.trans (below_x ((Below.refl w5.heap.size w₁).alloc BA.out.size (.cells #[] 3))))
        have GW : Hid (w5.heap.size ≤ G) := by show _ ≤ _; rw [hG]; exact BA.out.size
        rw [← hG] at OS0 ⊢
        generalize w₁.alloc (.cells #[] 3) = w9 at OS0 HZ0 KC BC ⊢
        clear hG KA BA
        -- the shifted list
        refine wpX_piece tameT (by kernel_rfl) rfl (SS.out w9 KC.out).set hQ1l fun w₁ hl₁ => ?_
        have OS : Hid (w₁.ownsRow G 3 1 (.slice (some ⟨G, 0, none⟩) 0 0) 0 (iv [])) := own_of_blocks OS0.out fun g _ => by rw [hl₁.heap]
        have HV := Lib.hid (O.out w₁ (KC.out.like hl₁))
        have HGZ : Hid (G ≤ w₁.heap.size) := by show _ ≤ _; rw [hl₁.size]; exact HZ0.out
        have KD := Lib.hid (KC.out.like hl₁)
        have BD := Lib.hid (BC.out.like hl₁)
        clear hl₁ OS0 HZ0 KC BC
        go_wp2
        go_loopw [6, 7] (fun s i wi => ∃ j : Nat, j ≤ n ∧ i = .int .i64 j ∧ Hid (wi.ownsRow G 3 1 s j (iv ((shiftL l k).take j))) ∧ Hid (Below G w₁ wi) ∧ Hid (G ≤ wi.heap.size)) (fun _ i _ => n - (intOf i).toNat)
        case atStart => exact ⟨0, Nat.zero_le _, rfl, OS.out, Below.refl _ _, HGZ⟩
        case round =>
          obtain ⟨j, hj, rfl, HO, HB, HZZ⟩ := hrel
          obtain ⟨sa, sc, rfl⟩ := own_formL HO.out
          by_cases hjlt : j < n
          · have hjl : j < l.length := by rw [← HN.out]; exact hjlt
            have b2 : (j : Int) < (n : Int) := by omega
            obtain ⟨g1, rfl, _, _, h1, _⟩ := (HV.out.below (HB.out.mono HG.out)).at_ j (by rw [iv_length]; exact hjl)
            rw [iv_at l j hjl] at h1
            have HSN := Lib.hid (shiftL_at l k hjl)
            obtain ⟨x, hx⟩ : ∃ x : Nat, l[j] = (x : Int) := ⟨l[j].toNat, by have := (wishB_at HW.out hjl).1; omega⟩
            have hxn : x ≤ n := by have := (wishB_at HW.out hjl).2; have := HN.out; omega
            rw [hx] at h1 HSN
            rw [← HN.out, shift_nat] at HSN
            have q0 : IntKind.i64.wrap ((x : Int) + (k : Int)) = (x : Int) + (k : Int) := by rw [IntKind.wrap_i64]; omega
            have q1 := shift_tmod x k n
            obtain ⟨z, hz⟩ : ∃ z, z = (x + k) % (n + 1) := ⟨_, rfl⟩
            have hzn : z ≤ n := by rw [hz]; have := Nat.mod_lt (x + k) (show 0 < n + 1 by omega); omega
            rw [← hz] at q1 HSN
            have hne : ¬ ((n : Int) + 1 = 0) := by omega
            have HZ := Lib.hid (show ∀ o : Obj, G ≤ (wr.alloc o).heap.size by intro o; rw [World.size_alloc]; have := HZZ.out; omega)
            clear hz hx
            go_wp2_with (at_builtin; refine wpList_append_own _ rfl _ _ 23 rfl G 3 i0 (.int .i64 0) 1 8 Try.underlying23 hi hz0 hz1 hz2 rfl (by decide) _ j (iv ((shiftL l k).take j)) rfl (HO.out.alloc _) ⟨wr.heap.size, 0, none⟩ 1 1 [.int .i64 (z : Int)] rfl rfl (cell_one_new _ _ _) (by intro u hu; simp at hu; subst hu; rfl) (by unfold maxLen; omega) (by omega) (HZ.out _) ?_)
            intro v' w7 hown7 hg7 hn7
            rw [iv_snoc, ← HSN.out] at hown7
            have HO7 := Lib.hid hown7
            have HB7 : Hid (Below G w₁ w7) := HB.out.trans (((Below.refl _ _).alloc HZZ.out _).grown hg7 (by have := HZZ.out; simp; omega) (fun r hr => (HO.out.lt r hr).1))
            have HZ7 : Hid (G ≤ w7.heap.size) := by show _ ≤ _; have h1 := hg7.size; rw [World.size_alloc] at h1; have := HZZ.out; omega
            clear HO HB hown7 hg7 HZ HZZ
            go_wp2
            go_roundw
            case rel => exact ⟨j + 1, by omega, by go_num, HO7, HB7, HZ7⟩
            case measure => simp [intOf]; omega
          · obtain rfl : n = j := by omega
            have b2 : ¬ (n : Int) < (n : Int) := by omega
            have OS2 : Hid (Own wr G wr.heap.size 3 (.slice sa n sc) (iv (shiftL l k))) := by
              have e : (shiftL l k).take n = shiftL l k := List.take_of_length_le (by rw [shiftL_length, HN.out]; exact Nat.le_refl _)
              have h := HO.out
              rw [e] at h
              exact ⟨by rw [iv_length, shiftL_length, ← HN.out]; exact h, fun g hg => (h.lt g hg).2⟩
            clear HO
            go_wp2
            have KE := Lib.hid (KD.out.trans (below_x (HB.out.mono HG.out)))
            have BE := Lib.hid (BD.out.trans (below_x (HB.out.mono GW.out)))
            have AP := Lib.hid (allPark_x (shiftL l k) (.slice sa n sc) wr OS2.out (Nat.le_refl _) (by rw [shiftL_length]; exact HL.out) (SS.out wr KE.out))
            rw [PF.out k hlt] at AP
            have hw2 : IntKind.i64.wrap ((k : Int) + 1) = ((k + 1 : Nat) : Int) := by rw [IntKind.wrap_i64]; omega
            by_cases e : k = c
            · subst e
              rw [decide_eq_true (show k = k from rfl)] at AP
              refine wpX_seq (wpX_region ?_)
              simp only [List.size_toArray, List.length_cons, List.length_nil, Nat.reduceAdd, Nat.zero_add, List.range, List.range.loop]
              refine opsX_pure rfl rfl rfl fun w₁ hl₁ K hK => ?_
              go_simp
              refine hK _ ?_
              clear hK K hl₁ w₁
              refine opsX_calls (AP.out) rfl rfl rfl (by simp [Act.eval]) Try.func16 rfl rfl fun vz wz hp => ?_
              obtain ⟨rfl, hbz⟩ := hp
              have BZ := Lib.hid (BE.out.trans (hbz.mono BE.out.size))
              clear hbz
              walk_nrm
              refine opsX_pure rfl rfl rfl fun w₁ hl₁ K hK => ?_
              go_simp
              refine hK _ ?_
              clear hK K hl₁ w₁
              refine opsX_pure rfl rfl rfl fun w₁ hl₁ K hK => ?_
              go_simp
              refine hK _ ?_
              clear hK K hl₁ w₁
              refine opsX_pure rfl rfl rfl fun w₁ hl₁ K hK => ?_
              go_simp
              refine hK _ ?_
              clear hK K hl₁ w₁
              refine opsX_pure rfl rfl rfl fun w₁ hl₁ K hK => ?_
              go_simp
              refine hK _ ?_
              clear hK K hl₁ w₁
              refine opsX_nil ?_
              refine wpX_cond (t := false) (by simp [Act.eval]) ?_
              rw [if_neg (by decide)]
              refine wpX_skip ?_
              show Q1 _ _ _
              rw [hQ1.out]
              show WpX _ _ _ _ _
              refine wpX_region ?_
              simp only [List.size_toArray, List.length_cons, List.length_nil, Nat.reduceAdd, Nat.zero_add, List.range, List.range.loop]
              refine opsX_pure rfl rfl rfl fun w₁ hl₁ K hK => ?_
              go_simp
              refine hK _ ?_
              clear hK K hl₁ w₁
              refine opsX_pure rfl rfl rfl fun w₁ hl₁ K hK => ?_
              go_simp
              refine hK _ ?_
              clear hK K hl₁ w₁
              refine opsX_pure rfl rfl rfl fun w₁ hl₁ K hK => ?_
              go_simp
              refine hK _ ?_
              clear hK K hl₁ w₁
              refine opsX_nil ?_
              show InvSh _ _ _ _ _ _ ∧ _
              refine ⟨⟨k + 1, _, _, _, _, _, _, _, _, _, _, _, _, _, _, _, _, _, _, _, _, _, _, _, _, _, _, _, _, _, _, _, _, _, _, _, _, _, _, _, _, _, _, _, _, _, _, _, _, _, _, _, _, _, _, _, by omega, BZ.out, rfl⟩, ?_⟩
              simp [MuSh]
              omega
            · rw [decide_eq_false e] at AP
              have hne : ((k : Int) == (c : Int)) = false := by rw [beq_eq_false_iff_ne]; omega
              refine wpX_seq (wpX_region ?_)
              simp only [List.size_toArray, List.length_cons, List.length_nil, Nat.reduceAdd, Nat.zero_add, List.range, List.range.loop]
              refine opsX_pure rfl rfl rfl fun w₁ hl₁ K hK => ?_
              go_simp
              refine hK _ ?_
              clear hK K hl₁ w₁
              refine opsX_calls (AP.out) rfl rfl rfl (by simp [Act.eval]) Try.func16 rfl rfl fun vz wz hp => ?_
              obtain ⟨rfl, hbz⟩ := hp
              have BZ := Lib.hid (BE.out.trans (hbz.mono BE.out.size))
              clear hbz
              walk_nrm
              refine opsX_pure rfl rfl rfl fun w₁ hl₁ K hK => ?_
              go_simp
              refine hK _ ?_
              clear hK K hl₁ w₁
              refine opsX_pure rfl rfl rfl fun w₁ hl₁ K hK => ?_
              go_simp
              refine hK _ ?_
              clear hK K hl₁ w₁
              refine opsX_pure rfl rfl rfl fun w₁ hl₁ K hK => ?_
              go_simp
              refine hK _ ?_
              clear hK K hl₁ w₁
              refine opsX_pure rfl rfl rfl fun w₁ hl₁ K hK => ?_
              go_simp
              refine hK _ ?_
              clear hK K hl₁ w₁
              refine opsX_nil ?_
              refine wpX_cond (t := false) (by simp [Act.eval]) ?_
              rw [if_neg (by decide)]
              refine wpX_skip ?_
              show Q1 _ _ _
              rw [hQ1.out]
              show WpX _ _ _ _ _
              refine wpX_region ?_
              simp only [List.size_toArray, List.length_cons, List.length_nil, Nat.reduceAdd, Nat.zero_add, List.range, List.range.loop]
              refine opsX_pure rfl rfl rfl fun w₁ hl₁ K hK => ?_
              go_simp
              refine hK _ ?_
              clear hK K hl₁ w₁
              refine opsX_pure rfl rfl rfl fun w₁ hl₁ K hK => ?_
              go_simp
              refine hK _ ?_
              clear hK K hl₁ w₁
              refine opsX_pure rfl rfl rfl fun w₁ hl₁ K hK => ?_
              go_simp
              refine hK _ ?_
              clear hK K hl₁ w₁
              refine opsX_nil ?_
              show InvSh _ _ _ _ _ _ ∧ _
              refine ⟨⟨k + 1, _, _, _, _, _, _, _, _, _, _, _, _, _, _, _, _, _, _, _, _, _, _, _, _, _, _, _, _, _, _, _, _, _, _, _, _, _, _, _, _, _, _, _, _, _, _, _, _, _, _, _, _, _, _, _, by omega, BZ.out, rfl⟩, ?_⟩
              simp [MuSh]
              omega
      · refine wpX_cond (t := false) (by simp [Act.eval]; omega) ?_
        rw [if_neg (by decide)]
        refine wpX_exit ?_
        show WpX _ _ Q _ _
        rw [hQ.out]
        refine wpX_last tameT (by kernel_rfl) rfl (SS.out w' KL.out).set ansX_like (fun w₁ hl₁ => ?_) fun tmps => ⟨_, results_one rfl tmps⟩
        have BL := Lib.hid ((BB.out w' KL.out).like hl₁)
        go_wp2
        go_ret
        exact ⟨_, rfl, rfl, BL.out⟩

open Go.ChangeShapes Go.WideShapes Go.ChangeAt Go.RowKit
open Go.ChangeMaps (open_string shut_string)
set_option linter.unusedVariables false

theorem own : ownKnob Try.prog.godebug = none := by kernel_rfl
theorem laidOut : laidOutB Try.prog = true := by kernel_rfl

set_option maxRecDepth 100000 in
theorem lifted (os : Os) (started : os.Started) (H : Type) (enc : TypeId × Value → H) :
    ReturnsInLeavingWide {} Try.checked os 8 .any (Rows.fnShiftForSpec.pre6 enc Try.prog Try.f8 Rows.fnShiftForRow.domain false) (Rows.fnShiftForSpec.post enc Try.prog Try.f8 false true false false) := by
  refine leaving_of_callsX (C := Try.checked) own started (by kernel_rfl) Try.func8
    (ChangeSpec.witness6 (enc := enc) (C := Try.checked) false ⟨#[], #[.slice none 0 0], []⟩ 8 (by kernel_rfl) (by kernel_rfl) (by kernel_rfl) (by kernel_rfl)) ?_
  intro W base args ds gs before hval0 hW hcnd hsz0 hsh
  have hval : ∀ (j : Nat) t v, Try.f8.params[j]? = some t → args[j]? = some v → Value.okWide Try.prog W .any base t v := hval0
  have hW' := hW
  obtain ⟨p, q, hA0, hV, rfl, hfz, hnd⟩ := hW
  have hA : DataW.TrodAll enc Try.prog W 0 (fun _ => true) true Try.f8.params.toList args.toList ds p := hA0
  have hsz : (DataW.weightsEach Try.prog (Try.f8.params.toList ++ Rows.fnShiftForSpec.plain.varTypes Try.prog) (ds ++ gs)).all (· ≤ reachBytes) = true := hsz0
  rw [Try.params8] at hA hval hsz
  obtain ⟨v0, vs0, d0, ds0, p0, q0, hargs, rfl, rfl, h0, r0⟩ := trodAll_cons hA
  obtain ⟨rfl, rfl, rfl⟩ := trodAll_nil r0
  obtain rfl : args = #[v0] := by cases args; simp_all
  obtain ⟨rfl, rfl⟩ := trodVars_none hV
  obtain ⟨a0, len0, cap0, rfl⟩ := okWide_slice Try.underlying22 (hval 0 22 v0 rfl rfl)
  have k0 := h0
  have lt0 : ∀ x ∈ p0, x.block < W.heap.size := by obtain ⟨m, hm⟩ := k0; exact DataW.trod_lt m _ _ _ hm
  obtain ⟨z0, w0, hreach⟩ : ∃ zs, IsRow .u8 W a0 len0 cap0 zs ∧ cap0 * 1 ≤ 140737488351232 := by
    obtain ⟨fuel, hf⟩ := h0
    rcases open_ints Try.underlying22 Try.underlying5 (by kernel_rfl) hf with ⟨hcs, _⟩ | ⟨x, l, c, zs, hcs, _, hl, hm, hz, hx, hcell, hwz⟩
    · simp [Value.cells] at hcs
      obtain ⟨rfl, rfl, rfl⟩ := hcs
      exact ⟨[], .inl ⟨rfl, rfl, rfl, rfl⟩, by omega⟩
    · simp [Value.cells] at hcs
      obtain ⟨rfl, rfl, rfl⟩ := hcs
      refine ⟨zs, .inr ⟨_, rfl, hl, hm, by simpa using hz, hcell, hwz⟩, ?_⟩
      simp only [Prod.mk.injEq] at hx
      obtain ⟨hx1, hx2⟩ := hx
      rw [hx1] at hsz
      have hb := sized_slice hsz (j := 0) (t := 22) (e := 5) rfl rfl Try.underlying22
      have b8 : Try.prog.bytesOf 5 = 1 := by kernel_rfl
      rw [b8] at hb
      simp only [lits, List.length_map, List.length_take, List.length_drop, reachBytes] at hb
      simp only [if_true] at hz
      omega
  clear hA0 hval0
  refine ⟨fnShiftFor_walk a0 len0 cap0 z0 W w0 hreach (setX_now hsh), fun W' belx => ?_⟩
  have bel := below_of_x belx
  exact ⟨_, _, _, [], _, [], hW', trodAll_mk1 (shut_bool Try.underlying4 _), trodAll_mk1 ((Below.trod laidOut (by kernel_rfl) (of_decide_eq_true (by kernel_rfl)) k0 bel lt0).of_heap (by rfl)), rfl, kept_x belx _, fun h => by cases h⟩

theorem over : Rows.fnShiftForRow.holds Try.pinned (OpenSpec.ofChange Rows.fnShiftForSpec) :=
  OpenClaim.holds_of_wide_leaving 8 Try.f8 rfl rfl rfl rfl rfl rfl rfl ⟨rfl, rfl, rfl, rfl, rfl⟩ rfl rfl rfl rfl rfl (by kernel_rfl) Try.func8 (by kernel_rfl)
    (of_decide_eq_true (by kernel_rfl)) (by unfold Func.isWrapper; first | (rw [if_pos (by decide +kernel)]; kernel_rfl) | (rw [if_neg (by decide +kernel)]; exact ⟨rfl, rfl⟩))
    (fun os started H enc _ => lifted os started H enc)

theorem proved : Rows.FnShiftForSaid := over
#print axioms proved
end Go.Proofs.Ytchfnbcpjiiphaa.fnShiftFor
