/-
  A word drawn, or changed, leaves all older memory but the reader as it was; what FindBy is handed.
-/
import Derived.Test.YtakpbnkncjddeaaZD
import Derived.Test.YtakpbnkncjddeaaCDrawLd
namespace Go.Proofs.Ytakpbnkncjddeaa
open Go.RowKit

/-- nothing has changed but block R, and blocks are new -/
structure Gr (R : Nat) (w w' : World) : Prop where
  os : w'.os = w.os
  tape : w'.tape = w.tape
  output : w'.output = w.output
  size : w.heap.size ≤ w'.heap.size
  block : ∀ k, k < w.heap.size → k ≠ R → w'.heap[k]? = w.heap[k]?
theorem Gr.of_below (R : Nat) {w w' : World} (h : Below w.heap.size w w') : Gr R w w' := ⟨h.os, h.tape, h.output, h.size, fun k hk _ => h.block k hk⟩
theorem Gr.only {R : Nat} {w w' : World} (h : Only R w w') : Gr R w w' := ⟨h.os, h.tape, h.output, by rw [h.size]; exact Nat.le_refl _, fun k _ hne => h.block k hne⟩
theorem Gr.trans {R : Nat} {a b c : World} (h : Gr R a b) (k : Gr R b c) : Gr R a c := ⟨k.os.trans h.os, k.tape.trans h.tape, k.output.trans h.output, Nat.le_trans h.size k.size, fun q hq hne => (k.block q (Nat.lt_of_lt_of_le hq h.size) hne).trans (h.block q hq hne)⟩
theorem Gr.alloc {R : Nat} {a b : World} (h : Gr R a b) (o : Obj) : Gr R a (b.alloc o) := h.trans (Gr.of_below R ((Below.refl _ b).alloc (Nat.le_refl _) o))
theorem Gr.drew {R : Nat} {a b : World} (h : Gr R a b) : Gr R a b.drew := ⟨h.os, h.tape, h.output, h.size, h.block⟩
theorem Gr.below {R B : Nat} {w w' : World} (h : Gr R w w') (hB : B ≤ R) (hR : R < w.heap.size) : Below B w w' := ⟨h.os, h.tape, h.output, h.size, fun k hk => h.block k (by omega) (by omega)⟩
theorem Own.gr {w w' : World} {B H R : Nat} {t : TypeId} {v : Value} {xs : List Value} (h : Own w B H t v xs) (hH : H ≤ w.heap.size) (hb : Gr R w w') (hne : v.ownBlock ≠ some R) : Own w' B H t v xs :=
  ⟨own_of_blocks h.1 fun g hg => hb.block g (Nat.lt_of_lt_of_le (h.2 g hg) hH) (fun e => hne (by rw [hg, e])), h.2⟩
/-- a text that is not long; the reader one place on -/
def TextOfG (q : Nat) (B R : Nat) (a : Option Addr) (n c p d : Nat) (w : World) (e : Ending) (w' : World) : Prop :=
  ∃ s : ByteArray, e = .returned (.string s) ∧ s.size ≤ q ∧ Rd w' B R a n c (p + d) ∧ Gr R w w'

set_option maxHeartbeats 1600000 in
theorem goodWordG_any (m : Nat) (hm : m ≤ 9) (B R : Nat) (a : Option Addr) (n c p : Nat) (w : World) (h : Hid (Rd w B R a n c p)) (hp : p ≤ 5000) :
    Calls Try.prog 51 #[.pointer (some ⟨R, 0, none⟩), .int .i64 m] w (TextOfG 18 B R a n c p 1 w) := by
  go_enter Try.func51, Try.ntmps51
  go_wp2_with fail
  refine (counts_any m hm w).mono ?_
  rintro e w1 ⟨v, rfl, hown, hb, _⟩
  rw [catV_length] at hown
  obtain ⟨g, cap, rfl, hg, hgl, hc, hcm⟩ := own_form hown (by omega)
  have hcell := (hown.cellAt m (by omega)).trans (catV_at (m + 1) m (by omega))
  have b1 : m < m + 1 := by omega
  have hcb := cat_bd m hm
  obtain ⟨K, hK⟩ : ∃ K, K = cat m := ⟨_, rfl⟩
  rw [← hK] at hcell hcb
  have R1 := Lib.hid (h.out.grow hb)
  have hlow := h.out.low
  have hlt := h.out.lt
  have B1 := Lib.hid (Gr.of_below R hb)
  clear hown hb hK
  rcases (show K < 250 ∨ K = 250 ∨ 250 < K by omega) with hK250 | rfl | hK250
  all_goals
    go_wp2_with fail
    refine (pick_any B R a n c p _ _ R1.out hp (by omega) (by omega)).mono ?_
    rintro e w2 ⟨k, rfl, _, _, hrd, honly⟩
    have R2 := Lib.hid hrd
    have B2 := Lib.hid (B1.out.trans (Gr.only honly))
    clear hrd honly hcell
    go_wp2_with fail
    refine (wordAt_some m (by omega) k w2).mono ?_
    rintro e w3 ⟨s, rfl, hs, rfl⟩
    go_wp2
    go_ret
    exact ⟨s, rfl, by omega, R2.out, B2.out⟩

set_option maxHeartbeats 3200000 in
theorem mutateG_any (s : ByteArray) (hs : s.size ≤ 40) (B R : Nat) (a : Option Addr) (n c p : Nat) (w : World) (h : Hid (Rd w B R a n c p)) (hp : p ≤ 4000) :
    Calls Try.prog 53 #[.pointer (some ⟨R, 0, none⟩), .string s] w fun e w' => ∃ d, d ≤ 3 ∧ TextOfG 50 B R a n c p d w e w' := by
  have hlow := h.out.low
  go_enter Try.func53, Try.ntmps53
  go_wp2_with fail
  refine (pick_any B R a n c p _ _ h.out (by omega) (by omega) (by omega)).mono ?_
  rintro e w1 ⟨k, rfl, hk, _, hrd, honly⟩
  have hk1 := hk (by omega)
  have hkl : k ≤ s.size := by omega
  have R1 := Lib.hid hrd
  have B1 := Lib.hid (Gr.only honly)
  clear hk hrd honly hk1
  go_wp2_with fail
  refine (pick_any B R a n c (p + 1) _ _ R1.out (by omega) (by omega) (by omega)).mono ?_
  rintro e w2 ⟨q, rfl, hq, _, hrd, honly⟩
  have hq1 := hq (by omega)
  have R2 := Lib.hid hrd
  have B2 := Lib.hid (B1.out.trans (Gr.only honly))
  have hRlt := hrd.lt
  clear hq hrd honly
  have L6 := Lib.hid (show Own (w2.alloc (.cells #[.string ⟨#[40]⟩, .string ⟨#[41]⟩, .string ⟨#[48]⟩, .string ⟨#[44]⟩, .string ⟨#[32]⟩, .string ⟨#[120]⟩] 9)).drew w2.heap.size (w2.heap.size + 1) 9 (.slice (some ⟨w2.heap.size, 0, none⟩) 6 6) (#[.string ⟨#[40]⟩, .string ⟨#[41]⟩, .string ⟨#[48]⟩, .string ⟨#[44]⟩, .string ⟨#[32]⟩, .string ⟨#[120]⟩] : Array Value).toList from lit_own w2 _ 9 (by decide))
  have L4 := Lib.hid (show Own (w2.alloc (.cells #[.string ⟨#[40, 41]⟩, .string ⟨#[41]⟩, .string ⟨#[32]⟩, .string ⟨#[49]⟩] 9)) w2.heap.size (w2.heap.size + 1) 9 (.slice (some ⟨w2.heap.size, 0, none⟩) 4 4) (#[.string ⟨#[40, 41]⟩, .string ⟨#[41]⟩, .string ⟨#[32]⟩, .string ⟨#[49]⟩] : Array Value).toList from lit_own w2 _ 9 (by decide))
  have R6 := Lib.hid (show Rd (w2.alloc (.cells #[.string ⟨#[40]⟩, .string ⟨#[41]⟩, .string ⟨#[48]⟩, .string ⟨#[44]⟩, .string ⟨#[32]⟩, .string ⟨#[120]⟩] 9)).drew B R a n c (p + 1 + 1) from (R2.out.grow ((Below.refl _ _).alloc (Nat.le_refl _) _)).drewN 1)
  have R4 := Lib.hid (show Rd (w2.alloc (.cells #[.string ⟨#[40, 41]⟩, .string ⟨#[41]⟩, .string ⟨#[32]⟩, .string ⟨#[49]⟩] 9)) B R a n c (p + 1 + 1) from R2.out.grow ((Below.refl _ _).alloc (Nat.le_refl _) _))
  have N6 := Lib.hid (show (Value.slice (some ⟨w2.heap.size, 0, none⟩) 6 6).ownBlock ≠ some R by simp [Value.ownBlock]; omega)
  have N4 := Lib.hid (show (Value.slice (some ⟨w2.heap.size, 0, none⟩) 4 4).ownBlock ≠ some R by simp [Value.ownBlock]; omega)
  have S6 := Lib.hid (short_list (#[.string ⟨#[40]⟩, .string ⟨#[41]⟩, .string ⟨#[48]⟩, .string ⟨#[44]⟩, .string ⟨#[32]⟩, .string ⟨#[120]⟩] : Array Value).toList (by decide))
  have S4 := Lib.hid (short_list (#[.string ⟨#[40, 41]⟩, .string ⟨#[41]⟩, .string ⟨#[32]⟩, .string ⟨#[49]⟩] : Array Value).toList (by decide))
  have B6 := Lib.hid (show Gr R w (w2.alloc (.cells #[.string ⟨#[40]⟩, .string ⟨#[41]⟩, .string ⟨#[48]⟩, .string ⟨#[44]⟩, .string ⟨#[32]⟩, .string ⟨#[120]⟩] 9)).drew from (B2.out.alloc _).drew)
  have B4 := Lib.hid (B2.out.alloc (.cells #[.string ⟨#[40, 41]⟩, .string ⟨#[41]⟩, .string ⟨#[32]⟩, .string ⟨#[49]⟩] 9))
  have E1 : (s.extract 0 k).size ≤ k := by rw [ByteArray.size_extract]; omega
  have E2 : (s.extract (k + 1) s.size).size + k ≤ s.size := by rw [ByteArray.size_extract]; omega
  rcases (show q = 0 ∨ q = 1 ∨ q = 2 ∨ q = 3 ∨ q = 4 by omega) with rfl | rfl | rfl | rfl | rfl
  · by_cases hks : k < s.size
    · have ew : IntKind.i64.wrap ((k : Int) + 1) = (k : Int) + 1 := by rw [IntKind.wrap_i64]; omega
      have u1 : (0 : Int) ≤ (k : Int) + 1 := by omega
      have u2 : (k : Int) + 1 ≤ (s.size : Int) := by omega
      have u3 : ((k : Int) + 1).toNat = k + 1 := by omega
      have u4 : k + 1 ≤ s.size := by omega
      go_wp2_with fail
      go_region_with (go_at_call 72; refine (of_any _ _ B R a n c (p + 1 + 1) _ R6.out (by omega) L6.out S6.out N6.out (by decide) (by decide)).mono ?_; rintro e w3 ⟨t, rfl, ht, hrd, ho⟩; have z1 : (s.extract 0 k).size + t.size ≤ 9223372036854775807 := by omega
                      have z2 : (s.extract 0 k ++ t).size + (s.extract (k + 1) s.size).size ≤ 9223372036854775807 := by rw [ByteArray.size_append]; omega)
      all_goals
        go_wp2
        go_ret
        have hsz : (s.extract 0 k ++ t ++ s.extract (k + 1) s.size).size ≤ 50 := by rw [ByteArray.size_append, ByteArray.size_append]; omega
        first
          | exact ⟨3, by omega, _, rfl, hsz, hrd, B6.out.trans (Gr.only ho)⟩
          | exact ⟨3, by omega, _, rfl, hsz, hrd.drewN 1, (B6.out.trans (Gr.only ho)).drew⟩
    · go_wp2
      go_ret
      exact ⟨2, by omega, s, rfl, by omega, R2.out, B2.out⟩
  · by_cases hks : k < s.size
    · have ew : IntKind.i64.wrap ((k : Int) + 1) = (k : Int) + 1 := by rw [IntKind.wrap_i64]; omega
      have u1 : (0 : Int) ≤ (k : Int) + 1 := by omega
      have u2 : (k : Int) + 1 ≤ (s.size : Int) := by omega
      have u3 : ((k : Int) + 1).toNat = k + 1 := by omega
      have u4 : k + 1 ≤ s.size := by omega
      go_wp2_with fail
      go_region_with (go_at_call 72; refine (of_any _ _ B R a n c (p + 1 + 1) _ R6.out (by omega) L6.out S6.out N6.out (by decide) (by decide)).mono ?_; rintro e w3 ⟨t, rfl, ht, hrd, ho⟩; have z1 : (s.extract 0 k).size + t.size ≤ 9223372036854775807 := by omega
                      have z2 : (s.extract 0 k ++ t).size + (s.extract (k + 1) s.size).size ≤ 9223372036854775807 := by rw [ByteArray.size_append]; omega)
      all_goals
        go_wp2
        go_ret
        have hsz : (s.extract 0 k ++ t ++ s.extract (k + 1) s.size).size ≤ 50 := by rw [ByteArray.size_append, ByteArray.size_append]; omega
        first
          | exact ⟨3, by omega, _, rfl, hsz, hrd, B6.out.trans (Gr.only ho)⟩
          | exact ⟨3, by omega, _, rfl, hsz, hrd.drewN 1, (B6.out.trans (Gr.only ho)).drew⟩
    · go_wp2
      go_ret
      exact ⟨2, by omega, s, rfl, by omega, R2.out, B2.out⟩
  · go_wp2
    go_ret
    exact ⟨2, by omega, _, rfl, by omega, R2.out, B2.out⟩
  · go_wp2_with fail
    refine (of_any _ _ B R a n c (p + 1 + 1) _ R4.out (by omega) L4.out S4.out N4.out (by decide) (by decide)).mono ?_
    rintro e w3 ⟨t, rfl, ht, hrd, ho⟩
    have z1 : s.size + t.size ≤ 9223372036854775807 := by omega
    go_wp2
    go_ret
    exact ⟨3, by omega, _, rfl, by rw [ByteArray.size_append]; omega, hrd, B4.out.trans (Gr.only ho)⟩
  · go_wp2
    go_ret
    exact ⟨2, by omega, s, rfl, by omega, R2.out, B2.out⟩

/-- a row of numbers is not the reader -/
theorem own_ne_rd {w : World} {B B' H R n c p : Nat} {a : Option Addr} {v : Value} {xs : List Value} (h : Own w B' H 3 v xs) (hr : Rd w B R a n c p) : v.ownBlock ≠ some R := fun e => by
  rcases h.1.2 with ⟨rfl, _⟩ | ⟨g, cap, cur, rfl, _, hg, _⟩
  · cases e
  · cases e
    have := hr.blk
    rw [hg] at this
    injection this with this
    injection this with _ h2 _
    exact absurd h2 (by decide)
/-- some loads, at most seven, and some text that is not long -/
def FindDrawn (B : Nat) (w : World) (e : Ending) (w' : World) : Prop :=
  ∃ v l s, e = .returned (.tuple #[v, .string s]) ∧ Own w' B w'.heap.size 3 v (iv l) ∧ l.length ≤ 7 ∧ s.size ≤ 50 ∧ Below B w w'
set_option maxRecDepth 100000 in
set_option maxHeartbeats 1600000 in
theorem drawFindBy (a : Option Addr) (len cap : Nat) (zs : List Int) (w : World) (hr : Hid (IsRow .u8 w a len cap zs)) (hl : len ≤ 1048576) :
    Calls Try.prog 30 #[.slice a len cap] w (FindDrawn w.heap.size w) := by
  go_enter Try.func30, Try.ntmps30
  go_wp2_with fail
  refine (newReader_any a len cap zs w hr.out hl).mono ?_
  rintro e w1 ⟨n, R, rfl, h, hb⟩
  have H := Lib.hid h
  have HB := Lib.hid hb
  clear h hb hr
  go_wp2_with fail
  refine (someLoads_any w.heap.size R a n cap w1 6 (by decide) H).mono ?_
  rintro e w2 ⟨v, l, p, rfl, o, hl9, hb, hrd, hp⟩
  obtain ⟨m, hm, hm6⟩ : ∃ m : Nat, m = min l.length 6 ∧ m ≤ 6 := ⟨_, rfl, Nat.min_le_right _ _⟩
  have hne := own_ne_rd o hrd
  obtain ⟨av, cv, rfl, _, _, _, _⟩ := o.slice
  rw [iv_length] at o hne ⊢
  obtain ⟨q, hq⟩ : ∃ q, q = l.length := ⟨_, rfl⟩
  rw [← hq] at o hne hm ⊢
  have HB2 := Lib.hid (HB.out.trans hb)
  have HO := Lib.hid o
  have HR := Lib.hid hrd
  have HNE := Lib.hid hne
  have HQ := Lib.hid hq
  have HL9 := Lib.hid hl9
  have hlow := hrd.low
  have hlt := hrd.lt
  have GW := Lib.hid (goodWordG_any m (by omega) w.heap.size R a n cap p w2 HR (by omega))
  have q7 : q ≤ 7 := by omega
  clear o hb hrd hne hq hl9 H HB
  rcases (show q ≤ 6 ∧ m = q ∨ q = 7 ∧ m = 6 by omega) with ⟨h6, rfl⟩ | ⟨rfl, rfl⟩
  case' inl => have b6 : (m : Int) ≤ 6 := by omega
  all_goals
    clear hm
    go_wp2_with fail
    refine GW.out.mono ?_
    rintro e w3 ⟨s, rfl, hs, hrd3, hg3⟩
    have O3 := Lib.hid (HO.out.gr (Nat.le_refl _) hg3 HNE.out)
    have B3 := Lib.hid (HB2.out.trans (hg3.below hlow hlt))
    have R3 := Lib.hid hrd3
    have S3 : Hid (w2.heap.size ≤ w3.heap.size) := hg3.size
    clear hrd3 hg3 GW HB2 HO
    go_wp2_with fail
    refine (pick_any w.heap.size R a n cap (p + 1) _ _ R3.out (by omega) (by omega) (by omega)).mono ?_
    rintro e w4 ⟨k, rfl, _, _, hrd4, ho4⟩
    have O4 := Lib.hid (O3.out.only ho4 HNE.out)
    have B4 := Lib.hid (B3.out.trans (ho4.below hlow))
    have R4 := Lib.hid hrd4
    have S4 : Hid (w2.heap.size ≤ w4.heap.size) := by show _ ≤ _; rw [ho4.size]; exact S3.out
    clear hrd4 ho4 O3 B3 R3 S3
    by_cases h0 : k = 0
    · subst h0
      go_wp2_with fail
      refine (mutateG_any s (by omega) w.heap.size R a n cap (p + 1 + 1) _ R4 (by omega)).mono ?_
      rintro e w5 ⟨d, hd, u, rfl, hu, hrd5, hg5⟩
      have O5 := Lib.hid (O4.out.gr S4.out hg5 HNE.out)
      have B5 := Lib.hid (B4.out.trans (hg5.below hlow R4.out.lt))
      have S5 : Hid (w2.heap.size ≤ w5.heap.size) := Nat.le_trans S4.out hg5.size
      clear hrd5 hg5
      go_wp2
      go_ret2
      exact ⟨_, l, _, rfl, O5.out.more S5.out, HL9.out, hu, B5.out⟩
    · have q0 : ((k : Int) == 0) = false := beq_false_of_ne (by omega)
      go_wp2
      go_ret2
      exact ⟨_, l, _, rfl, O4.out.more S4.out, HL9.out, by omega, B4.out⟩
end Go.Proofs.Ytakpbnkncjddeaa
