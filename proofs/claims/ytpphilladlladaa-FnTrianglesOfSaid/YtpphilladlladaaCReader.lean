/-
  The contract of the program's function that answers the word of a two-armed tree.
-/
import Derived.Test.YtpphilladlladaaCTree
import Derived.Test.YtpphilladlladaaWRead
namespace Go.Proofs.Ytpphilladlladaa
open Go.RowKit

/-- a reader at the block O: the rows, how many nodes are met, the word -/
structure Rdr (w : World) (O : Nat) (v : Value) (m : Nat) (t : ByteArray) : Prop where
  rows : w.cell? ⟨O, 0, none⟩ = some v
  met : w.cell? ⟨O, 1, none⟩ = some (.int .i64 m)
  word : w.cell? ⟨O, 2, none⟩ = some (.string t)
  f1 : w.frozen? ⟨O, 1, none⟩ = false
  f2 : w.frozen? ⟨O, 2, none⟩ = false
  lt : O < w.heap.size
theorem wobS_neg (rows : List (List Int)) (f : Nat) (x : Int) (h : x < 0) : wobS rows f x = ⟨#[]⟩ := by unfold wobS; rw [wobL_neg _ _ _ h]
theorem app_empty (t : ByteArray) : t ++ (⟨#[]⟩ : ByteArray) = t := by apply bytes_ext; rw [toList_append]; simp
theorem grid_rowH {w : World} {B H : Nat} {v : Value} {RV : List Value} {rows : List (List Int)} (hG : Grid w B H v RV rows) (k : Nat) (hk : k < rows.length) (h2 : (rows.getD k []).length = 2) :
    ∃ g cap g2 c2, v = .slice (some ⟨g, 0, none⟩) rows.length cap ∧ g < H ∧ g2 < H ∧ w.cell? ⟨g, k, none⟩ = some (.slice (some ⟨g2, 0, none⟩) 2 c2) ∧ w.cell? ⟨g2, 0, none⟩ = some (.int .i64 (armA rows k)) ∧ w.cell? ⟨g2, 1, none⟩ = some (.int .i64 (armB rows k)) := by
  obtain ⟨g, cap, g2, c2, rfl, h1, h3, h4⟩ := grid_row hG k hk h2
  refine ⟨g, cap, g2, c2, rfl, hG.1.2 g rfl, ?_, h1, h3, h4⟩
  have lu := hG.2.1
  obtain ⟨g1, e, _, _, hc, _⟩ := hG.1.at_ k (by rw [lu]; exact hk)
  obtain ⟨x, hx, ox⟩ := hG.2.at_ k hk
  rw [hx] at hc
  cases e
  rw [h1] at hc
  cases hc
  exact ox.2 g2 rfl

set_option maxHeartbeats 1600000 in
theorem read_any (rows : List (List Int)) (hl : rows.length ≤ 9) {B H O : Nat} {v : Value} {RV : List Value} (hHO : H ≤ O) : ∀ (f m : Nat) (x : Int) (t : ByteArray) (w : World), m ≤ rows.length → rows.length < m + f → t.size + 2 ^ (f + 1) ≤ 4096 → Hid (Grid w B H v RV rows) → Hid (Rdr w O v m t) →
    Calls Try.prog 41 #[.pointer (some ⟨O, 0, none⟩), .int .i64 x] w fun e w' => e = .returned (.bool (decide (0 ≤ rdL rows f m x))) ∧ Below O w w' ∧ (0 ≤ rdL rows f m x → Rdr w' O v (rdL rows f m x).toNat (t ++ wobS rows f x)) := by
  intro f
  induction f with
  | zero => intro m x t w h1 h2; omega
  | succ f ih =>
    intro m x t w hm hmf hts hG hR
    have r0 := hR.out.rows
    have r1 := hR.out.met
    have r2 := hR.out.word
    have r3 := hR.out.f1
    have r4 := hR.out.f2
    have hO := hR.out.lt
    by_cases hneg : x = -1
    · subst hneg
      have e : rdL rows (f + 1) m (-1) = m := rdL_nil _ _ _
      have e2 : wobS rows (f + 1) (-1) = ⟨#[]⟩ := wobS_neg _ _ _ (by decide)
      rw [e, e2, app_empty]
      have hd : decide (0 ≤ (m : Int)) = true := by simp
      rw [hd]
      clear ih e e2 hd
      go_enter Try.func41, Try.ntmps41
      go_wp2
      go_ret
      exact ⟨rfl, Below.refl _ _, fun _ => by rw [Int.toNat_natCast]; exact hR.out⟩
    · by_cases hoff : x = m
      · subst hoff
        obtain ⟨av, cv, hv⟩ := grid_val hG.out
        by_cases hlt : m < rows.length
        · by_cases h2 : (rows.getD m []).length = 2
          · obtain ⟨g, cap, g2, c2, hv2, hgH, hg2H, h1, h3, h4⟩ := grid_rowH hG.out m hlt h2
            have hv2' := hv2
            subst hv2'
            clear hv
            have hst := rdL_step (f := f) hlt h2
            obtain ⟨a, ha⟩ : ∃ a, a = armA rows m := ⟨_, rfl⟩
            obtain ⟨b, hb⟩ : ∃ b, b = armB rows m := ⟨_, rfl⟩
            have hw := wobS_nat rows f m
            rw [← ha, ← hb] at hst hw
            rw [← ha] at h3
            rw [← hb] at h4
            have hwl := wobL_len rows f a
            rw [← wobS_size] at hwl
            rw [hst, hw]
            obtain ⟨r, hr⟩ : ∃ r, r = rdL rows f (m + 1) a := ⟨_, rfl⟩
            have hrl := rdL_le rows f (m + 1) a (by omega)
            rw [← hr] at hrl ⊢
            have hp2 : 2 ^ (f + 1 + 1) = 2 ^ (f + 1) + 2 ^ (f + 1) := by rw [Nat.pow_succ 2 (f + 1)]; omega
            rw [hp2] at hts
            have hpf : 1 ≤ 2 ^ (f + 1) := Nat.one_le_two_pow
            obtain ⟨P, hP⟩ : ∃ P, P = 2 ^ (f + 1) := ⟨_, rfl⟩
            rw [← hP] at hts hpf hwl
            have s40 : (⟨#[40]⟩ : ByteArray).size = 1 := rfl
            have s41 : (⟨#[41]⟩ : ByteArray).size = 1 := rfl
            obtain ⟨w2, hw2⟩ : ∃ w2, w2 = (w.setCell ⟨O, 1, none⟩ (.int .i64 ((m : Int) + 1))).setCell ⟨O, 2, none⟩ (.string (t ++ (⟨#[40]⟩ : ByteArray))) := ⟨_, rfl⟩
            have hb2 : Below O w w2 := by rw [hw2]; exact ((Below.refl _ _).setCell (p := ⟨O, 1, none⟩) (Nat.le_refl _) _).setCell (p := ⟨O, 2, none⟩) (Nat.le_refl _) _
            have hR2 : Rdr w2 O (.slice (some ⟨g, 0, none⟩) rows.length cap) (m + 1) (t ++ (⟨#[40]⟩ : ByteArray)) := by
              rw [hw2]
              refine ⟨?_, ?_, ?_, by simpa using r3, by simpa using r4, by simpa using hO⟩
              · rw [World.cell?_setCell_other _ _ _ _ (by simp), World.cell?_setCell_other _ _ _ _ (by simp)]; exact r0
              · rw [World.cell?_setCell_other _ _ _ _ (by simp)]; exact World.cell?_setCell_same _ _ _ r1
              · exact World.cell?_setCell_same _ _ _ (u := .string t) (by rw [World.cell?_setCell_other _ _ _ _ (by simp)]; exact r2)
            have C1 := ih (m + 1) a (t ++ (⟨#[40]⟩ : ByteArray)) w2 (by omega) (by omega) (by rw [ByteArray.size_append, s40, ← hP]; omega) (Lib.hid (hG.out.below (hb2.mono hHO))) (Lib.hid hR2)
            rw [← hr] at C1
            have C1 := Lib.hid C1
            have C2 := Lib.hid (fun r' (t' : ByteArray) (w' : World) (h1 : r' ≤ rows.length) (h2 : rows.length < r' + f) (h3 : t'.size + P ≤ 4096) h4 h5 => ih r' b t' w' h1 h2 (by rw [← hP]; exact h3) h4 h5)
            have HB2 := Lib.hid hb2
            have HW2 := Lib.hid hw2
            have HP := Lib.hid hP
            have HRL := Lib.hid hrl
            have b1 : (m : Int) < (rows.length : Int) := by omega
            have c0 : ((m : Int) != (m : Int)) = false := by simp
            have hgO : g ≠ O := by omega
            have hg2O : g2 ≠ O := by omega
            clear ih hst hw ha hb hr hrl hb2 hR2 hw2 hP hp2 h2 hneg
            by_cases hr0 : r < 0
            · have hd : decide (0 ≤ r) = false := by simp; omega
              rw [hd] at C1
              rw [if_pos hr0]
              clear hd C2
              go_enter Try.func41, Try.ntmps41
              go_wp2_with fail
              rw [← HW2.out]
              refine C1.out.mono ?_
              rintro e w3 ⟨rfl, hb3, _⟩
              have HB3 := Lib.hid (HB2.out.trans hb3)
              clear hb3 C1 HW2
              go_wp2
              go_ret
              exact ⟨rfl, HB3.out, fun h => absurd h (by decide)⟩
            · have hd : decide (0 ≤ r) = true := by simp; omega
              rw [hd] at C1
              rw [if_neg hr0]
              have hr1 := HRL.out (by omega)
              obtain ⟨r', rfl⟩ : ∃ r' : Nat, r = r' := ⟨r.toNat, by omega⟩
              simp only [Int.toNat_natCast] at C1 ⊢
              have hr2 : r' ≤ rows.length := by omega
              have hr3 : m + 1 ≤ r' := by omega
              obtain ⟨q, hq⟩ : ∃ q, q = rdL rows f r' b := ⟨_, rfl⟩
              simp only [← hq]
              have HQ := Lib.hid hq
              have hts2 : t.size + P + P ≤ 4096 := by omega
              have hz : (t ++ (⟨#[40]⟩ : ByteArray) ++ wobS rows f a ++ (⟨#[41]⟩ : ByteArray)).size + P ≤ 4096 := by
                rw [ByteArray.size_append, ByteArray.size_append, ByteArray.size_append, s40, s41]; omega
              have HZ := Lib.hid hz
              obtain ⟨sa, hsa⟩ : ∃ sa, sa = wobS rows f a := ⟨_, rfl⟩
              rw [← hsa] at C1 HZ ⊢
              have hsz : (t ++ (⟨#[40]⟩ : ByteArray) ++ sa).size ≤ 4096 := by
                have := HZ.out
                rw [ByteArray.size_append] at this; omega
              clear hd hr0 hq hz hsa HRL hr1
              go_enter Try.func41, Try.ntmps41
              go_wp2_with fail
              rw [← HW2.out]
              refine C1.out.mono ?_
              rintro e w3 ⟨rfl, hb3, hR3⟩
              have hR3 := hR3 (by omega)
              have q0 := hR3.rows
              have q1 := hR3.met
              have q2 := hR3.word
              have q3 := hR3.f1
              have q4 := hR3.f2
              have q5 := hR3.lt
              have hb3' := HB2.out.trans hb3
              obtain ⟨w4, hw4⟩ : ∃ w4, w4 = w3.setCell ⟨O, 2, none⟩ (.string (t ++ (⟨#[40]⟩ : ByteArray) ++ sa ++ (⟨#[41]⟩ : ByteArray))) := ⟨_, rfl⟩
              have hb4 : Below O w w4 := by rw [hw4]; exact hb3'.setCell (p := ⟨O, 2, none⟩) (Nat.le_refl _) _
              have hR4 : Rdr w4 O (.slice (some ⟨g, 0, none⟩) rows.length cap) r' (t ++ (⟨#[40]⟩ : ByteArray) ++ sa ++ (⟨#[41]⟩ : ByteArray)) := by
                rw [hw4]
                refine ⟨?_, ?_, ?_, by simpa using q3, by simpa using q4, by simpa using q5⟩
                · rw [World.cell?_setCell_other _ _ _ _ (by simp)]; exact q0
                · rw [World.cell?_setCell_other _ _ _ _ (by simp)]; exact q1
                · exact World.cell?_setCell_same _ _ _ q2
              have k1 := (hb3'.cell (p := ⟨g, m, none⟩) (by show g < O; omega)).trans h1
              have k2 := (hb3'.cell (p := ⟨g2, 1, none⟩) (by show g2 < O; omega)).trans h4
              have D2 := Lib.hid (C2.out r' _ w4 hr2 (by omega) HZ.out (Lib.hid (hG.out.below (hb4.mono hHO))) (Lib.hid hR4))
              simp only [← HQ.out] at D2
              have HW4 := Lib.hid hw4
              have HB4 := Lib.hid hb4
              clear hR3 hb3 hb3' hb4 hR4 hw4 C1 C2 HW2 HB2 r0 r1 r2 r3 r4 h1 h3 h4 hR
              go_wp2_with fail
              rw [← HW4.out]
              refine D2.out.mono ?_
              rintro e w5 ⟨rfl, hb5, hR5⟩
              have HB5 := Lib.hid (HB4.out.trans hb5)
              have HR5 := Lib.hid hR5
              clear hb5 hR5 D2 HW4
              go_wp2
              go_ret
              refine ⟨rfl, HB5.out, fun h => ?_⟩
              have h9 := HR5.out h
              have e9 : t ++ ((⟨#[40]⟩ : ByteArray) ++ sa ++ (⟨#[41]⟩ : ByteArray) ++ wobS rows f b) = t ++ (⟨#[40]⟩ : ByteArray) ++ sa ++ (⟨#[41]⟩ : ByteArray) ++ wobS rows f b := by
                simp only [ByteArray.append_assoc]
              rw [e9]
              exact h9
          · have e : rdL rows (f + 1) m m = -1 := rdL_no (.inr h2)
            rw [e]
            obtain ⟨g, cap, ax, c2, hv2, h1⟩ := grid_len hG.out m hlt
            obtain ⟨n2, hn2⟩ : ∃ n2, n2 = (rows.getD m []).length := ⟨_, rfl⟩
            rw [← hn2] at h1 h2
            have h2' : ((n2 : Int) != 2) = true := by simp; omega
            rw [hv2] at r0
            have b1 : (m : Int) < (rows.length : Int) := by omega
            have c0 : ((m : Int) != (m : Int)) = false := by simp
            clear ih e hn2 hv2 hv
            go_enter Try.func41, Try.ntmps41
            go_wp2
            go_ret
            exact ⟨rfl, Below.refl _ _, fun h => absurd h (by decide)⟩
        · have e : rdL rows (f + 1) m m = -1 := rdL_no (.inl (by omega))
          rw [e]
          rw [hv] at r0
          have b1 : (rows.length : Int) ≤ (m : Int) := by omega
          clear ih e hv
          go_enter Try.func41, Try.ntmps41
          go_wp2
          go_ret
          exact ⟨rfl, Below.refl _ _, fun h => absurd h (by decide)⟩
      · have e : rdL rows (f + 1) m x = -1 := rdL_off hneg hoff
        rw [e]
        have c0 : (x != (m : Int)) = true := by simp [hoff]
        have c1 : (x == (-1 : Int)) = false := by simp [hneg]
        clear ih e
        go_enter Try.func41, Try.ntmps41
        go_wp2
        go_ret
        exact ⟨rfl, Below.refl _ _, fun h => absurd h (by decide)⟩

theorem bwV_no {rows : List (List Int)} (h : treeB rows = false) : bwV rows = .tuple #[.string ⟨#[]⟩, .bool false] := by simp [bwV, h]
theorem bwV_yes {rows : List (List Int)} (h : treeB rows = true) (h0 : rows.length ≠ 0) : bwV rows = .tuple #[.string (wobS rows 10 0), .bool true] := by simp [bwV, h, bwS, h0]
theorem bwV_nil {rows : List (List Int)} (h0 : rows.length = 0) : bwV rows = .tuple #[.string ⟨#[]⟩, .bool true] := by simp [bwV, bwS, treeB, h0]
set_option maxHeartbeats 800000 in
theorem implWordOfBin_any (rows : List (List Int)) {B H : Nat} {v : Value} {RV : List Value} (w : World) (hG : Hid (Grid w B H v RV rows)) (hH : H ≤ w.heap.size) :
    Calls Try.prog 13 #[v] w fun e w' => e = .returned (bwV rows) ∧ Below w.heap.size w w' := by
  have hG' := hG
  obtain ⟨a, cap, rfl⟩ := grid_val hG.out
  by_cases h9 : rows.length ≤ 9
  · have b1 : (rows.length : Int) ≤ 9 := by omega
    by_cases h0 : rows.length = 0
    · rw [bwV_nil h0]
      have b2 : ((rows.length : Int) == 0) = true := by simp [h0]
      rw [h0] at hG hG' ⊢
      clear hG' hG b1 b2 h9
      go_enter Try.func13, Try.ntmps13
      go_wp2
      go_ret2
      exact ⟨rfl, (Below.refl _ _).alloc (Nat.le_refl _) _⟩
    · have b2 : ((rows.length : Int) == 0) = false := beq_eq_false_iff_ne.mpr (by omega)
      obtain ⟨w1, hw1⟩ : ∃ w1, w1 = w.alloc (.cells #[.slice a rows.length cap, .int .i64 0, .string ⟨#[]⟩] 48) := ⟨_, rfl⟩
      have hb1 : Below w.heap.size w w1 := by rw [hw1]; exact (Below.refl _ _).alloc (Nat.le_refl _) _
      have hR : Rdr w1 w.heap.size (.slice a rows.length cap) 0 ⟨#[]⟩ := by
        rw [hw1]
        exact ⟨World.cell?_alloc_new w _ _ _, World.cell?_alloc_new w _ _ _, World.cell?_alloc_new w _ _ _, World.frozen?_alloc_at _ _ _ _ rfl, World.frozen?_alloc_at _ _ _ _ rfl, by simp⟩
      have hrd := read_any rows h9 hH 10 0 0 ⟨#[]⟩ w1 (Nat.zero_le _) (by omega) (by decide) (Lib.hid (hG'.out.below (hb1.mono hH))) (Lib.hid hR)
      have htop := rdL_top rows h9 h0
      have hle := rdL_le rows 10 0 0 (Nat.zero_le _)
      have hyes := Lib.hid (fun h => bwV_yes (rows := rows) h h0)
      obtain ⟨r, hr⟩ : ∃ r, r = rdL rows 10 0 0 := ⟨_, rfl⟩
      simp only [← hr] at hrd htop hle
      have et : (⟨#[]⟩ : ByteArray) ++ wobS rows 10 0 = wobS rows 10 0 := by apply bytes_ext; rw [toList_append]; simp
      rw [et] at hrd
      have hwl := wobL_len rows 10 0
      rw [← wobS_size] at hwl
      obtain ⟨sw, hsw⟩ : ∃ sw, sw = wobS rows 10 0 := ⟨_, rfl⟩
      rw [← hsw] at hrd hwl
      simp only [← hsw] at hyes
      have HB1 := Lib.hid hb1
      have HW1 := Lib.hid hw1
      have HN := Lib.hid h0
      clear hr hb1 hw1 hR et hsw hG hG' h0
      by_cases hr0 : r < 0
      · have hd : decide (0 ≤ r) = false := by simp; omega
        rw [hd] at hrd htop
        rw [Bool.false_and] at htop
        rw [bwV_no htop]
        have HRD := Lib.hid hrd
        clear hd hrd htop hle hyes hr0 hwl
        go_enter Try.func13, Try.ntmps13
        go_wp2_with fail
        rw [← HW1.out]
        refine HRD.out.mono ?_
        rintro e w2 ⟨rfl, hb2, _⟩
        have HB2 := Lib.hid (HB1.out.trans hb2)
        clear hb2 HRD HW1 HB1
        go_wp2
        go_ret2
        exact ⟨rfl, HB2.out⟩
      · have hd : decide (0 ≤ r) = true := by simp; omega
        rw [hd] at hrd htop
        rw [Bool.true_and] at htop
        have hle2 := hle (by omega)
        obtain ⟨r', rfl⟩ : ∃ r' : Nat, r = r' := ⟨r.toNat, by omega⟩
        simp only [Int.toNat_natCast] at hrd
        have HRD := Lib.hid hrd
        by_cases hrl : (rows.length : Int) ≤ (r' : Int)
        · rw [decide_eq_true hrl] at htop
          rw [hyes.out htop]
          clear hd hrd htop hle hyes hr0 hle2
          go_enter Try.func13, Try.ntmps13
          go_wp2_with fail
          rw [← HW1.out]
          refine HRD.out.mono ?_
          rintro e w2 ⟨rfl, hb2, hR2⟩
          have hR2 := hR2 (by omega)
          have r1 := hR2.met
          have r2 := hR2.word
          have HB2 := Lib.hid (HB1.out.trans hb2)
          clear hb2 HRD HW1 HB1 hR2
          go_wp2
          go_ret2
          exact ⟨rfl, HB2.out⟩
        · have hrl2 : (r' : Int) < (rows.length : Int) := by omega
          rw [decide_eq_false hrl] at htop
          rw [bwV_no htop]
          clear hd hrd htop hle hyes hr0 hle2 hrl
          go_enter Try.func13, Try.ntmps13
          go_wp2_with fail
          rw [← HW1.out]
          refine HRD.out.mono ?_
          rintro e w2 ⟨rfl, hb2, hR2⟩
          have hR2 := hR2 (by omega)
          have r1 := hR2.met
          have r2 := hR2.word
          have HB2 := Lib.hid (HB1.out.trans hb2)
          clear hb2 HRD HW1 HB1 hR2
          go_wp2
          go_ret2
          exact ⟨rfl, HB2.out⟩
  · have e : treeB rows = false := by simp [treeB, h9]
    rw [bwV_no e]
    have b1 : 9 < (rows.length : Int) := by omega
    clear e
    go_enter Try.func13, Try.ntmps13
    go_wp2
    go_ret2
    exact ⟨rfl, Below.refl _ _⟩
end Go.Proofs.Ytpphilladlladaa
