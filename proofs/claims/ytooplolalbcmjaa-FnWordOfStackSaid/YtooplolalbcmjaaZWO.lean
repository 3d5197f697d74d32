/-
  The contract of the program's function that answers the word of a row of numbers, by a stack.
  The contract of the model's function that answers the word of a row of numbers, by a stack.
-/
import Derived.Test.YtooplolalbcmjaaZP
import Derived.Test.YtooplolalbcmjaaWOos
import Derived.Test.YtooplolalbcmjaaZW
import Derived.Test.YtooplolalbcmjaaCDepths
import Derived.Test.YtooplolalbcmjaaZV
namespace Go.Proofs.Ytooplolalbcmjaa
open Go.RowKit

def wosV (l : List Int) : Value := match wosL l with
  | some t => .tuple #[.string ⟨t.toArray⟩, .bool true]
  | none => .tuple #[.string ⟨#[]⟩, .bool false]
theorem wosV_none {l : List Int} (h : wosL l = none) : wosV l = .tuple #[.string ⟨#[]⟩, .bool false] := by unfold wosV; rw [h]
theorem wosV_some {l : List Int} {t : List UInt8} (h : wosL l = some t) : wosV l = .tuple #[.string ⟨t.toArray⟩, .bool true] := by unfold wosV; rw [h]
theorem wosL_none {l : List Int} (h9 : l.length ≤ 9) (h : runW l.length l wos0 = none) : wosL l = none := by rw [wosL, if_neg (by omega), h]; rfl
theorem wosL_some {l : List Int} {a : Wos} (h9 : l.length ≤ 9) (h : runW l.length l wos0 = some a) : wosL l = some a.out := by rw [wosL, if_neg (by omega), h]; rfl
theorem stepQ_out {L : Nat} {q : Int} (a : Wos) (h : q < 0 ∨ (L : Int) ≤ q) : stepQ L q a = none := by rw [stepQ, if_pos h]
theorem stepQ_in {L p : Nat} (a : Wos) (h : p < L) : stepQ L p a = if (pushW (p + 1 - a.n) a).stk.getLast? = some p then some ⟨(pushW (p + 1 - a.n) a).n, (pushW (p + 1 - a.n) a).stk.dropLast, (pushW (p + 1 - a.n) a).out ++ [41]⟩ else none := by
  rw [stepQ, if_neg (by omega)]; rfl
theorem start_len (L : Nat) (l : List Int) {a : Wos} {k : Nat} (h : runW L (l.take k) wos0 = some a) : a.n ≤ L ∧ a.stk.length ≤ a.n ∧ a.out.length = a.n + (l.take k).length := by
  have := runW_len L _ _ _ h (Nat.zero_le _) (Nat.le_refl _)
  simp only [wos0, List.length_nil] at this
  omega

/-- what stands: a stack, a text, how many have come -/
structure Wst (wr : World) (B O : Nat) (vs : Value) (t : ByteArray) (n : Nat) (a : Wos) : Prop where
  stk : StkAt wr B O 3 vs (ints a.stk)
  txt : t.data.toList = a.out
  num : a.n = n

set_option maxHeartbeats 800000 in
theorem implWos_any (l : List Int) (v : Value) (w : World) {B H : Nat} (ho : Hid (Own w B H 3 v (iv l))) (hH : H ≤ w.heap.size) (hl : l.length ≤ 1048576) :
    Calls Try.prog 13 #[v] w fun e w' => e = .returned (wosV l) ∧ Below w.heap.size w w' := by
  obtain ⟨av, cv, rfl, _, _, _, _⟩ := ho.out.slice
  rw [iv_length] at ho ⊢
  by_cases h9 : (9 : Int) < (l.length : Int)
  · have e : wosV l = .tuple #[.string ⟨#[]⟩, .bool false] := wosV_none (by rw [wosL, if_pos (by omega)])
    rw [e]
    clear e
    go_enter Try.func13, Try.ntmps13
    go_wp2
    go_ret2
    exact ⟨rfl, Below.refl _ _⟩
  · have b9 : (l.length : Int) ≤ 9 := by omega
    have l9 : l.length ≤ 9 := by omega
    clear h9
    go_enter Try.func13, Try.ntmps13
    go_wp2
    have hst : Hid (StkAt (w.alloc (.cells #[.slice none 0 0] 51)) w.heap.size w.heap.size 3 (.slice none 0 0) []) :=
      ⟨World.cell?_alloc_new w _ _ _, World.frozen?_alloc_at _ _ _ _ rfl, by simp, Nat.le_refl _, World.ownsRow_nil _ _ _ _, by simp [Value.ownBlock]⟩
    have hb0 : Below w.heap.size w (w.alloc (.cells #[.slice none 0 0] 51)) := (Below.refl _ _).alloc (Nat.le_refl _) _
    obtain ⟨w0, hw0⟩ : ∃ w0, w0 = w.alloc (.cells #[.slice none 0 0] 51) := ⟨_, rfl⟩
    rw [← hw0] at hst hb0 ⊢
    have HB0 := Lib.hid hb0
    obtain ⟨O, hO⟩ : ∃ O, O = w.heap.size := ⟨_, rfl⟩
    rw [← hO] at hst HB0 hH ⊢
    have HOW := Lib.hid hO
    clear hw0 hb0 hO
    go_loopw [4, 5, 16] (fun word num i wr => ∃ (k n : Nat) (t : ByteArray) (vs : Value) (a : Wos), k ≤ l.length ∧ n ≤ 9 ∧ t.size ≤ 1000 ∧ word = .string t ∧ num = .int .i64 n ∧ i = .int .i64 k ∧ Hid (runW l.length (l.take k) wos0 = some a) ∧ Hid (Wst wr O O vs t n a) ∧ Hid (Below O w wr)) (fun _ _ i _ => l.length - (intOf i).toNat)
    case atStart => exact ⟨0, 0, ⟨#[]⟩, .slice none 0 0, wos0, Nat.zero_le _, by omega, by decide, rfl, rfl, rfl, rfl, ⟨hst.out, rfl, rfl⟩, HB0.out⟩
    case round =>
      obtain ⟨k, n, t, vs, a, hk, hn9, ht1, rfl, rfl, rfl, HR, P, HB⟩ := hrel
      by_cases hlt : k < l.length
      · have b1 : (k : Int) < (l.length : Int) := by omega
        have ow := ho.out.below (w' := wr) (HB.out.mono hH)
        obtain ⟨g, rfl, _, _, hcell, _⟩ := ow.at_ k (by rw [iv_length]; exact hlt)
        rw [iv_at l k hlt] at hcell
        obtain ⟨q, hq⟩ : ∃ q, q = l[k] := ⟨_, rfl⟩
        rw [← hq] at hcell
        have HQ := Lib.hid hq
        clear hq ow
        by_cases hbig : (l.length : Int) ≤ q
        · have E := Lib.hid (wosV_none (wosL_none l9 (runW_none hlt HR.out (by rw [← HQ.out]; exact stepQ_out a (.inr hbig)))))
          go_wp2
          go_ret2
          exact ⟨by rw [E.out]; rfl, by rw [← HOW.out]; exact HB.out⟩
        · have b2 : q < (l.length : Int) := by omega
          clear hbig
          obtain ⟨s1, s2, s3⟩ := start_len _ _ HR.out
          have s4 := P.out.num
          have s5 := P.out.txt
          have s6 : t.size = a.out.length := by rw [← size_list, s5]
          rw [List.length_take] at s3
          obtain ⟨sz, hsz⟩ : ∃ sz, sz = t.size := ⟨_, rfl⟩
          rw [← hsz] at s6
          have hsz50 : sz ≤ 20 := by omega
          have P0 := Lib.hid (show a.out.length ≤ 20 by omega)
          have HSZ := Lib.hid hsz
          have HS2 := Lib.hid s2
          have HS4 := Lib.hid s4
          have HS1 := Lib.hid s1
          clear s1 s2 s3 s4 s5 s6 hsz
          go_wp2
          go_loopw [4, 5] (fun word num wq => ∃ (j n2 : Nat) (t2 : ByteArray) (vs2 : Value), n2 ≤ 9 ∧ t2.size ≤ 100 ∧ word = .string t2 ∧ num = .int .i64 n2 ∧ Hid (n2 = n + j ∧ j ≤ q.toNat + 1 - n ∧ (0 < j → 0 ≤ q)) ∧ Hid (Wst wq O O vs2 t2 n2 (pushW j a)) ∧ Hid (Below O w wq)) (fun _ num _ => (q + 1 - intOf num).toNat)
          case atStart => exact ⟨0, n, t, vs, hn9, by have := HSZ.out; omega, rfl, rfl, ⟨rfl, Nat.zero_le _, fun h => by omega⟩, by rw [pushW_zero]; exact P.out, HB.out⟩
          case round =>
            obtain ⟨j, n2, t2, vs2, hn29, ht2, rfl, rfl, HJ, P2, HB2⟩ := hrel
            clear P HB
            by_cases hle : (n2 : Int) ≤ q
            · obtain ⟨j1, j2, j3⟩ := HJ.out
              have h1 := HS1.out
              have h2 := HS2.out
              have h4 := HS4.out
              have hs4 : (ints (pushW j a).stk).length ≤ 64 := by
                rw [ints_length]
                simp only [pushW, List.length_append, List.length_range']
                omega
              have HS := Lib.hid P2.out.stk
              have HJ2 : Hid (n2 + 1 = n + (j + 1) ∧ j + 1 ≤ q.toNat + 1 - n ∧ (0 < j + 1 → 0 ≤ q)) := ⟨by omega, by omega, fun _ => by omega⟩
              have hn2' : n2 + 1 ≤ 9 := by omega
              have HN2 := Lib.hid (show a.n + j = n2 by omega)
              have TX := Lib.hid P2.out.txt
              have ht3 : (t2 ++ (⟨#[40]⟩ : ByteArray)).size ≤ 100 := by
                rw [← size_list, toList_append, TX.out]
                have : (pushW j a).out.length = a.out.length + j := by simp [pushW]
                rw [List.length_append, this]
                have e0 : (⟨#[40]⟩ : ByteArray).data.toList.length = 1 := rfl
                rw [e0]
                have := HSZ.out
                have := P0.out
                omega
              have HT3 := Lib.hid ht3
              clear j1 j2 j3 h1 h2 h4 HJ ht3
              go_wp2_with fail
              have hh := pushI_any O vs2 (ints (pushW j a).stk) n2 wr HS hs4
              refine hh.mono ?_
              clear hh
              rintro e w4 ⟨rfl, g4, c4, hS4, hL4⟩
              have e4 : ints (pushW j a).stk ++ [.int .i64 (n2 : Int)] = ints (pushW (j + 1) a).stk := by
                rw [pushW_succ, HN2.out, ints_snoc]
              rw [e4] at hS4
              have P4 := Lib.hid hS4
              have HB4 := Lib.hid (HB2.out.trans hL4.below)
              clear hS4 hL4 e4 HS hs4
              go_wp2
              go_roundw
              case rel => exact ⟨j + 1, n2 + 1, _, _, hn2', HT3.out, rfl, by go_num, HJ2.out, ⟨P4.out, by rw [toList_append, TX.out, pushW_succ], by rw [pushW_succ, ← HN2.out]⟩, HB4.out⟩
              case measure => simp [intOf]; omega
            · have hlast : Hid (0 ≤ q → (pushW j a) = pushW (q.toNat + 1 - a.n) a) := fun h0 => by
                have h1 := HJ.out
                have h2 := HS4.out
                have e : j = q.toNat + 1 - a.n := by omega
                rw [e]
              have hneg : Hid (q < 0 → j = 0) := fun h0 => by have h1 := HJ.out; omega
              obtain ⟨b, hb⟩ : ∃ b, b = pushW j a := ⟨_, rfl⟩
              rw [← hb] at P2 hlast
              have P3 := P2.out
              have HS := P3.stk
              have TX := Lib.hid P3.txt
              have NB := Lib.hid P3.num
              have hbl : b.stk.length ≤ 18 := by
                rw [hb]
                have h1 := HJ.out
                have h2 := HS2.out
                have h3 := HS1.out
                have h4 := HS4.out
                simp only [pushW, List.length_append, List.length_range']
                omega
              clear hb P2 P3
              rcases List.eq_nil_or_concat b.stk with h0 | ⟨st, x, h0⟩
              · rw [h0] at HS
                have HS := Lib.hid HS
                have E := Lib.hid (wosV_none (wosL_none l9 (runW_none hlt HR.out (by
                  rw [← HQ.out]
                  by_cases hq0 : q < 0
                  · exact stepQ_out a (.inl hq0)
                  · obtain ⟨p, hp⟩ : ∃ p : Nat, q = p := ⟨q.toNat, by omega⟩
                    have h2 := hlast.out (by omega)
                    rw [hp] at h2 ⊢
                    rw [Int.toNat_natCast] at h2
                    rw [stepQ_in a (by omega), ← h2, h0, if_neg (by simp)]))))
                clear h0 hlast hneg hbl
                go_wp2_with fail
                have hh := popNoneI_any O vs2 wr HS
                refine hh.mono ?_
                clear hh
                rintro e w4 ⟨rfl, rfl⟩
                go_wp2
                go_ret2
                exact ⟨by rw [E.out]; rfl, by rw [← HOW.out]; exact HB2.out⟩
              · have hln : (ints b.stk).length = st.length + 1 := by rw [ints_length, h0]; simp
                have hx : (ints b.stk)[st.length]? = some (.int .i64 (x : Int)) := by
                  rw [ints_at2 b.stk st.length (by rw [h0]; simp)]
                  simp [h0]
                have hlq : b.stk.getLast? = some x := by rw [h0]; simp
                have hst64 : st.length ≤ 64 := by rw [h0] at hbl; simp at hbl; omega
                have HS := Lib.hid HS
                have HLN := Lib.hid hln
                have HX := Lib.hid hx
                have hh := popI_any O vs2 (ints b.stk) x wr HS HLN hst64 HX
                by_cases hxq : (x : Int) = q
                · have c1 : ((x : Int) != q) = false := by rw [hxq]; simp
                  have hstep : stepQ l.length q a = some ⟨b.n, b.stk.dropLast, b.out ++ [41]⟩ := by
                    have h2 := hlast.out (by omega)
                    rw [← hxq] at h2 ⊢
                    rw [Int.toNat_natCast] at h2
                    rw [stepQ_in a (by omega), ← h2, hlq, if_pos rfl]
                  have hrun := Lib.hid (runW_take hlt HR.out (by rw [← HQ.out]; exact hstep))
                  have HH := Lib.hid hh
                  have ht3 : (t2 ++ (⟨#[41]⟩ : ByteArray)).size ≤ 1000 := by
                    rw [ByteArray.size_append]
                    have e0 : (⟨#[41]⟩ : ByteArray).size = 1 := rfl
                    omega
                  have HT3 := Lib.hid ht3
                  subst hxq
                  clear h0 hlast hneg hbl hx hln hlq hstep ht3 hh
                  go_wp2_with fail
                  refine HH.out.mono ?_
                  clear HH
                  rintro e w4 ⟨rfl, g4, c4, rfl, hS4, hL4⟩
                  rw [ints_dropLast] at hS4
                  have P4 := Lib.hid hS4
                  have HB4 := Lib.hid (HB2.out.trans hL4.below)
                  clear hS4 hL4
                  go_wp2
                  go_roundw
                  case rel => exact ⟨k + 1, n2, _, _, _, by omega, hn29, HT3.out, rfl, rfl, by go_num, hrun.out, ⟨P4.out, by rw [toList_append, TX.out], NB.out⟩, HB4.out⟩
                  case measure => simp [intOf]; omega
                · have c1 : ((x : Int) != q) = true := by simp [hxq]
                  have E := Lib.hid (wosV_none (wosL_none l9 (runW_none hlt HR.out (by
                    rw [← HQ.out]
                    by_cases hq0 : q < 0
                    · exact stepQ_out a (.inl hq0)
                    · obtain ⟨p, hp⟩ : ∃ p : Nat, q = p := ⟨q.toNat, by omega⟩
                      have h2 := hlast.out (by omega)
                      rw [hp] at h2 hxq ⊢
                      rw [Int.toNat_natCast] at h2
                      rw [stepQ_in a (by omega), ← h2, hlq, if_neg (by intro e; cases e; exact hxq rfl)]))))
                  have HH := Lib.hid hh
                  clear h0 hlast hneg hbl hx hln hlq hh hxq
                  go_wp2_with fail
                  refine HH.out.mono ?_
                  clear HH
                  rintro e w4 ⟨rfl, g4, c4, rfl, hS4, hL4⟩
                  have HB4 := Lib.hid (HB2.out.trans hL4.below)
                  clear hS4 hL4
                  go_wp2
                  go_ret2
                  exact ⟨by rw [E.out]; rfl, by rw [← HOW.out]; exact HB4.out⟩
      · have e : k = l.length := by omega
        have hR := HR.out
        rw [e, List.take_of_length_le (Nat.le_refl _)] at hR
        have E := Lib.hid (wosV_some (wosL_some l9 hR))
        have ET : Hid ((⟨a.out.toArray⟩ : ByteArray) = t) := bytes_ext P.out.txt.symm
        have b3 : (l.length : Int) ≤ (k : Int) := by omega
        clear hR e
        go_wp2
        go_ret2
        exact ⟨by rw [E.out, ET.out]; rfl, by rw [← HOW.out]; exact HB.out⟩
end Go.Proofs.Ytooplolalbcmjaa

namespace Go.Proofs.Ytooplolalbcmjaa
open Go.RowKit

/-- what stands in the model: a stack, a text, how many have come -/
structure Wss (wr : World) (B g m c : Nat) (t : ByteArray) (n : Nat) (a : Wos) : Prop where
  row : wr.ownsRow B 3 1 (.slice (some ⟨g, 0, none⟩) m c) m (ints a.stk)
  len : a.stk.length = m
  txt : t.data.toList = a.out
  num : a.n = n

theorem below_drewN_CWosS (B : Nat) (w : World) (n : Nat) : Below B w (w.drewN n) := ⟨rfl, rfl, rfl, Nat.le_refl _, fun _ _ => rfl⟩
set_option maxRecDepth 100000 in
set_option maxHeartbeats 1600000 in
theorem specWos_any (l : List Int) (v : Value) (w : World) {B H : Nat} (ho : Hid (Own w B H 3 v (iv l))) (hH : H ≤ w.heap.size) (hl : l.length ≤ 1048576) :
    Calls Try.prog 14 #[v] w fun e w' => e = .returned (wosV l) ∧ Below w.heap.size w w' := by
  obtain ⟨i0, hi, hz0, hz1, hz2⟩ := info_parts Try.infoIntS
  obtain ⟨av, cv, rfl, _, _, _, _⟩ := ho.out.slice
  rw [iv_length] at ho ⊢
  by_cases h9 : (9 : Int) < (l.length : Int)
  · have e : wosV l = .tuple #[.string ⟨#[]⟩, .bool false] := wosV_none (by rw [wosL, if_pos (by omega)])
    rw [e]
    clear e
    go_enter Try.func14, Try.ntmps14
    go_wp2
    go_ret2
    exact ⟨rfl, Below.refl _ _⟩
  · have b9 : (l.length : Int) ≤ 9 := by omega
    have l9 : l.length ≤ 9 := by omega
    clear h9
    go_enter Try.func14, Try.ntmps14
    go_wp2
    have hst := World.ownsRow_lit (base := w.heap.size) (e := 3) (size := 1) w #[] 0 (Nat.le_refl _) (by decide) rfl
    have hb0 : Below w.heap.size w (w.alloc (.cells #[] 3)) := (Below.refl _ _).alloc (Nat.le_refl _) _
    obtain ⟨w0, hw0⟩ : ∃ w0, w0 = w.alloc (.cells #[] 3) := ⟨_, rfl⟩
    rw [← hw0] at hst hb0 ⊢
    have HB0 := Lib.hid hb0
    have HST := Lib.hid hst
    obtain ⟨O, hO⟩ : ∃ O, O = w.heap.size := ⟨_, rfl⟩
    rw [← hO] at HST HB0 hH ⊢
    have HOW := Lib.hid hO
    clear hw0 hb0 hO hst
    go_loopw [4, 5, 6, 7] (fun stk word num i wr => ∃ (k n m g c : Nat) (t : ByteArray) (a : Wos), k ≤ l.length ∧ n ≤ 9 ∧ m ≤ 9 ∧ t.size ≤ 1000 ∧ stk = .slice (some ⟨g, 0, none⟩) m c ∧ word = .string t ∧ num = .int .i64 n ∧ i = .int .i64 k ∧ Hid (runW l.length (l.take k) wos0 = some a) ∧ Hid (Wss wr O g m c t n a) ∧ Hid (Below O w wr)) (fun _ _ _ i _ => l.length - (intOf i).toNat)
    case atStart => exact ⟨0, 0, 0, O, 0, ⟨#[]⟩, wos0, Nat.zero_le _, by omega, by omega, by decide, rfl, rfl, rfl, rfl, rfl, ⟨HST.out, rfl, rfl, rfl⟩, HB0.out⟩
    case round =>
      obtain ⟨k, n, m, gs, cs, t, a, hk, hn9, hm9, ht1, rfl, rfl, rfl, rfl, HR, P, HB⟩ := hrel
      by_cases hlt : k < l.length
      · have b1 : (k : Int) < (l.length : Int) := by omega
        have ow := ho.out.below (w' := wr) (HB.out.mono hH)
        obtain ⟨g, rfl, _, hgH, hcell, _⟩ := ow.at_ k (by rw [iv_length]; exact hlt)
        rw [iv_at l k hlt] at hcell
        obtain ⟨q, hq⟩ : ∃ q, q = l[k] := ⟨_, rfl⟩
        rw [← hq] at hcell
        have HQ := Lib.hid hq
        clear hq ow
        by_cases hin : 0 ≤ q ∧ q ≤ (l.length : Int) - 1
        · obtain ⟨p, rfl⟩ : ∃ p : Nat, q = p := ⟨q.toNat, by omega⟩
          have hpl : p < l.length := by omega
          obtain ⟨s1, s2, s3⟩ := start_len _ _ HR.out
          have s4 := P.out.num
          have s5 := P.out.txt
          have s6 : t.size = a.out.length := by rw [← size_list, s5]
          rw [List.length_take] at s3
          have P0 := Lib.hid (show a.out.length ≤ 20 ∧ t.size ≤ 20 by omega)
          have HS2 := Lib.hid s2
          have HS4 := Lib.hid s4
          have HS1 := Lib.hid s1
          have i1 := hin.1
          have i2 := hin.2
          have C1 := Lib.hid (fun w => inRange_yes (p : Int) 0 ((l.length : Int) - 1) w i1 i2)
          clear s1 s2 s3 s4 s5 s6 hin i1 i2
          go_wp2_with fail
          refine (C1.out _).mono ?_
          rintro e w1 ⟨rfl, rfl⟩
          clear C1
          go_wp2
          go_loopw [4, 5, 6] (fun stk word num wr => ∃ (j n2 m2 g2 c2 : Nat) (t2 : ByteArray), n2 ≤ 9 ∧ m2 ≤ 9 ∧ t2.size ≤ 100 ∧ stk = .slice (some ⟨g2, 0, none⟩) m2 c2 ∧ word = .string t2 ∧ num = .int .i64 n2 ∧ Hid (n2 = n + j ∧ j ≤ p + 1 - n) ∧ Hid (Wss wr O g2 m2 c2 t2 n2 (pushW j a)) ∧ Hid (Below O w wr)) (fun _ _ num _ => ((p : Int) + 1 - intOf num).toNat)
          case atStart => exact ⟨0, n, m, gs, cs, t, hn9, hm9, by have := P0.out.2; omega, rfl, rfl, rfl, ⟨rfl, Nat.zero_le _⟩, by rw [pushW_zero]; exact P.out, HB.out⟩
          case round =>
            obtain ⟨j, n2, m2, g2, c2, t2, hn29, hm29, ht2, rfl, rfl, rfl, HJ, P2, HB2⟩ := hrel
            have hcell2 := (HB2.out.cell (p := ⟨g, k, none⟩) (by show g < O; omega)).trans ((HB.out.cell (p := ⟨g, k, none⟩) (by show g < O; omega)).symm.trans hcell)
            clear P HB hcell
            by_cases hle : (n2 : Int) ≤ (p : Int)
            · obtain ⟨j1, j2⟩ := HJ.out
              have h4 := HS4.out
              obtain ⟨st, hst⟩ : ∃ st, st = (pushW j a).stk := ⟨_, rfl⟩
              have hw2 := P2.out.row
              have hm2 := P2.out.len
              rw [← hst] at hw2 hm2
              have HJ2 : Hid (n2 + 1 = n + (j + 1) ∧ j + 1 ≤ p + 1 - n) := ⟨by omega, by omega⟩
              have hn2' : n2 + 1 ≤ 9 := by omega
              have hm2' : m2 + 1 ≤ 9 := by
                have h2 := HS2.out
                have h5 : (pushW j a).stk.length = a.stk.length + j := by simp [pushW]
                rw [hst, h5] at hm2
                omega
              have HN2 := Lib.hid (show a.n + j = n2 by omega)
              have TX := Lib.hid P2.out.txt
              have ht3 : (t2 ++ (⟨#[40]⟩ : ByteArray)).size ≤ 100 := by
                rw [← size_list, toList_append, TX.out]
                have : (pushW j a).out.length = a.out.length + j := by simp [pushW]
                rw [List.length_append, this]
                have e0 : (⟨#[40]⟩ : ByteArray).data.toList.length = 1 := rfl
                rw [e0]
                have := P0.out.1
                omega
              have HT3 := Lib.hid ht3
              have HST := Lib.hid hst
              have LST := Lib.hid hm2
              have hsz := HB2.out.size
              have hglt := (hw2.lt g2 rfl).2
              have hlit := World.ownsRow_lit (base := wr.heap.size) (e := 3) (size := 1) wr #[] 0 (Nat.le_refl _) (by decide) rfl
              have Hsrc := Lib.hid ((hw2.alloc (.cells #[] 3)).cells (g := g2) rfl)
              have x1 : (ints st).length = m2 * 1 := by rw [ints_length, LST.out, Nat.mul_one]
              have x2 : 0 + m2 ≤ maxLen := by unfold maxLen; omega
              have x3 : (0 + m2) * 8 ≤ 140737488355328 := by omega
              have x4 : wr.heap.size ≤ (wr.alloc (.cells #[] 3)).heap.size := by simp
              have hOle : O ≤ wr.heap.size := Nat.le_trans (Nat.le_of_eq HOW.out) hsz
              clear hst hm2 j1 j2 h4 ht3 P2 HJ hw2
              go_wp2_with (at_builtin; refine wpList_append_own _ rfl (.tmp 33) (.tmp 34) 23 rfl wr.heap.size 3 i0 (.int .i64 0) 1 8 Try.underlying23 hi hz0 hz1 hz2 rfl (by decide) _ 0 [] rfl hlit ⟨g2, 0, none⟩ m2 c2 (ints st) rfl x1 Hsrc.out (ints_one st) x2 x3 x4 ?_)
              intro v1 w1 hv1 hg1 _
              try simp only [Nat.zero_add, List.nil_append] at hv1
              have hbw1 : Below wr.heap.size wr w1 := ((Below.refl _ _).alloc (Nat.le_refl _) _).grown hg1 (by simp) (fun q hq => by simp [Value.ownBlock] at hq; omega)
              have hs1 := hbw1.size
              have y3 : m2 + 1 ≤ maxLen := by unfold maxLen; omega
              have y4 : (m2 + 1) * 8 ≤ 140737488355328 := by omega
              have y5 : wr.heap.size ≤ (w1.alloc (.cells #[.int .i64 n2] 3)).heap.size := by simp; omega
              have HL1 := Lib.hid hv1.lt
              clear x1 x2 x3 x4 hg1
              go_wp2_with (at_builtin; refine wpList_append_own _ rfl (.tmp 35) (.tmp 37) 23 rfl wr.heap.size 3 i0 (.int .i64 0) 1 8 Try.underlying23 hi hz0 hz1 hz2 rfl (by decide) _ m2 (ints st) rfl (hv1.alloc _) ⟨w1.heap.size, 0, none⟩ 1 1 [.int .i64 n2] rfl rfl (cell_one_new _ _ _) (one_int2 _) y3 y4 y5 ?_)
              intro v2 w2 hv2 hg2 hn2
              obtain ⟨g4, c4, rfl⟩ := own_some3 hv2 hn2
              have hbw2 : Below wr.heap.size wr w2 := (hbw1.alloc hs1 _).grown hg2 (by simp; omega) (fun q hq => (HL1.out q hq).1)
              have e4 : ints st ++ [.int .i64 (n2 : Int)] = ints (pushW (j + 1) a).stk := by
                rw [pushW_succ, HN2.out, ints_snoc, HST.out]
              rw [e4] at hv2
              have P4 : Hid (w2.ownsRow O 3 1 (.slice (some ⟨g4, 0, none⟩) (m2 + 1) c4) (m2 + 1) (ints (pushW (j + 1) a).stk)) := ownsRow_lo hv2 hOle
              have L4 : Hid ((pushW (j + 1) a).stk.length = m2 + 1) := by show (pushW (j + 1) a).stk.length = m2 + 1; rw [pushW_succ, ← HST.out]; simp [LST.out]
              have HB4 := Lib.hid (HB2.out.trans (hbw2.mono hOle))
              clear hv1 hg2 y3 y4 y5 hbw1 hbw2 hv2 hn2 hlit e4
              go_wp2
              go_roundw
              case rel => exact ⟨j + 1, n2 + 1, m2 + 1, _, _, _, hn2', hm2', HT3.out, rfl, rfl, by go_num, HJ2.out, ⟨P4.out, L4.out, by rw [toList_append, TX.out, pushW_succ], by rw [pushW_succ, ← HN2.out]⟩, HB4.out⟩
              case measure => simp [intOf]; omega
            · have hlast : Hid (pushW j a = pushW (p + 1 - a.n) a) := by
                have h1 := HJ.out
                have h2 := HS4.out
                have e : j = p + 1 - a.n := by omega
                rw [e]; rfl
              obtain ⟨b, hb⟩ : ∃ b, b = pushW j a := ⟨_, rfl⟩
              rw [← hb] at P2 hlast
              have P3 := P2.out
              have HS := P3.row
              have LS := P3.len
              have TX := Lib.hid P3.txt
              have NB := Lib.hid P3.num
              clear hb P2 P3
              by_cases hm0 : m2 = 0
              · have h0 : b.stk = [] := List.eq_nil_of_length_eq_zero (by omega)
                have E := Lib.hid (wosV_none (wosL_none l9 (runW_none hlt HR.out (by
                  rw [← HQ.out, stepQ_in a hpl, ← hlast.out, h0, if_neg (by simp)]))))
                subst hm0
                clear h0 hlast LS HS
                go_wp2
                go_quiet (fail)
                go_wp2
                go_ret2
                exact ⟨by rw [E.out]; rfl, by rw [← HOW.out]; exact (HB2.out.trans (below_drewN_CWosS _ _ _))⟩
              · obtain ⟨m3, rfl⟩ : ∃ m3, m2 = m3 + 1 := ⟨m2 - 1, by omega⟩
                obtain ⟨x, hx⟩ : ∃ x, x = b.stk.getLastD 0 := ⟨_, rfl⟩
                have hlast2 := getLastD_at b.stk m3 LS
                have hlq : b.stk.getLast? = some x := by
                  have hne : b.stk ≠ [] := fun e => by rw [e] at LS; simp at LS
                  rw [hx, List.getLastD_eq_getLast?, List.getLast?_eq_some_getLast hne]; rfl
                have hcl : wr.cell? ⟨g2, m3, none⟩ = some (.int .i64 (x : Int)) := by
                  rw [HS.cellAt m3 (by omega), ints_at2 b.stk m3 (by omega), hx, hlast2]
                have hdrop : wr.ownsRow O 3 1 (.slice (some ⟨g2, 0, none⟩) m3 c2) m3 (ints b.stk.dropLast) := by
                  have h2 := own_drop HS (by rw [ints_length, LS])
                  rw [ints_dropLast] at h2
                  exact h2
                have HD := Lib.hid hdrop
                have e1 : ((m3 + 1 : Nat) : Int) - 1 = (m3 : Int) := by omega
                have b2 : m3 < m3 + 1 := by omega
                have bc : (m3 : Int) ≤ (c2 : Int) := by
                  have := own_cap HS; omega
                have c0 : ((m3 : Int) + 1 == 0) = false := beq_eq_false_iff_ne.mpr (by omega)
                clear hx hlast2 hdrop hm0
                by_cases hxq : (x : Int) = p
                · have c1 : ((x : Int) != (p : Int)) = false := by rw [hxq]; simp
                  have hxp : x = p := by omega
                  have hrun := Lib.hid (runW_take hlt HR.out (by rw [← HQ.out, stepQ_in a hpl, ← hlast.out, hlq, if_pos (by rw [hxp])]))
                  have ht3 : (t2 ++ (⟨#[41]⟩ : ByteArray)).size ≤ 1000 := by
                    rw [ByteArray.size_append]
                    have e0 : (⟨#[41]⟩ : ByteArray).size = 1 := rfl
                    omega
                  have HT3 := Lib.hid ht3
                  have HLS : Hid (b.stk.dropLast.length = m3) := by show b.stk.dropLast.length = m3; rw [List.length_dropLast, LS]; rfl
                  clear hlast hlq ht3 HS LS hxp hxq
                  go_wp2
                  go_quiet (fail)
                  go_wp2
                  go_roundw
                  case rel => exact ⟨k + 1, n2, m3, g2, c2, _, _, by omega, hn29, by omega, HT3.out, rfl, rfl, rfl, by go_num, hrun.out, ⟨HD.out, HLS.out, by rw [toList_append, TX.out], NB.out⟩, (HB2.out.trans (below_drewN_CWosS _ _ _))⟩
                  case measure => simp [intOf]; omega
                · have c1 : ((x : Int) != (p : Int)) = true := by simp [hxq]
                  have E := Lib.hid (wosV_none (wosL_none l9 (runW_none hlt HR.out (by
                    rw [← HQ.out, stepQ_in a hpl, ← hlast.out, hlq, if_neg (by intro e; cases e; exact hxq rfl)]))))
                  clear hlast hlq HS LS hxq
                  go_wp2
                  go_quiet (fail)
                  go_wp2
                  go_ret2
                  exact ⟨by rw [E.out]; rfl, by rw [← HOW.out]; exact (HB2.out.trans (below_drewN_CWosS _ _ _))⟩
        · have E := Lib.hid (wosV_none (wosL_none l9 (runW_none hlt HR.out (by rw [← HQ.out]; exact stepQ_out a (by omega)))))
          have C1 := Lib.hid (fun w => inRange_no q 0 ((l.length : Int) - 1) w (by omega))
          clear hin
          go_wp2_with fail
          refine (C1.out _).mono ?_
          rintro e w1 ⟨rfl, rfl⟩
          clear C1
          go_wp2
          go_ret2
          exact ⟨by rw [E.out]; rfl, by rw [← HOW.out]; exact HB.out⟩
      · have e : k = l.length := by omega
        have hR := HR.out
        rw [e, List.take_of_length_le (Nat.le_refl _)] at hR
        have E := Lib.hid (wosV_some (wosL_some l9 hR))
        have ET : Hid ((⟨a.out.toArray⟩ : ByteArray) = t) := bytes_ext P.out.txt.symm
        have b3 : (l.length : Int) ≤ (k : Int) := by omega
        clear hR e
        go_wp2
        go_ret2
        exact ⟨by rw [E.out, ET.out]; rfl, by rw [← HOW.out]; exact HB.out⟩
theorem wosV_form (l : List Int) : ∃ (t : ByteArray) (b : Bool), wosV l = .tuple #[.string t, .bool b] := by
  cases h : wosL l with
  | none => exact ⟨_, _, wosV_none h⟩
  | some t => exact ⟨_, _, wosV_some h⟩
end Go.Proofs.Ytooplolalbcmjaa
