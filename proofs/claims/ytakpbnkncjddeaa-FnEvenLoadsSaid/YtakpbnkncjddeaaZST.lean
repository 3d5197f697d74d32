/-
  The contract of the program's appendSteps: how many steps lead to each node of a word's tree.
  The contract of the program's FindBy, of numbers that can be read and any text.
-/
import Derived.Test.YtakpbnkncjddeaaCReadN
import Derived.Test.YtakpbnkncjddeaaZLP
import Derived.Test.YtakpbnkncjddeaaZL
import Derived.Test.YtakpbnkncjddeaaZLS
import Derived.Test.YtakpbnkncjddeaaZV
namespace Go.Proofs.Ytakpbnkncjddeaa
open Go.RowKit

theorem ta_treeP {w : World} {B H f n : Nat} {p : Option Addr} {a b : Tw} (h : TA w B H f (Tw.n a b).lst n p) (hf : 1 ≤ f) : ∃ g k l r, p = some ⟨k, 0, none⟩ ∧ f = g + 1 ∧ k < H ∧ w.cell? ⟨k, 1, none⟩ = some (.pointer l) ∧ w.cell? ⟨k, 2, none⟩ = some (.pointer r) ∧ TA w B H g a.lst (n + 1) l ∧ TA w B H g b.lst (n + 1 + a.size) r := by
  cases f with
  | zero => omega
  | succ f =>
    rcases h with ⟨h0, _⟩ | ⟨_, k, l, r, h1, _, h3, _, h5, h6, h7, h8⟩
    · exact absurd h0 (Tw.lst_ne a b)
    · rw [Tw.fst_lst] at h7 h8
      rw [Tw.rst_lst, Tw.half_lst] at h8
      exact ⟨f, k, l, r, h1, rfl, h3, h5, h6, h7, h8⟩
/-- a row in the call's own memory, from the block H on -/
def RowFromP (H : Nat) (xs : List Nat) (w : World) (e : Ending) (w' : World) : Prop := ∃ a c, e = .returned (.slice a xs.length c) ∧ w'.ownsRow H 3 1 (.slice a xs.length c) xs.length (iv (ldI xs)) ∧ Below H w w'
set_option maxRecDepth 100000 in
set_option maxHeartbeats 1600000 in
theorem appendSteps_any {B H : Nat} : ∀ (t : Tw) (f n m d : Nat) (p a : Option Addr) (c : Nat) (xs : List Nat) (w : World), Hid (TA w B H f t.lst n p) → t.lst.length ≤ f → xs.length = m → Hid (w.ownsRow H 3 1 (.slice a m c) m (iv (ldI xs))) → Hid (H ≤ w.heap.size) → m + t.size ≤ 60 → d + t.size ≤ 60 →
    Calls Try.prog 55 #[.slice a m c, .pointer p, .int .i64 (d : Int)] w (RowFromP H (xs ++ stI t d) w) := by
  intro t
  induction t with
  | e =>
    intro f n m d p a c xs w hT _ hm hR _ _ _
    obtain rfl := hT.out.nil
    subst hm
    rw [show stI .e d = [] from rfl, List.append_nil]
    go_enter Try.func55, Try.ntmps55
    go_wp2
    go_ret
    exact ⟨_, _, rfl, hR.out, Below.refl _ _⟩
  | n ta tb iha ihb =>
    intro f n m d p a c xs w hT hf hm hR hH hl hd
    have sz : (Tw.n ta tb).size = ta.size + 1 + tb.size := rfl
    have l1 := Tw.lst_length (Tw.n ta tb)
    have l2 := Tw.lst_length ta
    have l3 := Tw.lst_length tb
    obtain ⟨g, b, l, r, rfl, rfl, hbH, h5, h6, h7, h8⟩ := ta_treeP hT.out (by omega)
    obtain ⟨d1, hd1⟩ : ∃ d1, d1 = d + 1 := ⟨_, rfl⟩
    have I1 := iha g (n + 1) m d1 l a c xs w (Lib.hid h7) (by omega) hm hR hH (by omega) (by omega)
    have I2 := Lib.hid (fun m' a' c' xs' w' (hT' : TA w' B H g tb.lst (n + 1 + ta.size) r) (hm' : xs'.length = m') hR' hH' (hl' : m' + tb.size ≤ 60) => ihb g (n + 1 + ta.size) m' d1 r a' c' xs' w' (Lib.hid hT') (by omega) hm' hR' hH' hl' (by omega))
    have H8 := Lib.hid h8
    have V : Hid (xs ++ stI (.n ta tb) d = xs ++ stI ta d1 ++ [d] ++ stI tb d1) := by show _ = _; rw [stI, hd1]; simp
    rw [V.out]
    obtain ⟨X, hX⟩ : ∃ X, X = xs ++ stI ta d1 := ⟨_, rfl⟩
    obtain ⟨Y, hY⟩ : ∃ Y, Y = stI tb d1 := ⟨_, rfl⟩
    have lX : X.length = m + ta.size := by rw [hX, List.length_append, stI_len, hm]
    rw [← hX] at I1 ⊢
    rw [← hY] at I2 ⊢
    obtain ⟨q, hq⟩ : ∃ q, q = X.length := ⟨_, rfl⟩
    have q9 : q ≤ 59 := by omega
    have LQ : Hid (q = X.length ∧ q + 1 + tb.size ≤ 60 ∧ (X ++ [d]).length = q + 1) := ⟨hq, by omega, by rw [List.length_append, hq]; rfl⟩
    have I1 : Calls Try.prog 55 #[.slice a m c, .pointer l, .int .i64 (d1 : Int)] w (fun e w' => ∃ a1 c1, e = .returned (.slice a1 q c1) ∧ w'.ownsRow H 3 1 (.slice a1 q c1) q (iv (ldI X)) ∧ Below H w w') := by
      rw [hq]; exact I1
    have I1 := Lib.hid I1
    have ed : IntKind.i64.wrap ((d : Int) + 1) = (d1 : Int) := by rw [IntKind.wrap_i64]; omega
    have e3 : Hid (iv (ldI X) ++ iv [(d : Int)] = iv (ldI (X ++ [d]))) := by show _ = _; rw [ldI_snoc, iv_app]
    clear iha ihb h7 h8 hX hY hd1 lX hq l1 l2 l3 sz hT hm hR hl hd hf V
    go_enter Try.func55, Try.ntmps55
    go_wp2_with (go_at_call_of 55 l; refine I1.out.mono ?_)
    rintro e w1 ⟨a1, c1, rfl, ho1, hb1⟩
    have c6 := (hb1.cell (p := ⟨b, 2, none⟩) hbH).trans h6
    have hT1 := Lib.hid (TA.below hb1 g _ _ _ H8.out)
    have HO1 := Lib.hid (ho1.alloc (.cells #[.int .i64 (d : Int)] 3))
    have HB1 := Lib.hid hb1
    have O1 := Lib.hid ho1
    have Y3 : Hid (∀ o : Obj, H ≤ (w1.alloc o).heap.size) := fun o => by have := hb1.size; have := hH.out; rw [World.size_alloc]; omega
    clear ho1 hb1 h5 h6 I1
    go_wp2_with (at_builtin; refine wpList_append_rd rfl (.tmp 18) (.tmp 20) rfl H _ q _ rfl HO1.out (some ⟨_, 0, none⟩) 1 1 rfl (l := [(d : Int)]) rfl (lit_rdP _ _) (by omega) (by omega) (Y3.out _) ?_)
    intro v2 w2 hv2 hg2
    obtain ⟨a2, c2, rfl⟩ := own_formN hv2
    rw [e3.out] at hv2
    have hb2 : Below H w1 w2 := ((Below.refl _ _).alloc (by have := hH.out; have := HB1.out.size; omega) _).grown hg2 (Y3.out _) (fun j hj => (HO1.out.lt j hj).1)
    have d6 := (hb2.cell (p := ⟨b, 2, none⟩) hbH).trans c6
    have hT2 := TA.below hb2 g _ _ _ hT1.out
    have C1 := I2.out (q + 1) a2 c2 (X ++ [d]) w2 hT2 LQ.out.2.2 (Lib.hid hv2) (Lib.hid (Nat.le_trans hH.out (Nat.le_trans HB1.out.size hb2.size))) LQ.out.2.1
    obtain ⟨Q3, hQ3⟩ : ∃ Q3, Q3 = (X ++ [d] ++ Y).length := ⟨_, rfl⟩
    have C2 : Calls Try.prog 55 #[.slice a2 (q + 1) c2, .pointer r, .int .i64 (d1 : Int)] w2 (fun e w' => ∃ a3 c3, e = .returned (.slice a3 Q3 c3) ∧ w'.ownsRow H 3 1 (.slice a3 Q3 c3) Q3 (iv (ldI (X ++ [d] ++ Y))) ∧ Below H w2 w') := by
      rw [hQ3]; exact C1
    have C2 := Lib.hid C2
    have HQ3 := Lib.hid hQ3
    clear C1 hQ3
    have HB2 := Lib.hid (HB1.out.trans hb2)
    clear hv2 hg2 hb2 HO1 O1 HB1 c6 hT1 hT2 e3 I2
    go_wp2_with (go_at_call_of 55 r; refine C2.out.mono ?_)
    rintro e w3 ⟨a3, c3, rfl, hv3, hb3⟩
    have HV3 := Lib.hid hv3
    have HB3 := Lib.hid (HB2.out.trans hb3)
    clear hv3 hb3
    go_wp2
    go_ret
    unfold RowFromP
    rw [← HQ3.out]
    exact ⟨_, _, rfl, HV3.out, HB3.out⟩
end Go.Proofs.Ytakpbnkncjddeaa

namespace Go.Proofs.Ytakpbnkncjddeaa
open Go.RowKit

set_option maxRecDepth 100000 in
set_option maxHeartbeats 1600000 in
theorem implFindBy_any (l : List Int) (a : Option Addr) (cv : Nat) (s : ByteArray) (w : World) {H : Nat} (hR : Hid (RdI w H a l)) (hH : H ≤ w.heap.size) (hl : l.length ≤ 1048576) (hs : s.size ≤ maxLen) :
    Calls Try.prog 31 #[.slice a l.length cv, .string s] w fun e w' => e = .returned (.int .i64 (fbI l s.data.toList)) ∧ Below w.heap.size w w' := by
  have CV := Lib.hid (implValidLoads_rd l a cv w hR hl)
  cases hw : loadB l
  · rw [hw] at CV
    have E := Lib.hid (fbI_no (l := l) (s := s.data.toList) (fun h => by rw [hw] at h; exact absurd h.1 (by decide)))
    clear hw
    go_enter Try.func31, Try.ntmps31
    go_wp2_with fail
    refine CV.out.mono ?_
    rintro e w1 ⟨rfl, rfl⟩
    go_wp2
    go_ret
    exact ⟨by rw [E.out]; rfl, Below.refl _ _⟩
  · rw [hw] at CV
    cases hv : valid s.data.toList with
    | false =>
      have E := Lib.hid (fbI_no (l := l) (s := s.data.toList) (fun h => by rw [hv] at h; exact absurd h.2.1 (by decide)))
      have CW := Lib.hid (fun W => implValid_is false s W hs (Lib.hid hv))
      clear hw hv
      go_enter Try.func31, Try.ntmps31
      go_wp2_with fail
      refine CV.out.mono ?_
      rintro e w1 ⟨rfl, rfl⟩
      go_wp2_with fail
      refine (CW.out _).mono ?_
      rintro e w1 ⟨rfl, hb⟩
      have HB := Lib.hid hb
      clear hb
      go_wp2
      go_ret
      exact ⟨by rw [E.out]; rfl, HB.out⟩
    | true =>
      have CW := Lib.hid (fun W => implValid_is true s W hs (Lib.hid hv))
      by_cases hlen : s.data.toList.length = 2 * l.length
      · obtain ⟨L, rfl, eL, h7, h20⟩ := loadB_nats hw
        rw [ldI_len] at hlen
        have E := Lib.hid (fbI_yes h7 h20 hv hlen)
        obtain ⟨t, ht, ht9⟩ := tree_ofP hv
        have hts : t.size = L.length := by rw [← ht, Tw.lst_length] at hlen; omega
        have EF : fbW s.data.toList L = dotN (stI t 1) L := by rw [← ht, fbW_lst (by omega), dot_fb t L 1 hts.symm]
        rw [EF] at E
        have hmost := fbW_most hv hlen
        rw [EF] at hmost
        have hsum := sum_bd h20
        have hb9 : dotN (stI t 1) L ≤ 980 := by
          have h : L.length * L.sum ≤ 7 * (20 * 7) := Nat.mul_le_mul h7 (Nat.le_trans hsum (Nat.mul_le_mul_left _ h7))
          omega
        have CF := Lib.hid (fun W => firstNode_any s W (Lib.hid hv))
        rw [← ht] at CF
        have hsl : s.size = 2 * L.length := by rw [← size_list]; exact hlen
        have CS0 := (fun (B n0 : Nat) (p : Option Addr) (W : World) (hT : TA W B W.heap.size 18 t.lst n0 p) => appendSteps_any t 18 n0 0 1 p none 0 [] W (Lib.hid hT) (by rw [Tw.lst_length]; omega) rfl (Lib.hid (World.ownsRow_nil _ _ _ _)) (Lib.hid (Nat.le_refl _)) (by omega) (by omega))
        obtain ⟨S, hS⟩ : ∃ S, S = stI t 1 := ⟨_, rfl⟩
        have lS : S.length = L.length := by rw [hS, stI_len, hts]
        rw [← hS] at E hb9 CS0
        have DS := Lib.hid (fun k => dot_step k S L)
        have DL := Lib.hid (fun k => Nat.le_trans (dot_le k S L) hb9)
        have S8 : Hid (∀ k, k < S.length → S.getD k 0 ≤ 8) := fun k hk => by
          have := stI_le t 1 (S.getD k 0) (by rw [← hS]; simp [List.getElem?_eq_getElem hk])
          omega
        obtain ⟨n, hn⟩ : ∃ n, n = L.length := ⟨_, rfl⟩
        have L20 : Hid (∀ k, k < n → L.getD k 0 ≤ 20) := fun k hk => by
          have : L.getD k 0 ∈ L := by simp [List.getElem?_eq_getElem (show k < L.length by omega)]
          exact h20 _ this
        rw [← hn] at hsl
        have hSn : n = S.length := by rw [lS, hn]
        have CS : Hid (∀ (B n0 : Nat) (p : Option Addr) (W : World), TA W B W.heap.size 18 t.lst n0 p → Calls Try.prog 55 #[.slice none 0 0, .pointer p, .int .i64 1] W fun e w' => ∃ a3 c3, e = .returned (.slice a3 n c3) ∧ w'.ownsRow W.heap.size 3 1 (.slice a3 n c3) n (iv (ldI S)) ∧ Below W.heap.size W w') := fun B n0 p W hT => by
          rw [hSn]; exact CS0 B n0 p W hT
        clear CS0 hSn
        have LL := Lib.hid (show L.length = n ∧ S.length = n from ⟨hn.symm, by rw [lS, hn]⟩)
        have DE : Hid (dotN (S.take n) L = dotN S L) := by show _ = _; rw [List.take_of_length_le (by rw [lS, hn]; exact Nat.le_refl _)]
        have hnn : (ldI L).length = n := by rw [ldI_len, hn]
        have HN7 : n ≤ 7 := by omega
        rw [hnn] at CV ⊢
        have b1 : (s.size : Int) = 2 * (n : Int) := by omega
        have e1 : IntKind.i64.wrap (2 * (n : Int)) = 2 * (n : Int) := by rw [IntKind.wrap_i64]; omega
        have hRW : Hid (∀ W, Below w.heap.size w W → RdI W H a (ldI L)) := fun W hW => hR.out.below (hW.mono hH)
        clear hw hv hlen ht hts EF hmost hsum hb9 hS lS hn hnn eL h7 h20 hl hs ht9 hR hsl
        go_enter Try.func31, Try.ntmps31
        go_wp2_with fail
        refine CV.out.mono ?_
        rintro e w1 ⟨rfl, rfl⟩
        go_wp2_with fail
        refine (CW.out _).mono ?_
        rintro e w1 ⟨rfl, hb1⟩
        have HB1 := Lib.hid hb1
        clear hb1 CW
        go_wp2_with fail
        refine (CF.out w1).mono ?_
        rintro e w2 ⟨p, rfl, hT, hb2⟩
        have HB2 : Hid (Below w.heap.size w w2) := HB1.out.trans (hb2.mono HB1.out.size)
        have C2 := Lib.hid (CS.out _ _ _ _ hT)
        clear hb2 hT HB1 CF CS
        go_wp2_with fail
        refine C2.out.mono ?_
        rintro e w3 ⟨a3, c3, rfl, ho3, hb3⟩
        have HB3 : Hid (Below w.heap.size w w3) := HB2.out.trans (hb3.mono HB2.out.size)
        have R3 := Lib.hid (row_rdP ho3)
        have RW := Lib.hid (hRW.out w3 HB3.out)
        clear ho3 hb3 C2 HB2 hRW
        go_wp2
        go_loop [5, 28] (fun x i => ∃ k : Nat, k ≤ n ∧ i = .int .i64 k ∧ x = .int .i64 ((dotN (S.take k) L : Nat) : Int)) (fun _ i => n - (intOf i).toNat)
        case atStart => exact ⟨0, Nat.zero_le _, rfl, rfl⟩
        case round =>
          obtain ⟨k, hk, rfl, rfl⟩ := hrel
          by_cases hlt : k < n
          · obtain ⟨b3, o3, rfl, _, h1⟩ := R3.out k (by rw [ldI_len]; have := LL.out.2; omega)
            obtain ⟨b4, o4, rfl, _, h2⟩ := RW.out k (by rw [ldI_len]; have := LL.out.1; omega)
            have g1 : (ldI S)[k]'(by rw [ldI_len]; have := LL.out.2; omega) = ((S.getD k 0 : Nat) : Int) := by rw [ldI_get S k (by have := LL.out.2; omega)]; simp [List.getElem?_eq_getElem (show k < S.length by have := LL.out.2; omega)]
            have g2 : (ldI L)[k]'(by rw [ldI_len]; have := LL.out.1; omega) = ((L.getD k 0 : Nat) : Int) := by rw [ldI_get L k (by have := LL.out.1; omega)]; simp [List.getElem?_eq_getElem (show k < L.length by have := LL.out.1; omega)]
            rw [g1] at h1
            rw [g2] at h2
            have q1 := DS.out k (by have := LL.out.2; omega) (by have := LL.out.1; omega)
            have q2 := DL.out (k + 1)
            have q3 := S8.out k (by have := LL.out.2; omega)
            have q4 := L20.out k hlt
            have b5 : (k : Int) < (n : Int) := by omega
            obtain ⟨x, hx⟩ : ∃ x, x = S.getD k 0 := ⟨_, rfl⟩
            obtain ⟨y, hy⟩ : ∃ y, y = L.getD k 0 := ⟨_, rfl⟩
            obtain ⟨D, hD⟩ : ∃ D, D = dotN (S.take k) L := ⟨_, rfl⟩
            obtain ⟨D2, hD2⟩ : ∃ D2, D2 = dotN (S.take (k + 1)) L := ⟨_, rfl⟩
            rw [← hx] at h1 q1 q3
            rw [← hy] at h2 q1 q4
            rw [← hD2, ← hD] at q1
            rw [← hD2] at q2
            rw [← hD]
            have HD2 := Lib.hid hD2
            obtain ⟨P, hP⟩ : ∃ P, P = x * y := ⟨_, rfl⟩
            have hPI : (x : Int) * (y : Int) = (P : Int) := by rw [hP, Int.natCast_mul]
            rw [← hP] at q1
            have e2 : IntKind.i64.wrap ((x : Int) * (y : Int)) = (P : Int) := by rw [hPI, IntKind.wrap_i64]; omega
            have e3 : IntKind.i64.wrap ((D : Int) + (P : Int)) = (D2 : Int) := by rw [IntKind.wrap_i64]; omega
            have e4 : IntKind.i64.wrap ((k : Int) + 1) = (k : Int) + 1 := by rw [IntKind.wrap_i64]; omega
            clear g1 g2 q1 q2 q3 q4 hx hy hD hD2 hP hPI
            go_wp2
            go_round
            case rel => exact ⟨k + 1, by omega, by go_num, by rw [HD2.out]⟩
            case measure => simp [intOf]; omega
          · obtain rfl : k = n := by omega
            rw [DE.out]
            go_wp2
            go_ret
            exact ⟨by rw [E.out]; rfl, HB3.out⟩
      · have E := Lib.hid (fbI_no (l := l) (s := s.data.toList) (fun h => hlen h.2.2))
        have h7 := loadB_len hw
        obtain ⟨n, hn⟩ : ∃ n, n = l.length := ⟨_, rfl⟩
        rw [size_list, ← hn] at hlen
        rw [← hn] at CV ⊢
        have b1 : ¬ (s.size : Int) = 2 * (n : Int) := by omega
        have e1 : IntKind.i64.wrap (2 * (n : Int)) = 2 * (n : Int) := by rw [IntKind.wrap_i64]; omega
        clear hw hv hlen hn h7 hl
        go_enter Try.func31, Try.ntmps31
        go_wp2_with fail
        refine CV.out.mono ?_
        rintro e w1 ⟨rfl, rfl⟩
        go_wp2_with fail
        refine (CW.out _).mono ?_
        rintro e w1 ⟨rfl, hb⟩
        have HB := Lib.hid hb
        clear hb
        go_wp2
        go_ret
        exact ⟨by rw [E.out]; rfl, HB.out⟩
end Go.Proofs.Ytakpbnkncjddeaa
