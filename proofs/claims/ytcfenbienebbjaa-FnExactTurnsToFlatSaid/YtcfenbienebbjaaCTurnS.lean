/-
  The contracts of the model's functions on turns: is a word in a list; the words one turn away.
-/
import Derived.Test.YtcfenbienebbjaaCWords
import Derived.Test.YtcfenbienebbjaaCFam
import Derived.Test.YtcfenbienebbjaaZW
import Derived.Test.YtcfenbienebbjaaCInts
import Derived.Deep.RegionLaw
import Derived.Deep.DeepCutAuto
import Derived.Maps.AppendAt
namespace Go.Proofs.Ytcfenbienebbjaa
open Go.RowKit

theorem sv_get (L : List (List UInt8)) (k : Nat) (h : k < L.length) : (sv L)[k]? = some (.string ⟨L[k].toArray⟩) := by simp [sv, h]
theorem mem_yes {L : List (List UInt8)} {x : List UInt8} {k : Nat} (h : k < L.length) (e : L[k] = x) : decide (x ∈ L) = true := decide_eq_true (e ▸ List.getElem_mem h)
theorem mem_not {L : List (List UInt8)} {x : List UInt8} (h : ∀ (j : Nat) (hj : j < L.length), L[j] ≠ x) : decide (x ∈ L) = false := by
  refine decide_eq_false fun hm => ?_
  obtain ⟨j, hj, e⟩ := List.getElem_of_mem hm
  exact h j hj e
set_option maxHeartbeats 800000 in
theorem hasWord_any (L : List (List UInt8)) (v : Value) (s : ByteArray) (w : World) {B H : Nat} (hv : Hid (Own w B H 9 v (sv L))) (hl : L.length ≤ 68719476736) :
    Calls Try.prog 34 #[v, .string s] w fun e w' => e = .returned (.bool (decide (s.data.toList ∈ L))) ∧ w' = w := by
  obtain ⟨av, cv, rfl, _, hcv, _, _⟩ := hv.out.slice
  rw [sv_length] at hv hcv ⊢
  go_enter Try.func34, Try.ntmps34
  go_wp2
  go_loopw [5] (fun i wr => ∃ k : Nat, k ≤ L.length ∧ i = .int .i64 k ∧ Hid (∀ (j : Nat) (hj : j < L.length), j < k → L[j] ≠ s.data.toList) ∧ wr = w) (fun i _ => L.length - (intOf i).toNat)
  case atStart => exact ⟨0, Nat.zero_le _, rfl, fun j hj h => by omega, rfl⟩
  case round =>
    obtain ⟨k, hk, rfl, HN, rfl⟩ := hrel
    by_cases hlt : k < L.length
    · obtain ⟨g, rfl, _, _, hc, _⟩ := hv.out.at_ k (by rw [sv_length]; exact hlt)
      rw [sv_get L k hlt] at hc
      have b1 : (k : Int) < (L.length : Int) := by omega
      obtain ⟨u, hu⟩ : ∃ u : ByteArray, u = ⟨L[k].toArray⟩ := ⟨_, rfl⟩
      rw [← hu] at hc
      by_cases he : u = s
      · have hy := Lib.hid (mem_yes (x := s.data.toList) hlt (by rw [← he, hu]))
        subst he
        clear hu
        go_wp2
        go_ret
        exact ⟨by rw [hy.out]; rfl, rfl⟩
      · have hls : L[k] ≠ s.data.toList := fun e => he (by rw [hu]; exact bytes_ext e)
        have hN2 : Hid (∀ (j : Nat) (hj : j < L.length), j < k + 1 → L[j] ≠ s.data.toList) := fun j hj h => by
          by_cases e : j = k
          · subst e; exact hls
          · exact HN.out j hj (by omega)
        have c1 : (u.toList == s.toList) = false := by
          rw [ByteArray.toList_eq, ByteArray.toList_eq]
          exact beq_eq_false_iff_ne.mpr (fun e => he (bytes_ext e))
        clear hu hls
        go_wp2
        go_roundw
        case rel => exact ⟨k + 1, by omega, by go_num, hN2, by simp⟩
        case measure => simp [intOf]; omega
    · have hy := Lib.hid (mem_not (x := s.data.toList) (fun j hj => HN.out j hj (by omega)))
      have b1 : (L.length : Int) ≤ (k : Int) := by omega
      go_wp2
      go_ret
      exact ⟨by rw [hy.out]; rfl, rfl⟩

theorem step_app {P : Program} {w : World} {ops : Array Oper} {o : Oper} {a : Act} {K : Act → World → Prop} {Q : Exit → Act → World → Prop} {E : Prop} (hgd : o.guard = none) (s x : Operand) (t : TypeId)
    (ho : o.op = .call { callee := .builtin .append, args := #[s, x], argTypes := #[t, t] })
    (base : Nat) (e : TypeId) (i : TypeInfo) (z : Value) (size bytes : Nat) (ht : P.underlying t = some (.slice e)) (hi : P.info? e = some i) (hz : i.zero = some z)
    (hsize : i.size = size) (hby : i.bytes = bytes) (hzs : z.cells.size = size) (hsz : 0 < size)
    (v : Value) (n : Nat) (xs : List Value) (hs : a.eval s = v) (hown : w.ownsRow base e size v n xs)
    (ad : Addr) (m c : Nat) (news : List Value) (hx : a.eval x = .slice (some ad) m c) (hl : news.length = m * size) (hnews : ∀ j u, news[j]? = some u → w.cell? (ad.add j) = some u) (h1 : ∀ u ∈ news, u.oneCell' = true)
    (h63 : n + m ≤ maxLen) (hbytes : (n + m) * bytes ≤ 140737488355328) (hbase : base ≤ w.heap.size)
    (h : ∀ v' w', w'.ownsRow base e size v' (n + m) (xs ++ news) → w.grownBy w' v.ownBlock → (v' = .slice none 0 0 ↔ v = .slice none 0 0 ∧ m = 0) → K (a.put o.dst v') w') :
    if Region.wanted o (yielded ops a.tmps) = true then Oper.wp P o a w K Q else E := by
  have hw : Region.wanted o (yielded ops a.tmps) = true := by simp [Region.wanted, hgd]
  rw [if_pos hw]
  exact wp_append_own w s x t ho base e i z size bytes ht hi hz hsize hby hzs hsz v n xs hs hown ad m c news hx hl hnews h1 h63 hbytes hbase h
theorem wrapS (n : Int) (h : -9223372036854775808 ≤ n ∧ n ≤ 9223372036854775807) : wrap64 n = n := by unfold wrap64; omega
theorem wrapK (k : Nat) (h : k ≤ 1000) : IntKind.i64.wrap ((k : Int) + 1) = (k : Int) + 1 := by
  rw [IntKind.wrap_i64]
  omega
theorem grown_drewS {w w' : World} {row : Option Nat} (h : w.drew.grownBy w' row) : w.grownBy w' row := ⟨h.1, h.2, h.3, h.4, h.5⟩
theorem own_shapeS {w : World} {B n : Nat} {t : TypeId} {v : Value} {xs : List Value} (h : w.ownsRow B t 1 v n xs) : ∃ a cap, v = .slice a n cap := by
  rcases h.2 with ⟨rfl, h0⟩ | ⟨g, cap, cur, rfl, _⟩
  · exact ⟨none, 0, by rw [h0]⟩
  · exact ⟨some ⟨g, 0, none⟩, cap, rfl⟩
/-- a list of texts of the call's own -/
structure Txt (w0 w : World) (B g m c : Nat) (L : List (List UInt8)) : Prop where
  len : L.length = m
  own : w.ownsRow B 9 1 (.slice (some ⟨g, 0, none⟩) m c) m (sv L)
  below : Below B w0 w
/-- a text is appended beside a list that is read -/
theorem txt_step {w0 wr w5 : World} {B g m c g5 c5 B3 H3 ga n3 c3 : Nat} {L : List (List UInt8)} {V : ByteArray} {xs : List Value} (hB : B = w0.heap.size) (T : Txt w0 wr B g m c L) (O : Own wr B3 H3 9 (.slice (some ⟨ga, 0, none⟩) n3 c3) xs) (hH : H3 ≤ wr.heap.size) (hne : ga ≠ g)
    (hv : w5.ownsRow B 9 1 (.slice (some ⟨g5, 0, none⟩) (m + 1) c5) (m + 1) (sv L ++ [.string V])) (hg : (wr.alloc (.cells #[.string V] 9)).grownBy w5 (Value.slice (some ⟨g, 0, none⟩) m c).ownBlock) (hw : (Value.slice (some ⟨g, 0, none⟩) m c).ownBlock = some g5 ∨ g5 = wr.heap.size + 1) :
    Txt w0 w5 B g5 (m + 1) c5 (L ++ [V.data.toList]) ∧ Own w5 B3 H3 9 (.slice (some ⟨ga, 0, none⟩) n3 c3) xs ∧ ga ≠ g5 ∧ wr.heap.size ≤ w5.heap.size := by
  have hs := T.below.size
  have hz : (wr.alloc (.cells #[.string V] 9)).heap.size = wr.heap.size + 1 := by simp
  have hsz := hg.size
  rw [hz] at hsz
  have hga := O.2 ga rfl
  refine ⟨⟨by rw [List.length_append, T.len]; rfl, ?_, ?_⟩, (O.alloc _).grown hg (.inr (by simp only [Value.ownBlock, ne_eq, Option.some.injEq]; exact hne)), ?_, by omega⟩
  · rw [str_list V, sv_snoc] at hv
    exact hv
  · exact (T.below.alloc (by omega) _).grown hg (by rw [hz]; omega) (fun q hq => (T.own.lt q hq.symm.symm).1)
  · rcases hw with e | e
    · simp only [Value.ownBlock, Option.some.injEq] at e
      omega
    · omega
theorem empty_not {s : ByteArray} {l : List UInt8} (h : s.data.toList = l) (hl : l ≠ []) : s.toList.isEmpty = false := by
  rw [ByteArray.toList_eq, h]
  cases l with
  | nil => exact absurd rfl hl
  | cons _ _ => rfl
theorem empty_yes {s : ByteArray} (h : s.data.toList = []) : s.toList.isEmpty = true := by rw [ByteArray.toList_eq, h]; rfl

set_option maxHeartbeats 3200000 in
set_option maxRecDepth 100000 in
theorem turns_any : ∀ (t : Tw) (s : ByteArray) (w : World), s.data.toList = t.lst → t.size ≤ 9 → Calls Try.prog 20 #[.string s] w (Grew w.heap.size (t.turns.map Tw.lst) w) := by
  obtain ⟨i0, hi, hz0, hz1, hz2⟩ := info_parts Try.infoStr
  intro t
  induction t with
  | e =>
    intro s w hs _
    obtain rfl : s = ⟨#[]⟩ := bytes_ext hs
    clear hs
    go_enter Try.func20, Try.ntmps20
    go_wp2
    go_ret
    exact ⟨_, rfl, World.ownsRow_lit w #[] 0 (Nat.le_refl _) (by decide) rfl, (Below.refl _ _).alloc (Nat.le_refl _) _⟩
  | n a b iha ihb =>
    intro s w hs hsz
    have hl := Tw.lst_length (.n a b)
    simp only [Tw.size] at hsz hl
    rw [← hs] at hl
    have hsc := Tw.lst_scan (.n a b)
    rw [← hs] at hsc
    have hv : valid s.data.toList = true := of_scan hsc (by omega)
    rw [size_list] at hl
    have cc := fun w => closing_any s hv (by omega) w
    obtain ⟨K, hK⟩ : ∃ K, K = cl 0 s.data.toList - 1 := ⟨_, rfl⟩
    have hne : s.data.toList ≠ [] := by rw [hs]; intro h; cases h
    obtain ⟨k1, k2, _, _, k5, k6⟩ := parts_ok hsc hne
    rw [← hK] at cc
    have eL : (s.extract 1 K).data.toList = a.lst := by rw [extract_list, ← Tw.fst_lst a b, ← hs, fstL]; congr 1; omega
    have eR : (s.extract (K + 1) s.size).data.toList = b.lst := by
      rw [extract_list, ← Tw.rst_lst a b, ← hs, rstL, show K + 1 = cl 0 s.data.toList by omega, List.take_of_length_le (by simp)]
    have q0 := empty_not (s := s) rfl hne
    rw [size_list] at k2
    have h18 : s.size ≤ 18 := by omega
    have b1 : (1 : Int) ≤ (K : Int) := by omega
    have b2 : (K : Int) ≤ (s.size : Int) := by omega
    have b3 : (K : Int) + 1 ≤ (s.size : Int) := by omega
    have C := Lib.hid cc
    have EL := Lib.hid eL
    have ER := Lib.hid eR
    have hst := World.ownsRow_lit (base := w.heap.size) (e := 9) (size := 1) w #[] 0 (Nat.le_refl _) (by decide) rfl
    have H0 : Hid (Txt w (w.alloc (.cells #[] 9)) w.heap.size w.heap.size 0 0 []) := ⟨rfl, hst, (Below.refl _ _).alloc (Nat.le_refl _) _⟩
    clear cc hK hst hl hsc hv eL eR k1 k2 k5 k6 hne
    go_enter Try.func20, Try.ntmps20
    go_upto_if 27 with (go_at_call 35; refine (C.out _).mono ?_; rintro e0 w1 ⟨rfl, rfl⟩)
    obtain ⟨sa, hsa⟩ : ∃ sa, sa = s.extract 1 K := ⟨_, rfl⟩
    obtain ⟨sb, hsb⟩ : ∃ sb, sb = s.extract (K + 1) s.size := ⟨_, rfl⟩
    rw [← hsa, ← hsb]
    rw [← hsa] at EL
    rw [← hsb] at ER
    have HW0 : Hid (w.heap.size = w.heap.size) := rfl
    obtain ⟨w1, hw1⟩ : ∃ w1, w1 = w.alloc (.cells #[] 9) := ⟨_, rfl⟩
    rw [← hw1] at H0 ⊢
    obtain ⟨B, hB⟩ : ∃ B, B = w.heap.size := ⟨_, rfl⟩
    have HB := Lib.hid hB
    rw [← hB] at H0 ⊢
    have IA := Lib.hid iha
    have IB := Lib.hid ihb
    clear hsa hsb hw1 HW0 C hB q0 b1 b2 b3 h18 hs iha ihb
    go_cut [3] (fun s3 wx => ∃ g m c, s3 = .slice (some ⟨g, 0, none⟩) m c ∧ m ≤ 1 ∧ Hid (Txt w wx B g m c ((Tw.up a b).map Tw.lst)))
    case first =>
      cases a with
      | e =>
        have q1 := empty_yes EL.out
        rw [q1]
        go_wp2_with fail
        go_meet
        exact ⟨_, 0, 0, rfl, by omega, H0⟩
      | n x y =>
        have hne : sa.data.toList ≠ [] := by rw [EL.out]; intro h; cases h
        have q1 := empty_not (s := sa) rfl hne
        have hl := Tw.lst_length (.n x y)
        rw [← EL.out, size_list] at hl
        simp only [Tw.size] at hsz hl
        have hsc := Tw.lst_scan (.n x y)
        rw [← EL.out] at hsc
        have hv : valid sa.data.toList = true := of_scan hsc (by rw [size_list]; omega)
        have cc := closing_any sa hv (by omega) w1
        obtain ⟨K2, hK2⟩ : ∃ K2, K2 = cl 0 sa.data.toList - 1 := ⟨_, rfl⟩
        obtain ⟨k1, k2, _, _, k5, k6⟩ := parts_ok hsc hne
        rw [← hK2] at cc
        have eX : (sa.extract 1 K2).data.toList = x.lst := by rw [extract_list, ← Tw.fst_lst x y, ← EL.out, fstL]; congr 1; omega
        have eY : (sa.extract (K2 + 1) sa.size).data.toList = y.lst := by
          rw [extract_list, ← Tw.rst_lst x y, ← EL.out, rstL, show K2 + 1 = cl 0 sa.data.toList by omega, List.take_of_length_le (by simp)]
        rw [size_list] at k2
        have h18 : sa.size ≤ 18 := by omega
        have b1 : (1 : Int) ≤ (K2 : Int) := by omega
        have b2 : (K2 : Int) ≤ (sa.size : Int) := by omega
        have b3 : (K2 : Int) + 1 ≤ (sa.size : Int) := by omega
        have C := Lib.hid cc
        have EX := Lib.hid eX
        have EY := Lib.hid eY
        have hbl := Tw.lst_length b
        rw [← ER.out, size_list] at hbl
        have hsb : sb.size ≤ 18 := by omega
        clear cc hK2 hl hsc hv eX eY k1 k2 k5 k6 hne hbl
        rw [q1]
        go_wp2_with fail
        refine C.out.mono ?_
        rintro e0 w2 ⟨rfl, rfl⟩
        go_wp2_with fail
        obtain ⟨V, hV⟩ : ∃ V : ByteArray, V = (⟨#[40]⟩ : ByteArray) ++ sa.extract 1 K2 ++ (⟨#[41, 40]⟩ : ByteArray) ++ sa.extract (K2 + 1) sa.size ++ (⟨#[41]⟩ : ByteArray) ++ sb := ⟨_, rfl⟩
        have hVL : V.data.toList = (Tw.n x (.n y b)).lst := by
          rw [hV]
          simp only [toList_append, EX.out, EY.out, ER.out, Tw.lst]
          simp
        have HO := Lib.hid (H0.out.own.alloc (.cells #[.string V] 9))
        have CN := Lib.hid (cell_one_new w1 (.string V) 9)
        have HL := Lib.hid (show B ≤ (w1.alloc (.cells #[.string V] 9)).heap.size by have := H0.out.below.size; rw [HB.out]; simp; omega)
        have HV := Lib.hid hV
        have HVL := Lib.hid hVL
        have b4 : K2 ≤ sa.size := by omega
        have mn : min K2 sa.size = K2 := Nat.min_eq_left b4
        have wp := wrapK K2 (by omega)
        have p1 : (0 : Int) ≤ (K2 : Int) + 1 := by omega
        have n1 : ¬ (9223372036854775807 < 1 + (K2 - 1)) := by omega
        have n2 : ¬ (9223372036854775807 < 1 + (K2 - 1) + 2) := by omega
        have n3 : ¬ (9223372036854775807 < 1 + (K2 - 1) + 2 + (sa.size - (K2 + 1))) := by omega
        have n4 : ¬ (9223372036854775807 < 1 + (K2 - 1) + 2 + (sa.size - (K2 + 1)) + 1) := by omega
        have n5 : ¬ (9223372036854775807 < 1 + (K2 - 1) + 2 + (sa.size - (K2 + 1)) + 1 + sb.size) := by omega
        clear hV hVL q1 C
        go_region_law (first
          | (rw [show (⟨#[40]⟩ : ByteArray) ++ sa.extract 1 K2 ++ (⟨#[41, 40]⟩ : ByteArray) ++ sa.extract (K2 + 1) sa.size ++ (⟨#[41]⟩ : ByteArray) ++ sb = V from HV.out.symm]
             refine step_app ?gd (.tmp 30) (.tmp 44) 22 ?ho B 9 i0 (.string ⟨#[]⟩) 1 16 Try.underlying22 hi hz0 hz1 hz2 rfl (Nat.lt_succ_self 0) (.slice (some ⟨B, 0, none⟩) 0 0) 0 (sv []) ?hs ?own ⟨w1.heap.size, 0, none⟩ 1 1 [.string V] ?hx rfl ?news (one_str _) (by decide) (by decide) ?base ?_
             case gd => rfl
             case ho => rfl
             case hs => rfl
             case hx => rfl
             case own => exact own_of_blocks HO.out (fun _ _ => rfl)
             case news => exact CN.out
             case base => exact HL.out
             intro v2 w2 hv2 hg2 hn2
             obtain ⟨g2, c2, rfl⟩ := own_some3 hv2 (fun e => by cases (hn2.1 e).2)))
        all_goals
          have T2 : Hid (Txt w w2 B g2 1 c2 ((Tw.up (.n x y) b).map Tw.lst)) := by
            refine ⟨rfl, ?_, (H0.out.below.alloc (by rw [HB.out]; exact H0.out.below.size) _).grown (grown_drewS hg2) HL.out (fun q hq => (HO.out.lt q hq).1)⟩
            have e9 : sv [] ++ [Value.string V] = sv ((Tw.up (.n x y) b).map Tw.lst) := by
              rw [str_list V, HVL.out]; rfl
            rw [← e9]
            exact hv2
          clear hv2 hg2 hn2 HO CN HL HV HVL
          go_wp2_with fail
          go_meet
          exact ⟨_, 1, c2, rfl, by omega, T2⟩
    case rest =>
      obtain ⟨g1, m1, c1, rfl, hm1, H1⟩ := hcut
      clear H0
      go_upto_if 47 with fail
      go_cut [3] (fun s3 wx => ∃ g m c, s3 = .slice (some ⟨g, 0, none⟩) m c ∧ m ≤ 2 ∧ Hid (Txt w wx B g m c ((Tw.up a b ++ Tw.down a b).map Tw.lst)))
      case first =>
        cases b with
        | e =>
          have q1 := empty_yes ER.out
          rw [q1]
          have H2 : Hid (Txt w wc B g1 m1 c1 ((Tw.up a .e ++ Tw.down a .e).map Tw.lst)) := by
            have e : Tw.down a .e = [] := by cases a <;> rfl
            rw [e, List.append_nil]; exact H1
          go_wp2_with fail
          go_meet
          exact ⟨_, m1, c1, rfl, by omega, H2⟩
        | n x y =>
          have hne : sb.data.toList ≠ [] := by rw [ER.out]; intro h; cases h
          have q1 := empty_not (s := sb) rfl hne
          have hl := Tw.lst_length (.n x y)
          rw [← ER.out, size_list] at hl
          simp only [Tw.size] at hsz hl
          have hsc := Tw.lst_scan (.n x y)
          rw [← ER.out] at hsc
          have hv : valid sb.data.toList = true := of_scan hsc (by rw [size_list]; omega)
          have cc := closing_any sb hv (by omega) wc
          obtain ⟨K2, hK2⟩ : ∃ K2, K2 = cl 0 sb.data.toList - 1 := ⟨_, rfl⟩
          obtain ⟨k1, k2, _, _, k5, k6⟩ := parts_ok hsc hne
          rw [← hK2] at cc
          have eX : (sb.extract 1 K2).data.toList = x.lst := by rw [extract_list, ← Tw.fst_lst x y, ← ER.out, fstL]; congr 1; omega
          have eY : (sb.extract (K2 + 1) sb.size).data.toList = y.lst := by
            rw [extract_list, ← Tw.rst_lst x y, ← ER.out, rstL, show K2 + 1 = cl 0 sb.data.toList by omega, List.take_of_length_le (by simp)]
          rw [size_list] at k2
          have h18 : sb.size ≤ 18 := by omega
          have b1 : (1 : Int) ≤ (K2 : Int) := by omega
          have b2 : (K2 : Int) ≤ (sb.size : Int) := by omega
          have b3 : (K2 : Int) + 1 ≤ (sb.size : Int) := by omega
          have C := Lib.hid cc
          have EX := Lib.hid eX
          have EY := Lib.hid eY
          have hal := Tw.lst_length a
          rw [← EL.out, size_list] at hal
          have hsa : sa.size ≤ 18 := by omega
          clear cc hK2 hl hsc hv eX eY k1 k2 k5 k6 hne hal
          rw [q1]
          go_wp2_with fail
          refine C.out.mono ?_
          rintro e0 w2 ⟨rfl, rfl⟩
          go_wp2_with fail
          obtain ⟨V, hV⟩ : ∃ V : ByteArray, V = (⟨#[40, 40]⟩ : ByteArray) ++ sa ++ (⟨#[41]⟩ : ByteArray) ++ sb.extract 1 K2 ++ (⟨#[41]⟩ : ByteArray) ++ sb.extract (K2 + 1) sb.size := ⟨_, rfl⟩
          have hVL : V.data.toList = (Tw.n (.n a x) y).lst := by
            rw [hV]
            simp only [toList_append, EX.out, EY.out, EL.out, Tw.lst]
            simp
          have HO := Lib.hid (H1.out.own.alloc (.cells #[.string V] 9))
          have CN := Lib.hid (cell_one_new wc (.string V) 9)
          have HL := Lib.hid (show B ≤ (wc.alloc (.cells #[.string V] 9)).heap.size by have := H1.out.below.size; rw [HB.out]; simp; omega)
          have HV := Lib.hid hV
          have HVL := Lib.hid hVL
          have b4 : K2 ≤ sb.size := by omega
          have mn : min K2 sb.size = K2 := Nat.min_eq_left b4
          have wp := wrapK K2 (by omega)
          have p1 : (0 : Int) ≤ (K2 : Int) + 1 := by omega
          have n1 : ¬ (9223372036854775807 < 2 + sa.size) := by omega
          have n2 : ¬ (9223372036854775807 < 2 + sa.size + 1) := by omega
          have n3 : ¬ (9223372036854775807 < 2 + sa.size + 1 + (K2 - 1)) := by omega
          have n4 : ¬ (9223372036854775807 < 2 + sa.size + 1 + (K2 - 1) + 1) := by omega
          have n5 : ¬ (9223372036854775807 < 2 + sa.size + 1 + (K2 - 1) + 1 + (sb.size - (K2 + 1))) := by omega
          have y1 : m1 + 1 ≤ maxLen := by unfold maxLen; omega
          have y2 : (m1 + 1) * 16 ≤ 140737488355328 := by omega
          clear hV hVL q1 C
          go_region_law (first
            | (rw [show (⟨#[40, 40]⟩ : ByteArray) ++ sa ++ (⟨#[41]⟩ : ByteArray) ++ sb.extract 1 K2 ++ (⟨#[41]⟩ : ByteArray) ++ sb.extract (K2 + 1) sb.size = V from HV.out.symm]
               refine step_app ?gd (.tmp 50) (.tmp 64) 22 ?ho B 9 i0 (.string ⟨#[]⟩) 1 16 Try.underlying22 hi hz0 hz1 hz2 rfl (Nat.lt_succ_self 0) (.slice (some ⟨g1, 0, none⟩) m1 c1) m1 (sv ((Tw.up a (.n x y)).map Tw.lst)) ?hs ?own ⟨wc.heap.size, 0, none⟩ 1 1 [.string V] ?hx rfl ?news (one_str _) y1 y2 ?base ?_
               case gd => rfl
               case ho => rfl
               case hs => rfl
               case hx => rfl
               case own => exact own_of_blocks HO.out (fun _ _ => rfl)
               case news => exact CN.out
               case base => exact HL.out
               intro v2 w2 hv2 hg2 hn2
               obtain ⟨g2, c2, rfl⟩ := own_some3 hv2 (fun e => by cases (hn2.1 e).2)))
          all_goals
            have T2 : Hid (Txt w w2 B g2 (m1 + 1) c2 ((Tw.up a (.n x y) ++ Tw.down a (.n x y)).map Tw.lst)) := by
              refine ⟨by rw [List.map_append, List.length_append, H1.out.len]; cases a <;> rfl, ?_, (H1.out.below.alloc (by rw [HB.out]; exact H1.out.below.size) _).grown (grown_drewS hg2) HL.out (fun q hq => (HO.out.lt q hq).1)⟩
              have e9 : sv ((Tw.up a (.n x y)).map Tw.lst) ++ [Value.string V] = sv ((Tw.up a (.n x y) ++ Tw.down a (.n x y)).map Tw.lst) := by
                rw [str_list V, HVL.out, sv_snoc, List.map_append]
                cases a <;> rfl
              rw [← e9]
              exact hv2
            clear hv2 hg2 hn2 HO CN HL HV HVL
            go_wp2_with fail
            go_meet
            exact ⟨_, m1 + 1, c2, rfl, by omega, T2⟩
      case rest =>
        obtain ⟨g2, m2, c2, rfl, hm2, H2⟩ := hcut
        clear H1
        have hla := Tw.lst_length a
        have hlb := Tw.lst_length b
        rw [← EL.out, size_list] at hla
        rw [← ER.out, size_list] at hlb
        have hsa : sa.size ≤ 18 := by omega
        have hsb : sb.size ≤ 18 := by omega
        have hta := Tw.turns_length a
        have htb := Tw.turns_length b
        have DA := Lib.hid (fun w => IA.out sa w EL.out (by omega))
        have DB := Lib.hid (fun w => IB.out sb w ER.out (by omega))
        have SA := Lib.hid (Tw.turns_size a)
        have SB := Lib.hid (Tw.turns_size b)
        obtain ⟨Ta, hTa⟩ : ∃ Ta, Ta = a.turns := ⟨_, rfl⟩
        obtain ⟨Tb, hTb⟩ : ∃ Tb, Tb = b.turns := ⟨_, rfl⟩
        have HT : Hid ((Tw.n a b).turns.map Tw.lst = (Tw.up a b ++ Tw.down a b).map Tw.lst ++ Ta.map (fun x => (Tw.n x b).lst) ++ Tb.map (fun y => (Tw.n a y).lst)) := by
          show _ = _
          rw [hTa, hTb, Tw.turns]
          simp [List.map_append, List.map_map, Function.comp_def]
        rw [← hTa] at hta DA SA
        rw [← hTb] at htb DB SB
        have a9 : Ta.length ≤ 9 := by omega
        have b9 : Tb.length ≤ 9 := by omega
        have SZ := Lib.hid hsz
        clear hla hlb hta htb IA IB hTa hTb hsz
        go_wp2_with fail
        refine (DA.out _).mono ?_
        rintro e0 w3 ⟨v3, rfl, hv3, hb3⟩
        rw [List.length_map] at hv3
        obtain ⟨a3, c3, rfl⟩ := own_shapeS hv3
        have hl3 := hb3.size
        have O3 : Hid (Own w3 wc.heap.size w3.heap.size 9 (.slice a3 Ta.length c3) (sv (Ta.map Tw.lst))) := Own.of_own (by rw [sv_length, List.length_map]; exact hv3)
        have T3 : Hid (Txt w w3 B g2 m2 c2 ((Tw.up a b ++ Tw.down a b).map Tw.lst)) :=
          ⟨H2.out.len, own_of_blocks H2.out.own (fun q hq => hb3.block q (H2.out.own.lt q hq).2), H2.out.below.trans (hb3.mono (by rw [HB.out]; exact H2.out.below.size))⟩
        obtain ⟨L0, hL0⟩ : ∃ L0, L0 = (Tw.up a b ++ Tw.down a b).map Tw.lst := ⟨_, rfl⟩
        rw [← hL0] at T3 HT
        have Z3 := Lib.hid (show B ≤ w3.heap.size by rw [HB.out]; exact T3.out.below.size)
        have NE3 : Hid (∀ g : Nat, (Value.slice a3 Ta.length c3).ownBlock = some g → g ≠ g2) := fun g hg => by
          have h1 := (hv3.lt g hg).1
          have h2 := (H2.out.own.lt g2 rfl).2
          omega
        clear hv3 hb3 hl3 H2 hL0
        go_wp2
        go_loopw [3, 10] (fun out i wr => ∃ (k g m c : Nat), k ≤ Ta.length ∧ m ≤ 2 + k ∧ out = .slice (some ⟨g, 0, none⟩) m c ∧ i = .int .i64 k ∧ Hid (Txt w wr B g m c (L0 ++ (Ta.map (fun x => (Tw.n x b).lst)).take k)) ∧ Hid (Own wr wc.heap.size w3.heap.size 9 (.slice a3 Ta.length c3) (sv (Ta.map Tw.lst))) ∧ Hid (∀ q, (Value.slice a3 Ta.length c3).ownBlock = some q → q ≠ g) ∧ Hid (w3.heap.size ≤ wr.heap.size)) (fun _ i _ => Ta.length - (intOf i).toNat)
        case atStart => exact ⟨0, g2, m2, c2, Nat.zero_le _, by omega, rfl, rfl, by simpa using T3, O3, NE3, Nat.le_refl _⟩
        case round =>
          clear T3 O3 NE3
          obtain ⟨k, g, m, c, hk, hm, rfl, rfl, T, O, NE, HZ⟩ := hrel
          by_cases hlt : k < Ta.length
          · have b1 : (k : Int) < (Ta.length : Int) := by omega
            obtain ⟨ga, rfl, _, _, hc, _⟩ := O.out.at_ k (by rw [sv_length, List.length_map]; exact hlt)
            rw [sv_get _ k (by rw [List.length_map]; exact hlt), List.getElem_map] at hc
            obtain ⟨tk, htk⟩ : ∃ tk : ByteArray, tk = ⟨(Ta[k]).lst.toArray⟩ := ⟨_, rfl⟩
            have htl : tk.data.toList = (Ta[k]).lst := by rw [htk]
            have hts : tk.size ≤ 18 := by
              have h1 := Tw.lst_length (Ta[k])
              have h2 := SA.out _ (List.getElem_mem hlt)
              have h3 := SZ.out
              rw [← htl, size_list] at h1
              omega
            rw [← htk] at hc
            obtain ⟨V, hV⟩ : ∃ V : ByteArray, V = (⟨#[40]⟩ : ByteArray) ++ tk ++ (⟨#[41]⟩ : ByteArray) ++ sb := ⟨_, rfl⟩
            have hVL : V.data.toList = (Tw.n (Ta[k]) b).lst := by
              rw [hV]
              simp only [toList_append, htl, ER.out, Tw.lst]
              simp
            have ST : L0 ++ (Ta.map (fun x => (Tw.n x b).lst)).take (k + 1) = L0 ++ (Ta.map (fun x => (Tw.n x b).lst)).take k ++ [V.data.toList] := by
              rw [List.take_succ_eq_append_getElem (by rw [List.length_map]; exact hlt), List.getElem_map, hVL, List.append_assoc]
            have ST := Lib.hid ST
            have HV := Lib.hid hV
            have y1 : m + 1 ≤ maxLen := by unfold maxLen; omega
            have y2 : (m + 1) * 16 ≤ 140737488355328 := by omega
            have Y3 := Lib.hid (show ∀ o : Obj, B ≤ (wr.alloc o).heap.size by intro o; have := T.out.below.size; rw [HB.out]; simp; omega)
            have Y4 := Lib.hid (show ∀ o : Obj, (wr.alloc o).heap.size = wr.heap.size + 1 by intro o; simp)
            clear hV hVL htl htk
            go_wp2_with (at_builtin; rw [show (⟨#[40]⟩ : ByteArray) ++ tk ++ (⟨#[41]⟩ : ByteArray) ++ sb = V from HV.out.symm]; refine wpList_append_lies _ rfl (.tmp 74) (.tmp 83) 22 rfl B 9 i0 (.string ⟨#[]⟩) 1 16 Try.underlying22 hi hz0 hz1 hz2 rfl (by decide) _ m (sv (L0 ++ (Ta.map (fun x => (Tw.n x b).lst)).take k)) rfl (T.out.own.alloc _) ⟨wr.heap.size, 0, none⟩ 1 1 [.string V] rfl rfl (cell_one_new _ _ _) (one_str _) (by decide) y1 y2 (Y3.out _) (wr.heap.size + 1) (Y4.out _) ?_)
            intro g5 c5 w5 hv5 hg5 hw5 hl5
            obtain ⟨T5, O5, N5, Z5⟩ := txt_step HB.out T.out O.out HZ.out (NE.out ga rfl) hv5 hg5 hw5
            rw [← ST.out] at T5
            have T5 := Lib.hid T5
            have O5 := Lib.hid O5
            have NE5 : Hid (∀ q, (Value.slice (some ⟨ga, 0, none⟩) Ta.length c3).ownBlock = some q → q ≠ g5) := fun q hq => by
              simp only [Value.ownBlock, Option.some.injEq] at hq; omega
            have Z6 : Hid (w3.heap.size ≤ w5.heap.size) := Nat.le_trans HZ.out Z5
            clear hv5 hg5 hw5 hl5 T O NE HZ N5 Z5
            go_wp2
            go_roundw
            case rel => exact ⟨k + 1, g5, m + 1, c5, by omega, by omega, rfl, by go_num, T5, O5, NE5, Z6⟩
            case measure => simp [intOf]; omega
          · obtain rfl : k = Ta.length := by omega
            have b1 : ((Ta.length : Nat) : Int) ≤ (Ta.length : Int) := Int.le_refl _
            rw [List.take_of_length_le (by simp)] at T
            obtain ⟨L1, hL1⟩ : ∃ L1, L1 = L0 ++ Ta.map (fun x => (Tw.n x b).lst) := ⟨_, rfl⟩
            rw [← hL1] at T HT
            have m11 : m ≤ 11 := by omega
            clear hL1 O NE HZ b1
            go_wp2_with fail
            refine (DB.out _).mono ?_
            rintro e0 w4 ⟨v4, rfl, hv4, hb4⟩
            rw [List.length_map] at hv4
            obtain ⟨a4, c4, rfl⟩ := own_shapeS hv4
            have hl4 := hb4.size
            have O4 : Hid (Own w4 wr.heap.size w4.heap.size 9 (.slice a4 Tb.length c4) (sv (Tb.map Tw.lst))) := Own.of_own (by rw [sv_length, List.length_map]; exact hv4)
            have T4 : Hid (Txt w w4 B g m c L1) :=
              ⟨T.out.len, own_of_blocks T.out.own (fun q hq => hb4.block q (T.out.own.lt q hq).2), T.out.below.trans (hb4.mono (by rw [HB.out]; exact T.out.below.size))⟩
            have NE4 : Hid (∀ q : Nat, (Value.slice a4 Tb.length c4).ownBlock = some q → q ≠ g) := fun q hq => by
              have h1 := (hv4.lt q hq).1
              have h2 := (T.out.own.lt g rfl).2
              omega
            clear hv4 hb4 hl4 T
            obtain ⟨B4, hB4⟩ : ∃ B4, B4 = wr.heap.size := ⟨_, rfl⟩
            rw [← hB4] at O4
            clear hB4
            go_wp2
            go_loopw [3, 12] (fun out i wr => ∃ (k g m c : Nat), k ≤ Tb.length ∧ m ≤ 11 + k ∧ out = .slice (some ⟨g, 0, none⟩) m c ∧ i = .int .i64 k ∧ Hid (Txt w wr B g m c (L1 ++ (Tb.map (fun y => (Tw.n a y).lst)).take k)) ∧ Hid (Own wr B4 w4.heap.size 9 (.slice a4 Tb.length c4) (sv (Tb.map Tw.lst))) ∧ Hid (∀ q, (Value.slice a4 Tb.length c4).ownBlock = some q → q ≠ g) ∧ Hid (w4.heap.size ≤ wr.heap.size)) (fun _ i _ => Tb.length - (intOf i).toNat)
            case atStart => exact ⟨0, g, m, c, Nat.zero_le _, by omega, rfl, rfl, by simpa using T4, O4, NE4, Nat.le_refl _⟩
            case round =>
              clear T4 O4 NE4
              obtain ⟨k, g, m, c, hk, hm, rfl, rfl, T, O, NE, HZ⟩ := hrel
              by_cases hlt : k < Tb.length
              · have b1 : (k : Int) < (Tb.length : Int) := by omega
                obtain ⟨ga, rfl, _, _, hc, _⟩ := O.out.at_ k (by rw [sv_length, List.length_map]; exact hlt)
                rw [sv_get _ k (by rw [List.length_map]; exact hlt), List.getElem_map] at hc
                obtain ⟨tk, htk⟩ : ∃ tk : ByteArray, tk = ⟨(Tb[k]).lst.toArray⟩ := ⟨_, rfl⟩
                have htl : tk.data.toList = (Tb[k]).lst := by rw [htk]
                have hts : tk.size ≤ 18 := by
                  have h1 := Tw.lst_length (Tb[k])
                  have h2 := SB.out _ (List.getElem_mem hlt)
                  have h3 := SZ.out
                  rw [← htl, size_list] at h1
                  omega
                rw [← htk] at hc
                obtain ⟨V, hV⟩ : ∃ V : ByteArray, V = (⟨#[40]⟩ : ByteArray) ++ sa ++ (⟨#[41]⟩ : ByteArray) ++ tk := ⟨_, rfl⟩
                have hVL : V.data.toList = (Tw.n a (Tb[k])).lst := by
                  rw [hV]
                  simp only [toList_append, htl, EL.out, Tw.lst]
                  simp
                have ST : L1 ++ (Tb.map (fun y => (Tw.n a y).lst)).take (k + 1) = L1 ++ (Tb.map (fun y => (Tw.n a y).lst)).take k ++ [V.data.toList] := by
                  rw [List.take_succ_eq_append_getElem (by rw [List.length_map]; exact hlt), List.getElem_map, hVL, List.append_assoc]
                have ST := Lib.hid ST
                have HV := Lib.hid hV
                have y1 : m + 1 ≤ maxLen := by unfold maxLen; omega
                have y2 : (m + 1) * 16 ≤ 140737488355328 := by omega
                have Y3 := Lib.hid (show ∀ o : Obj, B ≤ (wr.alloc o).heap.size by intro o; have := T.out.below.size; rw [HB.out]; simp; omega)
                have Y4 := Lib.hid (show ∀ o : Obj, (wr.alloc o).heap.size = wr.heap.size + 1 by intro o; simp)
                clear hV hVL htl htk
                go_wp2_with (at_builtin; rw [show (⟨#[40]⟩ : ByteArray) ++ sa ++ (⟨#[41]⟩ : ByteArray) ++ tk = V from HV.out.symm]; refine wpList_append_lies _ rfl (.tmp 93) (.tmp 102) 22 rfl B 9 i0 (.string ⟨#[]⟩) 1 16 Try.underlying22 hi hz0 hz1 hz2 rfl (by decide) _ m (sv (L1 ++ (Tb.map (fun y => (Tw.n a y).lst)).take k)) rfl (T.out.own.alloc _) ⟨wr.heap.size, 0, none⟩ 1 1 [.string V] rfl rfl (cell_one_new _ _ _) (one_str _) (by decide) y1 y2 (Y3.out _) (wr.heap.size + 1) (Y4.out _) ?_)
                intro g5 c5 w5 hv5 hg5 hw5 hl5
                obtain ⟨T5, O5, N5, Z5⟩ := txt_step HB.out T.out O.out HZ.out (NE.out ga rfl) hv5 hg5 hw5
                rw [← ST.out] at T5
                have T5 := Lib.hid T5
                have O5 := Lib.hid O5
                have NE5 : Hid (∀ q, (Value.slice (some ⟨ga, 0, none⟩) Tb.length c4).ownBlock = some q → q ≠ g5) := fun q hq => by
                  simp only [Value.ownBlock, Option.some.injEq] at hq; omega
                have Z6 : Hid (w4.heap.size ≤ w5.heap.size) := Nat.le_trans HZ.out Z5
                clear hv5 hg5 hw5 hl5 T O NE HZ N5 Z5
                go_wp2
                go_roundw
                case rel => exact ⟨k + 1, g5, m + 1, c5, by omega, by omega, rfl, by go_num, T5, O5, NE5, Z6⟩
                case measure => simp [intOf]; omega
              · obtain rfl : k = Tb.length := by omega
                rw [List.take_of_length_le (by simp)] at T
                clear O NE HZ
                go_wp2
                go_ret
                rw [← HB.out, HT.out]
                exact ⟨_, rfl, by rw [T.out.len]; exact T.out.own, T.out.below⟩
end Go.Proofs.Ytcfenbienebbjaa
