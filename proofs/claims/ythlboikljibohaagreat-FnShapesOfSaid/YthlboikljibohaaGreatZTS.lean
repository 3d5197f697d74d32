/-
  The contracts of the model's functions on turns: is a word in a list; the words one turn away.
  The contract of the model's function that puts texts in order, each one once; the words one turn away, byte by byte.
-/
import Derived.Test.YthlboikljibohaaGreatCWords
import Derived.Test.YthlboikljibohaaGreatCFam
import Derived.Test.YthlboikljibohaaGreatZJ
import Derived.Test.YthlboikljibohaaGreatCInts
import Derived.Deep.RegionLaw
import Derived.Deep.DeepCutAuto
import Derived.Maps.AppendAt
namespace Go.Proofs.YthlboikljibohaaGreat
open Go.RowKit

theorem sv_get (L : List (List UInt8)) (k : Nat) (h : k < L.length) : (sv L)[k]? = some (.string ⟨L[k].toArray⟩) := by simp [sv, h]
theorem mem_yes {L : List (List UInt8)} {x : List UInt8} {k : Nat} (h : k < L.length) (e : L[k] = x) : decide (x ∈ L) = true := decide_eq_true (e ▸ List.getElem_mem h)
theorem mem_not {L : List (List UInt8)} {x : List UInt8} (h : ∀ (j : Nat) (hj : j < L.length), L[j] ≠ x) : decide (x ∈ L) = false := by
  refine decide_eq_false fun hm => ?_
  obtain ⟨j, hj, e⟩ := List.getElem_of_mem hm
  exact h j hj e
set_option maxHeartbeats 800000 in
theorem hasWord_any (L : List (List UInt8)) (v : Value) (s : ByteArray) (w : World) {B H : Nat} (hv : Hid (Own w B H 9 v (sv L))) (hl : L.length ≤ 68719476736) :
    Calls Tryz.prog 25 #[v, .string s] w fun e w' => e = .returned (.bool (decide (s.data.toList ∈ L))) ∧ w' = w := by
  obtain ⟨av, cv, rfl, _, hcv, _, _⟩ := hv.out.slice
  rw [sv_length] at hv hcv ⊢
  go_enter Tryz.func25, Tryz.ntmps25
  go_wp2
  go_loopw [5] (fun i wr => ∃ k : Nat, k ≤ L.length ∧ i = .int .i64 k ∧ Hid (∀ (j : Nat) (hj : j < L.length), j < k → L[j] ≠ s.data.toList) ∧ wr = w) (fun i _ => L.length - (intOf i).toNat)
  case atStart => exact ⟨0, Nat.zero_le _, rfl, fun j hj h => by omega, rfl⟩
  case round =>
    obtain ⟨k, hk, rfl, HN, rfl⟩ := hrel
    by_cases hlt : k < L.length
    · obtain ⟨g, rfl, _, _, hc, _⟩ := hv.out.at_ k (by rw [sv_length]; exact hlt)
      rw [sv_get L k hlt] at hc
      have b1 : (k : Int) < (L.length : Int) := by omega
      obtain ⟨u, hu⟩ : ∃ u : ByteArray, u = ⟨L[k].toArray⟩ := ⟨_, rfl⟩
      rw [← hu] at hc
      by_cases he : u = s
      · have hy := Lib.hid (mem_yes (x := s.data.toList) hlt (by rw [← he, hu]))
        subst he
        clear hu
        go_wp2
        go_ret
        exact ⟨by rw [hy.out]; rfl, rfl⟩
      · have hls : L[k] ≠ s.data.toList := fun e => he (by rw [hu]; exact bytes_ext e)
        have hN2 : Hid (∀ (j : Nat) (hj : j < L.length), j < k + 1 → L[j] ≠ s.data.toList) := fun j hj h => by
          by_cases e : j = k
          · subst e; exact hls
          · exact HN.out j hj (by omega)
        have c1 : (u.toList == s.toList) = false := by
          rw [ByteArray.toList_eq, ByteArray.toList_eq]
          exact beq_eq_false_iff_ne.mpr (fun e => he (bytes_ext e))
        clear hu hls
        go_wp2
        go_roundw
        case rel => exact ⟨k + 1, by omega, by go_num, hN2, by simp⟩
        case measure => simp [intOf]; omega
    · have hy := Lib.hid (mem_not (x := s.data.toList) (fun j hj => HN.out j hj (by omega)))
      have b1 : (L.length : Int) ≤ (k : Int) := by omega
      go_wp2
      go_ret
      exact ⟨by rw [hy.out]; rfl, rfl⟩

theorem step_app {P : Program} {w : World} {ops : Array Oper} {o : Oper} {a : Act} {K : Act → World → Prop} {Q : Exit → Act → World → Prop} {E : Prop} (hgd : o.guard = none) (s x : Operand) (t : TypeId)
    (ho : o.op = .call { callee := .builtin .append, args := #[s, x], argTypes := #[t, t] })
    (base : Nat) (e : TypeId) (i : TypeInfo) (z : Value) (size bytes : Nat) (ht : P.underlying t = some (.slice e)) (hi : P.info? e = some i) (hz : i.zero = some z)
    (hsize : i.size = size) (hby : i.bytes = bytes) (hzs : z.cells.size = size) (hsz : 0 < size)
    (v : Value) (n : Nat) (xs : List Value) (hs : a.eval s = v) (hown : w.ownsRow base e size v n xs)
    (ad : Addr) (m c : Nat) (news : List Value) (hx : a.eval x = .slice (some ad) m c) (hl : news.length = m * size) (hnews : ∀ j u, news[j]? = some u → w.cell? (ad.add j) = some u) (h1 : ∀ u ∈ news, u.oneCell' = true)
    (h63 : n + m ≤ maxLen) (hbytes : (n + m) * bytes ≤ 140737488355328) (hbase : base ≤ w.heap.size)
    (h : ∀ v' w', w'.ownsRow base e size v' (n + m) (xs ++ news) → w.grownBy w' v.ownBlock → (v' = .slice none 0 0 ↔ v = .slice none 0 0 ∧ m = 0) → K (a.put o.dst v') w') :
    if Region.wanted o (yielded ops a.tmps) = true then Oper.wp P o a w K Q else E := by
  have hw : Region.wanted o (yielded ops a.tmps) = true := by simp [Region.wanted, hgd]
  rw [if_pos hw]
  exact wp_append_own w s x t ho base e i z size bytes ht hi hz hsize hby hzs hsz v n xs hs hown ad m c news hx hl hnews h1 h63 hbytes hbase h
theorem wrapS (n : Int) (h : -9223372036854775808 ≤ n ∧ n ≤ 9223372036854775807) : wrap64 n = n := by unfold wrap64; omega
theorem wrapK (k : Nat) (h : k ≤ 1000) : IntKind.i64.wrap ((k : Int) + 1) = (k : Int) + 1 := by
  rw [IntKind.wrap_i64]
  omega
theorem grown_drewS {w w' : World} {row : Option Nat} (h : w.drew.grownBy w' row) : w.grownBy w' row := ⟨h.1, h.2, h.3, h.4, h.5⟩
theorem own_shapeS {w : World} {B n : Nat} {t : TypeId} {v : Value} {xs : List Value} (h : w.ownsRow B t 1 v n xs) : ∃ a cap, v = .slice a n cap := by
  rcases h.2 with ⟨rfl, h0⟩ | ⟨g, cap, cur, rfl, _⟩
  · exact ⟨none, 0, by rw [h0]⟩
  · exact ⟨some ⟨g, 0, none⟩, cap, rfl⟩
/-- a list of texts of the call's own -/
structure Txt (w0 w : World) (B g m c : Nat) (L : List (List UInt8)) : Prop where
  len : L.length = m
  own : w.ownsRow B 9 1 (.slice (some ⟨g, 0, none⟩) m c) m (sv L)
  below : Below B w0 w
/-- a text is appended beside a list that is read -/
theorem txt_step {w0 wr w5 : World} {B g m c g5 c5 B3 H3 ga n3 c3 : Nat} {L : List (List UInt8)} {V : ByteArray} {xs : List Value} (hB : B = w0.heap.size) (T : Txt w0 wr B g m c L) (O : Own wr B3 H3 9 (.slice (some ⟨ga, 0, none⟩) n3 c3) xs) (hH : H3 ≤ wr.heap.size) (hne : ga ≠ g)
    (hv : w5.ownsRow B 9 1 (.slice (some ⟨g5, 0, none⟩) (m + 1) c5) (m + 1) (sv L ++ [.string V])) (hg : (wr.alloc (.cells #[.string V] 9)).grownBy w5 (Value.slice (some ⟨g, 0, none⟩) m c).ownBlock) (hw : (Value.slice (some ⟨g, 0, none⟩) m c).ownBlock = some g5 ∨ g5 = wr.heap.size + 1) :
    Txt w0 w5 B g5 (m + 1) c5 (L ++ [V.data.toList]) ∧ Own w5 B3 H3 9 (.slice (some ⟨ga, 0, none⟩) n3 c3) xs ∧ ga ≠ g5 ∧ wr.heap.size ≤ w5.heap.size := by
  have hs := T.below.size
  have hz : (wr.alloc (.cells #[.string V] 9)).heap.size = wr.heap.size + 1 := by simp
  have hsz := hg.size
  rw [hz] at hsz
  have hga := O.2 ga rfl
  refine ⟨⟨by rw [List.length_append, T.len]; rfl, ?_, ?_⟩, (O.alloc _).grown hg (.inr (by simp only [Value.ownBlock, ne_eq, Option.some.injEq]; exact hne)), ?_, by omega⟩
  · rw [str_list V, sv_snoc] at hv
    exact hv
  · exact (T.below.alloc (by omega) _).grown hg (by rw [hz]; omega) (fun q hq => (T.own.lt q hq.symm.symm).1)
  · rcases hw with e | e
    · simp only [Value.ownBlock, Option.some.injEq] at e
      omega
    · omega
theorem empty_not {s : ByteArray} {l : List UInt8} (h : s.data.toList = l) (hl : l ≠ []) : s.toList.isEmpty = false := by
  rw [ByteArray.toList_eq, h]
  cases l with
  | nil => exact absurd rfl hl
  | cons _ _ => rfl
theorem empty_yes {s : ByteArray} (h : s.data.toList = []) : s.toList.isEmpty = true := by rw [ByteArray.toList_eq, h]; rfl

end Go.Proofs.YthlboikljibohaaGreat

namespace Go.Proofs.YthlboikljibohaaGreat
open Go.RowKit

theorem take_while {out : List (List UInt8)} {x : List UInt8} : ∀ {k : Nat}, k ≤ out.length → (∀ (j : Nat) (hj : j < out.length), j < k → lessL out[j] x = true) → (∀ (hk : k < out.length), lessL out[k] x = false) →
    out.takeWhile (fun y => lessL y x) = out.take k ∧ out.dropWhile (fun y => lessL y x) = out.drop k := by
  induction out with
  | nil => intro k hk _ _; simp
  | cons z r ih =>
    intro k hk h1 h2
    cases k with
    | zero =>
      have hz : lessL z x = false := h2 (by simp)
      rw [List.takeWhile_cons, List.dropWhile_cons, hz]
      simp
    | succ k =>
      have hz : lessL z x = true := h1 0 (by simp) (by omega)
      obtain ⟨i1, i2⟩ := ih (k := k) (by simpa using hk) (fun j hj hjk => by
        have := h1 (j + 1) (by simp; omega) (by omega)
        simpa using this) (fun hk' => by
        have := h2 (by simp; omega)
        simpa using this)
      rw [List.takeWhile_cons, List.dropWhile_cons, hz]
      simp [i1, i2]
theorem insW_at {out : List (List UInt8)} {x : List UInt8} {k : Nat} (hx : x ∉ out) (hk : k ≤ out.length) (h1 : ∀ (j : Nat) (hj : j < out.length), j < k → lessL out[j] x = true) (h2 : ∀ (hk : k < out.length), lessL out[k] x = false) :
    insW out x = out.take k ++ [x] ++ out.drop k := by
  obtain ⟨e1, e2⟩ := take_while hk h1 h2
  rw [insW, if_neg hx, e1, e2]
theorem sv_take (L : List (List UInt8)) (k : Nat) : (sv L).take k = sv (L.take k) := by simp [sv, List.map_take]
theorem sv_drop (L : List (List UInt8)) (k : Nat) : (sv L).drop k = sv (L.drop k) := by simp [sv, List.map_drop]
theorem sort_snoc (L : List (List UInt8)) (k : Nat) (h : k < L.length) : sortW (L.take (k + 1)) = insW (sortW (L.take k)) L[k] := by
  rw [sortW, List.take_succ_eq_append_getElem h, List.foldl_append]; rfl
theorem sort_le (L : List (List UInt8)) : (sortW L).length ≤ L.length := by
  have key : ∀ (L out : List (List UInt8)), (L.foldl insW out).length ≤ out.length + L.length := by
    intro L
    induction L with
    | nil => intro out; simp
    | cons x r ih =>
      intro out
      have := ih (insW out x)
      have h2 : (insW out x).length ≤ out.length + 1 := by
        by_cases hx : x ∈ out
        · rw [insW, if_pos hx]; omega
        · rw [insW_length hx]; omega
      rw [List.foldl_cons, List.length_cons]; omega
  have := key L []
  simpa [sortW] using this

theorem capS {w : World} {B n g c : Nat} {t : TypeId} {xs : List Value} (h : w.ownsRow B t 1 (.slice (some ⟨g, 0, none⟩) n c) n xs) : n ≤ c ∧ c ≤ maxLen := by
  rcases h.2 with ⟨h0, _⟩ | ⟨g', cap, cur, hv, _, _, h3, h4, _⟩
  · cases h0
  · simp only [Value.slice.injEq] at hv
    omega
theorem Txt.drewN {w0 w : World} {B g m c : Nat} {L : List (List UInt8)} (h : Txt w0 w B g m c L) (n : Nat) : Txt w0 (w.drewN n) B g m c L :=
  ⟨h.len, own_of_blocks h.own (fun _ _ => rfl), h.below.trans ⟨rfl, rfl, rfl, Nat.le_refl _, fun _ _ => rfl⟩⟩
set_option maxHeartbeats 6400000 in
set_option maxRecDepth 100000 in
theorem sorted_any (L : List (List UInt8)) (v : Value) (w : World) {B0 H0 : Nat} (hv : Hid (Own w B0 H0 9 v (sv L))) (hH : H0 ≤ w.heap.size) (hl : L.length ≤ 1048576) :
    Calls Tryz.prog 26 #[v] w (Grew w.heap.size (sortW L) w) := by
  obtain ⟨i0, hi, hz0, hz1, hz2⟩ := info_parts Tryz.infoStr
  obtain ⟨av, cv, rfl, _, hcv, _, _⟩ := hv.out.slice
  rw [sv_length] at hv hcv ⊢
  go_enter Tryz.func26, Tryz.ntmps26
  go_wp2
  have hst := World.ownsRow_lit (base := w.heap.size) (e := 9) (size := 1) w #[] 0 (Nat.le_refl _) (by decide) rfl
  have H0 : Hid (Txt w (w.alloc (.cells #[] 9)) w.heap.size w.heap.size 0 0 []) := ⟨rfl, hst, (Below.refl _ _).alloc (Nat.le_refl _) _⟩
  obtain ⟨w1, hw1⟩ : ∃ w1, w1 = w.alloc (.cells #[] 9) := ⟨_, rfl⟩
  rw [← hw1] at H0 ⊢
  obtain ⟨B, hB⟩ : ∃ B, B = w.heap.size := ⟨_, rfl⟩
  have HB := Lib.hid hB
  rw [← hB] at H0 hH ⊢
  clear hw1 hB hst
  go_loopw [3, 4] (fun out i wr => ∃ (k g m c : Nat), k ≤ L.length ∧ m ≤ k ∧ out = .slice (some ⟨g, 0, none⟩) m c ∧ i = .int .i64 k ∧ Hid (Txt w wr B g m c (sortW (L.take k)))) (fun _ i _ => L.length - (intOf i).toNat)
  case atStart => exact ⟨0, B, 0, 0, Nat.zero_le _, Nat.le_refl _, rfl, rfl, H0⟩
  case round =>
    clear H0
    obtain ⟨k, g, m, c, hk, hm, rfl, rfl, T⟩ := hrel
    by_cases hlt : k < L.length
    · have b1 : (k : Int) < (L.length : Int) := by omega
      have hvr := hv.out.below (w' := wr) (T.out.below.mono hH)
      obtain ⟨ga, rfl, _, hgaH, hc, _⟩ := hvr.at_ k (by rw [sv_length]; exact hlt)
      rw [sv_get L k hlt] at hc
      obtain ⟨x, hx⟩ : ∃ x : ByteArray, x = ⟨(L[k]).toArray⟩ := ⟨_, rfl⟩
      have hxl : x.data.toList = L[k] := by rw [hx]
      rw [← hx] at hc
      have ST := sort_snoc L k hlt
      rw [← hxl] at ST
      obtain ⟨out, hout⟩ : ∃ out, out = sortW (L.take k) := ⟨_, rfl⟩
      rw [← hout] at T ST
      have OO : Hid (Own wr B wr.heap.size 9 (.slice (some ⟨g, 0, none⟩) m c) (sv out)) := Own.of_own (by rw [sv_length, T.out.len]; exact T.out.own)
      have HW := Lib.hid (hasWord_any out (.slice (some ⟨g, 0, none⟩) m c) x wr OO (by rw [T.out.len]; omega))
      have HC0 := Lib.hid ((T.out.below.cell (p := ⟨ga, k, none⟩) (by show ga < B; omega)).symm.trans hc)
      clear hvr hx hout
      by_cases hmem : x.data.toList ∈ out
      · rw [decide_eq_true hmem] at HW
        have ST2 : Hid (sortW (L.take (k + 1)) = out) := by show _ = _; rw [ST, insW, if_pos hmem]
        clear hmem ST OO hxl
        go_wp2_with fail
        refine HW.out.mono ?_
        rintro e w2 ⟨rfl, rfl⟩
        clear HW
        go_wp2
        go_roundw
        case rel => exact ⟨k + 1, g, m, c, by omega, by omega, rfl, by go_num, by rw [ST2.out]; simpa using T⟩
        case measure => simp [intOf]; omega
      · rw [decide_eq_false hmem] at HW
        have HM := Lib.hid hmem
        have ST := Lib.hid ST
        clear hmem hxl
        go_wp2_with fail
        refine HW.out.mono ?_
        rintro e w2 ⟨rfl, rfl⟩
        clear HW
        go_wp2
        go_loopw [5] (fun j wr => ∃ (q : Nat), q ≤ m ∧ j = .int .i64 q ∧ Hid (∀ (j : Nat) (hj : j < out.length), j < q → lessL out[j] x.data.toList = true) ∧ Hid (Txt w wr B g m c out)) (fun j _ => m - (intOf j).toNat)
        case atStart => exact ⟨0, Nat.zero_le _, rfl, fun j hj h => by omega, by simpa using T⟩
        case round =>
          obtain ⟨q, hq, rfl, HQ, T2⟩ := hrel
          clear T OO
          clear hc
          have hcx := (T2.out.below.cell (p := ⟨ga, k, none⟩) (by show ga < B; omega)).trans HC0.out
          have hol := T2.out.len
          by_cases hgo : ∃ h : q < out.length, lessL out[q] x.data.toList = true
          · obtain ⟨hqm, hless⟩ := hgo
            have b2 : (q : Int) < (m : Int) := by omega
            have hoc := T2.out.own.cellAt q (by omega)
            rw [sv_get out q hqm] at hoc
            obtain ⟨y, hy⟩ : ∃ y : ByteArray, y = ⟨(out[q]).toArray⟩ := ⟨_, rfl⟩
            have hyl : y.data.toList = out[q] := by rw [hy]
            rw [← hy] at hoc
            have m1 : Op.bytesLess y.toList x.toList = true := by rw [less_eq, ByteArray.toList_eq, ByteArray.toList_eq, hyl]; exact hless
            have HQ2 : Hid (∀ (j : Nat) (hj : j < out.length), j < q + 1 → lessL out[j] x.data.toList = true) := fun j hj h => by
              by_cases e : j = q
              · subst e; exact hless
              · exact HQ.out j hj (by omega)
            clear hless hyl hy HQ
            go_wp2
            go_quiet (fail)
            go_wp2
            go_roundw
            case rel => exact ⟨q + 1, by omega, by go_num, HQ2, Lib.hid (T2.out.drewN _)⟩
            case measure => simp [intOf]; omega
          · have EI := Lib.hid (insW_at HM.out (show q ≤ out.length by omega) HQ.out (fun h => by
              cases hh : lessL out[q] x.data.toList with
              | false => rfl
              | true => exact absurd ⟨h, hh⟩ hgo))
            rw [← ST.out] at EI
            have HG := Lib.hid hgo
            clear hgo HQ
            rcases Nat.lt_or_ge q m with hqm | hqm
            case' inl =>
              have b2 : (q : Int) < (m : Int) := by omega
              have hoc := T2.out.own.cellAt q (by omega)
              rw [sv_get out q (by omega)] at hoc
              obtain ⟨y, hy⟩ : ∃ y : ByteArray, y = ⟨(out[q]'(by omega)).toArray⟩ := ⟨_, rfl⟩
              have hyl : y.data.toList = out[q]'(by omega) := by rw [hy]
              rw [← hy] at hoc
              have m1 : Op.bytesLess y.toList x.toList = false := by
                rw [less_eq, ByteArray.toList_eq, ByteArray.toList_eq, hyl]
                cases hh : lessL (out[q]'(by omega)) x.data.toList with
                | false => rfl
                | true => exact absurd ⟨by omega, hh⟩ HG.out
              clear hyl hy
              go_wp2
              go_quiet (fail)
              go_wp2_with fail
            case' inr =>
              have b2 : (m : Int) ≤ (q : Int) := by omega
              have d0 : decide (q < m) = false := decide_eq_false (by omega)
              go_wp2
              go_quiet (fail)
              go_wp2_with fail
            all_goals
              obtain ⟨w3, hw3⟩ : ∃ w3, w3 = wr.drewN nq := ⟨_, rfl⟩
              have T3 := Lib.hid (T2.out.drewN nq)
              have hc3 : (wr.drewN nq).cell? ⟨ga, k, none⟩ = some (.string x) := hcx
              rw [← hw3] at T3 hc3 ⊢
              have hmc := capS T3.out.own
              obtain ⟨d, rfl⟩ : ∃ d, m = q + d := ⟨m - q, by omega⟩
              obtain ⟨ce, rfl⟩ : ∃ ce, c = q + ce := ⟨c - q, by omega⟩
              have hde : d ≤ ce := by omega
              have i1 : (q : Int) ≤ (q : Int) + (ce : Int) := by omega
              have i2 : (0 : Int) ≤ (q : Int) := by omega
              have i3 : (q : Int) ≤ (q : Int) + (d : Int) := by omega
              have hlit := World.ownsRow_lit (base := w3.heap.size) (e := 9) (size := 1) w3 #[] 0 (Nat.le_refl _) (by decide) rfl
              have HLIT := Lib.hid hlit
              have CN1 : Hid (∀ (j : Nat) (u : Value), (sv (out.take q))[j]? = some u → (w3.alloc (.cells #[] 9)).cell? ((⟨g, 0, none⟩ : Addr).add j) = some u) := fun j u hu => by
                rw [← sv_take] at hu
                have hj : j < q := by
                  have := (List.getElem?_eq_some_iff.1 hu).1
                  rw [List.length_take] at this; omega
                rw [List.getElem?_take_of_lt hj] at hu
                exact (T3.out.own.alloc _).cells (g := g) rfl j u hu
              have hga3 : ga < w3.heap.size := by have := T3.out.below.size; have := HB.out; omega
              have hg3 : g < w3.heap.size := (T3.out.own.lt g rfl).2
              have y1 : 0 + q ≤ maxLen := by unfold maxLen; omega
              have y2 : (0 + q) * 16 ≤ 140737488355328 := by omega
              have y3 : q + 1 ≤ maxLen := by unfold maxLen; omega
              have y4 : (q + 1) * 16 ≤ 140737488355328 := by omega
              have y5 : q + 1 + d ≤ maxLen := by unfold maxLen; omega
              have y6 : (q + 1 + d) * 16 ≤ 140737488355328 := by omega
              have BS := Lib.hid (show w3.heap.size ≤ (w3.alloc (.cells #[] 9)).heap.size by simp)
              have BS2 := Lib.hid (show w3.heap.size ≤ ((w3.alloc (.cells #[] 9)).alloc (.cells #[.string x] 9)).heap.size by simp; omega)
              have CN2 : Hid (∀ (j : Nat) (u : Value), (sv (out.take q))[j]? = some u → ((w3.alloc (.cells #[] 9)).alloc (.cells #[.string x] 9)).cell? ((⟨g, 0, none⟩ : Addr).add j) = some u) := fun j u hu => by
                have h1 := CN1.out j u hu
                exact (World.cell?_of_block (w := w3.alloc (.cells #[] 9)) (Below.heap_alloc _ _ _ (World.block_lt_of_cell? _ _ h1))).trans h1
              have XB : Hid (((w3.alloc (.cells #[] 9)).alloc (.cells #[.string x] 9)).heap[w3.heap.size + 1]? = some (.cells #[.string x] 9 (0, 0))) := by
                have := heap_alloc_new (w3.alloc (.cells #[] 9)) (.cells #[.string x] 9)
                rw [World.size_alloc] at this
                exact this
              obtain ⟨wx, hwx⟩ : ∃ wx, wx = w3.alloc (.cells #[.string x] 9) := ⟨_, rfl⟩
              have wxs : wx.heap.size = w3.heap.size + 1 := by rw [hwx]; simp
              have LITX : Hid ((wx.alloc (.cells #[] 9)).ownsRow w3.heap.size 9 1 (.slice (some ⟨w3.heap.size + 1, 0, none⟩) 0 0) 0 []) := by
                have h1 := World.ownsRow_lit (base := w3.heap.size) (e := 9) (size := 1) wx #[] 0 (by omega) (by decide) rfl
                rw [wxs] at h1
                exact h1
              have BX : Hid (Below w3.heap.size w3 (wx.alloc (.cells #[] 9))) := by
                have h1 := (Below.refl w3.heap.size w3).alloc (Nat.le_refl _) (.cells #[.string x] 9)
                rw [← hwx] at h1
                exact h1.alloc (by omega) _
              have BSX := Lib.hid (show w3.heap.size ≤ (wx.alloc (.cells #[] 9)).heap.size by simp; omega)
              have CN3 : Hid (∀ (j : Nat) (u : Value), (sv (out.take q))[j]? = some u → (wx.alloc (.cells #[] 9)).cell? ((⟨g, 0, none⟩ : Addr).add j) = some u) := fun j u hu => by
                rw [← sv_take] at hu
                have hj : j < q := by
                  have := (List.getElem?_eq_some_iff.1 hu).1
                  rw [List.length_take] at this; omega
                rw [List.getElem?_take_of_lt hj] at hu
                rw [hwx]
                exact ((T3.out.own.alloc _).alloc _).cells (g := g) rfl j u hu
              have XB2 : Hid ((wx.alloc (.cells #[] 9)).heap[w3.heap.size]? = some (.cells #[.string x] 9 (0, 0))) := by
                rw [heap_alloc_old _ _ (show w3.heap.size < wx.heap.size by omega), hwx]
                exact heap_alloc_new w3 _
              rw [hwx] at LITX BX BSX CN3 XB2
              clear hwx wxs wx
              have ln1 : (sv (out.take q)).length = q * 1 := by rw [sv_length, List.length_take, T3.out.len]; omega
              have ln3 : (sv (out.drop q)).length = d * 1 := by rw [sv_length, List.length_drop, T3.out.len]; omega
              have LN1 := Lib.hid ln1
              have LN3 := Lib.hid ln3
              try clear m1 hoc
              try clear d0
              clear hw3 hlit hcx T2 ln1 ln3 b2 hqm
              rcases ce with _ | ce
              · obtain rfl : d = 0 := by omega
                simp only [Nat.add_zero] at *
                go_region_law (first
                  | (refine step_app ?gd (.tmp 36) (.tmp 39) 24 ?ho w3.heap.size 9 i0 (.string ⟨#[]⟩) 1 16 Tryz.underlying24 hi hz0 hz1 hz2 rfl (Nat.lt_succ_self 0) (.slice (some ⟨w3.heap.size, 0, none⟩) 0 0) 0 [] ?hs ?own ⟨g, 0, none⟩ q q (sv (out.take q)) ?hx LN1.out ?news (sv_one _) y1 y2 ?base ?_
                     case gd => rfl
                     case ho => rfl
                     case hs => rfl
                     case hx => rfl
                     case own => exact own_of_blocks HLIT.out (fun _ _ => rfl)
                     case news => exact CN1.out
                     case base => exact BS.out
                     intro v4 w4 hv4 hg4 hn4
                     obtain ⟨g4, c4, rfl⟩ := own_some3 hv4 (fun e => by cases (hn4.1 e).1)
                     have hb4 : Below w3.heap.size w3 w4 := ((Below.refl _ _).alloc (Nat.le_refl _) _).grown (grown_drewS hg4) BS.out (fun z hz => by simp only [Value.ownBlock, Option.some.injEq] at hz; omega)
                     have hc4 := (hb4.cell (p := ⟨ga, k, none⟩) hga3).trans hc3
                     simp only [Nat.zero_add, List.nil_append] at hv4
                     have H4 := Lib.hid hv4
                     have HB4 := Lib.hid hb4
                     have BS4 := Lib.hid (show ∀ o : Obj, w3.heap.size ≤ (w4.alloc o).heap.size by intro o; have := HB4.out.size; simp; omega)
                     clear hv4 hg4 hn4 hb4)
                  | (refine step_app ?gd2 (.tmp 40) (.tmp 45) 24 ?ho2 w3.heap.size 9 i0 (.string ⟨#[]⟩) 1 16 Tryz.underlying24 hi hz0 hz1 hz2 rfl (Nat.lt_succ_self 0) (.slice (some ⟨g4, 0, none⟩) q c4) q (sv (out.take q)) ?hs2 ?own2 ⟨w4.heap.size, 0, none⟩ 1 1 [.string x] ?hx2 rfl ?news2 (one_str _) y3 y4 ?base2 ?_
                     case gd2 => rfl
                     case ho2 => rfl
                     case hs2 => rfl
                     case hx2 => rfl
                     case own2 => exact H4.out.alloc _
                     case news2 => exact cell_one_new _ _ _
                     case base2 => exact BS4.out _
                     intro v5 w5 hv5 hg5 hn5
                     obtain ⟨g5, c5, rfl⟩ := own_some3 hv5 (fun e => by cases (hn5.1 e).1)
                     have hb5 : Below w3.heap.size w3 w5 := (HB4.out.alloc HB4.out.size _).grown hg5 (BS4.out _) (fun z hz => (H4.out.lt z hz).1)
                     have H5 := Lib.hid hv5
                     have HB5 := Lib.hid hb5
                     have CN5 : Hid (∀ (j : Nat) (u : Value), (sv (out.drop q))[j]? = some u → w5.cell? ((⟨g, 0, none⟩ : Addr).add j) = some u) := fun j u hu => by
                       have := (List.getElem?_eq_some_iff.1 hu).1
                       have h2 := LN3.out
                       omega
                     clear hv5 hg5 hn5 hb5)
                  | (refine step_app ?gd4 (.tmp 36) (.tmp 39) 24 ?ho4 w3.heap.size 9 i0 (.string ⟨#[]⟩) 1 16 Tryz.underlying24 hi hz0 hz1 hz2 rfl (Nat.lt_succ_self 0) (.slice (some ⟨w3.heap.size, 0, none⟩) 0 0) 0 [] ?hs4 ?own4 ⟨g, 0, none⟩ q q (sv (out.take q)) ?hx4 LN1.out ?news4 (sv_one _) y1 y2 ?base4 ?_
                     case gd4 => rfl
                     case ho4 => rfl
                     case hs4 => rfl
                     case hx4 => rfl
                     case own4 => exact own_of_blocks (HLIT.out.alloc _) (fun _ _ => rfl)
                     case news4 => exact CN2.out
                     case base4 => exact BS2.out
                     intro v4 w4 hv4 hg4 hn4
                     obtain ⟨g4, c4, rfl⟩ := own_some3 hv4 (fun e => by cases (hn4.1 e).1)
                     have hb4 : Below w3.heap.size w3 w4 := (((Below.refl _ _).alloc (Nat.le_refl _) _).alloc BS.out _).grown (grown_drewS hg4) BS2.out (fun z hz => by simp only [Value.ownBlock, Option.some.injEq] at hz; omega)
                     have hc4 := (hb4.cell (p := ⟨ga, k, none⟩) hga3).trans hc3
                     have CNX : Hid (∀ (j : Nat) (u : Value), [Value.string x][j]? = some u → w4.cell? ((⟨w3.heap.size + 1, 0, none⟩ : Addr).add j) = some u) := by
                       have hbk := (grown_drewS hg4).block (w3.heap.size + 1) (by simp) (by simp [Value.ownBlock])
                       exact World.news_of_block (cs := #[.string x]) (t := 9) (fr := (0, 0)) (hbk.trans XB.out)
                     simp only [Nat.zero_add, List.nil_append] at hv4
                     have H4 := Lib.hid hv4
                     have HB4 := Lib.hid hb4
                     clear hv4 hg4 hn4 hb4)
                  | (refine step_app ?gd5 (.tmp 40) (.tmp 45) 24 ?ho5 w3.heap.size 9 i0 (.string ⟨#[]⟩) 1 16 Tryz.underlying24 hi hz0 hz1 hz2 rfl (Nat.lt_succ_self 0) (.slice (some ⟨g4, 0, none⟩) q c4) q (sv (out.take q)) ?hs5 ?own5 ⟨w3.heap.size + 1, 0, none⟩ 1 1 [.string x] ?hx5 rfl ?news5 (one_str _) y3 y4 ?base5 ?_
                     case gd5 => rfl
                     case ho5 => rfl
                     case hs5 => rfl
                     case hx5 => rfl
                     case own5 => exact H4.out
                     case news5 => exact CNX.out
                     case base5 => exact HB4.out.size
                     intro v5 w5 hv5 hg5 hn5
                     obtain ⟨g5, c5, rfl⟩ := own_some3 hv5 (fun e => by cases (hn5.1 e).1)
                     have hb5 : Below w3.heap.size w3 w5 := HB4.out.grown hg5 HB4.out.size (fun z hz => (H4.out.lt z hz).1)
                     have H5 := Lib.hid hv5
                     have HB5 := Lib.hid hb5
                     have CN5 : Hid (∀ (j : Nat) (u : Value), (sv (out.drop q))[j]? = some u → w5.cell? ((⟨g, 0, none⟩ : Addr).add j) = some u) := fun j u hu => by
                       have := (List.getElem?_eq_some_iff.1 hu).1
                       have h2 := LN3.out
                       omega
                     clear hv5 hg5 hn5 hb5)
                  | (refine step_app ?gd6 (.tmp 36) (.tmp 39) 24 ?ho6 w3.heap.size 9 i0 (.string ⟨#[]⟩) 1 16 Tryz.underlying24 hi hz0 hz1 hz2 rfl (Nat.lt_succ_self 0) (.slice (some ⟨w3.heap.size + 1, 0, none⟩) 0 0) 0 [] ?hs6 ?own6 ⟨g, 0, none⟩ q q (sv (out.take q)) ?hx6 LN1.out ?news6 (sv_one _) y1 y2 ?base6 ?_
                     case gd6 => rfl
                     case ho6 => rfl
                     case hs6 => rfl
                     case hx6 => rfl
                     case own6 => exact own_of_blocks LITX.out (fun _ _ => rfl)
                     case news6 => exact CN3.out
                     case base6 => exact BSX.out
                     intro v4 w4 hv4 hg4 hn4
                     obtain ⟨g4, c4, rfl⟩ := own_some3 hv4 (fun e => by cases (hn4.1 e).1)
                     have hb4 : Below w3.heap.size w3 w4 := BX.out.grown (grown_drewS hg4) BSX.out (fun z hz => by simp only [Value.ownBlock, Option.some.injEq] at hz; omega)
                     have hc4 := (hb4.cell (p := ⟨ga, k, none⟩) hga3).trans hc3
                     have CNX : Hid (∀ (j : Nat) (u : Value), [Value.string x][j]? = some u → w4.cell? ((⟨w3.heap.size, 0, none⟩ : Addr).add j) = some u) := by
                       have hbk := (grown_drewS hg4).block w3.heap.size (by simp; omega) (by simp [Value.ownBlock])
                       exact World.news_of_block (cs := #[.string x]) (t := 9) (fr := (0, 0)) (hbk.trans XB2.out)
                     simp only [Nat.zero_add, List.nil_append] at hv4
                     have H4 := Lib.hid hv4
                     have HB4 := Lib.hid hb4
                     clear hv4 hg4 hn4 hb4)
                  | (refine step_app ?gd7 (.tmp 40) (.tmp 45) 24 ?ho7 w3.heap.size 9 i0 (.string ⟨#[]⟩) 1 16 Tryz.underlying24 hi hz0 hz1 hz2 rfl (Nat.lt_succ_self 0) (.slice (some ⟨g4, 0, none⟩) q c4) q (sv (out.take q)) ?hs7 ?own7 ⟨w3.heap.size, 0, none⟩ 1 1 [.string x] ?hx7 rfl ?news7 (one_str _) y3 y4 ?base7 ?_
                     case gd7 => rfl
                     case ho7 => rfl
                     case hs7 => rfl
                     case hx7 => rfl
                     case own7 => exact H4.out
                     case news7 => exact CNX.out
                     case base7 => exact HB4.out.size
                     intro v5 w5 hv5 hg5 hn5
                     obtain ⟨g5, c5, rfl⟩ := own_some3 hv5 (fun e => by cases (hn5.1 e).1)
                     have hb5 : Below w3.heap.size w3 w5 := HB4.out.grown hg5 HB4.out.size (fun z hz => (H4.out.lt z hz).1)
                     have H5 := Lib.hid hv5
                     have HB5 := Lib.hid hb5
                     have CN5 : Hid (∀ (j : Nat) (u : Value), (sv (out.drop q))[j]? = some u → w5.cell? ((⟨g, 0, none⟩ : Addr).add j) = some u) := fun j u hu => by
                       have := (List.getElem?_eq_some_iff.1 hu).1
                       have h2 := LN3.out
                       omega
                     clear hv5 hg5 hn5 hb5)
                  | (refine step_app ?gd3 (.tmp 46) (.tmp 49) 24 ?ho3 w3.heap.size 9 i0 (.string ⟨#[]⟩) 1 16 Tryz.underlying24 hi hz0 hz1 hz2 rfl (Nat.lt_succ_self 0) (.slice (some ⟨g5, 0, none⟩) (q + 1) c5) (q + 1) (sv (out.take q) ++ [.string x]) ?hs3 ?own3 ⟨g, 0, none⟩ 0 0 (sv (out.drop q)) ?hx3 LN3.out ?news3 (sv_one _) y5 y6 ?base3 ?_
                     case gd3 => rfl
                     case ho3 => rfl
                     case hs3 => rfl
                     case hx3 => rfl
                     case own3 => exact H5.out
                     case news3 => exact CN5.out
                     case base3 => exact HB5.out.size
                     intro v6 w6 hv6 hg6 hn6
                     obtain ⟨g6, c6, rfl⟩ := own_some3 hv6 (fun e => by cases (hn6.1 e).1))
                  | fail)
                all_goals
                  have T6 : Hid (Txt w w6 B g6 (q + 1 + 0) c6 (sortW (L.take (k + 1)))) := by
                    refine ⟨?_, ?_, T3.out.below.trans ((HB5.out.grown hg6 HB5.out.size (fun z hz => (H5.out.lt z hz).1)).mono (by rw [HB.out]; exact T3.out.below.size))⟩
                    · have h1 := LN1.out
                      have h3 := LN3.out
                      rw [sv_length] at h1 h3
                      rw [EI.out, List.length_append, List.length_append, h1, h3]
                      simp
                    · rw [EI.out]
                      have e9 : sv (out.take q) ++ [Value.string x] ++ sv (out.drop q) = sv (out.take q ++ [x.data.toList] ++ out.drop q) := by
                        rw [str_list x, sv_snoc, sv_append]
                      rw [← e9]
                      have h6 := hv6
                      have hB6 : B ≤ w3.heap.size := by rw [HB.out]; exact T3.out.below.size
                      exact ⟨h6.1, h6.2.imp id (fun ⟨z1, z2, z3, y1, y2, y3⟩ => ⟨z1, z2, z3, y1, Nat.le_trans hB6 y2, y3⟩)⟩
                  clear hv6 hg6 hn6 H5 HB5 CN5 H4 HB4 HLIT CN1 CN2 CN3 LITX BX BSX XB2 XB BS BS2 LN1 LN3 T3 EI
                  go_wp2
                  go_roundw
                  case rel => exact ⟨k + 1, g6, q + 1 + 0, c6, by omega, by omega, rfl, by go_num, T6⟩
                  case measure => simp [intOf]; omega
              · have i4 : (q : Int) ≤ (q : Int) + ((ce : Int) + 1) := by omega
                go_region_law (first
                  | (refine step_app ?gd (.tmp 36) (.tmp 39) 24 ?ho w3.heap.size 9 i0 (.string ⟨#[]⟩) 1 16 Tryz.underlying24 hi hz0 hz1 hz2 rfl (Nat.lt_succ_self 0) (.slice (some ⟨w3.heap.size, 0, none⟩) 0 0) 0 [] ?hs ?own ⟨g, 0, none⟩ q (q + (ce + 1)) (sv (out.take q)) ?hx LN1.out ?news (sv_one _) y1 y2 ?base ?_
                     case gd => rfl
                     case ho => rfl
                     case hs => rfl
                     case hx => rfl
                     case own => exact own_of_blocks HLIT.out (fun _ _ => rfl)
                     case news => exact CN1.out
                     case base => exact BS.out
                     intro v4 w4 hv4 hg4 hn4
                     obtain ⟨g4, c4, rfl⟩ := own_some3 hv4 (fun e => by cases (hn4.1 e).1)
                     have hb4 : Below w3.heap.size w3 w4 := ((Below.refl _ _).alloc (Nat.le_refl _) _).grown (grown_drewS hg4) BS.out (fun z hz => by simp only [Value.ownBlock, Option.some.injEq] at hz; omega)
                     have hc4 := (hb4.cell (p := ⟨ga, k, none⟩) hga3).trans hc3
                     simp only [Nat.zero_add, List.nil_append] at hv4
                     have H4 := Lib.hid hv4
                     have HB4 := Lib.hid hb4
                     have BS4 := Lib.hid (show ∀ o : Obj, w3.heap.size ≤ (w4.alloc o).heap.size by intro o; have := HB4.out.size; simp; omega)
                     clear hv4 hg4 hn4 hb4)
                  | (refine step_app ?gd2 (.tmp 40) (.tmp 45) 24 ?ho2 w3.heap.size 9 i0 (.string ⟨#[]⟩) 1 16 Tryz.underlying24 hi hz0 hz1 hz2 rfl (Nat.lt_succ_self 0) (.slice (some ⟨g4, 0, none⟩) q c4) q (sv (out.take q)) ?hs2 ?own2 ⟨w4.heap.size, 0, none⟩ 1 1 [.string x] ?hx2 rfl ?news2 (one_str _) y3 y4 ?base2 ?_
                     case gd2 => rfl
                     case ho2 => rfl
                     case hs2 => rfl
                     case hx2 => rfl
                     case own2 => exact H4.out.alloc _
                     case news2 => exact cell_one_new _ _ _
                     case base2 => exact BS4.out _
                     intro v5 w5 hv5 hg5 hn5
                     obtain ⟨g5, c5, rfl⟩ := own_some3 hv5 (fun e => by cases (hn5.1 e).1)
                     have hb5 : Below w3.heap.size w3 w5 := (HB4.out.alloc HB4.out.size _).grown hg5 (BS4.out _) (fun z hz => (H4.out.lt z hz).1)
                     have H5 := Lib.hid hv5
                     have HB5 := Lib.hid hb5
                     have CN5 : Hid (∀ (j : Nat) (u : Value), (sv (out.drop q))[j]? = some u → w5.cell? ((⟨g, q, none⟩ : Addr).add j) = some u) := fun j u hu => by
                       rw [← sv_drop, List.getElem?_drop] at hu
                       have h1 := T3.out.own.cells (g := g) rfl (q + j) u hu
                       rw [Addr.add_lit] at h1 ⊢
                       rw [Nat.zero_add] at h1
                       exact (HB5.out.cell (p := ⟨g, q + j, none⟩) hg3).trans h1
                     clear hv5 hg5 hn5 hb5)
                  | (refine step_app ?gd4 (.tmp 36) (.tmp 39) 24 ?ho4 w3.heap.size 9 i0 (.string ⟨#[]⟩) 1 16 Tryz.underlying24 hi hz0 hz1 hz2 rfl (Nat.lt_succ_self 0) (.slice (some ⟨w3.heap.size, 0, none⟩) 0 0) 0 [] ?hs4 ?own4 ⟨g, 0, none⟩ q (q + (ce + 1)) (sv (out.take q)) ?hx4 LN1.out ?news4 (sv_one _) y1 y2 ?base4 ?_
                     case gd4 => rfl
                     case ho4 => rfl
                     case hs4 => rfl
                     case hx4 => rfl
                     case own4 => exact own_of_blocks (HLIT.out.alloc _) (fun _ _ => rfl)
                     case news4 => exact CN2.out
                     case base4 => exact BS2.out
                     intro v4 w4 hv4 hg4 hn4
                     obtain ⟨g4, c4, rfl⟩ := own_some3 hv4 (fun e => by cases (hn4.1 e).1)
                     have hb4 : Below w3.heap.size w3 w4 := (((Below.refl _ _).alloc (Nat.le_refl _) _).alloc BS.out _).grown (grown_drewS hg4) BS2.out (fun z hz => by simp only [Value.ownBlock, Option.some.injEq] at hz; omega)
                     have hc4 := (hb4.cell (p := ⟨ga, k, none⟩) hga3).trans hc3
                     have CNX : Hid (∀ (j : Nat) (u : Value), [Value.string x][j]? = some u → w4.cell? ((⟨w3.heap.size + 1, 0, none⟩ : Addr).add j) = some u) := by
                       have hbk := (grown_drewS hg4).block (w3.heap.size + 1) (by simp) (by simp [Value.ownBlock])
                       exact World.news_of_block (cs := #[.string x]) (t := 9) (fr := (0, 0)) (hbk.trans XB.out)
                     simp only [Nat.zero_add, List.nil_append] at hv4
                     have H4 := Lib.hid hv4
                     have HB4 := Lib.hid hb4
                     clear hv4 hg4 hn4 hb4)
                  | (refine step_app ?gd5 (.tmp 40) (.tmp 45) 24 ?ho5 w3.heap.size 9 i0 (.string ⟨#[]⟩) 1 16 Tryz.underlying24 hi hz0 hz1 hz2 rfl (Nat.lt_succ_self 0) (.slice (some ⟨g4, 0, none⟩) q c4) q (sv (out.take q)) ?hs5 ?own5 ⟨w3.heap.size + 1, 0, none⟩ 1 1 [.string x] ?hx5 rfl ?news5 (one_str _) y3 y4 ?base5 ?_
                     case gd5 => rfl
                     case ho5 => rfl
                     case hs5 => rfl
                     case hx5 => rfl
                     case own5 => exact H4.out
                     case news5 => exact CNX.out
                     case base5 => exact HB4.out.size
                     intro v5 w5 hv5 hg5 hn5
                     obtain ⟨g5, c5, rfl⟩ := own_some3 hv5 (fun e => by cases (hn5.1 e).1)
                     have hb5 : Below w3.heap.size w3 w5 := HB4.out.grown hg5 HB4.out.size (fun z hz => (H4.out.lt z hz).1)
                     have H5 := Lib.hid hv5
                     have HB5 := Lib.hid hb5
                     have CN5 : Hid (∀ (j : Nat) (u : Value), (sv (out.drop q))[j]? = some u → w5.cell? ((⟨g, q, none⟩ : Addr).add j) = some u) := fun j u hu => by
                       rw [← sv_drop, List.getElem?_drop] at hu
                       have h1 := T3.out.own.cells (g := g) rfl (q + j) u hu
                       rw [Addr.add_lit] at h1 ⊢
                       rw [Nat.zero_add] at h1
                       exact (HB5.out.cell (p := ⟨g, q + j, none⟩) hg3).trans h1
                     clear hv5 hg5 hn5 hb5)
                  | (refine step_app ?gd6 (.tmp 36) (.tmp 39) 24 ?ho6 w3.heap.size 9 i0 (.string ⟨#[]⟩) 1 16 Tryz.underlying24 hi hz0 hz1 hz2 rfl (Nat.lt_succ_self 0) (.slice (some ⟨w3.heap.size + 1, 0, none⟩) 0 0) 0 [] ?hs6 ?own6 ⟨g, 0, none⟩ q (q + (ce + 1)) (sv (out.take q)) ?hx6 LN1.out ?news6 (sv_one _) y1 y2 ?base6 ?_
                     case gd6 => rfl
                     case ho6 => rfl
                     case hs6 => rfl
                     case hx6 => rfl
                     case own6 => exact own_of_blocks LITX.out (fun _ _ => rfl)
                     case news6 => exact CN3.out
                     case base6 => exact BSX.out
                     intro v4 w4 hv4 hg4 hn4
                     obtain ⟨g4, c4, rfl⟩ := own_some3 hv4 (fun e => by cases (hn4.1 e).1)
                     have hb4 : Below w3.heap.size w3 w4 := BX.out.grown (grown_drewS hg4) BSX.out (fun z hz => by simp only [Value.ownBlock, Option.some.injEq] at hz; omega)
                     have hc4 := (hb4.cell (p := ⟨ga, k, none⟩) hga3).trans hc3
                     have CNX : Hid (∀ (j : Nat) (u : Value), [Value.string x][j]? = some u → w4.cell? ((⟨w3.heap.size, 0, none⟩ : Addr).add j) = some u) := by
                       have hbk := (grown_drewS hg4).block w3.heap.size (by simp; omega) (by simp [Value.ownBlock])
                       exact World.news_of_block (cs := #[.string x]) (t := 9) (fr := (0, 0)) (hbk.trans XB2.out)
                     simp only [Nat.zero_add, List.nil_append] at hv4
                     have H4 := Lib.hid hv4
                     have HB4 := Lib.hid hb4
                     clear hv4 hg4 hn4 hb4)
                  | (refine step_app ?gd7 (.tmp 40) (.tmp 45) 24 ?ho7 w3.heap.size 9 i0 (.string ⟨#[]⟩) 1 16 Tryz.underlying24 hi hz0 hz1 hz2 rfl (Nat.lt_succ_self 0) (.slice (some ⟨g4, 0, none⟩) q c4) q (sv (out.take q)) ?hs7 ?own7 ⟨w3.heap.size, 0, none⟩ 1 1 [.string x] ?hx7 rfl ?news7 (one_str _) y3 y4 ?base7 ?_
                     case gd7 => rfl
                     case ho7 => rfl
                     case hs7 => rfl
                     case hx7 => rfl
                     case own7 => exact H4.out
                     case news7 => exact CNX.out
                     case base7 => exact HB4.out.size
                     intro v5 w5 hv5 hg5 hn5
                     obtain ⟨g5, c5, rfl⟩ := own_some3 hv5 (fun e => by cases (hn5.1 e).1)
                     have hb5 : Below w3.heap.size w3 w5 := HB4.out.grown hg5 HB4.out.size (fun z hz => (H4.out.lt z hz).1)
                     have H5 := Lib.hid hv5
                     have HB5 := Lib.hid hb5
                     have CN5 : Hid (∀ (j : Nat) (u : Value), (sv (out.drop q))[j]? = some u → w5.cell? ((⟨g, q, none⟩ : Addr).add j) = some u) := fun j u hu => by
                       rw [← sv_drop, List.getElem?_drop] at hu
                       have h1 := T3.out.own.cells (g := g) rfl (q + j) u hu
                       rw [Addr.add_lit] at h1 ⊢
                       rw [Nat.zero_add] at h1
                       exact (HB5.out.cell (p := ⟨g, q + j, none⟩) hg3).trans h1
                     clear hv5 hg5 hn5 hb5)
                  | (refine step_app ?gd3 (.tmp 46) (.tmp 49) 24 ?ho3 w3.heap.size 9 i0 (.string ⟨#[]⟩) 1 16 Tryz.underlying24 hi hz0 hz1 hz2 rfl (Nat.lt_succ_self 0) (.slice (some ⟨g5, 0, none⟩) (q + 1) c5) (q + 1) (sv (out.take q) ++ [.string x]) ?hs3 ?own3 ⟨g, q, none⟩ d (ce + 1) (sv (out.drop q)) ?hx3 LN3.out ?news3 (sv_one _) y5 y6 ?base3 ?_
                     case gd3 => rfl
                     case ho3 => rfl
                     case hs3 => rfl
                     case hx3 => rfl
                     case own3 => exact H5.out
                     case news3 => exact CN5.out
                     case base3 => exact HB5.out.size
                     intro v6 w6 hv6 hg6 hn6
                     obtain ⟨g6, c6, rfl⟩ := own_some3 hv6 (fun e => by cases (hn6.1 e).1))
                  | fail)
                all_goals
                  have T6 : Hid (Txt w w6 B g6 (q + 1 + d) c6 (sortW (L.take (k + 1)))) := by
                    refine ⟨?_, ?_, T3.out.below.trans ((HB5.out.grown hg6 HB5.out.size (fun z hz => (H5.out.lt z hz).1)).mono (by rw [HB.out]; exact T3.out.below.size))⟩
                    · have h1 := LN1.out
                      have h3 := LN3.out
                      rw [sv_length] at h1 h3
                      rw [EI.out, List.length_append, List.length_append, h1, h3]
                      simp
                    · rw [EI.out]
                      have e9 : sv (out.take q) ++ [Value.string x] ++ sv (out.drop q) = sv (out.take q ++ [x.data.toList] ++ out.drop q) := by
                        rw [str_list x, sv_snoc, sv_append]
                      rw [← e9]
                      have h6 := hv6
                      have hB6 : B ≤ w3.heap.size := by rw [HB.out]; exact T3.out.below.size
                      exact ⟨h6.1, h6.2.imp id (fun ⟨z1, z2, z3, y1, y2, y3⟩ => ⟨z1, z2, z3, y1, Nat.le_trans hB6 y2, y3⟩)⟩
                  clear hv6 hg6 hn6 H5 HB5 CN5 H4 HB4 HLIT CN1 CN2 CN3 LITX BX BSX XB2 XB BS BS2 LN1 LN3 T3 EI
                  go_wp2
                  go_roundw
                  case rel => exact ⟨k + 1, g6, q + 1 + d, c6, by omega, by omega, rfl, by go_num, T6⟩
                  case measure => simp [intOf]; omega
    · obtain rfl : k = L.length := by omega
      rw [List.take_of_length_le (Nat.le_refl _)] at T
      go_wp2
      go_ret
      rw [← HB.out]
      exact ⟨_, rfl, by rw [T.out.len]; exact T.out.own, T.out.below⟩
end Go.Proofs.YthlboikljibohaaGreat
